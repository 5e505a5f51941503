/-
  6 texts of this proof, one behind the other: StSort, StActs, StPairs, StRange, StAll, StKeys.
-/
import Derived.Shelf.SlSortCmp.NoneTotal
import Derived.Lib.Bytealg
import Derived.Test.YtbbjklenpgkooaaGreatJ13
import Derived.Test.YtbbjklenpgkooaaGreatJ12
import Derived.Test.YtbbjklenpgkooaaGreatJ06
import Derived.Test.YtbbjklenpgkooaaGreatJ14
import Derived.RangeFuncBound
import Derived.RangeFuncLeaves
import Derived.Stop.RegionWithIn
import Derived.Test.YtbbjklenpgkooaaGreatJ10
import Derived.Sort.KeysCollected
/-
  slices.SortFunc at the pairs of a store, by the library's contract.
  Conditions: none.
-/
namespace Go.Proofs.YtbbjklenpgkooaaGreat
open Go.RowKit Go.Shelf St
open Go.Sort (SWO PermIn SortedIn HoldsK Holds flatK size_flatK get_flatK putRowK putRow mapBlock alloc_eq_grow grow_grow)
set_option linter.unusedVariables false
set_option linter.unusedSimpArgs false
set_option maxRecDepth 100000

def renS : Go.Shelf.Ren := ⟨fun | 6 => 74 | 15 => 89 | 14 => 88 | 28 => 105 | 29 => 106 | 20 => 97 | 21 => 98 | 22 => 99 | 23 => 100 | 24 => 101 | 25 => 102 | 26 => 103 | 27 => 104 | 46 => 110 | 47 => 111 | 48 => 112 | 49 => 113 | 50 => 114 | 57 => 116 | n => n, fun | 22 => 95 | 24 => 98 | 25 => 127 | 3 => 3 | 39 => 116 | 0 => 0 | 53 => 114 | 55 => 87 | 4 => 4 | 46 => 154 | 45 => 153 | 50 => 158 | 5 => 5 | 9 => 9 | 66 => 164 | 70 => 167 | 76 => 170 | 77 => 171 | n => n, fun | n => n⟩

theorem laysS : Go.Proofs.SlLaysF0.n6 Tryz.prog renS where
  mixed := by kernel_rfl
  f6 := ⟨Tryz.f74.name, by first | decide | kernel_rfl, Tryz.func74.trans (congrArg some (by kernel_rfl))⟩
  f14 := ⟨Tryz.f88.name, by first | decide | kernel_rfl, Tryz.func88.trans (congrArg some (by kernel_rfl))⟩
  f15 := Tryz.func89.trans (congrArg some (by kernel_rfl))
  f20 := ⟨Tryz.f97.name, by first | decide | kernel_rfl, Tryz.func97.trans (congrArg some (by kernel_rfl))⟩
  f21 := ⟨Tryz.f98.name, by first | decide | kernel_rfl, Tryz.func98.trans (congrArg some (by kernel_rfl))⟩
  f22 := ⟨Tryz.f99.name, by first | decide | kernel_rfl, Tryz.func99.trans (congrArg some (by kernel_rfl))⟩
  f23 := ⟨Tryz.f100.name, by first | decide | kernel_rfl, Tryz.func100.trans (congrArg some (by kernel_rfl))⟩
  f24 := ⟨Tryz.f101.name, by first | decide | kernel_rfl, Tryz.func101.trans (congrArg some (by kernel_rfl))⟩
  f25 := ⟨Tryz.f102.name, by first | decide | kernel_rfl, Tryz.func102.trans (congrArg some (by kernel_rfl))⟩
  f26 := ⟨Tryz.f103.name, by first | decide | kernel_rfl, Tryz.func103.trans (congrArg some (by kernel_rfl))⟩
  f27 := ⟨Tryz.f104.name, by first | decide | kernel_rfl, Tryz.func104.trans (congrArg some (by kernel_rfl))⟩
  f28 := Tryz.func105.trans (congrArg some (by kernel_rfl))
  f29 := Tryz.func106.trans (congrArg some (by kernel_rfl))
  f46 := ⟨Tryz.f110.name, by first | decide | kernel_rfl, Tryz.func110.trans (congrArg some (by kernel_rfl))⟩
  f47 := Tryz.func111.trans (congrArg some (by kernel_rfl))
  f48 := Tryz.func112.trans (congrArg some (by kernel_rfl))
  f49 := ⟨Tryz.f113.name, by first | decide | kernel_rfl, Tryz.func113.trans (congrArg some (by kernel_rfl))⟩
  f50 := ⟨Tryz.f114.name, by first | decide | kernel_rfl, Tryz.func114.trans (congrArg some (by kernel_rfl))⟩
  f57 := ⟨Tryz.f116.name, by first | decide | kernel_rfl, Tryz.func116.trans (congrArg some (by kernel_rfl))⟩
  t0 := Tryz.underlying0
  a0 := Tryz.isAgg0
  z0 := Tryz.sizeOf0
  v0 := Tryz.zeroValue0
  t3 := Tryz.underlying3
  a3 := Tryz.isAgg3
  z3 := Tryz.sizeOf3
  v3 := Tryz.zeroValue3
  t4 := Tryz.underlying4
  a4 := Tryz.isAgg4
  z4 := Tryz.sizeOf4
  v4 := Tryz.zeroValue4
  t5 := Tryz.underlying5
  a5 := Tryz.isAgg5
  z5 := Tryz.sizeOf5
  v5 := Tryz.zeroValue5
  t9 := Tryz.underlying9
  a9 := Tryz.isAgg9
  z9 := Tryz.sizeOf9
  v9 := Tryz.zeroValue9
  t22 := Tryz.underlying95
  a22 := Tryz.isAgg95
  z22 := Tryz.sizeOf95
  v22 := Tryz.zeroValue95
  t25 := Tryz.underlying127
  a25 := Tryz.isAgg127
  z25 := Tryz.sizeOf127
  v25 := Tryz.zeroValue127
  t39 := Tryz.underlying116
  a39 := Tryz.isAgg116
  z39 := Tryz.sizeOf116
  v39 := Tryz.zeroValue116
  t45 := Tryz.underlying153
  a45 := Tryz.isAgg153
  z45 := Tryz.sizeOf153
  v45 := Tryz.zeroValue153
  t46 := Tryz.underlying154
  a46 := Tryz.isAgg154
  z46 := Tryz.sizeOf154
  v46 := Tryz.zeroValue154
  t50 := Tryz.underlying158
  a50 := Tryz.isAgg158
  z50 := Tryz.sizeOf158
  v50 := Tryz.zeroValue158
  t53 := Tryz.underlying114
  a53 := Tryz.isAgg114
  z53 := Tryz.sizeOf114
  v53 := Tryz.zeroValue114
  t55 := Tryz.underlying87
  a55 := Tryz.isAgg87
  z55 := Tryz.sizeOf87
  v55 := Tryz.zeroValue87
  t66 := Tryz.underlying164
  a66 := Tryz.isAgg164
  z66 := Tryz.sizeOf164
  v66 := Tryz.zeroValue164
  t70 := Tryz.underlying167
  a70 := Tryz.isAgg167
  z70 := Tryz.sizeOf167
  v70 := Tryz.zeroValue167
  t76 := Tryz.underlying170
  a76 := Tryz.isAgg170
  z76 := Tryz.sizeOf170
  v76 := Tryz.zeroValue170
  t77 := Tryz.underlying171
  a77 := Tryz.isAgg171
  z77 := Tryz.sizeOf171
  v77 := Tryz.zeroValue171

structure PR where
  key : ByteArray
  x : Option Addr
  n : Nat
  c : Nat

variable [Inhabited PR]
set_option linter.unusedSectionVars false

def encP (p : PR) : List Value := [.string p.key, .slice p.x p.n p.c]

def cfP (p q : PR) : Int := Lib.compareBytes p.key.data.toList q.key.data.toList

theorem ltP (p q : PR) : ltOf cfP p q = lessN (nat p.key) (nat q.key) := by
  unfold ltOf cfP
  have h := compare_nat p.key.data.toList q.key.data.toList
  have e : ∀ s : ByteArray, s.data.toList.map UInt8.toNat = nat s := fun s => rfl
  rw [e, e] at h
  by_cases h1 : lessN (nat p.key) (nat q.key) = true
  · rw [h1, decide_eq_true (h.2 h1)]
  · rw [Bool.eq_false_iff.2 h1, decide_eq_false (fun h2 => h1 (h.1 h2))]

theorem swoP : SWO (ltOf cfP) where
  irrefl x := by rw [ltP]; exact less_irrefl _
  trans x y z h1 h2 := by rw [ltP] at *; exact less_trans _ _ _ h1 h2
  ntrans x y z h1 h2 := by
    rw [ltP] at *
    by_cases e1 : nat x.key = nat y.key
    · rw [e1]; exact h2
    · by_cases e2 : nat y.key = nat z.key
      · rw [← e2]; exact h1
      · have a1 : lessN (nat y.key) (nat x.key) = true := by
          have := less_total _ _ e1
          rw [h1] at this
          exact Bool.not_eq_false _ ▸ (fun h => this h.symm)
        have a2 : lessN (nat z.key) (nat y.key) = true := by
          have := less_total _ _ e2
          rw [h2] at this
          exact Bool.not_eq_false _ ▸ (fun h => this h.symm)
        exact less_asym _ _ (less_trans _ _ _ a2 a1)

theorem cmpstr_any (a b : ByteArray) (w : World) :
    Calls Tryz.prog 90 #[.string a, .string b] w fun e w' => e = .returned (.int .i64 (Lib.compareBytes a.data.toList b.data.toList)) ∧ w' = w := by
  go_enter Tryz.func90, Tryz.ntmps90
  go_wp2
  rw [run_callFunc_extern Tryz.func107 (by kernel_rfl) (by kernel_rfl) (by kernel_rfl) (e := Extern.BytealgCompare.compare) (by kernel_rfl), Lib.run_compareString]
  simp only [Result.andThen]
  rw [Oper.upon_value]
  go_wp2
  go_ret
  exact ⟨rfl, rfl⟩

theorem compare_any (a b : ByteArray) (w : World) :
    Calls Tryz.prog 76 #[.string a, .string b] w fun e w' => e = .returned (.int .i64 (Lib.compareBytes a.data.toList b.data.toList)) ∧ w' = w := by
  go_enter Tryz.func76, Tryz.ntmps76
  go_wp2_with (go_at_call 90; refine (cmpstr_any _ _ _).mono ?_; rintro e w' ⟨rfl, rfl⟩)
  go_ret
  exact ⟨rfl, rfl⟩

theorem pcmp_any (p q : PR) (W : World) : Calls Tryz.prog 75 #[.agg #[.string p.key, .slice p.x p.n p.c], .agg #[.string q.key, .slice q.x q.n q.c]] W fun e w' => e = .returned (.int .i64 (cfP p q)) ∧ ∃ k os', w' = Go.Sort.grow (W.drewN k) os' := by
  have hcon := fun W' => compare_any p.key q.key W'
  unfold cfP
  generalize Lib.compareBytes p.key.data.toList q.key.data.toList = r at hcon ⊢
  go_enter Tryz.func75, Tryz.ntmps75
  go_wp2_with (go_at_call 76; refine (hcon _).mono ?_; rintro e w' ⟨rfl, rfl⟩)
  go_ret
  exact ⟨rfl, 0, _, by rw [alloc_eq_grow, alloc_eq_grow, grow_grow]; rfl⟩

/- The pairs of d, one behind the other, in block b. -/
def PairsAt (w : World) (b : Nat) (d : Array PR) : Prop := ∀ i, i < d.size → w.cell? ⟨b, i * 2, none⟩ = some (.string d[i]!.key) ∧ w.cell? ⟨b, i * 2 + 1, none⟩ = some (.slice d[i]!.x d[i]!.n d[i]!.c) ∧ w.frozen? ⟨b, i * 2, none⟩ = false ∧ w.frozen? ⟨b, i * 2 + 1, none⟩ = false

theorem holds_pairs {w : World} {b : Nat} {d : Array PR} : HoldsK encP 2 w b 0 d ↔ PairsAt w b d := by
  unfold HoldsK Holds PairsAt
  constructor
  · intro h i hi
    have h0 := h (i * 2) (by rw [size_flatK]; omega)
    have h1 := h (i * 2 + 1) (by rw [size_flatK]; omega)
    rw [get_flatK _ _ _ _ (by omega), show i * 2 / 2 = i by omega, show i * 2 % 2 = 0 by omega, Nat.zero_add] at h0
    rw [get_flatK _ _ _ _ (by omega), show (i * 2 + 1) / 2 = i by omega, show (i * 2 + 1) % 2 = 1 by omega, Nat.zero_add] at h1
    exact ⟨h0.1, h1.1, h0.2, h1.2⟩
  · intro h j hj
    rw [size_flatK] at hj
    obtain ⟨q0, q1, q2, q3⟩ := h (j / 2) (by omega)
    rw [get_flatK _ _ _ _ hj, Nat.zero_add]
    have h2 : j % 2 = 0 ∨ j % 2 = 1 := by omega
    rcases h2 with e | e
    · rw [e]
      rw [show j / 2 * 2 = j by omega] at q0 q2
      exact ⟨q0, q2⟩
    · rw [e]
      rw [show j / 2 * 2 + 1 = j by omega] at q1 q3
      exact ⟨q1, q3⟩

theorem heap_sortWorld {w : World} {b n : Nat} {d : Array PR} {os : Array Obj} {k : Nat} (hk : k < w.heap.size) (hb : k ≠ b) : (sortWorldK encP 2 w b 0 n d os).heap[k]? = w.heap[k]? := by
  unfold sortWorldK Go.Sort.grow putRowK putRow mapBlock Go.Sort.ahead
  dsimp only
  rw [Array.getElem?_append_left (by simpa using hk), Array.getElem?_modify, if_neg (Ne.symm hb)]

/- The pairs are sorted where they lie. -/
theorem sort_any (w : World) (b cap : Nat) (d : Array PR) (h : PairsAt w b d) (hb : b < w.heap.size) (hs : d.size < 4611686018427387904) :
    Calls Tryz.prog 74 #[.slice (some ⟨b, 0, none⟩) d.size cap, .func (.func 75) #[] #[]] w fun e w' =>
      e = .returned (.tuple #[]) ∧ Hid (∃ d' : Array PR, d'.toList.Perm d.toList ∧ (∀ i j, i < j → j < d'.size → lessN (nat d'[j]!.key) (nat d'[i]!.key) = false) ∧ PairsAt w' b d' ∧ Turns (fun k => k = b) w w') := by
  have eg : ∀ args w, (callFunc 75 args).run Tryz.prog w = .ok (.enter 75 args) w := enters_of Tryz.func75 (by kernel_rfl) rfl
  have hcon := AnyQ.slices_SortFunc laysS 2 Tryz.isAgg98 Tryz.sizeOf98 encP (fun _ => rfl) (fun x v hv => by simp [encP] at hv; rcases hv with rfl | rfl <;> rfl) cfP swoP 75 #[] b 0 cap d w eg (fun _ _ _ _ x y => pcmp_any x y _) (holds_pairs.2 h) hb hs
  change Calls Tryz.prog 74 _ _ _ at hcon
  refine hcon.mono fun e w' ⟨he, d', n, os, hp, hso, hw⟩ => ⟨he, d', ?_, ?_, ?_, ?_⟩
  · have h3 := hp.2.2
    have hsz := hp.1
    rw [← hsz] at h3
    rw [Array.extract_size, hsz, Array.extract_size] at h3
    exact h3
  · intro i j hij hj
    have := hso i j (Nat.zero_le _) hij (by rw [← hp.1]; exact hj)
    rw [ltP] at this
    exact this
  · rw [hw]
    exact holds_pairs.1 (holdsK_sortWorldK encP 2 w b 0 n d d' os hb (holds_pairs.2 h) hp.1)
  · subst hw
    exact ⟨rfl, rfl, rfl, size_sortWorldK_c encP 2 w b 0 n d' os, fun k hk hg => heap_sortWorld hk hg⟩

end Go.Proofs.YtbbjklenpgkooaaGreat

/-
  A list of acts of one's own: what is appended to it.
  Conditions: none.
-/
namespace Go.Proofs.YtbbjklenpgkooaaGreat
open Go.RowKit By Dk Wi St
variable [Inhabited PR]
set_option linter.unusedSectionVars false
set_option linter.unusedVariables false
set_option linter.unusedSimpArgs false
set_option maxRecDepth 100000

theorem avV_one (V : Nat → AV) (j : Nat) : (avV V j).oneCell' = true := by
  unfold avV
  split
  · rfl
  · split <;> rfl

def catA (V : Nat → AV) (k : Nat) (U : Nat → AV) : Nat → AV := fun i => if i < k then V i else U (i - k)

theorem catA_old (V : Nat → AV) {k i : Nat} (U : Nat → AV) (h : i < k) : catA V k U i = V i := if_pos h
theorem catA_new (V : Nat → AV) (k : Nat) (U : Nat → AV) (i : Nat) : catA V k U (k + i) = U i := by
  unfold catA
  rw [if_neg (by omega), Nat.add_sub_cancel_left]

theorem catA_at (V : Nat → AV) (k : Nat) (U : Nat → AV) : catA V k U k = U 0 := catA_new V k U 0

theorem pas_cat (V U : Nat → AV) (k : Nat) : ∀ m, pas (catA V k U) (k + m) = pas V k ++ pas U m
  | 0 => by
    rw [Nat.add_zero, show pas U 0 = [] from rfl, List.append_nil]
    exact pas_congr fun i hi => by rw [catA_old V U hi]
  | m + 1 => by
    rw [← Nat.add_assoc, pas_succ, pas_succ, pas_cat V U k m, catA_new, List.append_assoc]

theorem rowOf_cat (V U : Nat → AV) (k : Nat) : ∀ m, rowOf (avV V) (k * 3) ++ rowOf (avV U) (m * 3) = rowOf (avV (catA V k U)) ((k + m) * 3)
  | 0 => by
    rw [Nat.zero_mul, show rowOf (avV U) 0 = [] from rfl, List.append_nil, Nat.add_zero]
    refine rowOf_congr fun j hj => ?_
    unfold avV
    rw [catA_old V U (by omega)]
  | m + 1 => by
    rw [show (m + 1) * 3 = m * 3 + 1 + 1 + 1 by omega, rowOf_succ, rowOf_succ, rowOf_succ, show (k + (m + 1)) * 3 = (k + m) * 3 + 1 + 1 + 1 by omega, rowOf_succ, rowOf_succ, rowOf_succ, ← rowOf_cat V U k m,
      avV_0, avV_1, avV_2, avV_0, avV_1, avV_2, catA_new]
    simp

theorem own_form {w : World} {base : Nat} {e : TypeId} {size : Nat} {R : Value} {n : Nat} {xs : List Value} (h : w.ownsRow base e size R n xs) :
    ∃ x c, R = .slice x n c ∧ n ≤ c ∧ (x = none → n = 0 ∧ c = 0) ∧ (n = 0 ∨ ∃ g, x = some ⟨g, 0, none⟩ ∧ g < w.heap.size ∧ ∀ i u, xs[i]? = some u → w.cell? ⟨g, i, none⟩ = some u) := by
  rcases h.2 with ⟨rfl, h0⟩ | ⟨g, cap, cur, hv, h1, h2, h3, h4⟩
  · subst h0
    exact ⟨none, 0, rfl, Nat.le_refl _, fun _ => ⟨rfl, rfl⟩, .inl rfl⟩
  · subst hv
    refine ⟨_, cap, rfl, h3, (fun e => by cases e), .inr ⟨g, rfl, (h.lt g rfl).2, fun i u hi => ?_⟩⟩
    have := h.cells (g := g) rfl i u hi
    rw [add_at, Nat.zero_add] at this
    exact this

def OwnA (w : World) (R : Value) (k : Nat) (V : Nat → AV) : Prop := w.ownsRow 0 54 3 R k (rowOf (avV V) (k * 3))

theorem OwnA.acts {w : World} {x : Option Addr} {k c : Nat} {V : Nat → AV} (h : OwnA w (.slice x k c) k V) (ho : ∀ i, i < k → ActOk w (V i)) : ActsAt w x k V := by
  obtain ⟨x', c', e1, _, _, h4⟩ := own_form h
  injection e1 with e1 e2 e3
  subst e1
  refine ⟨?_, ho⟩
  rcases h4 with h0 | ⟨g, rfl, hg, hc⟩
  · exact .inl h0
  · refine .inr ⟨g, 0, rfl, hg, fun i hi => ?_⟩
    have c0 := hc (i * 3) _ (rowOf_get _ _ _ (by omega))
    have c1 := hc (i * 3 + 1) _ (rowOf_get _ _ _ (by omega))
    have c2 := hc (i * 3 + 2) _ (rowOf_get _ _ _ (by omega))
    rw [avV_0] at c0
    rw [avV_1] at c1
    rw [avV_2] at c2
    exact ⟨by rw [Nat.zero_add]; exact c0, by rw [Nat.zero_add]; exact c1, by rw [Nat.zero_add]; exact c2⟩

theorem OwnA.alloc {w : World} {R : Value} {k : Nat} {V : Nat → AV} (h : OwnA w R k V) (cs : Array Value) (t : TypeId) : OwnA (w.alloc (.cells cs t)) R k V := World.ownsRow.alloc h _

theorem OwnA.turns {w w' : World} {G : Nat → Prop} {R : Value} {k : Nat} {V : Nat → AV} (h : OwnA w R k V) (t : Turns G w w') (hg : ∀ g, R.ownBlock = some g → ¬ G g) : OwnA w' R k V :=
  ownsRow_same h fun g e => t.block g (h.lt g e).2 (hg g e)

theorem OwnA.start (w : World) (V : Nat → AV) : OwnA (w.alloc (.cells #[] 54)) (.slice (some ⟨w.heap.size, 0, none⟩) 0 0) 0 V :=
  ⟨rfl, .inr ⟨w.heap.size, 0, #[], rfl, Nat.zero_le _, heap_alloc_new _ _, Nat.le_refl _, Nat.zero_le _, rfl, rfl⟩⟩

theorem OwnA.push {v : World} {R : Value} {k : Nat} {V : Nat → AV} (h : OwnA v R k V) (b o m c : Nat) (U : Nat → AV)
    (hU : ∀ i, i < m → v.cell? ⟨b, o + i * 3, none⟩ = some (.string (U i).key) ∧ v.cell? ⟨b, o + i * 3 + 1, none⟩ = some (.bool (U i).set) ∧ v.cell? ⟨b, o + i * 3 + 2, none⟩ = some (.slice (U i).x (U i).n (U i).c)) (hs : k + m ≤ 4000000) :
    ∃ x' c' w', (Builtin.append_ #[24, 24] 24 #[R, .slice (some ⟨b, o, none⟩) m c]).run Tryz.prog v = .ok (.slice x' (k + m) c') w' ∧
      Hid (OwnA w' (.slice x' (k + m) c') (k + m) (catA V k U) ∧ Turns (fun j => R.ownBlock = some j) v w' ∧ (∀ g, (Value.slice x' (k + m) c').ownBlock = some g → R.ownBlock = some g ∨ v.heap.size ≤ g)) := by
  obtain ⟨i0, hi, hz0, hz1, hz2⟩ := info_parts info_act
  obtain ⟨R', w4, hap, ho, hgr, hR'⟩ := push_all v 24 54 i0 _ 3 48 Tryz.underlying24 hi hz0 hz1 hz2 rfl (by decide) R k _ h
    ⟨b, o, none⟩ m c (rowOf (avV U) (m * 3)) (by rw [rowOf_len]) (fun j u hj => by
      rw [add_at]
      have hjm : j < m * 3 := by
        rcases Nat.lt_or_ge j (m * 3) with h1 | h1
        · exact h1
        · rw [List.getElem?_eq_none (by rw [rowOf_len]; exact h1)] at hj; cases hj
      rw [rowOf_get _ _ _ hjm] at hj
      injection hj with hj
      subst hj
      obtain ⟨q0, q1, q2⟩ := hU (j / 3) (by omega)
      have h3 : j % 3 = 0 ∨ j % 3 = 1 ∨ j % 3 = 2 := by omega
      unfold avV
      rcases h3 with e | e | e
      · rw [if_pos e, ← q0, show o + j / 3 * 3 = o + j by omega]
      · rw [if_neg (by omega), if_pos e, ← q1, show o + j / 3 * 3 + 1 = o + j by omega]
      · rw [if_neg (by omega), if_neg (by omega), ← q2, show o + j / 3 * 3 + 2 = o + j by omega]) (rowOf_one _ _ (avV_one U)) (by unfold maxLen; omega) (by omega)
  rw [rowOf_cat] at ho
  obtain ⟨x', c', hRe, _⟩ := own_form ho
  subst hRe
  exact ⟨x', c', w4, hap, ho, (Turns.refl _ v).grown hgr (fun k hk => .inl hk), hR'⟩

end Go.Proofs.YtbbjklenpgkooaaGreat

/-
  What pairs of a store gives: its keys that begin so, rising, each with its value.
  Conditions: the store is one that Open gave ('StAt').
-/
namespace Go.Proofs.YtbbjklenpgkooaaGreat
open Go.RowKit By Dk Wi St
variable [Inhabited PR]
set_option linter.unusedSectionVars false
set_option linter.unusedVariables false
set_option linter.unusedSimpArgs false
set_option maxRecDepth 100000

theorem beginlite_any (s p : ByteArray) (t : Bool) (w : World) (h : (nat s).take p.size = nat p ↔ t = true) :
    Calls Tryz.prog 87 #[.string s, .string p] w fun e w' => e = .returned (.bool t) ∧ w' = w := by
  have he : p.size ≤ s.size → ((s.extract 0 p.size).toList == p.toList) = t := fun _ => beq_nat _ _ _ (by rw [nat_extract]; exact h)
  have hn : ¬ p.size ≤ s.size → t = false := fun hc => by
    cases t with
    | false => rfl
    | true =>
      have := congrArg List.length (h.2 rfl)
      rw [List.length_take, nat_length, nat_length] at this
      omega
  clear h
  go_enter Tryz.func87, Tryz.ntmps87
  go_wp2_with fail
  · rename_i h
    go_ret
    exact ⟨by rw [← he h]; rfl, rfl⟩
  · rename_i h
    go_ret
    exact ⟨by rw [hn h]; rfl, rfl⟩

theorem begin_any (s p : ByteArray) (t : Bool) (w : World) (h : (nat s).take p.size = nat p ↔ t = true) :
    Calls Tryz.prog 73 #[.string s, .string p] w fun e w' => e = .returned (.bool t) ∧ w' = w := by
  have c := beginlite_any s p t w h
  clear h
  go_enter Tryz.func73, Tryz.ntmps73
  go_wp2_with (go_at_call 87; refine c.mono ?_; clear c; rintro e w' ⟨rfl, rfl⟩)
  go_ret
  exact ⟨rfl, rfl⟩

def Beg (pre s : ByteArray) : Prop := (nat s).take pre.size = nat pre

theorem skey_inv {key : Value} {kl : Lit} (h : keyOf Tryz.prog 9 key = some kl) : ∃ s : ByteArray, key = .string s ∧ kl = lit s := by
  cases key <;> simp [keyOf, Tryz.underlying9, mapKey] at h
  rename_i s
  obtain ⟨hs, rfl⟩ := h
  exact ⟨s, rfl, rfl⟩

theorem same_lit (s t : ByteArray) : (lit s).sameKey (lit t) = decide (s = t) := by
  by_cases h : s = t
  · subst h
    simp [lit, Lit.sameKey]
  · rw [decide_eq_false h]
    cases hs : (lit s).sameKey (lit t)
    · rfl
    · exact absurd (lit_inj (WideAt.sameKey_eq hs)) h

def rowP (ds : List PR) : List Value := ds.flatMap encP

theorem rowP_len : ∀ ds : List PR, (rowP ds).length = ds.length * 2
  | [] => rfl
  | d :: ds => by
    have := rowP_len ds
    unfold rowP at *
    rw [List.flatMap_cons, List.length_append, this, List.length_cons]
    show 2 + _ = _
    omega

theorem rowP_snoc (ds : List PR) (p : PR) : rowP (ds ++ [p]) = rowP ds ++ [.string p.key, .slice p.x p.n p.c] := by simp [rowP, encP]

theorem rowP_get : ∀ (ds : List PR) (i : Nat) (p : PR), ds[i]? = some p → (rowP ds)[i * 2]? = some (.string p.key) ∧ (rowP ds)[i * 2 + 1]? = some (.slice p.x p.n p.c)
  | [], i, p, h => by simp at h
  | d :: ds, 0, p, h => by
    simp at h
    subst h
    exact ⟨rfl, rfl⟩
  | d :: ds, i + 1, p, h => by
    have := rowP_get ds i p (by simpa using h)
    unfold rowP at *
    rw [List.flatMap_cons]
    show ([Value.string d.key, Value.slice d.x d.n d.c] ++ _)[_]? = _ ∧ ([Value.string d.key, Value.slice d.x d.n d.c] ++ _)[_]? = _
    rw [show (i + 1) * 2 = i * 2 + 1 + 1 by omega]
    simpa using this

theorem info_pair : (Tryz.prog.info? 98).map (fun i => (i.zero, i.size, i.bytes)) = some (some (.agg #[.string ByteArray.empty, .slice none 0 0]), 2, 40) := by kernel_rfl

theorem push_pair (w : World) (R : Value) (m : Nat) (p : PR) (xs : List Value) (hown : w.ownsRow 0 98 2 R m xs) (hm : m ≤ 1000000000) :
    ∃ x' c' w', (Builtin.append_ #[95, 95] 95 #[R, .slice (some ⟨w.heap.size, 0, none⟩) 1 1]).run Tryz.prog (w.alloc (.cells #[.string p.key, .slice p.x p.n p.c] 98)) = .ok (.slice x' (m + 1) c') w' ∧
      w'.ownsRow 0 98 2 (.slice x' (m + 1) c') (m + 1) (xs ++ [.string p.key, .slice p.x p.n p.c]) ∧ (w.alloc (.cells #[.string p.key, .slice p.x p.n p.c] 98)).grownBy w' R.ownBlock ∧ (∀ g, (Value.slice x' (m + 1) c').ownBlock = some g → R.ownBlock = some g ∨ w.heap.size < g) := by
  obtain ⟨i0, hi, hz0, hz1, hz2⟩ := info_parts info_pair
  obtain ⟨R', w4, hap, ho, hgr, hR'⟩ := push_gen (w.alloc (.cells #[.string p.key, .slice p.x p.n p.c] 98)) 95 98 i0 _ 2 40 Tryz.underlying95 hi hz0 hz1 hz2 rfl (by decide) R m _ (hown.alloc _)
    ⟨w.heap.size, 0, none⟩ 1 1 [.string p.key, .slice p.x p.n p.c] rfl (fun j u hj => by
      match j, hj with
      | 0, hj => rw [add_at]; simpa using hj
      | 1, hj => rw [add_at]; simpa using hj
      | j + 2, hj => simp at hj) (fun u hu => by simp at hu; rcases hu with rfl | rfl <;> rfl) (by omega) (by unfold maxLen; omega) (by omega)
  obtain ⟨x', c', hRe, _⟩ := own_form ho
  subst hRe
  refine ⟨x', c', w4, hap, ho, hgr, fun g hg => ?_⟩
  rcases hR' g hg with e | e
  · exact .inl e
  · right
    simp at e
    omega

/- pairs, on its way: the iterator at r. -/
structure PQ (w wr : World) (r : Nat) (D : DataW Value) (pre : ByteArray) (left : Lit → Bool) (R : Value) (k : Nat) (ds : List PR) : Prop where
  own : wr.ownsRow 0 98 2 R k (rowP ds)
  len : ds.length = k
  hR : ∀ g, R.ownBlock = some g → w.heap.size ≤ g ∧ g ≠ r
  nd : (ds.map PR.key).Nodup
  col : ∀ s, s ∈ ds.map PR.key ↔ (Maps.has D (lit s) = true ∧ left (lit s) = false ∧ Beg pre s)
  val : ∀ p ∈ ds, ∀ z, D.atKey (lit p.key) z = .held (.slice p.x p.n p.c)
  bel : Below w.heap.size w wr
  hr : w.heap.size ≤ r
  rl : r < wr.heap.size

section
variable {w wr w1 : World} {r : Nat} {D : DataW Value} {pre : ByteArray} {left : Lit → Bool} {R : Value} {k : Nat} {ds : List PR}

theorem below_grown {B : Nat} {a b c : World} {row : Option Nat} (h : Below B a b) (g : b.grownBy c row) (hr : ∀ j, row = some j → B ≤ j) (hB : B ≤ b.heap.size) : Below B a c :=
  ⟨g.os.trans h.os, g.tape.trans h.tape, g.output.trans h.output, Nat.le_trans h.size g.size, fun k hk => (g.block k (by omega) (fun e => by have := hr k e.symm; omega)).trans (h.block k hk)⟩

theorem PQ.skip (h : PQ w wr r D pre left R k ds) (g : wr.grownBy w1 (some r)) {s : ByteArray} (hs : ¬ Beg pre s) : PQ w w1 r D pre (fun z => left z && !z.sameKey (lit s)) R k ds := by
  refine ⟨ownsRow_same h.own fun j hj => g.block j (h.own.lt j hj).2 (fun e => (h.hR j hj).2 (by injection e)), h.len, h.hR, h.nd, fun t => ?_, h.val, below_grown h.bel g (fun j hj => by injection hj with hj; rw [← hj]; exact h.hr) h.bel.size, h.hr, Nat.lt_of_lt_of_le h.rl g.size⟩
  rw [h.col t]
  constructor
  · rintro ⟨a1, a2, a3⟩
    exact ⟨a1, by show (left (lit t) && _) = false; rw [a2]; rfl, a3⟩
  · rintro ⟨a1, a2, a3⟩
    refine ⟨a1, ?_, a3⟩
    have a2 : (left (lit t) && !(lit t).sameKey (lit s)) = false := a2
    rw [same_lit, decide_eq_false (show ¬ t = s from fun e => hs (e ▸ a3))] at a2
    simpa using a2

theorem PQ.add {x : Option Addr} {c : Nat} (h : PQ w wr r D pre left (.slice x k c) k ds) (g : wr.grownBy w1 (some r)) {p : PR} (hl : left (lit p.key) = true) (hat : ∀ z, D.atKey (lit p.key) z = .held (.slice p.x p.n p.c)) (hs : Beg pre p.key) (hk : k ≤ 1000000000) :
    ∃ x' c' w2, (Builtin.append_ #[95, 95] 95 #[.slice x k c, .slice (some ⟨w1.heap.size, 0, none⟩) 1 1]).run Tryz.prog (w1.alloc (.cells #[.string p.key, .slice p.x p.n p.c] 98)) = .ok (.slice x' (k + 1) c') w2 ∧
      Hid (PQ w w2 r D pre (fun z => left z && !z.sameKey (lit p.key)) (.slice x' (k + 1) c') (k + 1) (ds ++ [p]) ∧ (w1.alloc (.cells #[.string p.key, .slice p.x p.n p.c] 98)).grownBy w2 (Value.slice x k c).ownBlock) := by
  have own1 : w1.ownsRow 0 98 2 (.slice x k c) k (rowP ds) := ownsRow_same h.own fun j hj => g.block j (h.own.lt j hj).2 (fun e => (h.hR j hj).2 (by injection e))
  have bel1 : Below w.heap.size w w1 := below_grown h.bel g (fun j hj => by injection hj with hj; rw [← hj]; exact h.hr) h.bel.size
  obtain ⟨x', c', w2, hap, ho, hg, hR'⟩ := push_pair w1 (.slice x k c) k p _ own1 hk
  have hsz := g.size
  have bel2 : Below w.heap.size w (w1.alloc (.cells #[.string p.key, .slice p.x p.n p.c] 98)) := bel1.alloc bel1.size _
  have hnew : p.key ∉ ds.map PR.key := fun hm => by
    have := ((h.col _).1 hm).2.1
    rw [hl] at this
    cases this
  rw [← rowP_snoc] at ho
  refine ⟨x', c', w2, hap, ⟨ho, by rw [List.length_append, h.len]; rfl, fun j hj => ?_, ?_, fun t => ?_, fun q hq => ?_, below_grown bel2 hg (fun j hj => (h.hR j hj).1) bel2.size, h.hr, ?_⟩, hg⟩
  · rcases hR' j hj with e | e
    · exact h.hR j e
    · have := bel1.size
      have := h.rl
      exact ⟨by omega, by omega⟩
  · rw [List.map_append]
    refine List.nodup_append.2 ⟨h.nd, by simp, fun a ha b hb => ?_⟩
    simp at hb
    subst hb
    exact fun e => hnew (e ▸ ha)
  · rw [List.map_append, List.mem_append, h.col t]
    show _ ∨ t ∈ [p.key] ↔ _ ∧ (left (lit t) && !(lit t).sameKey (lit p.key)) = false ∧ _
    rw [same_lit, List.mem_singleton]
    by_cases e : t = p.key
    · subst e
      simp [Maps.has_true_of_atKey hat, hs]
    · simp [e]
  · rcases List.mem_append.1 hq with hq | hq
    · exact h.val q hq
    · simp at hq
      subst hq
      exact hat
  · have h1 := hg.size
    have h2 := h.rl
    simp at h1
    omega

end

def PairsTold (w w' : World) (M : KV) (U : Nat → Prop) (pre : ByteArray) (x : Option Addr) (n : Nat) : Prop :=
  Below w.heap.size w w' ∧ ∃ d : Array PR, d.size = n ∧ (n ≠ 0 → ∃ b, x = some ⟨b, 0, none⟩ ∧ w.heap.size ≤ b ∧ b < w'.heap.size ∧ PairsAt w' b d) ∧ (∀ i j, i < j → j < n → lessN (nat d[i]!.key) (nat d[j]!.key) = true) ∧ (d.toList.map PR.key).Nodup ∧
    (∀ s, s ∈ d.toList.map PR.key ↔ ((M s).isSome = true ∧ Beg pre s)) ∧ ∀ p ∈ d.toList, ∃ l, M p.key = some l ∧ Sl w' p.x p.n p.c l ∧ p.n ≤ 4096 ∧ p.key.size ≤ 64 ∧ ∀ a, p.x = some a → a.block < w.heap.size ∧ ¬ U a.block

theorem get_mem (d : Array PR) {i : Nat} (h : i < d.size) : d[i]! ∈ d.toList := by
  rw [getElem!_pos d i h, Array.mem_toList_iff]
  exact Array.getElem_mem h

theorem get_ne {d : Array PR} (h : (d.toList.map PR.key).Nodup) {i j : Nat} (hij : i < j) (hj : j < d.size) : d[i]!.key ≠ d[j]!.key := fun e => by
  have h1 := List.pairwise_iff_getElem.1 h i j (by simpa using (by omega : i < d.size)) (by simpa using hj) hij
  rw [getElem!_pos d i (by omega), getElem!_pos d j hj] at e
  simp at h1
  exact h1 e

/- What was collected, sorted. -/
theorem PQ.told {w wr w' : World} {r mb nb : Nat} {D : DataW Value} {M : KV} {U : Nat → Prop} {pre : ByteArray} {left : Lit → Bool} {x : Option Addr} {k c : Nat} {ds : List PR} (h : PQ w wr r D pre left (.slice x k c) k ds) (hm : MapAt w mb nb D M U) (hl : ∀ kl, left kl = false)
    (hb : Below w.heap.size w w') (d : Array PR) (hp : d.toList.Perm ds) (hs : ∀ i j, i < j → j < d.size → lessN (nat d[j]!.key) (nat d[i]!.key) = false) (hx : k ≠ 0 → ∃ b, x = some ⟨b, 0, none⟩ ∧ w.heap.size ≤ b ∧ b < w'.heap.size ∧ PairsAt w' b d) : PairsTold w w' M U pre x k := by
  have hsz : d.size = k := by
    have := hp.length_eq
    rw [h.len] at this
    simpa using this
  have hpk : (d.toList.map PR.key).Perm (ds.map PR.key) := hp.map _
  have hnd : (d.toList.map PR.key).Nodup := hpk.nodup_iff.2 h.nd
  refine ⟨hb, d, hsz, hx, fun i j hij hj => ?_, hnd, fun s => ?_, fun p hq => ?_⟩
  · have h1 := hs i j hij (by omega)
    have h2 := get_ne hnd hij (by omega)
    have h3 := less_total _ _ (fun e => h2 (nat_inj e))
    rw [h1] at h3
    simpa using h3
  · rw [hpk.mem_iff, h.col s, hl, hm.has]
    simp
  · have hq' := hp.mem_iff.1 hq
    have hv := h.val p hq'
    have hh : (M p.key).isSome = true := by rw [← hm.has]; exact Maps.has_true_of_atKey hv
    obtain ⟨l, hl'⟩ := Option.isSome_iff_exists.1 hh
    obtain ⟨x1, n1, c1, a1, a2, a3, a4⟩ := hm.val _ _ hl'
    have e := (hv .nil).symm.trans (a1 .nil)
    injection e with e
    injection e with e1 e2 e3
    rw [e1, e2, e3]
    exact ⟨l, hl', a2.below hb, a3, hm.keys _ hh, fun a ha => ⟨(a4 a ha).1, (a4 a ha).2.1⟩⟩

theorem own_pairs {w : World} {x : Option Addr} {k c : Nat} {ds : List PR} (h : w.ownsRow 0 98 2 (.slice x k c) k (rowP ds)) (hl : ds.length = k) (hk : k ≠ 0) : ∃ g, x = some ⟨g, 0, none⟩ ∧ (Value.slice x k c).ownBlock = some g ∧ g < w.heap.size ∧ PairsAt w g ds.toArray := by
  rcases h.2 with ⟨he, h0⟩ | ⟨g, cap, cur, hv, h1, h2, h3, h4⟩
  · injection he with _ he _
    omega
  · injection hv with e1 e2 e3
    have ho : (Value.slice x k c).ownBlock = some g := by rw [e1]; rfl
    refine ⟨g, e1, ho, (h.lt g ho).2, fun i hi => ?_⟩
    have hi' : i < ds.length := by simpa using hi
    obtain ⟨q0, q1⟩ := rowP_get ds i ds[i] (List.getElem?_eq_getElem hi')
    have e : ds.toArray[i]! = ds[i] := by
      rw [getElem!_pos ds.toArray i hi]
      simp
    rw [e]
    have c0 := h.cells (g := g) ho _ _ q0
    have c1 := h.cells (g := g) ho _ _ q1
    rw [add_at, Nat.zero_add] at c0 c1
    exact ⟨c0, c1, by simp [World.frozen?, h2], by simp [World.frozen?, h2]⟩

set_option maxHeartbeats 1000000 in
theorem pairs_any {w : World} {sp jp mb nb : Nat} {D : DataW Value} {M : KV} {U : Nat → Prop} (h : StAt w sp jp mb nb D M U) (pre : ByteArray) (hnb : nb ≤ 1000000000) :
    Calls Tryz.prog 49 #[.pointer (some ⟨sp, 0, none⟩), .string pre] w fun e w' => ∃ x n c, e = .returned (.slice x n c) ∧ n ≤ 1000000000 ∧ Hid (PairsTold w w' M U pre x n) := by
  have c1 := h.c1
  have hm := h.map
  have hown := h.map.own
  have hsz : Maps.size D ≤ 1000000000 := Nat.le_trans hown.size_le hnb
  have hmlt := h.map.lt
  have HM := hid hm
  have HBEG : Hid (∀ s t v, (Beg pre s ↔ t = true) → Calls Tryz.prog 73 #[.string s, .string pre] v fun e w' => e = .returned (.bool t) ∧ w' = v) := fun s t v hb => begin_any s pre t v hb
  clear h hm
  go_enter Tryz.func49, Tryz.ntmps49
  go_wp2_with (first
    | (at_range; refine wpList_range_own _ rfl _ 77 rfl 9 22 slaw Tryz.underlying77 hv mb nb D rfl hown ?_; intro w0 hrg0 hg0 hs0))
  go_frame
  have H0 : Hid (PQ w w0 w.heap.size D pre (Maps.has D) (.slice none 0 0) 0 []) :=
    ⟨⟨rfl, .inl ⟨rfl, rfl⟩⟩, rfl, (fun g hg => by cases hg), List.nodup_nil, (fun s => by cases hh : Maps.has D (lit s) <;> simp [hh]), (fun p hp => by cases hp), below_grown (Below.refl _ _) hg0 (fun j hj => by cases hj) (Nat.le_refl _), Nat.le_refl _, by omega⟩
  clear hg0 hs0
  go_loopw [5] (fun out wr => ∃ (left : Lit → Bool) (cnt k : Nat) (x : Option Addr) (c : Nat) (ds : List PR), out = .slice x k c ∧ k + cnt ≤ 1000000000 ∧ wr.ranges Tryz.prog 9 hv mb w.heap.size nb D left cnt ∧ Hid (PQ w wr w.heap.size D pre left (.slice x k c) k ds)) (fun _ wr => wr.rangeLeft mb w.heap.size)
  case atStart => exact ⟨_, _, 0, none, 0, [], rfl, by omega, hrg0, H0.out⟩
  case round =>
    clear H0 hrg0
    obtain ⟨left, cnt, k, x, c, ds, rfl, hkc, hrg, HP⟩ := hrel
    have HDone : Hid ((∀ kl, left kl = false) → Calls Tryz.prog 74 #[.slice x k c, .func (.func 75) #[] #[]] wr fun e w' => e = .returned (.tuple #[]) ∧ Hid (PairsTold w w' M U pre x k)) := fun hl => by
      by_cases h0 : k = 0
      · subst h0
        have hds : ds = [] := List.eq_nil_of_length_eq_zero HP.out.len
        refine (Go.Proofs.AnyF.slices_SortFunc_none laysS x c _ wr).mono fun e w' ⟨he, hw⟩ => ⟨he, ?_⟩
        subst hw
        exact HP.out.told HM.out hl HP.out.bel #[] (by rw [hds]) (fun i j _ hj => by simp at hj) (fun h => absurd rfl h)
      · obtain ⟨g, rfl, ho, hg, hpa⟩ := own_pairs HP.out.own HP.out.len h0
        have hgw := (HP.out.hR g ho).1
        have hds : ds.toArray.size = k := by simpa using HP.out.len
        have := sort_any wr g c ds.toArray hpa hg (by omega)
        rw [hds] at this
        refine this.mono fun e w' ⟨he, HD⟩ => ⟨he, ?_⟩
        obtain ⟨d', p1, p2, p3, p4⟩ := HD.out
        have hb : Below w.heap.size w w' := HP.out.bel.trans (p4.below (fun j hj => by omega) HP.out.bel.size)
        exact HP.out.told HM.out hl hb d' p1 p2 (fun _ => ⟨g, rfl, hgw, by have := p4.size; omega, p3⟩)
    go_wp2_with (first
      | (at_next; refine wpList_next_ranges _ rfl _ rfl 9 slaw hv (fun s : ByteArray => Value.string s) (fun t : Option Addr × Nat × Nat => Value.slice t.1 t.2.1 t.2.2) (fun key kl hk => by obtain ⟨s, rfl, _⟩ := skey_inv hk; exact ⟨s, rfl⟩) (fun v y hv' => by obtain ⟨a, n, c, rfl, _⟩ := hv_inv hv'; exact ⟨(a, n, c), rfl⟩) mb w.heap.size nb D left cnt rfl hrg ?_ ?_
         (intro hc0 hl0; have hS := HDone.out hl0; clear HDone HP hrg hc0 hl0)
         rotate_left 1
         (intro s tr kl y w1 cnt1 hkey hlk hvv hat hrg1 hlt hg1 hs1 hen
          obtain ⟨tx, tn, tc⟩ := tr
          obtain ⟨s', es, rfl⟩ := skey_inv hkey
          injection es with es
          subst es
          have hat2 : ∀ z, D.atKey (lit s) z = .held (.slice tx tn tc) := fun z => by
            rw [hat z]
            have : hv (.slice tx tn tc) = some y := hvv
            rw [hv_slice] at this
            injection this with this
            rw [← this]
          dsimp only at hen
          clear hkey hvv hat hs1 HDone
          have hhp := fun t (ht : Beg pre s ↔ t = true) => HBEG.out s t w1 ht
          by_cases hb : Beg pre s
          (obtain ⟨x', c', w2, hap, HN⟩ := HP.out.add hg1 (p := ⟨s, tx, tn, tc⟩) hlk hat2 hb (by omega)
           have hbt := hhp true (by simp [hb])
           have hrg2 : w2.ranges Tryz.prog 9 hv mb w.heap.size nb D (fun z => left z && !z.sameKey (lit s)) cnt1 := (hrg1.alloc _).kept HN.out.2 (fun e => by have := (HP.out.hR mb e.symm).1; omega) (fun e => (HP.out.hR _ e.symm).2 rfl)
           have HF : Hid (PQ w w2 w.heap.size D pre (fun z => left z && !z.sameKey (lit s)) (.slice x' (k + 1) c') (k + 1) (ds ++ [⟨s, tx, tn, tc⟩])) := HN.out.1
           clear HN hhp hb HP HBEG HM hg1 hrg1)
          rotate_left 1
          (have hbt := hhp false (by simp [hb])
           have hrg2 : w1.ranges Tryz.prog 9 hv mb w.heap.size nb D (fun z => left z && !z.sameKey (lit s)) cnt1 := hrg1
           have HF : Hid (PQ w w1 w.heap.size D pre (fun z => left z && !z.sameKey (lit s)) (.slice x k c) k ds) := HP.out.skip hg1 hb
           clear hhp hb HP HBEG HM hg1 hrg1)))
      | (go_at_call 73; refine hbt.mono ?_; rintro e w' ⟨rfl, hw⟩; subst w'; clear hbt)
      | (at_builtin; refine wpList_append_run rfl _ _ 95 rfl _ _ rfl rfl hap ?_; clear hap)
      | (go_at_call 74; refine hS.mono ?_; rintro e w3 ⟨rfl, HT⟩; clear hS))
    · go_roundw
      case rel => exact ⟨_, _, k, x, c, ds, rfl, by omega, hrg2, HF.out⟩
      case measure => rw [hrg2.left_eq, hrg.left_eq]; omega
    · go_ret
      exact ⟨x, k, c, rfl, by omega, HT⟩
    · go_roundw
      case rel => exact ⟨_, _, k + 1, x', c', _, rfl, by omega, hrg2, HF.out⟩
      case measure => rw [hrg2.left_eq, hrg.left_eq]; omega

end Go.Proofs.YtbbjklenpgkooaaGreat

/-
  A range over a function whose rounds all go on to the next one, where what is handed over is told with the world in which it lies.
  Conditions: none.
-/
namespace Go.Proofs.YtbbjklenpgkooaaGreat
open Go.RowKit By Dk Wi St
variable [Inhabited PR]
set_option linter.unusedSectionVars false
set_option linter.unusedVariables false
set_option linter.unusedSimpArgs false
set_option maxRecDepth 100000

section
variable {α : Type} {n gf : Nat} {lb : Array Value} {encs : α → Array Value} {Ok : List α → α → World → Prop} {S : List α → Prop} {Gb : Nat → Prop} {w : World}

/- What an iterator does where no round stops it: it hands over what is Ok, and in the end all that S asks. -/
def GivesAll (n gf : Nat) (lb : Array Value) (encs : α → Array Value) (Ok : List α → α → World → Prop) (S : List α → Prop) (Gb : Nat → Prop) (w : World) : Prop :=
  ∀ (l : Nat) (J : List α → World → Prop) (W : World), Below w.heap.size w W → w.heap.size ≤ l → l < W.heap.size → (∀ s A B, J s A → Below A.heap.size A B → J s B) →
    (∀ pre x W1, J pre W1 → Ok pre x W1 → YieldAt Fence.wide (n - 1) Tryz.prog l (encs x) W1 fun e W' => e = .returned (.bool true) ∧ J (pre ++ [x]) W' ∧ Turns (fun k => Gb k ∨ k = l) W1 W') → J [] W →
    CallsIn Fence.wide n Tryz.prog gf (#[.func (.yield l) #[] #[]] ++ lb) W fun e W' => (∃ v, e = .returned v) ∧ ∃ xs, S xs ∧ J xs W'

theorem put_turns {W : World} {l : Nat} (o : Obj) : Turns (fun k => k = l) W (W.putObj l o) :=
  ⟨rfl, rfl, rfl, by simp [World.putObj], fun k hk hg => World.putObj_heap_other hg⟩

theorem below_put {B l : Nat} {W : World} (o : Obj) (h : B ≤ l) (hB : B ≤ W.heap.size) : Below B W (W.putObj l o) := (put_turns o).below (fun k hk => by omega) hB

theorem range_all {g : Operand} {ps : Array Tmp} {assign body : Code} {Q : Exit → Act → World → Prop} {a : Act} (h1 : 1 ≤ n) (hg : a.eval g = .func (.func gf) #[] lb) (eg : ∀ args w, (callFunc gf args).run Tryz.prog w = .ok (.enter gf args) w)
    (hseq : GivesAll (n - 1) gf lb encs Ok S Gb w) (hGb : ∀ k, Gb k → k < w.heap.size) (hps : ∀ x, (encs x).size = ps.size) (hOk : ∀ pre x W l r o, Ok pre x W → W.heap[l]? = some (.loop r) → Ok pre x (W.putObj l o))
    (I : List α → World → Prop) (hI : ∀ s A B, I s A → w.heap.size ≤ A.heap.size → Below w.heap.size A B → I s B) (h0 : I [] w)
    (hround : ∀ (l : Nat) (pre : List α) (x : α) (W W2 : World), w.heap.size ≤ l → w.heap.size ≤ W2.heap.size → I pre W2 → Ok pre x W2 →
      assign.wpIn (Fence.wide.inRound l) (n - 1 - 1) Tryz.prog (Exit.then (fun a1 w1 => w1 = W ∧ body.wpIn (Fence.wide.inRound l) (n - 1 - 1) Tryz.prog (fun e _ W' => e = .normal ∧ I (pre ++ [x]) W' ∧ Turns Gb W2 W') a1 W2) (fun _ _ _ => False)) { tmps := (ps.zip (encs x)).foldl (fun t (p, v) => t.setIfInBounds p v) a.tmps, defers := [] } W)
    (hdone : ∀ (D : Nat) (xs : List α) (W : World), w.heap.size ≤ D → w.heap.size ≤ W.heap.size → S xs → I xs W → W.heap[D]? = some (.deferred (some [])) → Q .normal { a with defers := { target := .collected D, args := #[] } :: a.defers } W) :
    (Code.rangeFunc g ps assign body).wpIn Fence.wide n Tryz.prog Q a w := by
  refine wpIn_rangeFunc ?_
  intro fn hfn
  obtain ⟨rec, hrec⟩ : ∃ rec : LoopState → Loop, rec = fun st => { state := st, pending := none, fn, tmps := a.tmps, params := ps, assign, body, defers := w.heap.size } := ⟨_, rfl⟩
  obtain ⟨W1, hW1⟩ : ∃ W1, (w.alloc (.deferred (some []))).alloc (.loop (rec .ready)) = W1 := ⟨_, rfl⟩
  have hL1 : W1.heap[w.heap.size + 1]? = some (.loop (rec .ready)) := by
    have := World.alloc_heap_new (w.alloc (.deferred (some []))) (.loop (rec .ready))
    rw [World.size_alloc, hW1] at this
    exact this
  have hK1 : W1.heap[w.heap.size]? = some (.deferred (some [])) := by
    rw [← hW1]
    exact (Below.heap_alloc _ _ _ (by simp)).trans (World.alloc_heap_new w _)
  have hb1 : Below w.heap.size w W1 := by
    rw [← hW1]
    exact ((Below.refl _ w).alloc (Nat.le_refl _) _).alloc (by simp) _
  have hz1 : W1.heap.size = w.heap.size + 2 := by
    rw [← hW1]
    simp
  refine ⟨w.heap.size + 1, [{ target := .collected w.heap.size, args := #[] }], W1, { target := .fn (.func gf) lb, args := #[.func (.yield (w.heap.size + 1)) #[] #[]] }, W1, gf,
    #[.func (.yield (w.heap.size + 1)) #[] #[]] ++ lb, W1, ?_, ?_, (fun f' hf' => trivial), ?_, fun _ => h1, ?_⟩
  · rw [← hW1, hrec]
    exact run_enterLoop_outer _ _ _ _ _
  · simp only [resolve, hg]
    simp [go_sem]
  · simp [invoke, go_sem, eg]
  · refine (hseq (w.heap.size + 1) (fun pre W => w.heap.size + 2 ≤ W.heap.size ∧ I pre W ∧ W.heap[w.heap.size + 1]? = some (.loop (rec .ready)) ∧ W.heap[w.heap.size]? = some (.deferred (some []))) W1 hb1 (by omega) (by omega)
      (fun s A B ⟨hz, hi, hl, hk⟩ hb => ⟨Nat.le_trans hz hb.size, hI s A B hi (by omega) (hb.mono (by omega)), (hb.block _ (by omega)).trans hl, (hb.block _ (by omega)).trans hk⟩)
      ?_ ⟨by omega, hI _ _ _ h0 (Nat.le_refl _) hb1, hL1, hK1⟩).mono ?_
    · rintro pre x W ⟨hz, hi, hl, hk⟩ hok
      have hy := run_yield (P := Tryz.prog) (args := encs x) hl (by rw [hrec]; exact hps x)
      rw [hrec] at hy
      have hbr : (Instr.beginRound (w.heap.size + 1)).run Tryz.prog W = .ok () (W.putObj (w.heap.size + 1) (.loop (rec .busy))) := by
        have := run_beginRound (P := Tryz.prog) hl (by rw [hrec])
        rw [hrec] at this ⊢
        exact this
      have hz2 : (W.putObj (w.heap.size + 1) (.loop (rec .busy))).heap.size = W.heap.size := by simp [World.putObj]
      have hl2 : (W.putObj (w.heap.size + 1) (.loop (rec .busy))).heap[w.heap.size + 1]? = some (.loop (rec .busy)) := World.putObj_heap_same (by omega)
      have hk2 : (W.putObj (w.heap.size + 1) (.loop (rec .busy))).heap[w.heap.size]? = some (.deferred (some [])) := (World.putObj_heap_other (by omega)).trans hk
      have t2 := put_turns (W := W) (l := w.heap.size + 1) (.loop (rec .busy))
      refine ⟨fn, _, assign, body, hy, roundIn_of_wpIn hfn (wpIn_mono (hround _ pre x W (W.putObj (w.heap.size + 1) (.loop (rec .busy))) (by omega) (by omega) (hI _ _ _ hi (by omega) (below_put _ (by omega) (by omega))) (hOk _ _ _ _ _ _ hok hl)) ?_)⟩
      clear hy
      intro e1 a1 w1 he1
      cases e1 with
      | normal =>
        obtain ⟨rfl, hb⟩ := he1
        refine ⟨_, hbr, wpIn_mono hb ?_⟩
        clear hb hbr
        rintro e a3 W3 ⟨rfl, hi3, t3⟩
        have hz3 := t3.size
        have hl3 := (t3.block _ (by omega) (fun e1 => by have := hGb _ e1; omega)).trans hl2
        have hk3 := (t3.block _ (by omega) (fun e1 => by have := hGb _ e1; omega)).trans hk2
        have hr : (Instr.endRound (w.heap.size + 1) none).run Tryz.prog W3 = .ok (.bool true) (W3.putObj (w.heap.size + 1) (.loop (rec .ready))) := by
          have := run_endRound (P := Tryz.prog) none hl3
          rw [hrec] at this ⊢
          exact this
        have t4 := put_turns (W := W3) (l := w.heap.size + 1) (.loop (rec .ready))
        refine ⟨_, _, hr, rfl, ⟨by have := t4.size; omega, hI _ _ _ hi3 (by omega) (below_put _ (by omega) (by omega)), World.putObj_heap_same (by omega), (World.putObj_heap_other (by omega)).trans hk3⟩, ?_⟩
        exact ((t2.weak fun k hk => .inr hk).trans (t3.weak fun k hk => .inl hk)).trans (t4.weak fun k hk => .inr hk)
      | ret => exact he1.elim
      | exit id => exact he1.elim
      | goto t => exact he1.elim
      | panic ch => exact he1.elim
      | outgrown => exact he1.elim
    · rintro e W2 ⟨⟨v, rfl⟩, xs, hS, hz, hi, hl, hk⟩
      have hr := run_endLoop (P := Tryz.prog) hl (by rw [hrec]; simp)
      rw [hrec] at hr
      exact ⟨none, _, hr, hdone _ xs _ (Nat.le_refl _) (by simp [World.putObj]; omega) hS (hI _ _ _ hi (by omega) (below_put _ (by omega) (by omega))) ((World.putObj_heap_other (by omega)).trans hk)⟩

end

end Go.Proofs.YtbbjklenpgkooaaGreat

/-
  What All of a store hands over.
  Conditions: the store is one that Open gave ('StAt').
-/
namespace Go.Proofs.YtbbjklenpgkooaaGreat
open Go.RowKit Go.Shelf By Dk Wi St
variable [Inhabited PR]
set_option linter.unusedSectionVars false
set_option linter.unusedVariables false
set_option linter.unusedSimpArgs false
set_option maxRecDepth 100000
attribute [local go_sem] Oper.semAt_some

def encQ (p : PR) : Array Value := #[.string p.key, .slice p.x p.n p.c]

def OkQ (M : KV) (pre : ByteArray) (ys : List PR) (p : PR) (W : World) : Prop :=
  (∀ q ∈ ys, lessN (nat q.key) (nat p.key) = true) ∧ Beg pre p.key ∧ p.key.size ≤ 64 ∧ p.n ≤ 4096 ∧ ∃ l, M p.key = some l ∧ Sl W p.x p.n p.c l

def SQ (M : KV) (pre : ByteArray) (ys : List PR) : Prop := (ys.map PR.key).Nodup ∧ ∀ s, s ∈ ys.map PR.key ↔ ((M s).isSome = true ∧ Beg pre s)

def kys (d : Array PR) (k : Nat) : List ByteArray := (List.range k).map fun i => d[i]!.key

theorem kys_succ (d : Array PR) (k : Nat) : kys d (k + 1) = kys d k ++ [d[k]!.key] := by simp [kys, List.range_succ]

theorem kys_all (d : Array PR) : kys d d.size = d.toList.map PR.key := by
  apply List.ext_getElem?
  intro i
  by_cases h : i < d.size
  · simp [kys, h]
  · rw [List.getElem?_eq_none (by simp [kys]; omega), List.getElem?_eq_none (by simp; omega)]

theorem kys_mem {d : Array PR} {k : Nat} {s : ByteArray} (h : s ∈ kys d k) : ∃ i, i < k ∧ s = d[i]!.key := by
  simp only [kys, List.mem_map, List.mem_range] at h
  obtain ⟨i, h1, h2⟩ := h
  exact ⟨i, h1, h2.symm⟩

set_option maxHeartbeats 2000000 in
theorem all1_gives {w : World} {sp jp mb nb : Nat} {D : DataW Value} {M : KV} {U : Nat → Prop} (h : StAt w sp jp mb nb D M U) (pre : ByteArray) (hnb : nb ≤ 1000000000) (Bs Bp : Nat) (hs : w.cell? ⟨Bs, 0, none⟩ = some (.pointer (some ⟨sp, 0, none⟩))) (hp : w.cell? ⟨Bp, 0, none⟩ = some (.string pre))
    (Gb : Nat → Prop) (hGb : ∀ k, Gb k → k < w.heap.size) (hGU : ∀ k, Gb k → U k) (hU : ∀ k, w.heap.size ≤ k → U k) (n : Nat) (hn : 1 ≤ n) :
    GivesAll n 48 #[.pointer (some ⟨Bs, 0, none⟩), .pointer (some ⟨Bp, 0, none⟩)] encQ (OkQ M pre) (SQ M pre) Gb w := fun l J W hW hl hlW hJ hY hJ0 => by
  have hst := h.below hW
  have hs' := (hW.cell (p := ⟨Bs, 0, none⟩) (cell_lt' hs)).trans hs
  have hp' := (hW.cell (p := ⟨Bp, 0, none⟩) (cell_lt' hp)).trans hp
  have hO := sopen_yes hst
  have hP : Calls Tryz.prog 49 #[.pointer (some ⟨sp, 0, none⟩), .string pre] W fun e w' => ∃ x n c, e = .returned (.slice x n c) ∧ n ≤ 1000000000 ∧ J [] w' ∧ Hid (PairsTold W w' M U pre x n) :=
    (pairs_any hst pre hnb).mono fun e w' ⟨x, n, c, h1, h2, h3⟩ => ⟨x, n, c, h1, h2, hJ _ _ _ hJ0 h3.out.1, h3⟩
  have HZ := hid (And.intro hW.size (And.intro hl hlW))
  have HG := hid (And.intro hGb (And.intro hGU (hU l hl)))
  have HJ := hid hJ
  clear h hst hs hp hW hl hlW hJ hJ0 hGb hGU hU
  refine callsIn_of_wp Tryz.func48 rfl trivial ?_ rfl
  simp only [Tryz.ntmps48, List.size_toArray, List.length_cons, List.length_nil, Nat.reduceAdd, Nat.reduceSub, Array.replicate_succ, Array.replicate_zero, List.push_toArray, List.append_toArray, List.nil_append, List.cons_append]
  gi_wp2
  refine ⟨trivial, (callsIn_wide.2 hO).mono ?_⟩
  rintro e w' ⟨rfl, hw⟩
  subst w'
  clear hO
  gi_wp2
  refine ⟨trivial, (callsIn_wide.2 hP).mono ?_⟩
  rintro e W2 ⟨x, m, c, rfl, hm, hJ2, HT⟩
  clear hP
  gi_wp2
  obtain ⟨hB2, d, hd, hx, hsort, hnd, hcol, hval⟩ := HT.out
  have HH := hid (And.intro hB2 (And.intro hd (And.intro hx (And.intro hsort (And.intro hnd (And.intro hcol hval))))))
  clear hB2 hx hsort hnd hcol hval HT
  gi_loopw [13] (fun i wr => ∃ (k : Nat) (ys : List PR), k ≤ m ∧ i = .int .i64 (k : Int) ∧ Hid (J ys wr ∧ ys.map PR.key = kys d k ∧ Turns (fun j => Gb j ∨ j = l) W2 wr)) (fun i _ => m - (intOf i).toNat)
  case atStart => exact ⟨0, [], Nat.zero_le _, rfl, hJ2, rfl, Turns.refl _ _⟩
  case round =>
    clear hJ2
    obtain ⟨k, ys, hk, rfl, HR⟩ := hrel
    by_cases hkm : k < m
    · have hkm' : (k : Int) < (m : Int) := by omega
      obtain ⟨hB2, _, hx, hsort, hnd, hcol, hval⟩ := HH.out
      obtain ⟨b, rfl, hb1, hb2, hPA⟩ := hx (by omega)
      obtain ⟨f0, f1, _, _⟩ := hPA k (by omega)
      obtain ⟨hJr, hys, htr⟩ := HR.out
      have hbb := htr.block b hb2 (fun e => by
        rcases e with e | e
        · have := HG.out.1 _ e
          have := HZ.out.1
          omega
        · have := HZ.out.2.2
          omega)
      have k0 := (World.cell?_of_block (a := ⟨b, k * 2, none⟩) hbb).trans f0
      have k1 := (World.cell?_of_block (a := ⟨b, k * 2 + 1, none⟩) hbb).trans f1
      obtain ⟨lv, v1, v2, v3, v4, v5⟩ := hval _ (get_mem d (i := k) (by omega))
      have hslr : Sl wr d[k]!.x d[k]!.n d[k]!.c lv := v2.turns htr (fun _ a ha e => by
        rcases e with e | e
        · exact (v5 a ha).2 (HG.out.2.1 _ e)
        · exact (v5 a ha).2 (e ▸ HG.out.2.2))
      have hbeg := ((hcol d[k]!.key).1 (List.mem_map.2 ⟨_, get_mem d (i := k) (by omega), rfl⟩)).2
      have HC : Hid (∀ v B, Below wr.heap.size wr v → v.cell? ⟨B, 0, none⟩ = some (.string d[k]!.key) → Calls Tryz.prog 47 #[.slice d[k]!.x d[k]!.n d[k]!.c] v fun e W3 => ∃ y cy, e = .returned (.slice y d[k]!.n cy) ∧ W3.cell? ⟨B, 0, none⟩ = some (.string d[k]!.key) ∧
          ∃ fn tmps assign body, (Instr.yield l #[.string d[k]!.key, .slice y d[k]!.n cy]).run Tryz.prog W3 = .ok (.round l fn tmps assign body) W3 ∧ RoundIn Fence.wide (n - 1) Tryz.prog l fn tmps assign body W3 fun e W4 => e = .returned (.bool true) ∧
            Hid (∃ ys', J ys' W4 ∧ ys'.map PR.key = kys d (k + 1) ∧ Turns (fun j => Gb j ∨ j = l) W2 W4)) := fun v B hv hc =>
        (clone_sl d[k]!.x d[k]!.n d[k]!.c lv v (hslr.below hv) (by omega)).mono fun e W3 ⟨y, cy, e1, e2, e3, _⟩ => by
          have hb3 : Below wr.heap.size wr W3 := hv.trans (e2.mono hv.size)
          obtain ⟨fn, tmps, assign, body, hy, hR⟩ := hY ys ⟨d[k]!.key, y, d[k]!.n, cy⟩ W3 (HJ.out _ _ _ hJr hb3) ⟨fun q hq => by
            obtain ⟨i, hi, ei⟩ := kys_mem (hys ▸ List.mem_map.2 ⟨q, hq, rfl⟩)
            rw [ei]
            exact hsort i k hi (by omega), hbeg, v4, v3, lv, v1, e3⟩
          refine ⟨y, cy, e1, (e2.cell (p := ⟨B, 0, none⟩) (cell_lt' hc)).trans hc, fn, tmps, assign, body, hy, hR.mono fun e W4 ⟨g1, g2, g3⟩ => ⟨g1, _, g2, ?_, ?_⟩⟩
          · rw [List.map_append, hys, kys_succ]
            rfl
          · exact (htr.trans (Turns.of_below hb3)).trans g3
      clear hB2 hx hsort hnd hcol hval hPA f0 f1 hJr hys htr hbb v1 v2 v3 v4 v5 hslr hbeg hb1 hb2 HH HR HG HJ hY
      generalize d[k]!.key = dk at *
      generalize d[k]!.x = dx at *
      generalize d[k]!.n = dn at *
      generalize d[k]!.c = dc at *
      gi_wp2
      have t9 : (wr.alloc (.cells #[.string dk, .slice dx dn dc] 98)).drew.cell? ⟨wr.heap.size, 0, none⟩ = some (.string dk) := by
        show (wr.alloc (.cells #[.string dk, .slice dx dn dc] 98)).cell? ⟨wr.heap.size, 0, none⟩ = _
        simp
      have b9 : Below wr.heap.size wr (wr.alloc (.cells #[.string dk, .slice dx dn dc] 98)).drew := ((Below.refl _ _).alloc (Nat.le_refl _) _).drew
      have hC1 := HC.out _ wr.heap.size b9 t9
      clear HC t9 b9
      gi_region_with (first
        | (refine ⟨trivial, (callsIn_wide.2 hC1).mono ?_⟩; rintro e W3 ⟨y, cy, rfl, q0, fn, tmps, assign, body, hy, hR⟩; clear hC1)
        | (refine hR.mono ?_; rintro e W4 ⟨rfl, HN⟩; clear hR))
      all_goals
        gi_wp2
        go_roundw
        case rel => obtain ⟨ys', g1, g2, g3⟩ := HN.out; exact ⟨k + 1, ys', by omega, by go_num, g1, g2, g3⟩
        case measure => simp [intOf]; omega
    · obtain rfl : k = m := by omega
      obtain ⟨hB2, _, hx, hsort, hnd, hcol, hval⟩ := HH.out
      obtain ⟨hJr, hys, htr⟩ := HR.out
      have HF : Hid (SQ M pre ys ∧ J ys wr) := by
        rw [← hd] at hys
        rw [kys_all] at hys
        exact ⟨⟨by rw [hys]; exact hnd, fun s => by rw [hys]; exact hcol s⟩, hJr⟩
      clear hB2 hx hsort hnd hcol hval hJr hys htr HH HR HG HJ hY
      gi_wp2
      go_end0
      exact ⟨⟨_, rfl⟩, ys, HF.out.1, HF.out.2⟩

end Go.Proofs.YtbbjklenpgkooaaGreat

/-
  A store's keys as a list in memory: how many there are, and how many begin so.
  Conditions: none.
-/
namespace Go.Proofs.YtbbjklenpgkooaaGreat
open Go.RowKit By Dk Wi St
variable [Inhabited PR]
set_option linter.unusedSectionVars false
set_option linter.unusedVariables false
set_option linter.unusedSimpArgs false
set_option maxRecDepth 100000

variable [∀ pre s : ByteArray, Decidable (Beg pre s)]

/- The list tells just what the map holds. -/
structure KM (V : Nat → AV) (len : Nat) (M : KV) : Prop where
  at_ : ∀ i, i < len → M (V i).key = some (V i).d
  all : ∀ s, (M s).isSome = true → ∃ i, i < len ∧ (V i).key = s
  inj : ∀ i j, i < j → j < len → (V i).key ≠ (V j).key

def keysOf (V : Nat → AV) (len : Nat) : List ByteArray := (List.range len).map fun i => (V i).key

def cntB (pre : ByteArray) (V : Nat → AV) (k : Nat) : Nat := ((keysOf V k).filter fun s => decide (Beg pre s)).length

theorem cntB_succ (pre : ByteArray) (V : Nat → AV) (k : Nat) : cntB pre V (k + 1) = cntB pre V k + (if Beg pre (V k).key then 1 else 0) := by
  unfold cntB keysOf
  rw [List.range_succ, List.map_append, List.filter_append, List.length_append]
  congr 1
  by_cases h : Beg pre (V k).key <;> simp [h]

theorem cntB_le (pre : ByteArray) (V : Nat → AV) (k : Nat) : cntB pre V k ≤ k := by
  unfold cntB
  refine Nat.le_trans (List.length_filter_le _ _) ?_
  simp [keysOf]

theorem KM.nodup {V : Nat → AV} {len : Nat} {M : KV} (h : KM V len M) : (keysOf V len).Nodup := by
  unfold keysOf
  refine List.pairwise_iff_getElem.2 fun i j hi hj hij => ?_
  simp only [List.length_map, List.length_range] at hi hj
  simp only [List.getElem_map, List.getElem_range]
  exact h.inj i j hij hj

theorem KM.mem {V : Nat → AV} {len : Nat} {M : KV} (h : KM V len M) (s : ByteArray) : s ∈ keysOf V len ↔ (M s).isSome = true := by
  unfold keysOf
  rw [List.mem_map]
  constructor
  · rintro ⟨i, hi, rfl⟩
    rw [h.at_ i (List.mem_range.1 hi)]
    rfl
  · intro hs
    obtain ⟨i, hi, e⟩ := h.all s hs
    exact ⟨i, List.mem_range.2 hi, e⟩

theorem KM.count {V : Nat → AV} {len : Nat} {M : KV} (h : KM V len M) {pre : ByteArray} {ys : List PR} (hS : SQ M pre ys) : ys.length = cntB pre V len := by
  have hp : (ys.map PR.key).Perm ((keysOf V len).filter fun s => decide (Beg pre s)) := by
    refine (List.perm_ext_iff_of_nodup hS.1 (h.nodup.filter _)).2 fun s => ?_
    rw [hS.2 s, List.mem_filter, h.mem s]
    simp
  have := hp.length_eq
  rw [List.length_map] at this
  exact this

theorem KM.size {w : World} {mb nb : Nat} {D : DataW Value} {U : Nat → Prop} {V : Nat → AV} {len : Nat} {M : KV} (h : KM V len M) (hm : MapAt w mb nb D M U) : Maps.size D = len := by
  obtain ⟨es, hD, hpw, _⟩ := hm.own.entries slaw
  obtain ⟨es', hD', hko⟩ := hm.own.keysOf
  obtain rfl : es = es' := by rw [hD] at hD'; simpa using hD'
  have hnd : (es.map (·.1)).Nodup := List.pairwise_map.2 hpw
  have hnd2 : ((keysOf V len).map lit).Nodup := List.pairwise_map.2 (h.nodup.imp fun hne e => hne (lit_inj e))
  have hp : (es.map (·.1)).Perm ((keysOf V len).map lit) := by
    refine (List.perm_ext_iff_of_nodup hnd hnd2).2 fun kl => ?_
    have hhas : ∀ s, lit s ∈ es.map (·.1) ↔ (M s).isSome = true := fun s => by
      rw [← hm.has, hD, Maps.has_eq, List.any_eq_true, List.mem_map]
      constructor
      · rintro ⟨p, hp, e⟩
        exact ⟨p, hp, by rw [e]; simp [lit, Lit.sameKey]⟩
      · rintro ⟨p, hp, e⟩
        exact ⟨p, hp, WideAt.sameKey_eq e⟩
    constructor
    · intro hk
      obtain ⟨p, hp, rfl⟩ := List.mem_map.1 hk
      obtain ⟨v, hv⟩ := hko p hp
      obtain ⟨s, _, e⟩ := skey_inv hv
      rw [e] at hk ⊢
      exact List.mem_map.2 ⟨s, (h.mem s).2 ((hhas s).1 hk), rfl⟩
    · intro hk
      obtain ⟨s, hs, rfl⟩ := List.mem_map.1 hk
      exact (hhas s).2 ((h.mem s).1 hs)
  have := hp.length_eq
  rw [List.length_map, List.length_map] at this
  rw [hD, Maps.size_eq, this]
  simp [keysOf]

end Go.Proofs.YtbbjklenpgkooaaGreat

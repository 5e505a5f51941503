/-
  4 texts of this proof, one behind the other: ByRows, MxOrders, WiPlain, WiMem.
-/
import Derived.Test.YtdbahebhodoooaaRows
import Derived.WalkKit
import Derived.WalkSpells
import Derived.WalkLawsBesides
import Derived.Laws.Tables
import Derived.Laws.BytesArg
import Derived.Laws.AppendOwn
import Derived.Laws.AppendOwnNone
import Derived.Laws.OwnMore
import Derived.OpenShut
import Derived.SizedLaws
import Derived.Below
import Derived.ShutString
import Derived.Deep.Grids
import Derived.OrdersHeld
import Derived.Deep.RegionHeld3
import Derived.ArgAppend
import Derived.Laws.BitsAllLaws
/-
  Lists of bytes in memory: what lies there, as text, copied, and as a law is told of them; bytes.Equal and bytes.Clone.
  Conditions: lists that are looked at lie in memory.
-/
namespace Go.Proofs.Ytdbahebhodoooaa.By
open Go.RowKit Go.ChangeShapes Go.WideShapes Go.Deep
set_option linter.unusedVariables false
set_option linter.unusedSimpArgs false
set_option maxRecDepth 100000

def RowAt (w : World) (x : Option Addr) (n : Nat) (f : Nat → Nat) : Prop :=
  n = 0 ∨ ∃ b o, x = some ⟨b, o, none⟩ ∧ b < w.heap.size ∧ ∀ i, i < n → w.cell? ⟨b, o + i, none⟩ = some (.int .u8 (f i : Int))

theorem RowAt.below {w w' : World} {x : Option Addr} {n : Nat} {f : Nat → Nat} (h : RowAt w x n f) (hb : Below w.heap.size w w') : RowAt w' x n f := by
  rcases h with h | ⟨b, o, h1, h2, h3⟩
  · exact .inl h
  · exact .inr ⟨b, o, h1, Nat.lt_of_lt_of_le h2 hb.size, fun i hi => (hb.cell (by exact h2)).trans (h3 i hi)⟩

theorem RowAt.drewN {w : World} {x : Option Addr} {n m : Nat} {f : Nat → Nat} (h : RowAt w x n f) : RowAt (w.drewN m) x n f := h

theorem RowAt.congr {w : World} {x : Option Addr} {n : Nat} {f g : Nat → Nat} (h : RowAt w x n f) (e : ∀ i, i < n → f i = g i) : RowAt w x n g := by
  rcases h with h | ⟨b, o, h1, h2, h3⟩
  · exact .inl h
  · exact .inr ⟨b, o, h1, h2, fun i hi => by rw [← e i hi]; exact h3 i hi⟩

theorem RowAt.take {w : World} {x : Option Addr} {n m : Nat} {f : Nat → Nat} (h : RowAt w x n f) (hm : m ≤ n) : RowAt w x m f := by
  rcases h with h | ⟨b, o, h1, h2, h3⟩
  · exact .inl (by omega)
  · exact .inr ⟨b, o, h1, h2, fun i hi => h3 i (by omega)⟩

theorem below_of_drewN {B m : Nat} {w x : World} (h : Below B (w.drewN m) x) : Below B w x := ⟨h.os, h.tape, h.output, h.size, h.block⟩
theorem below_drewN' {B : Nat} {a w : World} (h : Below B a w) (n : Nat) : Below B a (w.drewN n) := ⟨h.os, h.tape, h.output, h.size, h.block⟩

theorem drewN_more {w wr : World} {n : Nat} (h : ∃ m, wr = w.drewN m) : ∃ m, wr.drewN n = w.drewN m := by
  obtain ⟨m, rfl⟩ := h
  exact ⟨m + n, by rw [World.drewN_drewN]⟩

/- As text. -/
def nums (f : Nat → Nat) (n : Nat) : List Int := (List.range n).map fun i => (f i : Int)

theorem nums_get (f : Nat → Nat) (n i : Nat) (h : i < n) : (nums f n).getD i 0 = (f i : Int) := by
  unfold nums
  simp [h]

theorem conv_row (w : World) (x : Option Addr) (n c : Nat) (f : Nat → Nat) (h : RowAt w x n f) :
    (convert 35 9 (.slice x n c)).run Try.prog w = .ok (.string (strOfNums (nums f n))) w := by
  by_cases h0 : n = 0
  · subst h0
    cases x with
    | none => exact run_convert_bytes_nil w 35 5 Try.underlying35 Try.underlying5 0 c 9 Try.underlying9
    | some a =>
      rw [run_convert_bytes_string w 35 9 5 _ 0 c Try.underlying35 Try.underlying5 Try.underlying9]
      rw [run_bytesToString w a 0 c [] (by rfl)]
      rfl
  · rcases h with h | ⟨b, o, rfl, _, hc⟩
    · exact absurd h h0
    · exact run_convert_bytes_arg w 35 5 Try.underlying35 Try.underlying5 b o n c (nums f n) (by simp [nums]) (fun i hi => by rw [nums_get f n i hi]; exact hc i hi) 9 Try.underlying9

theorem str_inj {f g : Nat → Nat} {n m : Nat} (hf : ∀ i, f i < 256) (hg : ∀ i, g i < 256) (h : strOfNums (nums f n) = strOfNums (nums g m)) : n = m ∧ ∀ i, i < n → f i = g i := by
  have h1 : (nums f n).map (fun n => UInt8.ofNat n.toNat) = (nums g m).map (fun n => UInt8.ofNat n.toNat) := by
    rw [← strOfNums_data, ← strOfNums_data, h]
  have hl : n = m := by
    have := congrArg List.length h1
    simpa [nums] using this
  subst hl
  refine ⟨rfl, fun i hi => ?_⟩
  have h2 := congrArg (fun l => l[i]?) h1
  simp only [nums, List.map_map, List.getElem?_map, List.getElem?_range hi, Option.map_some, Function.comp, Int.toNat_natCast] at h2
  injection h2 with h2
  have h3 := congrArg UInt8.toNat h2
  simp only [UInt8.toNat_ofNat'] at h3
  rwa [Nat.mod_eq_of_lt (hf i), Nat.mod_eq_of_lt (hg i)] at h3

theorem toList_inj {S T : ByteArray} (h : S.toList = T.toList) : S = T := by
  rw [ByteArray.toList_eq, ByteArray.toList_eq] at h
  exact Go.WideShapes.bytes_inj h

theorem str_congr {f g : Nat → Nat} {n : Nat} (h : ∀ i, i < n → f i = g i) : strOfNums (nums f n) = strOfNums (nums g n) := by
  have : nums f n = nums g n := List.map_congr_left (fun i hi => by rw [h i (List.mem_range.1 hi)])
  rw [this]

theorem wpList_append_run {P : Program} {w w' : World} {ops : Array Oper} {rest : List Oper} {o : Oper} {a : Act} {Q : Exit → Act → World → Prop} {v' : Value} (hgd : o.guard = none) (s x : Operand) (t : TypeId)
    (ho : o.op = .call { callee := .builtin .append, args := #[s, x], argTypes := #[t, t] }) (v1 v2 : Value) (hs : a.eval s = v1) (hx : a.eval x = v2) (hr : (Builtin.append_ #[t, t] o.type #[v1, v2]).run P w = .ok v' w')
    (h : wpList P ops Q rest (a.put o.dst v') w') : wpList P ops Q (o :: rest) a w := by
  refine wpList_plain hgd fun K hK => ?_
  unfold Oper.wp execOp
  simp only [ho, resolve, invoke, builtin, Sem.run_bind, Sem.run_pure, Result.andThen_ok, List.map_toArray, List.map_cons, List.map_nil, hs, hx, hr]
  exact hK _ _ h

/- A copy in new memory. -/
theorem info_byte : (Try.prog.info? 5).map (fun i => (i.zero, i.size, i.bytes)) = some (some (.int .u8 0), 1, 1) := by kernel_rfl

def bytesOf (f : Nat → Nat) (n : Nat) : List Value := (List.range n).map fun i => Value.int .u8 (f i : Int)

theorem add_at (b o i : Nat) : (⟨b, o, none⟩ : Addr).add i = ⟨b, o + i, none⟩ := by unfold Addr.add; split <;> simp_all

theorem empty_bytes (w : World) : (w.alloc (.cells #[] 5)).ownsRow w.heap.size 5 1 (.slice (some ⟨w.heap.size, 0, none⟩) 0 0) 0 [] :=
  ⟨rfl, .inr ⟨w.heap.size, 0, #[], rfl, Nat.le_refl _, heap_alloc_new _ _, Nat.le_refl _, Nat.zero_le _, rfl, rfl⟩⟩

/- What is one's own, and a list, behind it. -/
theorem push_row (w w0 : World) (base : Nat) (R : Value) (n : Nat) (f : Nat → Nat) (hown : w.ownsRow base 5 1 R n (bytesOf f n)) (hb : base ≤ w.heap.size) (h0 : Below base w0 w)
    (x : Option Addr) (m c : Nat) (g : Nat → Nat) (hnil : x = none → m = 0 ∧ c = 0) (hg : RowAt w x m g) (hs : n + m ≤ 140737488355328) :
    ∃ R' w', (Builtin.append_ #[35, 35] 35 #[R, .slice x m c]).run Try.prog w = .ok R' w' ∧
      w'.ownsRow base 5 1 R' (n + m) (bytesOf (fun i => if i < n then f i else g (i - n)) (n + m)) ∧ Below base w0 w' ∧ (R' = .slice none 0 0 → R = .slice none 0 0) := by
  obtain ⟨i0, hi, hz0, hz1, hz2⟩ := info_parts info_byte
  have hcat : bytesOf (fun i => if i < n then f i else g (i - n)) (n + m) = bytesOf f n ++ bytesOf g m := by
    unfold bytesOf
    rw [List.range_add, List.map_append, List.map_map]
    congr 1
    · refine List.map_congr_left fun i hi => ?_
      have := List.mem_range.1 hi
      simp [this]
    · refine List.map_congr_left fun i hi => ?_
      simp [show ¬ n + i < n by omega]
  cases x with
  | none =>
    obtain ⟨rfl, rfl⟩ := hnil rfl
    have hrun := run_append_owned_none (P := Try.prog) (w := w) base 35 35 5 i0 1 Try.underlying35 hi R n _ hown
    refine ⟨R, w, hrun, ?_, h0, fun h => h⟩
    rw [hcat]
    simpa [bytesOf] using hown
  | some ad =>
    obtain ⟨v', w', hr, h2, h3, h4⟩ := run_append_own (P := Try.prog) w base 35 35 5 i0 (.int .u8 0) 1 1 Try.underlying35 hi hz0 hz1 hz2 rfl (by decide) R n (bytesOf f n) hown
      ad m c (bytesOf g m) (by simp [bytesOf]) (fun j u hj => by
        have hjm : j < m := by
          have := (List.getElem?_eq_some_iff.1 hj).1
          simpa [bytesOf] using this
        have e : u = .int .u8 (g j : Int) := by simp [bytesOf, hjm] at hj; exact hj.symm
        rcases hg with hg | ⟨b, o, hx, hb, hc⟩
        · omega
        · injection hx with hx
          subst hx
          rw [e, add_at]
          exact hc j hjm) (fun u hu => by
        simp [bytesOf] at hu
        obtain ⟨j, _, rfl⟩ := hu
        rfl) (by unfold maxLen; omega) (by omega) hb
    refine ⟨v', w', hr, by rw [hcat]; exact h2, h0.grown h3 hb (fun k hk => (hown.lt k hk).1), fun h => (h4.1 h).1⟩

/- A list that is one's own lies there. -/
theorem own_rowAt {w : World} {base : Nat} {R : Value} {n : Nat} {f : Nat → Nat} (h : w.ownsRow base 5 1 R n (bytesOf f n)) (hn : R ≠ .slice none 0 0) :
    ∃ g c, R = .slice (some ⟨g, 0, none⟩) n c ∧ base ≤ g ∧ g < w.heap.size ∧ n ≤ c ∧ (∀ i, i < n → w.cell? ⟨g, 0 + i, none⟩ = some (.int .u8 (f i : Int))) ∧ RowAt w (some ⟨g, 0, none⟩) n f := by
  rcases h.2 with ⟨hv, _⟩ | ⟨g, c, cur, hv, hg, hh, hc, _⟩
  · exact absurd hv hn
  · subst hv
    have hc2 : ∀ i, i < n → w.cell? ⟨g, 0 + i, none⟩ = some (.int .u8 (f i : Int)) := fun j hj => by
      rw [Nat.zero_add, h.cellAt j (by omega)]
      simp [bytesOf, hj]
    exact ⟨g, c, rfl, hg, (Array.getElem?_eq_some_iff.1 hh).1, hc, hc2, .inr ⟨g, 0, rfl, (Array.getElem?_eq_some_iff.1 hh).1, hc2⟩⟩

theorem bytes_copy (w : World) (x : Option Addr) (n c : Nat) (f : Nat → Nat) (hl : RowAt w x n f) (hnil : x = none → n = 0 ∧ c = 0) (hn : n ≤ 140737488355328) :
    ∃ g cy w', (Builtin.append_ #[35, 35] 35 #[.slice (some ⟨w.heap.size, 0, none⟩) 0 0, .slice x n c]).run Try.prog (w.alloc (.cells #[] 5)) = .ok (.slice (some ⟨g, 0, none⟩) n cy) w' ∧ Below w.heap.size w w' ∧
      w'.ownsRow w.heap.size 5 1 (.slice (some ⟨g, 0, none⟩) n cy) n (bytesOf f n) ∧ w.heap.size ≤ g ∧ g < w'.heap.size ∧ (∀ j, j < n → w'.cell? ⟨g, 0 + j, none⟩ = some (.int .u8 (f j : Int))) ∧ RowAt w' (some ⟨g, 0, none⟩) n f := by
  have hbel : Below w.heap.size w (w.alloc (.cells #[] 5)) := (Below.refl w.heap.size w).alloc (Nat.le_refl _) _
  obtain ⟨R, w', hr, h2, h3, h4⟩ := push_row (w.alloc (.cells #[] 5)) w w.heap.size (.slice (some ⟨w.heap.size, 0, none⟩) 0 0) 0 f (empty_bytes w) (by simp) hbel x n c f hnil (hl.below hbel) (by omega)
  have hnn : R ≠ .slice none 0 0 := fun h => by have := h4 h; simp at this
  have e : bytesOf (fun i => if i < 0 then f i else f (i - 0)) (0 + n) = bytesOf f n := by
    rw [Nat.zero_add]
    refine List.map_congr_left fun i hi => ?_
    simp
  rw [e, Nat.zero_add] at h2
  obtain ⟨g, cy, rfl, g1, g2, g3, g4, g5⟩ := own_rowAt h2 hnn
  exact ⟨g, cy, w', hr, h3, h2, g1, g2, g4, g5⟩

theorem bequal_any (x y : Option Addr) (n m c1 c2 : Nat) (t : Bool) (f g : Nat → Nat) (w : World) (hf : ∀ i, f i < 256) (hg : ∀ i, g i < 256) (h1 : RowAt w x n f) (h2 : RowAt w y m g) (hy : n = m → (∀ i, i < n → f i = g i) → t = true) (hx : ¬ (n = m ∧ ∀ i, i < n → f i = g i) → t = false) :
    Calls Try.prog 58 #[.slice x n c1, .slice y m c2] w fun e w' => e = .returned (.bool t) ∧ w' = w := by
  have v1 := conv_row w x n c1 f h1
  have v2 := conv_row w y m c2 g h2
  have ht : ((strOfNums (nums f n)).toList == (strOfNums (nums g m)).toList) = t := by
    by_cases e : n = m ∧ ∀ i, i < n → f i = g i
    · rw [hy e.1 e.2]
      obtain ⟨rfl, e⟩ := e
      rw [str_congr e]
      simp
    · rw [hx e]
      have hne : (strOfNums (nums f n)).toList ≠ (strOfNums (nums g m)).toList := fun h => e (str_inj hf hg (toList_inj h))
      simpa using hne
  generalize strOfNums (nums f n) = S at v1 ht
  generalize strOfNums (nums g m) = S' at v2 ht
  clear h1 h2 hy hx
  go_enter Try.func58, Try.ntmps58
  go_wp2_with fail
  go_ret
  exact ⟨by rw [← ht]; rfl, rfl⟩

theorem clone_nil (w : World) : Calls Try.prog 60 #[.slice none 0 0] w fun e w' => e = .returned (.slice none 0 0) ∧ w' = w := by
  have he : ∀ w : World, (binOp .eql 35 (.slice none 0 0) (.slice none 0 0)).run Try.prog w = .ok (.bool true) w := fun _ => by kernel_rfl
  go_enter Try.func60, Try.ntmps60
  go_wp2_with fail
  go_ret
  exact ⟨rfl, rfl⟩

theorem clone_strong (ad : Addr) (n c : Nat) (f : Nat → Nat) (w : World) (hl : RowAt w (some ad) n f) (hn : n ≤ 140737488355328) :
    Calls Try.prog 60 #[.slice (some ad) n c] w fun e w' => ∃ g cy, e = .returned (.slice (some ⟨g, 0, none⟩) n cy) ∧ Below w.heap.size w w' ∧ RowAt w' (some ⟨g, 0, none⟩) n f ∧ n ≤ cy ∧ w.heap.size ≤ g ∧ g < w'.heap.size := by
  obtain ⟨g, cy, w', hrun, h1, h0, h2, h3, h4, h5⟩ := bytes_copy w (some ad) n c f hl (fun h => by cases h) hn
  have hcy : n ≤ cy := by
    obtain ⟨g', c', e, _, _, h6, _⟩ := own_rowAt h0 (fun h => by cases h)
    injection e with _ _ e
    omega
  clear hl h0
  have H1 : Hid (Below w.heap.size w w' ∧ RowAt w' (some ⟨g, 0, none⟩) n f ∧ n ≤ cy ∧ w.heap.size ≤ g ∧ g < w'.heap.size) := ⟨h1, h5, hcy, h2, h3⟩
  have he : ∀ w : World, (binOp .eql 35 (.slice (some ad) n c) (.slice none 0 0)).run Try.prog w = .ok (.bool false) w := fun _ => by kernel_rfl
  clear h1 h2 h3 h4 h5 hcy
  go_enter Try.func60, Try.ntmps60
  go_wp2_with (at_builtin; refine wpList_append_run rfl _ _ 35 rfl _ _ rfl rfl hrun ?_; clear hrun)
  go_ret
  exact ⟨g, cy, rfl, H1.out⟩

theorem clone_some (ad : Addr) (n c : Nat) (f : Nat → Nat) (w : World) (hl : RowAt w (some ad) n f) (hn : n ≤ 140737488355328) :
    Calls Try.prog 60 #[.slice (some ad) n c] w fun e w' => ∃ g cy, e = .returned (.slice (some ⟨g, 0, none⟩) n cy) ∧ Below w.heap.size w w' ∧ RowAt w' (some ⟨g, 0, none⟩) n f :=
  (clone_strong ad n c f w hl hn).mono fun e w' ⟨g, cy, h1, h2, h3, _⟩ => ⟨g, cy, h1, h2, h3⟩

theorem clone_full (x : Option Addr) (n c : Nat) (f : Nat → Nat) (w : World) (hl : RowAt w x n f) (hn : n ≤ 140737488355328) (hnil : x = none → n = 0 ∧ c = 0) :
    Calls Try.prog 60 #[.slice x n c] w fun e w' => ∃ y cy, e = .returned (.slice y n cy) ∧ Below w.heap.size w w' ∧ RowAt w' y n f ∧ n ≤ cy ∧ (y = none → n = 0 ∧ cy = 0) ∧ ∀ ad, y = some ad → w.heap.size ≤ ad.block ∧ ad.block < w'.heap.size := by
  cases x with
  | none =>
    obtain ⟨rfl, rfl⟩ := hnil rfl
    exact (clone_nil w).mono fun e w' h => ⟨none, 0, h.1, by rw [h.2]; exact Below.refl _ _, .inl rfl, Nat.le_refl _, fun _ => ⟨rfl, rfl⟩, fun ad h => by cases h⟩
  | some ad => exact (clone_strong ad n c f w hl hn).mono fun e w' ⟨g, cy, h1, h2, h3, h4, h5, h6⟩ => ⟨_, cy, h1, h2, h3, h4, (fun h => by cases h), (fun a h => by cases h; exact ⟨h5, h6⟩)⟩

theorem clone_any (x : Option Addr) (n c : Nat) (f : Nat → Nat) (w : World) (hl : RowAt w x n f) (hn : n ≤ 140737488355328) (hnil : x = none → n = 0 ∧ c = 0) :
    Calls Try.prog 60 #[.slice x n c] w fun e w' => ∃ y cy, e = .returned (.slice y n cy) ∧ Below w.heap.size w w' ∧ RowAt w' y n f := by
  cases x with
  | none =>
    obtain ⟨rfl, rfl⟩ := hnil rfl
    exact (clone_nil w).mono fun e w' h => ⟨none, 0, h.1, by rw [h.2]; exact Below.refl _ _, .inl rfl⟩
  | some ad => exact (clone_some ad n c f w hl hn).mono fun e w' ⟨g, cy, h1, h2, h3⟩ => ⟨_, cy, h1, h2, h3⟩

/- What a law is told of a list of bytes that came in, with its reach. -/
theorem u8_nat {x : Int} (h : (Lit.int .u8 x).wf = true) : ∃ n : Nat, x = n ∧ n < 256 := by
  have := bounds_u8 h
  exact ⟨x.toNat, by omega, by omega⟩

theorem cell_lt' {w : World} {a : Addr} {v : Value} (h : w.cell? a = some v) : a.block < w.heap.size := by
  by_cases hb : a.block < w.heap.size
  · exact hb
  · unfold World.cell? at h
    simp [Array.getElem?_eq_none (Nat.le_of_not_lt hb)] at h

theorem u8_getD {zs : List Int} (h : ∀ n ∈ zs, (Lit.int .u8 n).wf = true) (i : Nat) : ∃ n : Nat, zs.getD i 0 = n ∧ n < 256 := by
  by_cases hi : i < zs.length
  · have := h zs[i] (List.getElem_mem hi)
    obtain ⟨n, h1, h2⟩ := u8_nat this
    exact ⟨n, by simp [hi, h1], h2⟩
  · exact ⟨0, by simp [Nat.le_of_not_lt hi], by omega⟩

theorem row_at {w : World} {a : Addr} {n : Nat} {zs : List Int} (hz : ∀ n ∈ zs, (Lit.int .u8 n).wf = true) (h : ∀ c, c < n → w.cell? (a.add c) = some (.int .u8 (zs.getD c 0))) :
    RowAt w (some a) n (fun i => (zs.getD i 0).toNat) := by
  by_cases h0 : n = 0
  · exact .inl h0
  · obtain ⟨b, off, spot⟩ := a
    have hspot : spot = none := by simpa [Addr.add] using World.cell?_spot (h 0 (by omega))
    subst hspot
    refine .inr ⟨b, off, rfl, cell_lt' (h 0 (by omega)), fun i hi => ?_⟩
    have := h i hi
    rw [add_at] at this
    obtain ⟨m, h1, h2⟩ := u8_getD hz i
    rw [this]
    show some (Value.int .u8 (zs.getD i 0)) = some (Value.int .u8 (((zs.getD i 0).toNat : Nat) : Int))
    rw [h1]
    rfl

structure BytesIn (w : World) (a : Option Addr) (len cap : Nat) (f : Nat → Nat) : Prop where
  row : RowAt w a len f
  lt : ∀ i, f i < 256
  le : len ≤ cap
  small : cap ≤ 140737488351232
  nil : a = none → len = 0 ∧ cap = 0

section
variable {H : Type} {enc : TypeId × Value → H} {W : World} {base fuel : Nat} {held : Bool} {cs : List Value} {d : DataW H} {p : List MemPlace}

theorem bytes_in (hf : DataW.trod enc Try.prog W base (fun _ => true) held fuel 35 cs = some (d, p)) (hw : ∀ x ∈ d.weights Try.prog 35, x ≤ reachBytes) :
    ∃ a len cap f, cs = [.slice a len cap] ∧ BytesIn W a len cap f := by
  rcases open_ints Try.underlying35 Try.underlying5 (by kernel_rfl) hf with ⟨hcs, _⟩ | ⟨x, len, cap, zs, hcs, _, hl, hm, hz, hx, hcell, hwz⟩
  · exact ⟨none, 0, 0, fun _ => 0, hcs, .inl rfl, fun _ => Nat.zero_lt_succ _, Nat.le_refl _, by omega, fun _ => ⟨rfl, rfl⟩⟩
  · simp only [if_true] at hz
    simp only [Prod.mk.injEq] at hx
    have hd := hx.1
    subst hd
    have hb1 : Try.prog.bytesOf 5 = 1 := by kernel_rfl
    simp only [DataW.weights, Try.underlying35, List.mem_cons, hb1] at hw
    have hw0 := hw _ (.inl rfl)
    simp only [lits, List.length_map, List.length_take, List.length_drop, reachBytes] at hw0
    refine ⟨some x, len, cap, _, hcs, row_at hwz (fun c hc => hcell c (by omega)), fun i => ?_, hl, by omega, fun h => by cases h⟩
    obtain ⟨n, h1, h2⟩ := u8_getD hwz i
    omega

end

end Go.Proofs.Ytdbahebhodoooaa.By

/-
  A statement that Go may carry out in more than one order, whose last step, a store, waits for all others: what is read ahead of it may be read first, though the store writes there.
  Conditions: none.
-/
namespace Go.Proofs.Ytdbahebhodoooaa
open Go
set_option linter.unusedVariables false

section
variable {P : Program} {ops : Array Oper} {Q : Exit → Act → World → Prop} {md : Region.Mode} {S : World → Prop} {l : Nat}

def wpAnyL (P : Program) (md : Region.Mode) (ops : Array Oper) (Q : Exit → Act → World → Prop) (S : World → Prop) (l : Nat) : Nat → Array Bool → Act → World → Prop
  | 0, listed, a, w => Region.ready md ops listed = [] ∧ Q .normal a w
  | fuel + 1, listed, a, w =>
    (Region.ready md ops listed = [] → Q .normal a w) ∧
    ∀ i ∈ Region.ready md ops listed, wpOp P ops Q i (fun a' w' => (i ≠ l → S w') ∧ wpAnyL P md ops Q S l fuel (listed.setIfInBounds i true) a' w') a w

theorem wpAny_of_last : ∀ (fuel : Nat) (listed : Array Bool) (a : Act) (w : World), wpAnyL P md ops Q S l fuel listed a w → wpAny P md ops Q fuel listed a w
  | 0, _, _, _, h => h
  | fuel + 1, _, _, _, h => ⟨h.1, fun i hi => wpOp_mono (fun a' w' h' => wpAny_of_last fuel _ a' w' h'.2) (h.2 i hi)⟩

def waits (md : Region.Mode) (ops : Array Oper) (l i : Nat) : Bool :=
  match ops[l]? with
  | some o => o.after.toList.any fun e => Region.binds md e && e.on == i
  | none => false

theorem waits_spec {i : Nat} (h : waits md ops l i = true) {o : Oper} (ho : ops[l]? = some o) : ∃ e ∈ o.after, Region.binds md e = true ∧ e.on = i := by
  unfold waits at h
  rw [ho] at h
  obtain ⟨e, he, hb⟩ := List.any_eq_true.1 h
  simp only [Bool.and_eq_true, beq_iff_eq] at hb
  exact ⟨e, by simpa using he, hb.1, hb.2⟩

theorem wpAnyL_first {i : Nat} {oi : Oper} {v : Value} (hi : ops[i]? = some oi) (hsel : ∀ (j : Nat) (o : Oper) cs b, ops[j]? = some o → o.op ≠ .select cs b)
    (hQ : ∀ c a w, Q (.panic c) (a.put oi.dst v) w → Q (.panic c) a w) (hwait : waits md ops l i = true) :
    ∀ (fuel : Nat) (listed : Array Bool) (a : Act) (w : World),
      (∀ j oj, ops[j]? = some oj → j ≠ i → listed.getD j true = false → (∀ e ∈ oj.after, Region.binds md e = true → e.on ≠ i) → oi.apart ops oj = true) →
      i ∈ Region.ready md ops listed → YieldsIf P ops S oi v a → S w →
      wpAnyL P md ops Q S l fuel (listed.setIfInBounds i true) (a.put oi.dst v) w → wpAnyL P md ops Q S l (fuel + 1) listed a w := by
  intro fuel
  induction fuel with
  | zero =>
    intro listed a w _ hr hy hS H
    refine ⟨fun h => (by rw [h] at hr; cases hr), fun j hj => ?_⟩
    by_cases hji : j = i
    · subst hji; exact hy.wpOp hi hS ⟨fun _ => hS, H⟩
    · have := ready_mono hj hji
      rw [H.1] at this
      cases this
  | succ fuel ih =>
    intro listed a w hfree hr hy hS H
    refine ⟨fun h => (by rw [h] at hr; cases hr), fun j hj => ?_⟩
    by_cases hji : j = i
    · subst hji; exact hy.wpOp hi hS ⟨fun _ => hS, H⟩
    · have h1 := H.2 j (ready_mono hj hji)
      obtain ⟨hjun, oj, hoj, hall⟩ := mem_ready.1 hj
      have hnot : ∀ e ∈ oj.after, Region.binds md e = true → e.on ≠ i := fun e he hb heq => by
        have h1 := hall e he hb
        have h0 := (mem_ready.1 hr).1
        rw [heq] at h1
        rcases Nat.lt_or_ge i listed.size with h' | h'
        · simp [h'] at h0 h1; rw [h0] at h1; cases h1
        · simp [Array.getElem?_eq_none h'] at h1
      have hjl : j ≠ l := fun e => by
        subst e
        obtain ⟨x, hx, hb, hon⟩ := waits_spec hwait hoj
        exact hnot x hx hb hon
      have h2 := wpOp_putIf hoj (hfree j oj hoj hji hjun hnot) (fun cs b => hsel i oi cs b hi) (fun cs b => hsel j oj cs b hoj) hQ hy h1
      have hfree' : ∀ k ok, ops[k]? = some ok → k ≠ i → (listed.setIfInBounds j true).getD k true = false →
          (∀ e ∈ ok.after, Region.binds md e = true → e.on ≠ i) → oi.apart ops ok = true := fun k ok hk hki hun hno => by
        refine hfree k ok hk hki ?_ hno
        by_cases hjk : j = k
        · subst hjk; exact hjun
        · rw [getD_set_ne true hjk] at hun; exact hun
      refine wpOp_mono (fun a' w' h3 => ⟨fun _ => h3.2.1 hjl, ih (listed.setIfInBounds j true) a' w' hfree' (ready_mono hr (Ne.symm hji)) h3.1 (h3.2.1 hjl) ?_⟩) h2
      rw [Array.setIfInBounds_comm _ _ hji]
      exact h3.2.2

theorem wpAnyL_take {i : Nat} {oi : Oper} {v : Value} {fuel : Nat} {listed : Array Bool} {a : Act} {w : World} (hi : ops[i]? = some oi)
    (hs : Region.noSelect ops = true) (hf : Region.free md ops listed i = true) (hr : (Region.ready md ops listed).contains i = true) (hwait : waits md ops l i = true)
    (hQ : ∀ c a w, Q (.panic c) (a.put oi.dst v) w → Q (.panic c) a w) (hS : S w) (hy : YieldsIf P ops S oi v a)
    (h : wpAnyL P md ops Q S l fuel (listed.setIfInBounds i true) (a.put oi.dst v) w) : wpAnyL P md ops Q S l (fuel + 1) listed a w :=
  wpAnyL_first hi (Region.noSelect_spec hs) hQ hwait fuel listed a w (Region.free_spec hi hf) (by simpa using hr) hy hS h

/- One alone may come up. -/
theorem wpAnyL_one {i : Nat} {o : Oper} {fuel : Nat} {listed : Array Bool} {a : Act} {w : World} (hr : Region.ready md ops listed = [i]) (ho : ops[i]? = some o)
    (h : ∀ K' : Act → World → Prop, Shut (∀ a w, (i ≠ l → S w) → wpAnyL P md ops Q S l fuel (listed.setIfInBounds i true) a w → K' a w) → if Region.wanted o (yielded ops a.tmps) = true then Oper.wp P o a w K' Q else K' (a.put o.dst undef) w) :
    wpAnyL P md ops Q S l (fuel + 1) listed a w :=
  ⟨fun h0 => (by rw [hr] at h0; cases h0), fun j hj => by
    rw [hr] at hj
    have e : j = i := by simpa using hj
    subst e
    exact wpOp_step ho (fun K' hK => h K' (fun a w hS hW => hK a w ⟨hS, hW⟩))⟩

theorem wpAnyL_done {listed : Array Bool} {a : Act} {w : World} (hr : Region.ready md ops listed = []) (h : Q .normal a w) : ∀ fuel, wpAnyL P md ops Q S l fuel listed a w
  | 0 => ⟨hr, h⟩
  | _ + 1 => ⟨fun _ => h, by rw [hr]; simp⟩

theorem wp_region_last {id : Nat} {a : Act} {w : World} (S : World → Prop) (l : Nat) (hm : P.follows .mixedOrders = true) (hS : S w.drew)
    (h : S w.drew → wpAnyL P .any ops Q S l ops.size (Array.replicate ops.size false) a w.drew) : (Code.region id ops true).wp P Q a w :=
  wp_region_any hm (wpAny_of_last _ _ _ _ (h hS))

end

end Go.Proofs.Ytdbahebhodoooaa

/-
  Numbers and bytes in their one form, and what a reader finds in bytes: plain numbers and lists.
  Conditions: none. Nothing here names the program.
-/
namespace Go.Proofs.Ytdbahebhodoooaa.Wi

/- A number without sign. -/
def uvF : Nat → Nat → List Nat
  | 0, n => [n]
  | k + 1, n => if n < 128 then [n] else (n % 128 + 128) :: uvF k (n / 128)

theorem uvF_enough : ∀ k m n, n ≤ k → n ≤ m → uvF k n = uvF m n
  | 0, 0, _, _, _ => rfl
  | 0, m + 1, n, h, _ => by
    obtain rfl : n = 0 := by omega
    rfl
  | k + 1, 0, n, _, h => by
    obtain rfl : n = 0 := by omega
    rfl
  | k + 1, m + 1, n, h1, h2 => by
    unfold uvF
    by_cases h : n < 128
    · rw [if_pos h, if_pos h]
    · rw [if_neg h, if_neg h, uvF_enough k m (n / 128) (by omega) (by omega)]

def uv (n : Nat) : List Nat := uvF n n

theorem uv_small {n : Nat} (h : n < 128) : uv n = [n] := by
  unfold uv
  cases n with
  | zero => rfl
  | succ n => unfold uvF; rw [if_pos h]

theorem uv_big {n : Nat} (h : 128 ≤ n) : uv n = (n % 128 + 128) :: uv (n / 128) := by
  unfold uv
  cases n with
  | zero => omega
  | succ n =>
    conv => lhs; unfold uvF
    rw [if_neg (by omega), uvF_enough n ((n + 1) / 128) ((n + 1) / 128) (by omega) (Nat.le_refl _)]

theorem uv_pos (n : Nat) : 0 < (uv n).length := by
  by_cases h : n < 128
  · rw [uv_small h]; simp
  · rw [uv_big (by omega)]; simp

theorem uv_len : ∀ k n, n < 128 ^ (k + 1) → (uv n).length ≤ k + 1
  | 0, n, h => by rw [uv_small (by omega)]; simp
  | k + 1, n, h => by
    by_cases h1 : n < 128
    · rw [uv_small h1]; simp
    · rw [uv_big (by omega)]
      have := uv_len k (n / 128) (by rw [Nat.div_lt_iff_lt_mul (by omega)]; rw [Nat.pow_succ] at h; exact h)
      simp only [List.length_cons]
      omega

theorem uv_ten {n : Nat} (h : n < 18446744073709551616) : (uv n).length ≤ 10 := uv_len 9 n (by omega)

theorem uv_lt (n : Nat) : ∀ v ∈ uv n, v < 256 := by
  induction n using Nat.strongRecOn with
  | ind n ih =>
    intro v hv
    by_cases h : n < 128
    · rw [uv_small h] at hv
      simp at hv
      omega
    · rw [uv_big (by omega)] at hv
      rcases List.mem_cons.1 hv with hv | hv
      · omega
      · exact ih (n / 128) (by omega) v hv

/- Bytes of a number, the lowest first. -/
def fx (n k : Nat) : List Nat := (List.range k).map fun i => n / 256 ^ i % 256

theorem fx_len (n k : Nat) : (fx n k).length = k := by simp [fx]

theorem fx_lt (n k : Nat) : ∀ v ∈ fx n k, v < 256 := by
  intro v hv
  simp only [fx, List.mem_map] at hv
  obtain ⟨i, _, rfl⟩ := hv
  exact Nat.mod_lt _ (by omega)

theorem fx_succ (n k : Nat) : fx n (k + 1) = fx n k ++ [n / 256 ^ k % 256] := by simp [fx, List.range_succ]

theorem fx_four (n : Nat) : fx n 4 = [n % 256, n / 256 % 256, n / 65536 % 256, n / 16777216 % 256] := by
  simp [fx, List.range_succ]

theorem fx_eight (n : Nat) : fx (n % 4294967296) 4 ++ fx (n / 4294967296) 4 = fx n 8 := by
  rw [fx_four, fx_four]
  simp only [fx, List.range_succ, List.range_zero]
  simp
  omega

theorem fx_low (n : Nat) : fx (n % 4294967296) 4 = fx n 4 := by
  rw [fx_four, fx_four]
  simp
  omega

def le : List Nat → Nat
  | [] => 0
  | v :: l => v + 256 * le l

theorem le_fx : ∀ k n, n < 256 ^ k → le (fx n k) = n
  | 0, n, h => by simp [fx, le]; omega
  | k + 1, n, h => by
    have e : fx n (k + 1) = (n % 256) :: fx (n / 256) k := by
      unfold fx
      rw [List.range_succ_eq_map, List.map_cons, List.map_map]
      congr 1
      · simp
      · refine List.map_congr_left fun i _ => ?_
        simp only [Function.comp]
        rw [Nat.pow_succ', Nat.div_div_eq_div_mul]
    rw [e, le, le_fx k (n / 256) (by rw [Nat.div_lt_iff_lt_mul (by omega)]; rw [Nat.pow_succ] at h; exact h)]
    omega

theorem le_lt : ∀ l : List Nat, (∀ v ∈ l, v < 256) → le l < 256 ^ l.length
  | [], _ => by simp [le]
  | v :: l, h => by
    have h1 := le_lt l (fun x hx => h x (List.mem_cons_of_mem _ hx))
    have h2 := h v List.mem_cons_self
    simp only [le, List.length_cons, Nat.pow_succ]
    omega

theorem le_snoc : ∀ (l : List Nat) (v : Nat), le (l ++ [v]) = le l + v * 256 ^ l.length
  | [], v => by simp [le]
  | x :: l, v => by
    simp only [List.cons_append, le, le_snoc l v, List.length_cons, Nat.pow_succ]
    have : 256 * (v * 256 ^ l.length) = v * (256 ^ l.length * 256) := by
      rw [← Nat.mul_assoc, Nat.mul_comm 256 v, Nat.mul_assoc, Nat.mul_comm 256 (256 ^ _)]
    omega

theorem le_take_succ (l : List Nat) (k : Nat) (h : k < l.length) : le (l.take (k + 1)) = le (l.take k) + l.getD k 0 * 256 ^ k := by
  rw [List.take_add_one, List.getElem?_eq_getElem h]
  simp only [Option.toList_some]
  rw [le_snoc, List.length_take, Nat.min_eq_left (by omega)]
  simp [List.getD, h]

/- Numbers with sign. -/
def zz (n : Int) : Nat := if n < 0 then (-(2 * n) - 1).toNat else (2 * n).toNat
def unzz (n : Nat) : Int := if n % 2 = 1 then -((n / 2 : Nat) : Int) - 1 else ((n / 2 : Nat) : Int)

theorem unzz_zz (n : Int) : unzz (zz n) = n := by
  unfold zz unzz
  split <;> split <;> omega

theorem zz_unzz (n : Nat) : zz (unzz n) = n := by
  unfold zz unzz
  split <;> split <;> omega

theorem zz_lt {n : Int} (h1 : -9223372036854775808 ≤ n) (h2 : n ≤ 9223372036854775807) : zz n < 18446744073709551616 := by
  unfold zz
  split <;> omega

/- The number that bytes begin with, and how many of them it has. -/
def leadF : List Nat → Nat → Nat → Option (Nat × Nat)
  | [], _, _ => none
  | v :: l, i, n => if 10 ≤ i then none else if 128 ≤ v then leadF l (i + 1) (n + (v - 128) * 128 ^ i) else if (0 < i ∧ v = 0) ∨ (i = 9 ∧ 1 < v) then none else some (n + v * 128 ^ i, i + 1)

def lead (l : List Nat) : Option (Nat × Nat) := leadF l 0 0

theorem leadF_ten (l : List Nat) (i n : Nat) (h : 10 ≤ i) : leadF l i n = none := by
  cases l with
  | nil => rfl
  | cons v l => rw [leadF, if_pos h]

theorem leadF_uv (r : List Nat) (N : Nat) : ∀ i acc, acc + N * 128 ^ i < 18446744073709551616 → i ≤ 9 → (i = 0 ∨ N ≠ 0) → leadF (uv N ++ r) i acc = some (acc + N * 128 ^ i, i + (uv N).length) := by
  induction N using Nat.strongRecOn with
  | ind N ih =>
    intro i acc h hi h0
    by_cases hN : N < 128
    · rw [uv_small hN]
      simp only [List.cons_append, List.nil_append, List.length_cons, List.length_nil]
      rw [leadF, if_neg (by omega), if_neg (by omega), if_neg]
      rintro (⟨h1, h2⟩ | ⟨h1, h2⟩)
      · omega
      · subst h1
        omega
    · rw [uv_big (by omega)]
      simp only [List.cons_append, List.length_cons]
      have hp : 128 * 128 ^ i ≤ N * 128 ^ i := Nat.mul_le_mul_right _ (by omega)
      have hi9 : i + 1 ≤ 9 := by
        by_cases e : i = 9
        · subst e; omega
        · omega
      have e : N * 128 ^ i = N % 128 * 128 ^ i + N / 128 * 128 ^ (i + 1) := by
        rw [Nat.pow_succ, Nat.mul_comm (128 ^ i) 128, ← Nat.mul_assoc, ← Nat.add_mul]
        congr 1
        omega
      rw [leadF, if_neg (by omega), if_pos (by omega), Nat.add_sub_cancel, ih (N / 128) (by omega) (i + 1) _ (by omega) hi9 (by omega)]
      congr 2 <;> omega

theorem lead_uv {n : Nat} (h : n < 18446744073709551616) (r : List Nat) : lead (uv n ++ r) = some (n, (uv n).length) := by
  have := leadF_uv r n 0 0 (by omega) (by omega) (.inl rfl)
  unfold lead
  simpa using this

theorem leadF_canon : ∀ (l : List Nat) (i acc n k : Nat), (∀ v ∈ l, v < 256) → acc < 128 ^ i → leadF l i acc = some (n, k) →
    ∃ N, n = acc + N * 128 ^ i ∧ k = i + (uv N).length ∧ l.take (uv N).length = uv N ∧ (uv N).length ≤ l.length ∧ n < 18446744073709551616 ∧ (0 < i → N ≠ 0)
  | [], _, _, _, _, _, _, h => by cases h
  | v :: l, i, acc, n, k, hl, ha, h => by
    have hv := hl v List.mem_cons_self
    rw [leadF] at h
    by_cases h10 : 10 ≤ i
    · rw [if_pos h10] at h; cases h
    · rw [if_neg h10] at h
      by_cases h128 : 128 ≤ v
      · rw [if_pos h128] at h
        have hacc : acc + (v - 128) * 128 ^ i < 128 ^ (i + 1) := by
          have : (v - 128) * 128 ^ i ≤ 127 * 128 ^ i := Nat.mul_le_mul_right _ (by omega)
          rw [Nat.pow_succ]
          omega
        obtain ⟨N, h1, h2, h3, h4, h5, h6⟩ := leadF_canon l (i + 1) _ n k (fun x hx => hl x (List.mem_cons_of_mem _ hx)) hacc h
        have hN : N ≠ 0 := h6 (by omega)
        have e : uv (N * 128 + (v - 128)) = v :: uv N := by
          rw [uv_big (by omega)]
          congr 1
          · omega
          · congr 1; omega
        refine ⟨N * 128 + (v - 128), ?_, by rw [e, h2]; simp; omega, by rw [e]; simp [h3], by rw [e]; simp; omega, h5, fun _ => by omega⟩
        rw [h1, Nat.add_mul, Nat.mul_assoc, ← Nat.pow_succ', Nat.add_comm (N * _), ← Nat.add_assoc]
      · rw [if_neg h128] at h
        by_cases hc : (0 < i ∧ v = 0) ∨ (i = 9 ∧ 1 < v)
        · rw [if_pos hc] at h; cases h
        · rw [if_neg hc] at h
          injection h with h
          injection h with h1 h2
          have e : uv v = [v] := uv_small (by omega)
          refine ⟨v, h1.symm, by rw [e, ← h2]; simp, by rw [e]; simp, by rw [e]; simp, ?_, fun h0 hv0 => hc (.inl ⟨h0, hv0⟩)⟩
          rw [← h1]
          by_cases h9 : i = 9
          · subst h9
            have : v ≤ 1 := by omega
            omega
          · have hp : 128 ^ i ≤ 128 ^ 8 := Nat.pow_le_pow_right (by omega) (by omega)
            have : v * 128 ^ i ≤ 127 * 128 ^ i := Nat.mul_le_mul_right _ (by omega)
            omega

theorem lead_canon {l : List Nat} {n k : Nat} (hl : ∀ v ∈ l, v < 256) (h : lead l = some (n, k)) : l.take k = uv n ∧ k = (uv n).length ∧ k ≤ l.length ∧ n < 18446744073709551616 := by
  obtain ⟨N, h1, h2, h3, h4, h5, _⟩ := leadF_canon l 0 0 n k hl (by omega) h
  have e : n = N := by simpa using h1
  subst e
  rw [Nat.zero_add] at h2
  exact ⟨by rw [h2]; exact h3, h2, by omega, h5⟩

theorem lead_pos {l : List Nat} {n k : Nat} (hl : ∀ v ∈ l, v < 256) (h : lead l = some (n, k)) : 0 < k := by
  have := (lead_canon hl h).2.1
  have h2 := uv_pos n
  omega

/- A reader: what is behind the place, and what was wrong first. What it tells, what is then behind the place, what was wrong. -/
def rUv (l : List Nat) (e : Nat) : Nat × List Nat × Nat :=
  if e ≠ 0 then (0, l, e) else match lead l with | none => (0, l, 5) | some (n, k) => (n, l.drop k, 0)

def rFx (s : Nat) (l : List Nat) (e : Nat) : Nat × List Nat × Nat :=
  if e ≠ 0 then (0, l, e) else if l.length < s then (0, l, 5) else (le (l.take s), l.drop s, 0)

def rNum (most : Int) (l : List Nat) (e : Nat) : Nat × List Nat × Nat :=
  if e ≠ 0 then (0, l, e) else if (rUv l e).2.2 ≠ 0 then (0, (rUv l e).2.1, (rUv l e).2.2) else if most < 0 ∨ most < ((rUv l e).1 : Int) then (0, l, 3) else rUv l e

def rBy (most : Int) (l : List Nat) (e : Nat) : List Nat × List Nat × Nat :=
  if e ≠ 0 then ([], l, e) else if (rNum most l e).2.2 ≠ 0 then ([], (rNum most l e).2.1, (rNum most l e).2.2)
  else if (rNum most l e).2.1.length < (rNum most l e).1 then ([], l, 5) else ((rNum most l e).2.1.take (rNum most l e).1, (rNum most l e).2.1.drop (rNum most l e).1, 0)

def rDone (l : List Nat) (e : Nat) : Nat := if e ≠ 0 then e else if 0 < l.length then 5 else 0

theorem rUv_bad {l : List Nat} {e : Nat} (h : e ≠ 0) : rUv l e = (0, l, e) := by unfold rUv; rw [if_pos h]
theorem rUv_no {l : List Nat} (h : lead l = none) : rUv l 0 = (0, l, 5) := by unfold rUv; rw [if_neg (by omega), h]
theorem rUv_yes {l : List Nat} {n k : Nat} (h : lead l = some (n, k)) : rUv l 0 = (n, l.drop k, 0) := by unfold rUv; rw [if_neg (by omega), h]

theorem rUv_lt (l : List Nat) (e : Nat) (hl : ∀ v ∈ l, v < 256) : (rUv l e).1 < 18446744073709551616 := by
  by_cases h : e = 0
  · subst h
    cases h2 : lead l with
    | none => rw [rUv_no h2]; show 0 < _; omega
    | some q => obtain ⟨n, k⟩ := q; rw [rUv_yes h2]; exact (lead_canon hl h2).2.2.2
  · rw [rUv_bad h]; show 0 < _; omega

/- Where the place is: what is left is what was left, but for some at its beginning. -/
theorem rUv_drop (l : List Nat) (e : Nat) : ∃ k, (rUv l e).2.1 = l.drop k := by
  by_cases h : e = 0
  · subst h
    cases h2 : lead l with
    | none => rw [rUv_no h2]; exact ⟨0, rfl⟩
    | some q => obtain ⟨n, k⟩ := q; rw [rUv_yes h2]; exact ⟨k, rfl⟩
  · rw [rUv_bad h]; exact ⟨0, rfl⟩

end Go.Proofs.Ytdbahebhodoooaa.Wi

/-
  Lists of bytes, and readers, as they lie in memory, and what stores, new blocks and draws make of them.
  Conditions: none.
-/
namespace Go.Proofs.Ytdbahebhodoooaa
open Go.RowKit Wi By
set_option linter.unusedVariables false
set_option linter.unusedSimpArgs false
set_option maxRecDepth 100000

def gl (l : List Nat) (i : Nat) : Nat := l.getD i 0

theorem gl_lt {l : List Nat} (h : ∀ v ∈ l, v < 256) (i : Nat) : gl l i < 256 := by
  unfold gl
  by_cases hi : i < l.length
  · have := h l[i] (List.getElem_mem hi)
    simpa [hi] using this
  · simp [Nat.le_of_not_lt hi]

theorem gl_append (l k : List Nat) (i : Nat) : gl (l ++ k) i = if i < l.length then gl l i else gl k (i - l.length) := by
  unfold gl
  split
  · rename_i h; simp [List.getD, List.getElem?_append_left h]
  · rename_i h; simp [List.getD, List.getElem?_append_right (Nat.le_of_not_lt h)]

theorem gl_drop (l : List Nat) (k i : Nat) : gl (l.drop k) i = gl l (k + i) := by simp [gl, List.getD, List.getElem?_drop]

theorem gl_take (l : List Nat) {k i : Nat} (h : i < k) : gl (l.take k) i = gl l i := by simp [gl, List.getD, List.getElem?_take, h]

def cellsL (l : List Nat) : List Value := l.map fun (n : Nat) => Value.int .u8 (n : Int)

theorem bytesOf_gl (l : List Nat) : bytesOf (gl l) l.length = cellsL l := by
  apply List.ext_getElem?
  intro i
  by_cases hi : i < l.length
  · simp [bytesOf, cellsL, gl, hi]
  · simp [bytesOf, cellsL, hi]

structure Sl (w : World) (x : Option Addr) (n c : Nat) (l : List Nat) : Prop where
  len : l.length = n
  le : n ≤ c
  nil : x = none → c = 0
  row : RowAt w x n (gl l)
  lt : ∀ v ∈ l, v < 256

theorem Sl.below {w w' : World} {x : Option Addr} {n c : Nat} {l : List Nat} (h : Sl w x n c l) (hb : Below w.heap.size w w') : Sl w' x n c l := ⟨h.len, h.le, h.nil, h.row.below hb, h.lt⟩

theorem wrow_heap {w v : World} {x : Option Addr} {n : Nat} {f : Nat → Nat} (h : RowAt w x n f) (e : v.heap = w.heap) : RowAt v x n f := by
  rcases h with h | ⟨b, o, h1, h2, h3⟩
  · exact .inl h
  · refine .inr ⟨b, o, h1, by rw [e]; exact h2, fun i hi => ?_⟩
    rw [← h3 i hi]
    exact World.cell?_of_block (by rw [e])

theorem Sl.empty (w : World) : Sl w none 0 0 [] := ⟨rfl, Nat.le_refl _, fun _ => rfl, .inl rfl, fun v hv => by cases hv⟩

theorem Sl.heap {w v : World} {x : Option Addr} {n c : Nat} {l : List Nat} (h : Sl w x n c l) (e : v.heap = w.heap) : Sl v x n c l := ⟨h.len, h.le, h.nil, wrow_heap h.row e, h.lt⟩

theorem Sl.nil' {w : World} {x : Option Addr} {n c : Nat} {l : List Nat} (h : Sl w x n c l) : x = Option.none → n = 0 ∧ c = 0 := fun e => by
  have := h.nil e
  have := h.le
  omega

theorem Sl.of_in {w : World} {x : Option Addr} {n c : Nat} {f : Nat → Nat} (h : BytesIn w x n c f) : Sl w x n c ((List.range n).map f) := by
  refine ⟨by simp, h.le, fun e => (h.nil e).2, h.row.congr fun i hi => by simp [gl, hi], fun v hv => ?_⟩
  simp only [List.mem_map] at hv
  obtain ⟨i, _, rfl⟩ := hv
  exact h.lt i

theorem wcell_of_heap {w : World} {g i : Nat} {L : List Value} {t : TypeId} {p : Nat × Nat} (h : w.heap[g]? = some (.cells L.toArray t p)) : w.cell? ⟨g, i, none⟩ = L[i]? := by
  simp [World.cell?, h]

theorem frozen_new (w : World) (cs : Array Value) (t : TypeId) (j : Nat) : (w.alloc (.cells cs t)).frozen? ⟨w.heap.size, j, none⟩ = false := by
  unfold World.frozen?
  rw [heap_alloc_new]
  simp

/- A row of one's own. -/
def OwnL (w : World) (base : Nat) (v : Value) (l : List Nat) : Prop := w.ownsRow base 5 1 v l.length (cellsL l)

theorem OwnL.start (w : World) (base : Nat) : OwnL w base (.slice none 0 0) [] := ⟨rfl, .inl ⟨rfl, rfl⟩⟩

theorem OwnL.sl {w : World} {base : Nat} {v : Value} {l : List Nat} (h : OwnL w base v l) (hl : ∀ u ∈ l, u < 256) :
    ∃ x c, v = .slice x l.length c ∧ Sl w x l.length c l ∧ ∀ a, x = some a → base ≤ a.block ∧ a.block < w.heap.size := by
  by_cases hv : v = .slice none 0 0
  · subst hv
    rcases h.2 with ⟨_, h0⟩ | ⟨g, c, cur, h1, _⟩
    · have : l = [] := List.eq_nil_of_length_eq_zero h0
      subst this
      exact ⟨none, 0, rfl, Sl.empty w, fun a ha => by cases ha⟩
    · cases h1
  · have h' := h
    unfold OwnL at h'
    rw [← bytesOf_gl] at h'
    obtain ⟨g, c, rfl, h1, h2, h3, _, h4⟩ := own_rowAt h' hv
    refine ⟨some ⟨g, 0, none⟩, c, rfl, ⟨rfl, h3, (fun e => by cases e), h4, hl⟩, fun a ha => ?_⟩
    cases ha
    exact ⟨h1, h2⟩

theorem OwnL.mono {w : World} {B base : Nat} {v : Value} {l : List Nat} (h : OwnL w base v l) (hB : B ≤ base) : OwnL w B v l := by
  refine ⟨h.1, ?_⟩
  rcases h.2 with h0 | ⟨g, c, cur, h1, h2, h3⟩
  · exact .inl h0
  · exact .inr ⟨g, c, cur, h1, Nat.le_trans hB h2, h3⟩

theorem OwnL.alloc {w : World} {base : Nat} {v : Value} {l : List Nat} (h : OwnL w base v l) (ob : Obj) : OwnL (w.alloc ob) base v l := World.ownsRow.alloc h ob

theorem OwnL.below {w w' : World} {base : Nat} {v : Value} {l : List Nat} (h : OwnL w base v l) (hb : Below w.heap.size w w') : OwnL w' base v l :=
  World.ownsRow.kept (row := none) h ⟨hb.os, hb.tape, hb.output, hb.size, fun i hi _ => hb.block i hi⟩ (by
    cases hv : v.ownBlock with
    | none => exact .inl rfl
    | some x => exact .inr (by simp))

theorem push_list (w w0 : World) (base : Nat) (R : Value) (l : List Nat) (hown : OwnL w base R l) (hb : base ≤ w.heap.size) (h0 : Below base w0 w)
    (x : Option Addr) (m c : Nat) (k : List Nat) (hk : Sl w x m c k) (hs : l.length + m ≤ 140737488355328) :
    ∃ R' w', (Builtin.append_ #[35, 35] 35 #[R, .slice x m c]).run Try.prog w = .ok R' w' ∧ OwnL w' base R' (l ++ k) ∧ Below base w0 w' := by
  have hown' : w.ownsRow base 5 1 R l.length (bytesOf (gl l) l.length) := by rw [bytesOf_gl]; exact hown
  obtain ⟨R', w', h1, h2, h3, _⟩ := push_row w w0 base R l.length (gl l) hown' hb h0 x m c (gl k) hk.nil' hk.row hs
  refine ⟨R', w', h1, ?_, h3⟩
  have e : bytesOf (fun i => if i < l.length then gl l i else gl k (i - l.length)) (l.length + m) = cellsL (l ++ k) := by
    rw [← bytesOf_gl, List.length_append, hk.len]
    exact List.map_congr_left fun i _ => by rw [gl_append]
  rw [e] at h2
  unfold OwnL
  rw [List.length_append, hk.len]
  exact h2

/- One byte more. -/
theorem push_one (w w0 : World) (base : Nat) (R : Value) (l : List Nat) (v : Nat) (hv : v < 256) (hown : OwnL w base R l) (hb : base ≤ w.heap.size) (h0 : Below base w0 w) (hs : l.length ≤ 1000) :
    ∃ R' w', (Builtin.append_ #[35, 35] 35 #[R, .slice (some ⟨w.heap.size, 0, none⟩) 1 1]).run Try.prog (w.alloc (.cells #[.int .u8 (v : Int)] 5)) = .ok R' w' ∧ OwnL w' base R' (l ++ [v]) ∧ Below base w0 w' := by
  refine push_list _ w0 base R l (hown.alloc _) (by simp; omega) (h0.alloc hb _) _ 1 1 [v] ⟨rfl, Nat.le_refl _, (fun e => by cases e), ?_, fun u hu => by simp at hu; omega⟩ (by omega)
  refine .inr ⟨w.heap.size, 0, rfl, by simp, fun i hi => ?_⟩
  obtain rfl : i = 0 := by omega
  simp [gl]

/- Behind a list that is cut off at its end there is no room. -/
theorem push_cut (w : World) (x : Option Addr) (n : Nat) (l : List Nat) (c : Nat) (hl : Sl w x n c l) (y : Option Addr) (m d : Nat) (k : List Nat) (hk : Sl w y m d k) (hm : 0 < m) (hs : n + m ≤ 140737488355328) :
    ∃ R' w', (Builtin.append_ #[35, 35] 35 #[.slice x n n, .slice y m d]).run Try.prog w = .ok R' w' ∧ OwnL w' w.heap.size R' (l ++ k) ∧ Below w.heap.size w w' := by
  cases x with
  | none =>
    have h0 := hl.nil' rfl
    have hn := h0.1
    subst hn
    have hl0 : l = [] := List.eq_nil_of_length_eq_zero hl.len
    subst hl0
    exact push_list w w w.heap.size (.slice none 0 0) [] (OwnL.start w _) (Nat.le_refl _) (Below.refl _ _) y m d k hk (by simp; omega)
  | some a =>
    obtain ⟨i0, hi, hz0, hz1, hz2⟩ := info_parts info_byte
    rcases hk.row with hk0 | ⟨b, o, rfl, _, hkc⟩
    · omega
    obtain ⟨R', w', h1, h2, h3⟩ := run_append_arg_grows (P := Try.prog) w 35 35 5 i0 (.int .u8 0) 1 1 Try.underlying35 hi hz0 hz1 hz2 rfl (by decide) a n n (cellsL l) (by simp [cellsL, hl.len])
      (fun j u hj => by
        have hjn : j < n := by
          have := (List.getElem?_eq_some_iff.1 hj).1
          simpa [cellsL, hl.len] using this
        have e : u = .int .u8 (gl l j : Int) := by simp [cellsL] at hj; obtain ⟨q, hq, rfl⟩ := hj; simp [gl, hq]
        rcases hl.row with h0 | ⟨b', o', ha, _, hc⟩
        · omega
        · injection ha with ha
          subst ha
          rw [e, add_at]
          exact hc j hjn)
      ⟨b, o, none⟩ m d (cellsL k) (by simp [cellsL, hk.len])
      (fun j u hj => by
        have hjn : j < m := by
          have := (List.getElem?_eq_some_iff.1 hj).1
          simpa [cellsL, hk.len] using this
        have e : u = .int .u8 (gl k j : Int) := by simp [cellsL] at hj; obtain ⟨q, hq, rfl⟩ := hj; simp [gl, hq]
        rw [e, add_at]
        exact hkc j hjn) (by omega) (by unfold maxLen; omega) (by omega)
    refine ⟨R', w', h1, ?_, ⟨h3.os, h3.tape, h3.output, h3.size, fun q hq => h3.block q hq (by simp)⟩⟩
    unfold OwnL
    rw [List.length_append, hl.len, hk.len]
    simpa [cellsL] using h2

/- Cut lists. -/
theorem welem_row : Try.prog.underlying 35 = some (.slice (Try.prog.elem 35)) := by kernel_rfl
theorem welem_is : Try.prog.elem 35 = 5 := by kernel_rfl
theorem wsize_byte (w : World) : (sizeOf 5).run Try.prog w = .ok 1 w := by kernel_rfl

theorem cut_end (x : Option Addr) (n c : Nat) (w : World) (h : n ≤ c) :
    (Instr.slice 35 (.slice x n c) none (some (.int .i64 (n : Int))) (some (.int .i64 (n : Int)))).run Try.prog w = .ok (.slice x n n) w := by
  rw [run_slice_hm w 35 _ _ _ welem_row .i64 .i64 (n : Int) (n : Int) (by omega) (by omega) (by omega), welem_is, wsize_byte]
  simp only [Result.andThen, sliced, Int.toNat_natCast, Nat.zero_mul, Nat.sub_zero]
  have : (if n = 0 then x else x.map (·.add 0)) = x := by
    split
    · rfl
    · cases x with
      | none => rfl
      | some a => simp [Addr.add]
  rw [this]

theorem cut_head (x : Option Addr) (n c m : Nat) (w : World) (h : m ≤ c) :
    (Instr.slice 35 (.slice x n c) none (some (.int .i64 (m : Int))) none).run Try.prog w = .ok (.slice x m c) w := by
  rw [run_slice_h w 35 _ _ _ welem_row .i64 (m : Int) (by omega) (by omega), welem_is, wsize_byte]
  simp only [Result.andThen, sliced, Int.toNat_natCast, Nat.zero_mul, Nat.sub_zero]
  have : (if c = 0 then x else x.map (·.add 0)) = x := by
    split
    · rfl
    · cases x with
      | none => rfl
      | some a => simp [Addr.add]
  rw [this]

theorem Sl.head {w : World} {x : Option Addr} {n c : Nat} {l : List Nat} (h : Sl w x n c l) (m : Nat) (hm : m ≤ n) : Sl w x m c (l.take m) :=
  ⟨by rw [List.length_take, h.len]; omega, Nat.le_trans hm h.le, h.nil, (h.row.take hm).congr fun i hi => (gl_take l hi).symm, fun v hv => h.lt v (List.mem_of_mem_take hv)⟩

def cutTo (x : Option Addr) (c k : Nat) : Option Addr := if c = k then x else x.map (·.add k)

theorem wcut_from (x : Option Addr) (n c k : Nat) (w : World) (h : k ≤ n) :
    (Instr.slice 35 (.slice x n c) (some (.int .i64 (k : Int))) none none).run Try.prog w = .ok (.slice (cutTo x c k) (n - k) (c - k)) w := by
  rw [run_slice_l w 35 _ _ _ welem_row .i64 (k : Int) (by omega) (by omega), welem_is, wsize_byte]
  simp only [Result.andThen, sliced, Int.toNat_natCast, Nat.mul_one]
  rfl

theorem cutTo_block {x : Option Addr} {c k : Nat} {a : Addr} (h : cutTo x c k = some a) : ∃ a', x = some a' ∧ a'.block = a.block := by
  unfold cutTo at h
  split at h
  · exact ⟨a, h, rfl⟩
  · cases x with
    | none => cases h
    | some a' =>
      simp at h
      refine ⟨a', rfl, ?_⟩
      rw [← h]
      unfold Addr.add
      split <;> rfl

theorem Sl.from {w : World} {x : Option Addr} {n c : Nat} {l : List Nat} (h : Sl w x n c l) (k : Nat) (hk : k ≤ n) : Sl w (cutTo x c k) (n - k) (c - k) (l.drop k) := by
  have hle := h.le
  refine ⟨by rw [List.length_drop, h.len], by omega, fun e => ?_, ?_, fun v hv => h.lt v (List.mem_of_mem_drop hv)⟩
  · unfold cutTo at e
    split at e
    · omega
    · cases x with
      | none => have := h.nil rfl; omega
      | some a => cases e
  · by_cases h0 : n - k = 0
    · exact .inl h0
    · rcases h.row with hr | ⟨b, o, rfl, hb, hc⟩
      · omega
      · refine .inr ⟨b, o + k, ?_, hb, fun i hi => ?_⟩
        · unfold cutTo
          rw [if_neg (by omega)]
          simp [add_at]
        · rw [gl_drop, Nat.add_assoc]
          exact hc (k + i) (by omega)

/- One block alone is written. -/
structure Turn (g : Nat) (w w' : World) : Prop where
  os : w'.os = w.os
  tape : w'.tape = w.tape
  output : w'.output = w.output
  size : w.heap.size ≤ w'.heap.size
  block : ∀ k, k < w.heap.size → k ≠ g → w'.heap[k]? = w.heap[k]?

theorem Turn.refl (g : Nat) (w : World) : Turn g w w := ⟨rfl, rfl, rfl, Nat.le_refl _, fun _ _ _ => rfl⟩

theorem Turn.trans {g : Nat} {a b c : World} (h : Turn g a b) (k : Turn g b c) : Turn g a c :=
  ⟨k.os.trans h.os, k.tape.trans h.tape, k.output.trans h.output, Nat.le_trans h.size k.size, fun i hi hg => (k.block i (Nat.lt_of_lt_of_le hi h.size) hg).trans (h.block i hi hg)⟩

theorem Turn.of_below {g : Nat} {w w' : World} (h : Below w.heap.size w w') : Turn g w w' := ⟨h.os, h.tape, h.output, h.size, fun k hk _ => h.block k hk⟩

theorem Turn.drewN {g : Nat} {a w : World} (h : Turn g a w) (n : Nat) : Turn g a (w.drewN n) := ⟨h.os, h.tape, h.output, h.size, h.block⟩
theorem Turn.drew {g : Nat} {a w : World} (h : Turn g a w) : Turn g a w.drew := ⟨h.os, h.tape, h.output, h.size, h.block⟩

theorem Turn.setCell {g : Nat} {a w : World} (h : Turn g a w) {p : Addr} (hp : p.block = g) (u : Value) : Turn g a (w.setCell p u) :=
  h.trans ⟨rfl, rfl, rfl, by simp [World.setCell], fun k _ hk => Below.heap_setCell _ _ _ _ (by rw [hp]; exact hk)⟩

theorem Turn.below {g base : Nat} {w w' : World} (h : Turn g w w') (hg : base ≤ g) (hs : base ≤ w.heap.size) : Below base w w' :=
  ⟨h.os, h.tape, h.output, h.size, fun k hk => h.block k (by omega) (by omega)⟩

theorem Turn.cell {g : Nat} {w w' : World} (h : Turn g w w') {p : Addr} (hp : p.block ≠ g) (hs : p.block < w.heap.size) : w'.cell? p = w.cell? p := World.cell?_of_block (w := w) (h.block p.block hs hp)

theorem Turn.frozen {g : Nat} {w w' : World} (h : Turn g w w') {p : Addr} (hp : p.block ≠ g) (hs : p.block < w.heap.size) : w'.frozen? p = w.frozen? p := World.frozen?_of_block (w := w) (h.block p.block hs hp)

theorem Sl.turn {w w' : World} {x : Option Addr} {n c : Nat} {l : List Nat} {g : Nat} (h : Sl w x n c l) (t : Turn g w w') (ha : ∀ a, x = some a → a.block ≠ g) : Sl w' x n c l := by
  refine ⟨h.len, h.le, h.nil, ?_, h.lt⟩
  rcases h.row with h0 | ⟨b, o, hx, hb, hc⟩
  · exact .inl h0
  · exact .inr ⟨b, o, hx, Nat.lt_of_lt_of_le hb t.size, fun i hi => (t.cell (p := ⟨b, o + i, none⟩) (ha ⟨b, o, none⟩ hx) hb).trans (hc i hi)⟩

theorem Sl.turn0 {w w' : World} {x : Option Addr} {n c : Nat} {l : List Nat} {g : Nat} (h : Sl w x n c l) (t : Turn g w w') (ha : n ≠ 0 → ∀ a, x = some a → a.block ≠ g) : Sl w' x n c l := by
  by_cases h0 : n = 0
  · exact ⟨h.len, h.le, h.nil, .inl h0, h.lt⟩
  · exact h.turn t (ha h0)

/- The program's reader at block p: what is behind the place, what was wrong. -/
structure PRd (w : World) (p : Nat) (x : Option Addr) (n c : Nat) (l : List Nat) (e : Nat) : Prop where
  rest : w.cell? ⟨p, 0, none⟩ = some (.slice x n c)
  wrong : w.cell? ⟨p, 1, none⟩ = some (.int .i64 (e : Int))
  fr : ∀ j, w.frozen? ⟨p, j, none⟩ = false
  sl : Sl w x n c l
  ap : ∀ a, x = some a → a.block ≠ p
  small : n ≤ 140737488355328

theorem PRd.lt {w : World} {p : Nat} {x : Option Addr} {n c : Nat} {l : List Nat} {e : Nat} (h : PRd w p x n c l e) : p < w.heap.size := cell_lt' h.rest

theorem PRd.setRest {w : World} {p : Nat} {x : Option Addr} {n c : Nat} {l : List Nat} {e : Nat} (h : PRd w p x n c l e) {x' : Option Addr} {n' c' : Nat} {l' : List Nat} (hs : Sl w x' n' c' l') (ha : ∀ a, x' = some a → a.block ≠ p) (hc : n' ≤ 140737488355328) :
    PRd (w.setCell ⟨p, 0, none⟩ (.slice x' n' c')) p x' n' c' l' e :=
  ⟨World.cell?_setCell_same _ _ _ h.rest, (World.cell?_setCell_other _ _ _ _ (fun h => by injection h with _ h2 _; cases h2)).trans h.wrong, fun j => by simpa using h.fr j,
    hs.turn ((Turn.refl p w).setCell rfl _) ha, ha, hc⟩

theorem PRd.setWrong {w : World} {p : Nat} {x : Option Addr} {n c : Nat} {l : List Nat} {e : Nat} (h : PRd w p x n c l e) (e' : Nat) :
    PRd (w.setCell ⟨p, 1, none⟩ (.int .i64 (e' : Int))) p x n c l e' :=
  ⟨(World.cell?_setCell_other _ _ _ _ (fun h => by injection h with _ h2 _; cases h2)).trans h.rest, World.cell?_setCell_same _ _ _ h.wrong, fun j => by simpa using h.fr j,
    h.sl.turn ((Turn.refl p w).setCell rfl _) h.ap, h.ap, h.small⟩

theorem PRd.turn {w w' : World} {p q : Nat} {x : Option Addr} {n c : Nat} {l : List Nat} {e : Nat} (h : PRd w p x n c l e) (t : Turn q w w') (hp : p ≠ q) (ha : ∀ a, x = some a → a.block ≠ q) : PRd w' p x n c l e :=
  ⟨(t.cell hp h.lt).trans h.rest, (t.cell hp h.lt).trans h.wrong, fun j => (t.frozen hp h.lt).trans (h.fr j), h.sl.turn t ha, h.ap, h.small⟩

theorem PRd.below {w w' : World} {p : Nat} {x : Option Addr} {n c : Nat} {l : List Nat} {e : Nat} (h : PRd w p x n c l e) (b : Below w.heap.size w w') : PRd w' p x n c l e :=
  ⟨(b.cell h.lt).trans h.rest, (b.cell h.lt).trans h.wrong, fun j => (World.frozen?_of_block (w := w) (b.block p h.lt)).trans (h.fr j), h.sl.below b, h.ap, h.small⟩

/- The document's reader at block q: the bytes, the place, what was wrong. -/
structure RRd (w : World) (q : Nat) (x : Option Addr) (n c : Nat) (L : List Nat) (t : Nat) (e : Nat) : Prop where
  bytes : w.cell? ⟨q, 0, none⟩ = some (.slice x n c)
  place : w.cell? ⟨q, 1, none⟩ = some (.int .i64 (t : Int))
  bad : w.cell? ⟨q, 2, none⟩ = some (.int .i64 (e : Int))
  fr : ∀ j, w.frozen? ⟨q, j, none⟩ = false
  sl : Sl w x n c L
  ap : n ≠ 0 → ∀ a, x = some a → a.block ≠ q
  le : t ≤ n
  small : n ≤ 140737488355328

theorem RRd.lt {w : World} {q : Nat} {x : Option Addr} {n c : Nat} {L : List Nat} {t e : Nat} (h : RRd w q x n c L t e) : q < w.heap.size := cell_lt' h.bytes

theorem RRd.setPlace {w : World} {q : Nat} {x : Option Addr} {n c : Nat} {L : List Nat} {t e : Nat} (h : RRd w q x n c L t e) (t' : Nat) (ht : t' ≤ n) :
    RRd (w.setCell ⟨q, 1, none⟩ (.int .i64 (t' : Int))) q x n c L t' e :=
  ⟨(World.cell?_setCell_other _ _ _ _ (fun h => by injection h with _ h2 _; cases h2)).trans h.bytes, World.cell?_setCell_same _ _ _ h.place, (World.cell?_setCell_other _ _ _ _ (fun h => by injection h with _ h2 _; cases h2)).trans h.bad, fun j => by simpa using h.fr j,
    h.sl.turn0 ((Turn.refl q w).setCell rfl _) h.ap, h.ap, ht, h.small⟩

theorem RRd.setBad {w : World} {q : Nat} {x : Option Addr} {n c : Nat} {L : List Nat} {t e : Nat} (h : RRd w q x n c L t e) (e' : Nat) :
    RRd (w.setCell ⟨q, 2, none⟩ (.int .i64 (e' : Int))) q x n c L t e' :=
  ⟨(World.cell?_setCell_other _ _ _ _ (fun h => by injection h with _ h2 _; cases h2)).trans h.bytes, (World.cell?_setCell_other _ _ _ _ (fun h => by injection h with _ h2 _; cases h2)).trans h.place, World.cell?_setCell_same _ _ _ h.bad, fun j => by simpa using h.fr j,
    h.sl.turn0 ((Turn.refl q w).setCell rfl _) h.ap, h.ap, h.le, h.small⟩

theorem RRd.turn {w w' : World} {p q : Nat} {x : Option Addr} {n c : Nat} {L : List Nat} {t e : Nat} (h : RRd w q x n c L t e) (k : Turn p w w') (hp : q ≠ p) (ha : ∀ a, x = some a → a.block ≠ p) : RRd w' q x n c L t e :=
  ⟨(k.cell hp h.lt).trans h.bytes, (k.cell hp h.lt).trans h.place, (k.cell hp h.lt).trans h.bad, fun j => (k.frozen hp h.lt).trans (h.fr j), h.sl.turn k ha, h.ap, h.le, h.small⟩

theorem RRd.turn0 {w w' : World} {p q : Nat} {x : Option Addr} {n c : Nat} {L : List Nat} {t e : Nat} (h : RRd w q x n c L t e) (k : Turn p w w') (hp : q ≠ p) (ha : n ≠ 0 → ∀ a, x = some a → a.block ≠ p) : RRd w' q x n c L t e :=
  ⟨(k.cell hp h.lt).trans h.bytes, (k.cell hp h.lt).trans h.place, (k.cell hp h.lt).trans h.bad, fun j => (k.frozen hp h.lt).trans (h.fr j), h.sl.turn0 k ha, h.ap, h.le, h.small⟩

theorem RRd.below {w w' : World} {q : Nat} {x : Option Addr} {n c : Nat} {L : List Nat} {t e : Nat} (h : RRd w q x n c L t e) (b : Below w.heap.size w w') : RRd w' q x n c L t e :=
  ⟨(b.cell h.lt).trans h.bytes, (b.cell h.lt).trans h.place, (b.cell h.lt).trans h.bad, fun j => (World.frozen?_of_block (w := w) (b.block q h.lt)).trans (h.fr j), h.sl.below b, h.ap, h.le, h.small⟩

end Go.Proofs.Ytdbahebhodoooaa

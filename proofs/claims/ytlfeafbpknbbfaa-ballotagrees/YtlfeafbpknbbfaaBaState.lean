/-
  Acceptors and proposers as they lie in memory, side by side with what is known of them.
  Conditions: none.
-/
import Derived.Test.YtlfeafbpknbbfaaBaChosen2
import Derived.Test.YtlfeafbpknbbfaaBaPick
import Derived.Laws.MakeOwn
namespace Go.Proofs.Ytlfeafbpknbbfaa.Ba
open Go.RowKit By Fl
set_option linter.unusedVariables false
set_option linter.unusedSimpArgs false
set_option maxRecDepth 100000

/- Rows of things of five cells each, written one cell at a time. -/
structure Arr (w : World) (g : Nat) (t : TypeId) (n : Nat) (f : Nat → Nat → Value) : Prop where
  tb : Tb w g t
  cell : ∀ k j, k < n → j < 5 → w.cell? ⟨g, k * 5 + j, none⟩ = some (f k j)
  frz : ∀ i, w.frozen? ⟨g, i, none⟩ = false

theorem frozen_block {w w' : World} {g i : Nat} (h : w'.heap[g]? = w.heap[g]?) : w'.frozen? ⟨g, i, none⟩ = w.frozen? ⟨g, i, none⟩ := by
  unfold World.frozen?
  rw [h]

theorem tb_set {w : World} {g : Nat} {t : TypeId} (h : Tb w g t) (k : Nat) (p : Addr) (u : Value) : Tb (w.setCell p u) g t := by
  obtain ⟨cs, z, h⟩ := h
  by_cases e : g = p.block
  · subst e
    obtain ⟨h1, h2⟩ := Array.getElem?_eq_some_iff.1 h
    simp only [World.setCell]
    refine ⟨?_, ?_, ?_⟩
    rotate_left 2
    · rw [Array.getElem?_eq_getElem (by simpa using h1), Array.getElem_modify, if_pos rfl, h2]
    all_goals skip
  · exact ⟨cs, z, (Below.heap_setCell _ _ _ _ e).trans h⟩

section
variable {w w' : World} {g n : Nat} {t : TypeId} {f : Nat → Nat → Value}

theorem Arr.turns {G : Nat → Prop} (h : Arr w g t n f) (tt : Turns G w w') (hg : ¬ G g) : Arr w' g t n f :=
  ⟨h.tb.of_heap (tt.block g h.tb.lt hg), fun k j hk hj => keept tt hg (h.cell k j hk hj), fun i => (frozen_block (tt.block g h.tb.lt hg)).trans (h.frz i)⟩

theorem Arr.below (h : Arr w g t n f) (b : Below w.heap.size w w') : Arr w' g t n f := h.turns (Turns.of_below (F := fun _ => False) b) (fun h => h)

def set1 (f : Nat → Nat → Value) (k j : Nat) (u : Value) : Nat → Nat → Value := fun k' j' => if k' = k ∧ j' = j then u else f k' j'

theorem Arr.set (h : Arr w g t n f) (k j o : Nat) (hk : k < n) (hj : j < 5) (ho : o = k * 5 + j) (u : Value) : Arr (w.setCell ⟨g, o, none⟩ u) g t n (set1 f k j u) := by
  subst ho
  refine ⟨tb_set h.tb 0 _ _, fun k' j' hk' hj' => ?_, fun i => by rw [World.frozen?_setCell]; exact h.frz i⟩
  unfold set1
  by_cases e : k' = k ∧ j' = j
  · obtain ⟨rfl, rfl⟩ := e
    rw [if_pos ⟨rfl, rfl⟩]
    exact World.cell?_setCell_same _ _ _ (h.cell k' j' hk' hj')
  · rw [if_neg e]
    refine (World.cell?_setCell_other _ _ _ _ (fun e2 => e ?_)).trans (h.cell k' j' hk' hj')
    injection e2 with _ e2 _
    omega

theorem Arr.congr {f' : Nat → Nat → Value} (h : Arr w g t n f) (e : ∀ k j, k < n → j < 5 → f k j = f' k j) : Arr w g t n f' := ⟨h.tb, fun k j hk hj => (h.cell k j hk hj).trans (by rw [e k j hk hj]), h.frz⟩

end

/- A list of bytes that nobody writes. -/
structure Sv (w : World) (x : Option Addr) (n c : Nat) (d : List Nat) : Prop where
  sl : Sl w x n c d
  sm : n ≤ 140737488355328
  tb : ∀ a, x = some a → Tb w a.block 5

theorem Sv.turns {w w' : World} {G : Nat → Prop} {x : Option Addr} {n c : Nat} {d : List Nat} (h : Sv w x n c d) (t : Turns G w w') (hG : ∀ k, G k → ¬ Tb w k 5) : Sv w' x n c d :=
  ⟨h.sl.turns t (fun _ a ha hg => hG _ hg (h.tb a ha)), h.sm, fun a ha => (h.tb a ha).of_heap (t.block _ (h.tb a ha).lt (fun hg => hG _ hg (h.tb a ha)))⟩
theorem Sv.below {w w' : World} {x : Option Addr} {n c : Nat} {d : List Nat} (h : Sv w x n c d) (b : Below w.heap.size w w') : Sv w' x n c d := h.turns (Turns.of_below (F := fun _ => False) b) (fun _ h => h.elim)
theorem Sv.nil (w : World) : Sv w none 0 0 [] := ⟨Sl.empty w, by omega, fun a ha => by cases ha⟩
theorem Vl.sv {w w' : World} {x : Option Addr} {n c : Nat} {d : List Nat} (h : Vl w w' x n c d) (hn : n ≤ 140737488355328) : Sv w' x n c d := ⟨h.2.1, hn, fun a ha => (h.2.2 a ha).2⟩

/- Who promised: a map from numbers to acceptors. -/
def hva (v : Value) : Option (DataW Value × List MemPlace) := some (.held v, [])

def av (v : AccV) : Value := ac v.p v.a v.x v.n v.c
theorem hva_inv {v : Value} {z : DataW Value × List MemPlace} (h : hva v = some z) : z = (.held v, []) := by
  injection h with h
  exact h.symm

theorem ilaw : Maps.Keyed Try.prog 3 := Maps.int_keyed Try.underlying3
def ilit (k : Nat) : Lit := .int .i64 (k : Int)
theorem ikey {k : Nat} (h : k < 1000) : keyOf Try.prog 3 (.int .i64 (k : Int)) = some (ilit k) := by
  have hw : wfi (k : Int) := wfi_small (by omega) (by omega)
  unfold keyOf mapKey ilit
  rw [Try.underlying3]
  unfold wfi at hw
  simp [hw]
theorem ilit_inj {a b : Nat} (h : ilit a = ilit b) : a = b := by
  unfold ilit at h
  injection h with _ h
  omega
theorem azero (w : World) : (zeroValue 26).run Try.prog w = .ok (ac z0 z0 none 0 0) w := by kernel_rfl

structure MpAt (w : World) (mb nb : Nat) (D : DataW Value) (M : Nat → Option AccV) : Prop where
  own : w.ownsMap Try.prog 3 hva mb nb D
  has : ∀ k, k < 7 → Maps.has D (ilit k) = (M k).isSome
  val : ∀ k v, k < 7 → M k = some v → (∀ z, D.atKey (ilit k) z = .held (av v)) ∧ Sv w v.x v.n v.c v.d ∧ bwf v.a
  size : Maps.size D = cnt (fun k => (M k).isSome) 7
  nb7 : nb ≤ 7

section
variable {w w' : World} {mb nb : Nat} {D : DataW Value} {M : Nat → Option AccV}

theorem MpAt.isM (h : MpAt w mb nb D M) : Mb w mb := by
  obtain ⟨es, c, hb, _⟩ := h.own
  exact ⟨es, c, hb⟩

theorem MpAt.turns {G : Nat → Prop} (h : MpAt w mb nb D M) (t : Turns G w w') (hm : ¬ G mb) (hG : ∀ k, G k → ¬ Tb w k 5) : MpAt w' mb nb D M := by
  obtain ⟨es, clock, hb, r⟩ := h.own
  exact ⟨⟨es, clock, (t.block mb h.own.lt hm).trans hb, r⟩, h.has, fun k v hk hv => ⟨(h.val k v hk hv).1, (h.val k v hk hv).2.1.turns t hG, (h.val k v hk hv).2.2⟩, h.size, h.nb7⟩

theorem cnt_none : ∀ n, cnt (fun _ => false) n = 0
  | 0 => rfl
  | n + 1 => by unfold cnt; rw [cnt_none n]; simp

theorem MpAt.new (w : World) : MpAt (w.alloc (.map #[] 0)) w.heap.size 0 (.map []) (fun _ => none) :=
  ⟨World.ownsMap_made w _ _ _, fun _ _ => rfl, (fun _ _ _ h => by cases h), by show (0 : Nat) = _; simp [cnt_none], by omega⟩

theorem MpAt.look (h : MpAt w mb nb D M) (k : Nat) (hk : k < 7) : ∃ v : Value, (Instr.lookup 44 (.map (some mb)) (.int .i64 (k : Int)) true).run Try.prog w = .ok (.tuple #[v, .bool (M k).isSome]) w ∧ (M k = none → v = ac z0 z0 none 0 0) ∧ ∀ a, M k = some a → v = av a := by
  obtain ⟨v, ps, h1, h2⟩ := h.own.look_ok (t := 44) (e := 26) ilaw Try.underlying44 (azero w) rfl (ikey (k := k) (by omega))
  rw [h.has k hk] at h1
  have h3 := congrArg Prod.fst (hva_inv h2)
  dsimp only at h3
  refine ⟨v, h1, fun hn => ?_, fun a ha => ?_⟩
  · have : Maps.has D (ilit k) = false := by rw [h.has k hk, hn]; rfl
    rw [Maps.atKey_of_not_has this] at h3
    injection h3 with h3
    exact h3.symm
  · rw [(h.val k a hk ha).1] at h3
    injection h3 with h3
    exact h3.symm

theorem cnt_up : ∀ (n : Nat) (M : Nat → Option AccV) (k : Nat) (v : AccV), k < n → M k = none → cnt (fun i => (up M k (some v) i).isSome) n = cnt (fun i => (M i).isSome) n + 1
  | 0, M, k, v, hk, hn => by omega
  | n + 1, M, k, v, hk, hn => by
    unfold cnt
    by_cases e : k = n
    · subst e
      rw [up_same, hn, cnt_congr (r := fun i => (M i).isSome) (fun i hi => by rw [up_other _ _ (by omega)])]
      simp
    · rw [cnt_up n M k v (by omega) hn, up_other _ _ (by omega)]
      omega

theorem ilit_key (k : Nat) (h : k < 7) : WideAt.IsKeyLit (ilit k) := ilaw.key (ikey (k := k) (by omega))

theorem MpAt.put (h : MpAt w mb nb D M) (k : Nat) (hk : k < 7) (hn : M k = none) (hnb : nb ≤ k) (v : AccV) (hv : Sv w v.x v.n v.c v.d) (hw : bwf v.a) :
    ∃ w1 D', (Instr.mapUpdate 44 (.map (some mb)) (.int .i64 (k : Int)) (av v)).run Try.prog w = .ok () w1 ∧ MpAt w1 mb (nb + 1) D' (up M k (some v)) ∧ Turns (atB mb) w w1 := by
  obtain ⟨w1, h1, h2, h3⟩ := h.own.update (t := 44) (e := 26) ilaw Try.underlying44 (by have := h.nb7; unfold maxLen; omega) (ikey (k := k) (by omega)) (val := av v) (d := .held (av v)) (ps := []) rfl
  have t : Turns (atB mb) w w1 := ⟨h3.os, h3.tape, h3.output, h3.size, fun i hi hr => h3.block i hi (fun e => hr (by injection e))⟩
  have hG : ∀ i, atB mb i → ¬ Tb w i 5 := fun i hi tb => by
    have e : i = mb := hi
    subst e
    exact tb.not_map h.isM
  refine ⟨w1, _, h1, ⟨h2, fun i hi => ?_, fun i u hi hu => ?_, ?_, by omega⟩, t⟩
  · by_cases e : i = k
    · subst e
      rw [Maps.has_put_same h.own.isMap (ilit_key i hi), up_same]
      rfl
    · rw [Maps.has_put_other (fun h => e (ilit_inj h)), h.has i hi, up_other _ _ e]
  · by_cases e : i = k
    · subst e
      rw [up_same] at hu
      injection hu with hu
      subst hu
      exact ⟨fun z => Maps.atKey_put_same h.own.isMap (ilit_key i hi) _ z, hv.turns t hG, hw⟩
    · rw [up_other _ _ e] at hu
      obtain ⟨q1, q2, q3⟩ := h.val i u hi hu
      exact ⟨fun z => by rw [Maps.atKey_put_other (fun h => e (ilit_inj h))]; exact q1 z, q2.turns t hG, q3⟩
  · rw [Maps.size_put (h.own.tidy ilaw), h.has k hk, hn, h.size, cnt_up 7 M k v hk hn]
    simp

theorem MpAt.len (h : MpAt w mb nb D M) (ty : TypeId) : (Builtin.len_ #[44] ty #[.map (some mb)]).run Try.prog w = .ok (.int .i64 (cnt (fun k => (M k).isSome) 7 : Nat)) w := by
  rw [← h.size]
  exact h.own.len (t := 44) (e := 26) Try.underlying44 ty

end

structure PrV where
  b : Bt
  mp : Option Nat
  x : Option Addr
  n : Nat
  c : Nat
  d : List Nat
  ask : Bool
  M : Nat → Option AccV

def accC (v : AccV) : Nat → Value := fun j => if j = 0 then .int .i64 v.p.1 else if j = 1 then .int .i64 v.p.2 else if j = 2 then .int .i64 v.a.1 else if j = 3 then .int .i64 v.a.2 else .slice v.x v.n v.c
def prC (q : PrV) : Nat → Value := fun j => if j = 0 then .int .i64 q.b.1 else if j = 1 then .int .i64 q.b.2 else if j = 2 then .map q.mp else if j = 3 then .slice q.x q.n q.c else .bool q.ask

/- Whose map it is. -/
def MapP (w : World) (B : Nat) (q : PrV) : Prop := (q.mp = none ∧ ∀ k, q.M k = none) ∨ ∃ mb nb D, q.mp = some mb ∧ B ≤ mb ∧ MpAt w mb nb D q.M

structure Mem (w0 w : World) (n gA gP gS : Nat) (V : Nat → AccV) (Q : Nat → PrV) (seen : Bt) : Prop where
  bel : Below w0.heap.size w0 w
  hA : w0.heap.size ≤ gA
  hP : w0.heap.size ≤ gP
  hS : w0.heap.size ≤ gS
  all : Arr w gA 26 n (fun k => accC (V k))
  prs : Arr w gP 46 7 (fun m => prC (Q m))
  stb : Tb w gS 23
  s0 : w.cell? ⟨gS, 0, none⟩ = some (.int .i64 seen.1)
  s1 : w.cell? ⟨gS, 1, none⟩ = some (.int .i64 seen.2)
  sf : ∀ i, w.frozen? ⟨gS, i, none⟩ = false
  val : ∀ k, k < n → Sv w (V k).x (V k).n (V k).c (V k).d ∧ bwf (V k).a
  pval : ∀ m, m < 7 → Sv w (Q m).x (Q m).n (Q m).c (Q m).d ∧ bwf (Q m).b
  map : ∀ m, m < 7 → MapP w w0.heap.size (Q m)
  dis : ∀ m m' a, m < 7 → m' < 7 → m ≠ m' → (Q m).mp = some a → (Q m').mp ≠ some a
  n7 : 0 < n ∧ n ≤ 7

section
variable {w0 w w' : World} {n gA gP gS : Nat} {V : Nat → AccV} {Q : Nat → PrV} {seen : Bt}

theorem Mem.ne (h : Mem w0 w n gA gP gS V Q seen) : gA ≠ gP ∧ gA ≠ gS ∧ gP ≠ gS := by
  refine ⟨fun e => ?_, fun e => ?_, fun e => ?_⟩
  · subst e
    have := h.all.tb.same h.prs.tb
    revert this
    decide
  · subst e
    have := h.all.tb.same h.stb
    revert this
    decide
  · subst e
    have := h.prs.tb.same h.stb
    revert this
    decide

theorem Mem.mapne (h : Mem w0 w n gA gP gS V Q seen) {m a : Nat} (hm : m < 7) (e : (Q m).mp = some a) : a ≠ gA ∧ a ≠ gP ∧ a ≠ gS ∧ w0.heap.size ≤ a ∧ Mb w a := by
  rcases h.map m hm with ⟨q, _⟩ | ⟨mb, nb, D, q, q2, q3⟩
  · rw [q] at e
    cases e
  · rw [q] at e
    injection e with e
    subst e
    exact ⟨fun e => (e ▸ h.all.tb).not_map q3.isM, fun e => (e ▸ h.prs.tb).not_map q3.isM, fun e => (e ▸ h.stb).not_map q3.isM, q2, q3.isM⟩

/- What the law writes is none of the values' blocks. -/
def Own4 (gA gP gS : Nat) (Q : Nat → PrV) : Nat → Prop := fun k => k = gA ∨ k = gP ∨ k = gS ∨ ∃ m, m < 7 ∧ (Q m).mp = some k

theorem Mem.own4 (h : Mem w0 w n gA gP gS V Q seen) {k : Nat} (hk : Own4 gA gP gS Q k) : w0.heap.size ≤ k ∧ ¬ Tb w k 5 := by
  rcases hk with rfl | rfl | rfl | ⟨m, hm, e⟩
  · exact ⟨h.hA, fun tb => by have := tb.same h.all.tb; revert this; decide⟩
  · exact ⟨h.hP, fun tb => by have := tb.same h.prs.tb; revert this; decide⟩
  · exact ⟨h.hS, fun tb => by have := tb.same h.stb; revert this; decide⟩
  · obtain ⟨_, _, _, q, q2⟩ := h.mapne hm e
    exact ⟨q, fun tb => tb.not_map q2⟩

theorem MapP.turns {B : Nat} {G : Nat → Prop} {q : PrV} (h : MapP w B q) (t : Turns G w w') (hq : ∀ a, q.mp = some a → ¬ G a) (hG : ∀ k, G k → ¬ Tb w k 5) : MapP w' B q := by
  rcases h with h | ⟨mb, nb, D, e, hB, hm⟩
  · exact .inl h
  · exact .inr ⟨mb, nb, D, e, hB, hm.turns t (hq mb e) hG⟩

theorem Mem.below (h : Mem w0 w n gA gP gS V Q seen) (b : Below w.heap.size w w') : Mem w0 w' n gA gP gS V Q seen :=
  ⟨on h.bel b, h.hA, h.hP, h.hS, h.all.below b, h.prs.below b, h.stb.of_heap (b.block _ h.stb.lt), keep b h.s0, keep b h.s1, fun i => (frozen_block (b.block _ h.stb.lt)).trans (h.sf i), fun k hk => ⟨(h.val k hk).1.below b, (h.val k hk).2⟩, fun m hm => ⟨(h.pval m hm).1.below b, (h.pval m hm).2⟩,
    fun m hm => (h.map m hm).turns (Turns.of_below (F := fun _ => False) b) (fun _ _ h => h) (fun _ h => h.elim), h.dis, h.n7⟩

/- The acceptors are written. -/
theorem Mem.setA (h : Mem w0 w n gA gP gS V Q seen) (t : Turns (atB gA) w w') (k : Nat) (hk : k < n) (v : AccV) (ha : Arr w' gA 26 n (fun i => accC (up V k v i))) (hv : Sv w' v.x v.n v.c v.d) (hw : bwf v.a) : Mem w0 w' n gA gP gS (up V k v) Q seen := by
  have ne := h.ne
  have hG : ∀ i, atB gA i → ¬ Tb w i 5 := fun i hi => (h.own4 (.inl hi)).2
  refine ⟨h.bel.trans (t.below (fun i hi => (h.own4 (.inl hi)).1) h.bel.size), h.hA, h.hP, h.hS, ha, h.prs.turns t (fun e => ne.1 e.symm), h.stb.of_heap (t.block _ h.stb.lt (fun e => ne.2.1 e.symm)), keept t (fun e => ne.2.1 e.symm) h.s0, keept t (fun e => ne.2.1 e.symm) h.s1,
    fun i => (frozen_block (t.block _ h.stb.lt (fun e => ne.2.1 e.symm))).trans (h.sf i), fun i hi => ?_, fun m hm => ⟨(h.pval m hm).1.turns t hG, (h.pval m hm).2⟩, fun m hm => (h.map m hm).turns t (fun a ha e => (h.mapne hm ha).1 e) hG, h.dis, h.n7⟩
  by_cases e : i = k
  · subst e
    rw [up_same]
    exact ⟨hv, hw⟩
  · rw [up_other _ _ e]
    exact ⟨(h.val i hi).1.turns t hG, (h.val i hi).2⟩

/- A proposer is written: the map stays whose it is, or is a new one. -/
theorem Mem.setP (h : Mem w0 w n gA gP gS V Q seen) (t : Turns (atB gP) w w') (m : Nat) (hm : m < 7) (q : PrV) (hp : Arr w' gP 46 7 (fun i => prC (up Q m q i))) (hv : Sv w' q.x q.n q.c q.d) (hw : bwf q.b) (hq : MapP w' w0.heap.size q) (hd : ∀ a m', q.mp = some a → m' < 7 → m' ≠ m → (Q m').mp ≠ some a) : Mem w0 w' n gA gP gS V (up Q m q) seen := by
  have ne := h.ne
  have hG : ∀ i, atB gP i → ¬ Tb w i 5 := fun i hi => (h.own4 (.inr (.inl hi))).2
  refine ⟨h.bel.trans (t.below (fun i hi => (h.own4 (.inr (.inl hi))).1) h.bel.size), h.hA, h.hP, h.hS, h.all.turns t ne.1, hp, h.stb.of_heap (t.block _ h.stb.lt (fun e => ne.2.2 e.symm)), keept t (fun e => ne.2.2 e.symm) h.s0, keept t (fun e => ne.2.2 e.symm) h.s1,
    fun i => (frozen_block (t.block _ h.stb.lt (fun e => ne.2.2 e.symm))).trans (h.sf i), fun i hi => ⟨(h.val i hi).1.turns t hG, (h.val i hi).2⟩, fun i hi => ?_, fun i hi => ?_, fun i i' a hi hi' hne e => ?_, h.n7⟩
  · by_cases e : i = m
    · subst e
      rw [up_same]
      exact ⟨hv, hw⟩
    · rw [up_other _ _ e]
      exact ⟨(h.pval i hi).1.turns t hG, (h.pval i hi).2⟩
  · by_cases e : i = m
    · subst e
      rw [up_same]
      exact hq
    · rw [up_other _ _ e]
      exact (h.map i hi).turns t (fun a ha e => (h.mapne hi ha).2.1 e) hG
  · by_cases e1 : i = m
    · subst e1
      rw [up_same] at e
      rw [up_other _ _ (Ne.symm hne)]
      exact hd a i' e hi' (Ne.symm hne)
    · rw [up_other _ _ e1] at e
      by_cases e2 : i' = m
      · subst e2
        rw [up_same]
        exact fun h3 => hd a i h3 hi e1 e
      · rw [up_other _ _ e2]
        exact h.dis i i' a hi hi' hne e

/- What was seen is written. -/
theorem Mem.setS (h : Mem w0 w n gA gP gS V Q seen) (b : Bt) : Mem w0 ((w.setCell ⟨gS, 0, none⟩ (.int .i64 b.1)).setCell ⟨gS, 1, none⟩ (.int .i64 b.2)) n gA gP gS V Q b := by
  have ne := h.ne
  have t : Turns (atB gS) w ((w.setCell ⟨gS, 0, none⟩ (.int .i64 b.1)).setCell ⟨gS, 1, none⟩ (.int .i64 b.2)) := (Turns.refl (atB gS) w).set2 gS rfl _ _
  have hG : ∀ i, atB gS i → ¬ Tb w i 5 := fun i hi => (h.own4 (.inr (.inr (.inl hi)))).2
  have c0 := h.s0
  have c1 := h.s1
  refine ⟨h.bel.trans (t.below (fun i hi => (h.own4 (.inr (.inr (.inl hi)))).1) h.bel.size), h.hA, h.hP, h.hS, h.all.turns t ne.2.1, h.prs.turns t ne.2.2, tb_set (tb_set h.stb 0 _ _) 0 _ _, by go_simp, by go_simp,
    fun i => by rw [World.frozen?_setCell, World.frozen?_setCell]; exact h.sf i, fun k hk => ⟨(h.val k hk).1.turns t hG, (h.val k hk).2⟩, fun m hm => ⟨(h.pval m hm).1.turns t hG, (h.pval m hm).2⟩, fun m hm => (h.map m hm).turns t (fun a ha e => (h.mapne hm ha).2.2.1 e) hG, h.dis, h.n7⟩

/- A promise is noted. -/
theorem Mem.setM (h : Mem w0 w n gA gP gS V Q seen) {m mb nb : Nat} {D : DataW Value} {M' : Nat → Option AccV} (hm : m < 7) (e : (Q m).mp = some mb) (t : Turns (atB mb) w w') (hM : MpAt w' mb nb D M') : Mem w0 w' n gA gP gS V (up Q m { Q m with M := M' }) seen := by
  obtain ⟨m1, m2, m3, m4, m5⟩ := h.mapne hm e
  have hG : ∀ i, atB mb i → ¬ Tb w i 5 := fun i hi => (h.own4 (.inr (.inr (.inr ⟨m, hm, by rw [e]; exact congrArg some (Eq.symm hi)⟩)))).2
  refine ⟨h.bel.trans (t.below (fun i hi => by have e2 : i = mb := hi; rw [e2]; exact m4) h.bel.size), h.hA, h.hP, h.hS, h.all.turns t (fun q => m1 q.symm), (h.prs.turns t (fun q => m2 q.symm)).congr (fun i j hi hj => ?_), h.stb.of_heap (t.block _ h.stb.lt (fun q => m3 q.symm)), keept t (fun q => m3 q.symm) h.s0, keept t (fun q => m3 q.symm) h.s1,
    fun i => (frozen_block (t.block _ h.stb.lt (fun q => m3 q.symm))).trans (h.sf i), fun k hk => ⟨(h.val k hk).1.turns t hG, (h.val k hk).2⟩, fun i hi => ?_, fun i hi => ?_, fun i i' a hi hi' hne ea => ?_, h.n7⟩
  · by_cases e1 : i = m
    · subst e1
      rw [up_same]
      rfl
    · rw [up_other _ _ e1]
  · by_cases e1 : i = m
    · subst e1
      rw [up_same]
      exact ⟨(h.pval i hi).1.turns t hG, (h.pval i hi).2⟩
    · rw [up_other _ _ e1]
      exact ⟨(h.pval i hi).1.turns t hG, (h.pval i hi).2⟩
  · by_cases e1 : i = m
    · subst e1
      rw [up_same]
      exact .inr ⟨mb, nb, D, e, m4, hM⟩
    · rw [up_other _ _ e1]
      exact (h.map i hi).turns t (fun a ha e2 => h.dis i m a hi hm e1 ha (by rw [e]; exact congrArg some (Eq.symm e2))) hG
  · by_cases e1 : i = m
    · subst e1
      rw [up_same] at ea
      rw [up_other _ _ (Ne.symm hne)]
      exact h.dis i i' a hi hi' hne ea
    · rw [up_other _ _ e1] at ea
      by_cases e2 : i' = m
      · subst e2
        rw [up_same]
        exact h.dis i i' a hi hi' hne ea
      · rw [up_other _ _ e2]
        exact h.dis i i' a hi hi' hne ea

theorem Mem.accs (h : Mem w0 w n gA gP gS V Q seen) : Accs w (some ⟨gA, 0, none⟩) n V := by
  refine ⟨.inr ⟨gA, 0, rfl, h.all.tb.lt, fun i hi => ?_⟩, fun i hi => ⟨(h.val i hi).1.sl, (h.val i hi).1.sm⟩, fun i hi => (h.val i hi).2, by have := h.n7; omega⟩
  rw [Nat.zero_add]
  have := fun j hj => h.all.cell i j hi hj
  exact ⟨this 0 (by omega), this 1 (by omega), this 2 (by omega), this 3 (by omega), this 4 (by omega)⟩

end

end Go.Proofs.Ytlfeafbpknbbfaa.Ba

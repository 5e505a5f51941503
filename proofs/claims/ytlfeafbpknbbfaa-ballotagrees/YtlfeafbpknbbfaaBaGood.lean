/-
  What is known of acceptors and proposers, step by step; the list of those who promised.
  Conditions: none.
-/
import Derived.Test.YtlfeafbpknbbfaaBaState
namespace Go.Proofs.Ytlfeafbpknbbfaa.Ba
open Go.RowKit By Fl
set_option linter.unusedVariables false
set_option linter.unusedSimpArgs false
set_option maxRecDepth 100000

theorem up_map {α β : Type} (g : α → β) (f : Nat → α) (k : Nat) (v : α) : (fun i => g (up f k v i)) = up (fun i => g (f i)) k (g v) := by
  funext i
  by_cases e : i = k
  · subst e
    rw [up_same, up_same]
  · rw [up_other _ _ e, up_other _ _ e]

theorem up_id {α : Type} (f : Nat → α) (k : Nat) (v : α) (h : v = f k) : up f k v = f := by
  funext i
  by_cases e : i = k
  · subst e
    rw [up_same, h]
  · rw [up_other _ _ e]

def recOf (o : Option AccV) : Rec := o.map fun v => (v.a, v.d)
def PMof (Q : Nat → PrV) : Nat → Nat → Rec := fun m k => recOf ((Q m).M k)
def PVq (q : PrV) : Option (List Nat) := if q.ask = true then some q.d else none
def PVof (Q : Nat → PrV) : Nat → Option (List Nat) := fun m => PVq (Q m)

def Gd (n : Nat) (seen : Bt) (V : Nat → AccV) (Q : Nat → PrV) (F : Option (List Nat)) : Prop :=
  Good n seen (fun k => (V k).p) (fun k => (V k).a) (fun k => (V k).d) (fun m => (Q m).b) (PMof Q) (PVof Q) F ∧ ∀ m k, m < 7 → n ≤ k → (Q m).M k = none

theorem pmof_up (Q : Nat → PrV) (m : Nat) (q : PrV) : PMof (up Q m q) = up (PMof Q) m (fun k => recOf (q.M k)) := up_map (fun q : PrV => fun k => recOf (q.M k)) Q m q
theorem pvof_up (Q : Nat → PrV) (m : Nat) (q : PrV) : PVof (up Q m q) = up (PVof Q) m (PVq q) := up_map PVq Q m q

section
variable {n : Nat} {seen : Bt} {V : Nat → AccV} {Q : Nat → PrV} {F : Option (List Nat)}

theorem Gd.init (n : Nat) (v : AccV) (q : PrV) (hv : v.p = z0 ∧ v.a = z0 ∧ v.d = []) (hq : q.b = z0 ∧ (∀ k, q.M k = none) ∧ q.ask = false) : Gd n z0 (fun _ => v) (fun _ => q) none := by
  refine ⟨?_, fun m k _ _ => hq.2.1 k⟩
  have h := Good.init n
  have e1 : PMof (fun _ => q) = fun _ _ => none := by
    funext m k
    unfold PMof
    rw [hq.2.1 k]
    rfl
  have e2 : PVof (fun _ => q) = fun _ => none := by
    funext m
    unfold PVof PVq
    rw [hq.2.2]
    rfl
  rw [e1, e2]
  dsimp only
  rw [hv.1, hv.2.1, hv.2.2, hq.1]
  exact h

theorem Gd.start (h : Gd n seen V Q F) (m : Nat) (hm : m < 7) (b : Bt) (hb : lt seen b) (hz : lt z0 b) (hbm : b.2 = (m : Int)) (q : PrV) (h1 : q.b = b) (h2 : q.M = fun _ => none) (h3 : q.ask = false) : Gd n b V (up Q m q) F := by
  refine ⟨?_, fun m' k hm' hk => ?_⟩
  · have := h.1.start m hm b hb hz hbm
    rw [pmof_up, pvof_up, up_map (fun q : PrV => q.b)]
    have e1 : (fun k => recOf (q.M k)) = fun _ => none := by
      funext k
      rw [h2]
      rfl
    have e2 : PVq q = none := by
      unfold PVq
      rw [h3]
      rfl
    rw [e1, e2, h1]
    exact this
  · by_cases e : m' = m
    · subst e
      rw [up_same, h2]
    · rw [up_other _ _ e]
      exact h.2 m' k hm' hk

theorem Gd.promise (h : Gd n seen V Q F) (m : Nat) (hm : m < 7) (hb : (Q m).b = seen) (hz : lt z0 seen) (hv : (Q m).ask = false) (k : Nat) (hk : k < n) (v : AccV) (h1 : v.p = seen) (h2 : v.a = (V k).a) (h3 : v.d = (V k).d) :
    Gd n seen (up V k v) (up Q m { Q m with M := up (Q m).M k (some (V k)) }) F := by
  refine ⟨?_, fun m' i hm' hi => ?_⟩
  · have := h.1.promise m hm hb hz (by unfold PVof PVq; rw [hv]; rfl) k hk
    rw [pmof_up, pvof_up, up_map (fun q : PrV => q.b), up_map (fun v : AccV => v.p), up_map (fun v : AccV => v.a), up_map (fun v : AccV => v.d), h1, h2, h3]
    rw [up_id (fun i => (V i).a) k _ rfl, up_id (fun i => (V i).d) k _ rfl, up_id (fun m => (Q m).b) m _ rfl]
    have e1 : up (PVof Q) m (PVq { Q m with M := up (Q m).M k (some (V k)) }) = PVof Q := up_id (PVof Q) m _ rfl
    have e2 : (fun i => recOf (({ Q m with M := up (Q m).M k (some (V k)) } : PrV).M i)) = up (PMof Q m) k (some ((V k).a, (V k).d)) := up_map recOf (Q m).M k (some (V k))
    rw [e1, e2]
    exact this
  · by_cases e : m' = m
    · subst e
      rw [up_same]
      show up (Q m').M k (some (V k)) i = none
      rw [up_other _ _ (by omega)]
      exact h.2 m' i hm' hi
    · rw [up_other _ _ e]
      exact h.2 m' i hm' hi

theorem cnt_seven {q : Nat → Bool} (hn : n ≤ 7) (h : ∀ k, n ≤ k → q k = false) : cnt q 7 = cnt q n := by
  have key : ∀ d, cnt q (n + d) = cnt q n := fun d => by
    induction d with
    | zero => rfl
    | succ d ih =>
      show cnt q (n + d) + (if q (n + d) = true then 1 else 0) = _
      rw [ih, h (n + d) (by omega)]
      simp
  have := key (7 - n)
  rwa [Nat.add_sub_cancel' hn] at this

theorem Gd.maj (h : Gd n seen V Q F) (hn : n ≤ 7) (m : Nat) (hm : m < 7) (hq : n < 2 * cnt (fun k => ((Q m).M k).isSome) 7) : Maj n (fun k => PMof Q m k ≠ none) := by
  rw [cnt_seven (q := fun k => ((Q m).M k).isSome) hn (fun k hk => by simp [h.2 m k hm hk])] at hq
  refine ⟨_, hq, fun k hk e => ?_⟩
  intro h0
  unfold PMof recOf at h0
  cases hM : (Q m).M k with
  | none =>
    have e2 : ((Q m).M k).isSome = true := e
    rw [hM] at e2
    cases e2
  | some v =>
    rw [hM] at h0
    cases h0

theorem Gd.ask (h : Gd n seen V Q F) (hn : n ≤ 7) (m : Nat) (hm : m < 7) (hv : (Q m).ask = false) (hq : n < 2 * cnt (fun k => ((Q m).M k).isSome) 7) (d : List Nat) (hp : Picked n (PMof Q m) d) (q : PrV) (h1 : q.b = (Q m).b) (h2 : q.M = (Q m).M) (h3 : q.ask = true) (h4 : q.d = d) : Gd n seen V (up Q m q) F := by
  refine ⟨?_, fun m' k hm' hk => ?_⟩
  · have := h.1.ask m hm (by unfold PVof PVq; rw [hv]; rfl) (h.maj hn m hm hq) d hp
    rw [pmof_up, pvof_up, up_map (fun q : PrV => q.b), h1, h2, up_id (fun m => (Q m).b) m _ rfl]
    have e1 : up (PMof Q) m (fun k => recOf ((Q m).M k)) = PMof Q := up_id (PMof Q) m _ rfl
    rw [e1]
    have e : PVq q = some d := by
      unfold PVq
      rw [h3, h4]
      rfl
    rw [e]
    exact this
  · by_cases e : m' = m
    · subst e
      rw [up_same, h2]
      exact h.2 m' k hm' hk
    · rw [up_other _ _ e]
      exact h.2 m' k hm' hk

theorem Gd.accept (h : Gd n seen V Q F) (m : Nat) (hm : m < 7) (hv : (Q m).ask = true) (k : Nat) (hk : k < n) (hb : ltb (Q m).b (V k).p = false) (v : AccV) (h1 : v.p = (Q m).b) (h2 : v.a = (Q m).b) (h3 : v.d = (Q m).d) : Gd n seen (up V k v) Q F := by
  refine ⟨?_, h.2⟩
  have hpv : PVof Q m = some (Q m).d := by
    unfold PVof PVq
    rw [hv]
    rfl
  have hne : (Q m).b ≠ z0 := fun e => by
    obtain ⟨Vv, vt, hi, _⟩ := h.1
    have := (hi.pm0 m hm e).2
    rw [hpv] at this
    cases this
  have hle : le (V k).p (Q m).b := fun hl => by
    rw [(ltb_iff _ _).2 hl] at hb
    cases hb
  have := h.1.accept m hm hne _ hpv k hk hle
  rw [up_map (fun v : AccV => v.p), up_map (fun v : AccV => v.a), up_map (fun v : AccV => v.d), h1, h2, h3]
  exact this

theorem Gd.same (h : Gd n seen V Q F) (k : Nat) (v : AccV) (h1 : v.p = (V k).p) (h2 : v.a = (V k).a) (h3 : v.d = (V k).d) : Gd n seen (up V k v) Q F := by
  refine ⟨?_, h.2⟩
  rw [up_map (fun v : AccV => v.p), up_map (fun v : AccV => v.a), up_map (fun v : AccV => v.d), h1, h2, h3, up_id (fun i => (V i).p) k _ rfl, up_id (fun i => (V i).a) k _ rfl, up_id (fun i => (V i).d) k _ rfl]
  exact h.1

theorem Gd.chosen (h : Gd n seen V Q F) {b : Bt} {k : Nat} (hc : Cho V n b k) : (∀ f, F = some f → f = (V k).d) ∧ Gd n seen V Q (some (V k).d) := by
  obtain ⟨h1, h2⟩ := h.1.chosen b hc.1 hc.2.1 k hc.2.2.1 hc.2.2.2
  exact ⟨h1, h2, h.2⟩

end

/- The next ballot, where few were seen. -/
def SeenOk (s : Bt) (k : Nat) : Prop := s = z0 ∨ (1 ≤ s.1 ∧ s.1 ≤ k ∧ 0 ≤ s.2 ∧ s.2 < 7)

theorem nx_ok {s : Bt} {k m : Nat} (h : SeenOk s k) (hk : k ≤ 300) (hm : m < 7) : ∃ b : Bt, nx s m = (b, true) ∧ lt s b ∧ lt z0 b ∧ b.2 = (m : Int) ∧ SeenOk b (k + 1) ∧ bwf b := by
  rcases h with rfl | ⟨h1, h2, h3, h4⟩
  · refine ⟨(1, m), nx_zero m (by omega) (by omega), .inl ?_, .inl ?_, rfl, .inr ⟨?_, ?_, ?_, ?_⟩, wfi_small ?_ ?_, wfi_small ?_ ?_⟩ <;> dsimp only [z0] <;> omega
  · obtain ⟨s1, s2⟩ := s
    dsimp only at h1 h2 h3 h4
    have hs : mayb (s1, s2) = true := by
      unfold mayb
      simp
      omega
    rw [nx_some s1 s2 m hs]
    by_cases e : (m : Int) ≤ s2
    · have hb : mayb (s1 + 1, (m : Int)) = true := by
        unfold mayb
        simp
        omega
      rw [if_pos e, hb, if_pos rfl]
      refine ⟨(s1 + 1, m), rfl, .inl ?_, .inl ?_, rfl, .inr ⟨?_, ?_, ?_, ?_⟩, wfi_small ?_ ?_, wfi_small ?_ ?_⟩ <;> dsimp only [z0] <;> omega
    · have hb : mayb (s1, (m : Int)) = true := by
        unfold mayb
        simp
        omega
      rw [if_neg e, hb, if_pos rfl]
      refine ⟨(s1, m), rfl, .inr ⟨?_, ?_⟩, .inl ?_, rfl, .inr ⟨?_, ?_, ?_, ?_⟩, wfi_small ?_ ?_, wfi_small ?_ ?_⟩ <;> dsimp only [z0] <;> omega

/- The list of those who promised. -/
def encA (v : AccV) : List Value := [.int .i64 v.p.1, .int .i64 v.p.2, .int .i64 v.a.1, .int .i64 v.a.2, .slice v.x v.n v.c]

theorem arow : Row 39 26 5 56 encA := by
  have hi : (Try.prog.info? 26).map (fun i => (i.zero, i.size, i.bytes)) = some (some (.agg #[.int .i64 0, .int .i64 0, .int .i64 0, .int .i64 0, .slice none 0 0]), 5, 56) := by kernel_rfl
  obtain ⟨i0, h1, h2, h3, h4⟩ := info_parts hi
  exact ⟨Try.underlying39, ⟨i0, _, h1, h2, h3, h4, rfl⟩, by decide, by decide, fun a => rfl, fun a v hv => by simp [encA] at hv; rcases hv with rfl | rfl | rfl | rfl | rfl <;> rfl⟩

def noAcc : AccV := ⟨z0, z0, none, 0, 0, []⟩
def told (M : Nat → Option AccV) (k : Nat) : List AccV := (List.range k).filterMap M

theorem told_succ (M : Nat → Option AccV) (k : Nat) : told M (k + 1) = told M k ++ (match M k with | some v => [v] | none => []) := by
  unfold told
  rw [List.range_succ, List.filterMap_append]
  congr 1
  cases h : M k <;> simp [h]

theorem told_len (M : Nat → Option AccV) (k : Nat) : (told M k).length ≤ k := by
  induction k with
  | zero => simp [told]
  | succ k ih =>
    rw [told_succ, List.length_append]
    cases M k <;> simp <;> omega

theorem told_mem {M : Nat → Option AccV} {k : Nat} {v : AccV} (h : v ∈ told M k) : ∃ i, i < k ∧ M i = some v := by
  unfold told at h
  obtain ⟨i, hi, e⟩ := List.mem_filterMap.1 h
  exact ⟨i, List.mem_range.1 hi, e⟩

theorem mem_told {M : Nat → Option AccV} {k i : Nat} {v : AccV} (hi : i < k) (h : M i = some v) : v ∈ told M k := List.mem_filterMap.2 ⟨i, List.mem_range.2 hi, h⟩

def nth (L : List AccV) (i : Nat) : AccV := (L[i]?).getD noAcc

theorem told_picked {M : Nat → Option AccV} {n : Nat} {d : List Nat} (h : Pk (nth (told M n)) (told M n).length d) : Picked n (fun k => recOf (M k)) d := by
  have key : ∀ k a e, k < n → recOf (M k) = some (a, e) → ∃ i, i < (told M n).length ∧ (nth (told M n) i).a = a ∧ (nth (told M n) i).d = e := fun k a e hk h => by
    cases hM : M k with
    | none => rw [hM] at h; cases h
    | some v =>
      rw [hM] at h
      injection h with h
      injection h with h1 h2
      obtain ⟨i, hi, hv⟩ := List.mem_iff_getElem.1 (mem_told hk hM)
      refine ⟨i, hi, ?_⟩
      unfold nth
      rw [List.getElem?_eq_getElem hi, hv]
      exact ⟨h1, h2⟩
  rcases h with h | ⟨i, hi, hd, htop⟩
  · left
    intro k hk a e he
    obtain ⟨i, hi, e1, _⟩ := key k a e hk he
    rw [← e1]
    exact h i hi
  · right
    have hmem : nth (told M n) i ∈ told M n := by
      unfold nth
      rw [List.getElem?_eq_getElem hi]
      exact List.getElem_mem hi
    obtain ⟨k, hk, hM⟩ := told_mem hmem
    refine ⟨k, (nth (told M n) i).a, hk, ?_, htop.1, fun j hj a' d' e => ?_⟩
    · show recOf (M k) = _
      rw [hM, hd]
      rfl
    · obtain ⟨i', hi', e1, _⟩ := key j a' d' hj e
      rw [← e1]
      exact htop.2 i' hi'

theorem told_accs {w : World} {B mb nb : Nat} {D : DataW Value} {M : Nat → Option AccV} {n : Nat} (h : MpAt w mb nb D M) (hn : n ≤ 7) {x : Option Addr} {m c : Nat} (ho : Own w B 26 5 encA (.slice x m c) (told M n)) : m = (told M n).length ∧ Accs w x (told M n).length (nth (told M n)) := by
  obtain ⟨x', c', e, _⟩ := ho.form
  injection e with e1 e2 e3
  subst e1
  subst e2
  refine ⟨rfl, ?_, fun i hi => ?_, fun i hi => ?_, by have := told_len M n; omega⟩
  · by_cases hL : told M n = []
    · left
      rw [hL]
      rfl
    · right
      obtain ⟨g, c2, e2, h1, h2, h3, h4⟩ := ho.there hL
      injection e2 with e2 _ e3
      subst e2
      subst e3
      refine ⟨g, 0, rfl, h4, fun i hi => ?_⟩
      have hk : (told M n)[i]? = some (nth (told M n) i) := by
        unfold nth
        rw [List.getElem?_eq_getElem hi]
        rfl
      have := fun j v hv => ho.cell arow.len hk (j := j) (v := v) hv
      rw [Nat.zero_add]
      exact ⟨this 0 _ rfl, this 1 _ rfl, this 2 _ rfl, this 3 _ rfl, this 4 _ rfl⟩
  · obtain ⟨k, hk, hM⟩ := told_mem (List.getElem_mem hi)
    unfold nth
    rw [List.getElem?_eq_getElem hi]
    exact ⟨(h.val k _ (by omega) hM).2.1.sl, (h.val k _ (by omega) hM).2.1.sm⟩
  · obtain ⟨k, hk, hM⟩ := told_mem (List.getElem_mem hi)
    unfold nth
    rw [List.getElem?_eq_getElem hi]
    exact (h.val k _ (by omega) hM).2.2

end Go.Proofs.Ytlfeafbpknbbfaa.Ba

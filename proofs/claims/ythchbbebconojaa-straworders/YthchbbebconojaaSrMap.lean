/-
  Which draws were met: a map from numbers to bools as it lies in memory; a list that grows one by one.
  Conditions: none.
-/
import Derived.Test.YthchbbebconojaaSrTurn
import Derived.Maps.OwnSet
import Derived.Maps.Ext
namespace Go.Proofs.Ythchbbebconojaa.Sr
open Go.RowKit By Fl Mi
set_option linter.unusedVariables false
set_option linter.unusedSimpArgs false
set_option maxRecDepth 100000

theorem wf_small (k : Nat) (h : k ≤ 17592186044416) : (Lit.int .i64 (k : Int)).wf = true := by
  have e1 : IntKind.i64.min = -9223372036854775808 := by decide
  have e2 : IntKind.i64.max = 9223372036854775807 := by decide
  unfold Lit.wf
  simp [e1, e2]
  omega

def hvb (v : Value) : Option (DataW Value × List MemPlace) := some (.held v, [])
theorem hvb_inv {v : Value} {z : DataW Value × List MemPlace} (h : hvb v = some z) : z = (.held v, []) := by
  injection h with h
  exact h.symm

theorem ilaw : Maps.Keyed Try.prog 3 := Maps.int_keyed Try.underlying3
def ilit (k : Nat) : Lit := .int .i64 (k : Int)
theorem ikey {k : Nat} (h : k ≤ 17592186044416) : keyOf Try.prog 3 (.int .i64 (k : Int)) = some (ilit k) := by
  have hw := wf_small k h
  unfold keyOf mapKey ilit
  rw [Try.underlying3]
  simp [hw]
theorem ilit_inj {a b : Nat} (h : ilit a = ilit b) : a = b := by
  unfold ilit at h
  injection h with _ h
  omega
theorem ilit_key (k : Nat) (h : k ≤ 17592186044416) : WideAt.IsKeyLit (ilit k) := ilaw.key (ikey h)
theorem bzero (w : World) : (zeroValue 4).run Try.prog w = .ok (.bool false) w := by kernel_rfl

structure BmAt (w : World) (mb nb : Nat) (D : DataW Value) (M : Nat → Bool) : Prop where
  own : w.ownsMap Try.prog 3 hvb mb nb D
  val : ∀ k, k ≤ 17592186044416 → (Maps.has D (ilit k) = false ∧ M k = false) ∨ ((∀ z, D.atKey (ilit k) z = .held (.bool true)) ∧ M k = true)

section
variable {w w' : World} {mb nb : Nat} {D : DataW Value} {M : Nat → Bool}

theorem BmAt.isM (h : BmAt w mb nb D M) : Mb w mb := by
  obtain ⟨es, c, hb, _⟩ := h.own
  exact ⟨es, c, hb⟩
theorem BmAt.lt (h : BmAt w mb nb D M) : mb < w.heap.size := h.own.lt

theorem BmAt.turns {G : Nat → Prop} (h : BmAt w mb nb D M) (t : Turns G w w') (hm : ¬ G mb) : BmAt w' mb nb D M := by
  obtain ⟨es, clock, hb, r⟩ := h.own
  exact ⟨⟨es, clock, (t.block mb h.own.lt hm).trans hb, r⟩, h.val⟩

theorem BmAt.below (h : BmAt w mb nb D M) (b : Below w.heap.size w w') : BmAt w' mb nb D M := h.turns (Turns.of_below (F := fun _ => False) b) (fun h => h)

theorem BmAt.new (w : World) : BmAt (w.alloc (.map #[] 0)) w.heap.size 0 (.map []) (fun _ => false) :=
  ⟨World.ownsMap_made w _ _ _, fun _ _ => .inl ⟨rfl, rfl⟩⟩

theorem BmAt.look (h : BmAt w mb nb D M) (k : Nat) (hk : k ≤ 17592186044416) : (Instr.lookup 36 (.map (some mb)) (.int .i64 (k : Int)) false).run Try.prog w = .ok (.bool (M k)) w := by
  obtain ⟨v, ps, h1, h2⟩ := h.own.lookup (t := 36) (e := 4) ilaw Try.underlying36 (bzero w) rfl (ikey hk)
  have h3 := congrArg Prod.fst (hvb_inv h2)
  dsimp only at h3
  rcases h.val k hk with ⟨q1, q2⟩ | ⟨q1, q2⟩
  · rw [Maps.atKey_of_not_has q1] at h3
    injection h3 with h3
    rw [h1, ← h3, q2]
  · rw [q1] at h3
    injection h3 with h3
    rw [h1, ← h3, q2]

theorem grown_at {w1 : World} {g : Nat} (h3 : w.grownBy w1 (some g)) : Turns (fun k => k = g) w w1 := ⟨h3.os, h3.tape, h3.output, h3.size, fun i hi hr => h3.block i hi (fun e => hr (by injection e))⟩

theorem BmAt.put (h : BmAt w mb nb D M) (k : Nat) (hk : k ≤ 17592186044416) (hn : nb < 4000000000000000000) :
    ∃ w1 D', (Instr.mapUpdate 36 (.map (some mb)) (.int .i64 (k : Int)) (.bool true)).run Try.prog w = .ok () w1 ∧ Hid (BmAt w1 mb (nb + 1) D' (fun i => if i = k then true else M i) ∧ Turns (fun k => k = mb) w w1) := by
  obtain ⟨w1, h1, h2, h3⟩ := h.own.update (t := 36) (e := 4) ilaw Try.underlying36 (by unfold maxLen; omega) (ikey hk) (val := .bool true) (d := .held (.bool true)) (ps := []) rfl
  have t := grown_at h3
  refine ⟨w1, _, h1, ⟨h2, fun i hi => ?_⟩, t⟩
  by_cases e : i = k
  · subst e
    rw [if_pos rfl]
    exact .inr ⟨fun z => Maps.atKey_put_same h.own.isMap (ilit_key i hi) _ z, rfl⟩
  · rw [if_neg e]
    rcases h.val i hi with ⟨q1, q2⟩ | ⟨q1, q2⟩
    · exact .inl ⟨by rw [Maps.has_put_other (fun h => e (ilit_inj h))]; exact q1, q2⟩
    · exact .inr ⟨fun z => by rw [Maps.atKey_put_other (fun h => e (ilit_inj h))]; exact q1 z, q2⟩

end

/- One more behind a list of one's own: append(back, a). -/
theorem push_w {w : World} {B : Nat} {R : Value} {K : List Wd} (h : Own w B 23 2 enW R K) (a : Wd) (hB : B ≤ w.heap.size) (hs : (K.length + 1) * 16 ≤ 140737488351232) :
    ∃ R' w', (Builtin.append_ #[29, 29] 29 #[R, .slice (some ⟨w.heap.size, 0, none⟩) 1 1]).run Try.prog (w.alloc (.cells #[.int .i64 a.id, .int .i64 a.wt] 23)) = .ok R' w' ∧
      Hid (Own w' B 23 2 enW R' (K ++ [a]) ∧ Turns (fun j => R.ownBlock = some j) w w') := by
  have b0 := al w (.cells #[.int .i64 a.id, .int .i64 a.wt] 23)
  obtain ⟨i, z, i1, i2, i3, i4, i5⟩ := wrow.info
  obtain ⟨R', w4, hap, ho, hgr, hnil, hR'⟩ := run_append_own_at (P := Try.prog) _ B 29 29 23 i z 2 16 wrow.und i1 i2 i3 i4 i5 wrow.pos R K.length _ (h.below b0) ⟨w.heap.size, 0, none⟩ 1 1 (flat enW [a]) (by rw [flat_len wrow.len]; rfl)
    (fun j u hj => by
      rw [add_at]
      match j, hj with
      | 0, hj => injection hj with hj; subst hj; go_simp
      | 1, hj => injection hj with hj; subst hj; go_simp
      | j + 2, hj => simp [flat, enW] at hj)
    (fun u hu => by obtain ⟨a, _, ha⟩ := flat_mem hu; exact wrow.one a u ha) (by unfold maxLen; omega) (by omega) (by simp; omega)
  refine ⟨R', w4, hap, ?_, ?_⟩
  · unfold Own
    rw [flat_app, List.length_append]
    exact ho
  · have t : Turns (fun j => R.ownBlock = some j) (w.alloc (.cells #[.int .i64 a.id, .int .i64 a.wt] 23)) w4 := (Turns.refl _ _).grown hgr (fun k hk => .inl hk)
    exact (Turns.of_below b0).trans t

/- What is known behind some rounds: j are left. -/
structure Bk (w wr : World) (y r n : Nat) (L : List Wd) (mb j : Nat) (R : Value) (nb : Nat) (D : DataW Value) (M : Nat → Bool) : Prop where
  bel : Below w.heap.size w wr
  own : Own wr w.heap.size 23 2 enW R (L.drop j).reverse
  map : BmAt wr mb nb D M
  mbB : w.heap.size ≤ mb
  nbl : nb + j ≤ n
  met : ∀ d, M d = true ↔ ∃ q, j ≤ q ∧ q < n ∧ DL y r L q = some d
  one : ∀ p q d, j ≤ p → p < n → j ≤ q → q < n → DL y r L p = some d → DL y r L q = some d → p = q

section
variable {w wr : World} {y r n mb j nb : Nat} {L : List Wd} {R : Value} {D : DataW Value} {M : Nat → Bool}

theorem Bk.apart (h : Bk w wr y r n L mb j R nb D M) : ∀ g, R.ownBlock = some g → g ≠ mb := fun g hg e => by
  subst e
  exact (h.own.tb hg).2.not_map h.map.isM

theorem Bk.below {v : World} (h : Bk w wr y r n L mb j R nb D M) (b : Below wr.heap.size wr v) : Bk w v y r n L mb j R nb D M :=
  ⟨on h.bel b, h.own.below b, h.map.below b, h.mbB, h.nbl, h.met, h.one⟩

theorem drop_rev {L : List Wd} {k : Nat} {a : Wd} (h : L[k]? = some a) : (L.drop k).reverse = (L.drop (k + 1)).reverse ++ [a] := by
  obtain ⟨h1, h2⟩ := List.getElem?_eq_some_iff.1 h
  rw [List.drop_eq_getElem_cons h1, List.reverse_cons, h2]

/- One that does not draw. -/
theorem Bk.skip {k : Nat} {a : Wd} (h : Bk w wr y r n L mb (k + 1) R nb D M) (hl : L.length = n) (hn : n * 16 ≤ 140737488351232) (ha : L[k]? = some a) (hno : okB a = false) :
    ∃ R' w', (Builtin.append_ #[29, 29] 29 #[R, .slice (some ⟨wr.heap.size, 0, none⟩) 1 1]).run Try.prog (wr.alloc (.cells #[.int .i64 a.id, .int .i64 a.wt] 23)) = .ok R' w' ∧
      Hid (Bk w w' y r n L mb k R' nb D M) := by
  have hk := (List.getElem?_eq_some_iff.1 ha).1
  obtain ⟨R', w', h1, H⟩ := push_w h.own a h.bel.size (by rw [List.length_reverse, List.length_drop]; omega)
  have hD := DL_no (x := y) (r := r) ha hno
  refine ⟨R', w', h1, ⟨?_, by rw [drop_rev ha]; exact H.out.1, h.map.turns H.out.2 (fun e => h.apart _ e rfl), h.mbB, by have := h.nbl; omega, fun d => ?_, fun p q d p1 p2 q1 q2 e1 e2 => ?_⟩⟩
  · exact h.bel.trans (H.out.2.below (fun g hg => (h.own.tb hg).1) h.bel.size)
  · rw [h.met d]
    constructor
    · rintro ⟨q, q1, q2, q3⟩
      exact ⟨q, by omega, q2, q3⟩
    · rintro ⟨q, q1, q2, q3⟩
      refine ⟨q, ?_, q2, q3⟩
      by_cases e : q = k
      · rw [e, hD] at q3; cases q3
      · omega
  · have np : p ≠ k := fun e => by rw [e, hD] at e1; cases e1
    have nq : q ≠ k := fun e => by rw [e, hD] at e2; cases e2
    exact h.one p q d (by omega) p2 (by omega) q2 e1 e2

/- One whose draw was not met yet. -/
theorem Bk.take {k : Nat} {a : Wd} (h : Bk w wr y r n L mb (k + 1) R nb D M) (hl : L.length = n) (hn : n * 16 ≤ 140737488351232) (ha : L[k]? = some a) (hok : okB a = true) (hm : M (dr y r a) = false) :
    ∃ wm, (Instr.mapUpdate 36 (.map (some mb)) (.int .i64 (dr y r a : Int)) (.bool true)).run Try.prog wr = .ok () wm ∧ Below w.heap.size w wm ∧ wr.heap.size ≤ wm.heap.size ∧ ∃ R' w', (Builtin.append_ #[29, 29] 29 #[R, .slice (some ⟨wm.heap.size, 0, none⟩) 1 1]).run Try.prog (wm.alloc (.cells #[.int .i64 a.id, .int .i64 a.wt] 23)) = .ok R' w' ∧
      Hid (∃ D' M', Bk w w' y r n L mb k R' (nb + 1) D' M') := by
  have hk := (List.getElem?_eq_some_iff.1 ha).1
  have hD := DL_yes (x := y) (r := r) ha hok
  obtain ⟨wm, D', hu, HU⟩ := h.map.put (dr y r a) (dr_lt y r a) (by have := h.nbl; omega)
  have own2 : Own wm w.heap.size 23 2 enW R (L.drop (k + 1)).reverse := h.own.turns HU.out.2 (fun g hg e => h.apart g hg e)
  have bel2 : Below w.heap.size w wm := h.bel.trans (HU.out.2.below (fun g hg => by have := h.mbB; omega) h.bel.size)
  obtain ⟨R', w', h1, H⟩ := push_w own2 a bel2.size (by rw [List.length_reverse, List.length_drop]; omega)
  refine ⟨wm, hu, bel2, HU.out.2.size, R', w', h1, D', _, ⟨bel2.trans (H.out.2.below (fun g hg => (own2.tb hg).1) bel2.size), by rw [drop_rev ha]; exact H.out.1, HU.out.1.turns H.out.2 (fun e => h.apart _ e rfl), h.mbB, by have := h.nbl; omega, fun d => ?_, fun p q d p1 p2 q1 q2 e1 e2 => ?_⟩⟩
  · by_cases e : d = dr y r a
    · subst e
      simp only [if_pos]
      exact ⟨fun _ => ⟨k, Nat.le_refl _, by omega, hD⟩, fun _ => trivial⟩
    · simp only [if_neg e]
      rw [h.met d]
      constructor
      · rintro ⟨q, q1, q2, q3⟩
        exact ⟨q, by omega, q2, q3⟩
      · rintro ⟨q, q1, q2, q3⟩
        refine ⟨q, ?_, q2, q3⟩
        by_cases e2 : q = k
        · rw [e2, hD] at q3
          injection q3 with q3
          exact absurd q3.symm e
        · omega
  · have new : ∀ q, k + 1 ≤ q → q < n → DL y r L q = some d → d ≠ dr y r a := fun q a1 a2 a3 e => by
      have := (h.met d).2 ⟨q, a1, a2, a3⟩
      rw [e, hm] at this
      cases this
    have atk : DL y r L k = some d → d = dr y r a := fun e => by rw [hD] at e; injection e with e; exact e.symm
    by_cases ep : p = k
    · by_cases eq : q = k
      · omega
      · exact absurd (atk (by rw [← ep]; exact e1)) (new q (by omega) q2 e2)
    · by_cases eq : q = k
      · exact absurd (atk (by rw [← eq]; exact e2)) (new p (by omega) p2 e1)
      · exact h.one p q d (by omega) p2 (by omega) q2 e1 e2

end

theorem DL_rev {y r : Nat} (L : List Wd) (k : Nat) (hk : k < L.length) : DL y r L.reverse k = DL y r L (L.length - 1 - k) := by
  unfold DL
  rw [List.getElem?_reverse hk]

end Go.Proofs.Ythchbbebconojaa.Sr

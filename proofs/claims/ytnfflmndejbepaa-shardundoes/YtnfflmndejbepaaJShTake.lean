/-
  2 texts of this proof, one behind the other: ShTake, ShDoP.
-/
import Derived.Test.YtnfflmndejbepaaShSet
import Derived.Test.YtnfflmndejbepaaJMxOrders
/-
  Head; takeBack: the last entry taken back.
  Conditions: the shard is one's own, its items rise, it has an Undo and an entry.
-/
namespace Go.Proofs.Ytnfflmndejbepaa.Sh
set_option linter.unusedSectionVars false
variable [Inhabited DZ]
open Go.RowKit By Fl
set_option linter.unusedVariables false
set_option linter.unusedSimpArgs false
set_option maxRecDepth 100000

theorem head_any (v : SV) (w : World) : Calls Try.prog 23 #[vS v] w fun e w' => e = .returned (.int .i64 v.n2) ∧ Below w.heap.size w w' := by
  obtain ⟨pl, si, x1, n1, c1, I, x2, n2, c2, E, x3, n3, c3, U⟩ := v
  unfold vS
  dsimp only
  go_enter Try.func23, Try.ntmps23
  go_wp2_with fail
  go_ret
  exact ⟨rfl, al _ _⟩

/- A box that holds a shard from a cell on. -/
def BoxS (A : Array Value) (of : Nat) (v : SV) : Prop := A[of]? = some (.int .i64 v.pl) ∧ A[of + 1]? = some (.int .i64 v.si) ∧ A[of + 2]? = some (.slice v.x1 v.n1 v.c1) ∧ A[of + 3]? = some (.slice v.x2 v.n2 v.c2) ∧ A[of + 4]? = some (.slice v.x3 v.n3 v.c3)

theorem arr_ne {A : Array Value} {i j : Nat} {v : Value} (h : j ≠ i) : (A.setIfInBounds i v)[j]? = A[j]? := by
  rw [Array.getElem?_setIfInBounds, if_neg (Ne.symm h)]
theorem arr_eq {A : Array Value} {i : Nat} {v u : Value} (h : A[i]? = some u) : (A.setIfInBounds i v)[i]? = some v := by
  have := (Array.getElem?_eq_some_iff.1 h).1
  rw [Array.getElem?_setIfInBounds, if_pos rfl, if_pos this]

/- A shard that is turned through a pointer into a box. -/
def Turned (w : World) (G : Nat → Prop) (p of : Nat) (A : Array Value) (T : TypeId) (s : Shd) (w' : World) : Prop :=
  ∃ v' A', w'.heap[p]? = some (.cells A' T (0, 0)) ∧ BoxS A' of v' ∧ (∀ j, (j < of ∨ of + 5 ≤ j) → A'[j]? = A[j]?) ∧ OwS w' (fun q => G q ∨ New w w' q) v' ∧ pS v' = s ∧ Turns (fun q => q = p ∨ G q) w w'

set_option maxHeartbeats 6400000 in
theorem takeBack_any {w : World} {G : Nat → Prop} {p of : Nat} {A : Array Value} {T : TypeId} {v : SV} (hp : w.heap[p]? = some (.cells A T (0, 0))) (hA : BoxS A of v) (hTI : 79 ≠ T) (hTE : 67 ≠ T) (hTU : 89 ≠ T) (hT8 : 5 ≠ T) (ho : OwS w G v) (hr : Rise (v.I.map pI)) (hsm : v.I.length < 100000000) (hU : v.U ≠ []) (hE : v.E ≠ []) :
    Calls Try.prog 54 #[.pointer (some ⟨p, of, none⟩)] w fun e w' => e = .returned (.tuple #[]) ∧ Hid (Turned w G p of A T (back1 (pS v)) w') := by
  have HP := hid hp
  have HA := hid hA
  have HO := hid ho
  have HLp := hid (lt_heap hp)
  have HNE := hid (List.length_pos_iff.2 hE)
  obtain ⟨g, c', hR, hle, hcm, _, hgl⟩ := ho.ou.there hU
  obtain ⟨ge, ce, hRe, hlee, hcme, _, hgle⟩ := ho.oe.there hE
  have hlen := List.length_pos_iff.2 hU
  obtain ⟨k, hk⟩ : ∃ k, v.U.length = k + 1 := ⟨v.U.length - 1, by omega⟩
  obtain ⟨u, hu⟩ : ∃ u, v.U[k]? = some u := ⟨_, List.getElem?_eq_getElem (by omega)⟩
  have hlu := ho.lu
  have hleE := ho.le
  have k0 := (hR ▸ ho.ou : Own w 0 89 6 enU (.slice (some ⟨g, 0, none⟩) v.U.length c') v.U).cell urow.len hu (j := 0) (v := .int .i64 u.seq) rfl
  have k1 := (hR ▸ ho.ou : Own w 0 89 6 enU (.slice (some ⟨g, 0, none⟩) v.U.length c') v.U).cell urow.len hu (j := 1) (v := .string u.nm) rfl
  have k2 := (hR ▸ ho.ou : Own w 0 89 6 enU (.slice (some ⟨g, 0, none⟩) v.U.length c') v.U).cell urow.len hu (j := 2) (v := .bool u.has) rfl
  have k3 := (hR ▸ ho.ou : Own w 0 89 6 enU (.slice (some ⟨g, 0, none⟩) v.U.length c') v.U).cell urow.len hu (j := 3) (v := .int .i64 u.was.sz) rfl
  have k4 := (hR ▸ ho.ou : Own w 0 89 6 enU (.slice (some ⟨g, 0, none⟩) v.U.length c') v.U).cell urow.len hu (j := 4) (v := .slice u.was.x u.was.n u.was.c) rfl
  have k5 := (hR ▸ ho.ou : Own w 0 89 6 enU (.slice (some ⟨g, 0, none⟩) v.U.length c') v.U).cell urow.len hu (j := 5) (v := .int .u32 u.was.sum) rfl
  rw [Nat.add_zero] at k0
  have bI := al w (.cells #[.int .i64 u.seq, .string u.nm, .bool u.has, .int .i64 u.was.sz, .slice u.was.x u.was.n u.was.c, .int .u32 u.was.sum] 89)
  have HB1 := hid bI
  have hS := set_any u.nm u.has u.was ((bI.block p (lt_heap hp)).trans hp) hA.2.2.1 hTI (ho.oi.below bI) (Is.below ho.toS.i bI) hr hsm
  have HT := hid (And.intro hTI (And.intro hTE (And.intro hTU hT8)))
  have HU := hid (And.intro hk hu)
  have HRR := hid (And.intro hR hRe)
  have q4 := cell_heap hp hA.2.2.2.2
  rw [hR] at q4
  rw [hk] at q4
  have hkb : k ≤ 100000000 := by omega
  have hkw : IntKind.i64.wrap (((k + 1 : Nat) : Int) - 1) = (k : Int) := by rw [IntKind.wrap_i64]; omega
  have hkk : ((k : Int) + 1) - 1 = (k : Int) := by omega
  have hkn : (k : Int) < (k : Int) + 1 := by omega
  clear hp hA ho hR hRe hle hcm hgl hlee hcme hgle hU hE hk hu bI hTI hTE hTU hT8 hr hlen
  obtain ⟨sq, nm, hs, sz, cx, cn, cc, dat, sum⟩ := u
  unfold vC at hS
  dsimp only at k0 k1 k2 k3 k4 k5 hS
  go_enter Try.func54, Try.ntmps54
  go_upto_region 3 with (go_at_call 78; refine hS.mono ?_; rintro e w2 ⟨rfl, H2⟩)
  obtain ⟨x', n', d', L', hp2, oi2, hL', hm', t2, hb2, hl2⟩ := H2.out
  have t2' : Turns (fun q => q = p ∨ (Value.slice v.x1 v.n1 v.c1).ownBlock = some q) w w2 := (Turns.of_below HB1.out).more t2 (fun i hi => .inl hi)
  have nIU : ∀ q, (Value.slice v.x1 v.n1 v.c1).ownBlock = some q → q ≠ g := fun q hq => own_ne HO.out.oi HO.out.ou (by decide) hq (by rw [HRR.out.1]; rfl)
  have nIE : ∀ q, (Value.slice v.x1 v.n1 v.c1).ownBlock = some q → q ≠ ge := fun q hq => own_ne HO.out.oi HO.out.oe (by decide) hq (by rw [HRR.out.2]; rfl)
  have npu : p ≠ g := box_ne HO.out.ou HP.out HT.out.2.2.1 (by rw [HRR.out.1]; rfl)
  have npe : p ≠ ge := box_ne HO.out.oe HP.out HT.out.2.1 (by rw [HRR.out.2]; rfl)
  have nue : g ≠ ge := own_ne HO.out.ou HO.out.oe (by decide) (by rw [HRR.out.1]; rfl) (by rw [HRR.out.2]; rfl)
  have ou2 := HO.out.ou.turns t2' (fun q hq e => by
    have e2 : g = q := by rw [HRR.out.1] at hq; simpa [Value.ownBlock] using hq
    rcases e with e | e
    · omega
    · exact nIU q e e2.symm)
  have oe2 := HO.out.oe.turns t2' (fun q hq e => by
    have e2 : ge = q := by rw [HRR.out.2] at hq; simpa [Value.ownBlock] using hq
    rcases e with e | e
    · omega
    · exact nIE q e e2.symm)
  obtain ⟨j, hj⟩ : ∃ j, j = k + 1 := ⟨_, rfl⟩
  have HJ := hid hj
  have hji : (k : Int) + 1 = (j : Int) := by omega
  rw [HRR.out.1, HU.out.1, ← hj] at ou2
  rw [HRR.out.2] at oe2
  have hD := deleteU_any (i := k) (j := j) ou2 (by omega) (Nat.le_refl _)
  have ekk : k + (j - j) = k := by omega
  rw [ekk] at hD
  have HHp2 := hid hp2
  have HT2 := hid t2'
  have HI2 := hid (And.intro oi2 (And.intro hL' (And.intro hm' (And.intro hb2 hl2))))
  have HE2 := hid oe2
  have HU2 := hid ou2
  have HN := hid (And.intro nIU (And.intro nIE (And.intro npu (And.intro npe nue))))
  have r4 := cell_heap hp2 (j := of + 4) (by rw [arr_ne (by omega)]; exact HA.out.2.2.2.2)
  rw [HRR.out.1, HU.out.1, ← hj] at r4
  have hwj : IntKind.i64.wrap (j : Int) = (j : Int) := by rw [IntKind.wrap_i64]; omega
  have hjb : j ≤ 100000001 := by omega
  clear hkw hkk hkn hj
  clear H2 hS q4 k0 k1 k2 k3 k4 k5 hp2 t2 t2' oi2 hL' hm' hb2 hl2 nIU nIE npu npe nue ou2 oe2 ekk
  go_upto_region 4 with (go_at_call 79; refine hD.mono ?_; rintro e w3 ⟨rfl, H3⟩; have hp3 := (H3.out.2.block p (lt_heap HHp2.out) HN.out.2.2.1).trans HHp2.out; have r4' := cell_heap hp3 (j := of + 4) (by rw [arr_ne (by omega)]; exact HA.out.2.2.2.2); have f4 := fr_heap hp3 (of + 4); have HHp3 := hid hp3; clear hD hp3)
  obtain ⟨m, hm⟩ : ∃ m, v.E.length = m + 1 := ⟨v.E.length - 1, by have := HNE.out; omega⟩
  obtain ⟨l, hl⟩ : ∃ l, l = m + 1 := ⟨_, rfl⟩
  have HML := hid (And.intro hm hl)
  have e3 := HE2.out.turns H3.out.2 (fun q hq e => HN.out.2.2.2.2 (by have : ge = q := by simpa [Value.ownBlock] using hq
                                                                      omega))
  rw [hm, ← hl] at e3
  have HE3 := hid e3
  have hb4 := heap_set HHp3.out (j := of + 4) (.slice (some ⟨g, 0, none⟩) k c')
  have t4 := (Turns.refl (fun q => q = p) w3).setCell (p := ⟨p, of + 4, none⟩) (.inl rfl) (.slice (some ⟨g, 0, none⟩) k c')
  have HT4 := hid t4
  generalize w3.setCell ⟨p, of + 4, none⟩ (.slice (some ⟨g, 0, none⟩) k c') = w4 at *
  have s0 := cell_heap hb4 (j := of) (by rw [arr_ne (by omega), arr_ne (by omega)]; exact HA.out.1)
  have s1 := cell_heap hb4 (j := of + 1) (by rw [arr_ne (by omega), arr_ne (by omega)]; exact HA.out.2.1)
  have s2 := cell_heap hb4 (j := of + 2) (by rw [arr_ne (by omega)]; exact arr_eq HA.out.2.2.1)
  have s3 := cell_heap hb4 (j := of + 3) (by rw [arr_ne (by omega), arr_ne (by omega)]; exact HA.out.2.2.2.1)
  have s4 := cell_heap hb4 (j := of + 4) (arr_eq (u := .slice v.x3 v.n3 v.c3) (by rw [arr_ne (by omega)]; exact HA.out.2.2.2.2))
  rw [HRR.out.2, hm, ← hl] at s3
  have S4 := (⟨keep (Below.refl _ _).drew s0, keep (Below.refl _ _).drew s1, keep (Below.refl _ _).drew s2, keep (Below.refl _ _).drew s3, keep (Below.refl _ _).drew s4⟩ : w4.drew.cell? ⟨p, of, none⟩ = some (.int .i64 v.pl) ∧ w4.drew.cell? ⟨p, of + 1, none⟩ = some (.int .i64 v.si) ∧ w4.drew.cell? ⟨p, of + 2, none⟩ = some (.slice x' n' d') ∧ w4.drew.cell? ⟨p, of + 3, none⟩ = some (.slice (some ⟨ge, 0, none⟩) l ce) ∧ w4.drew.cell? ⟨p, of + 4, none⟩ = some (.slice (some ⟨g, 0, none⟩) k c'))
  have HB4 := hid hb4
  have hwl : IntKind.i64.wrap (m : Int) = (m : Int) := by rw [IntKind.wrap_i64]; omega
  have hll : (l : Int) - 1 = (m : Int) := by omega
  have hlb : l ≤ 100000000 := by omega
  have hH : ∀ w, Calls Try.prog 23 #[.agg #[.int .i64 v.pl, .int .i64 v.si, .slice x' n' d', .slice (some ⟨ge, 0, none⟩) l ce, .slice (some ⟨g, 0, none⟩) k c']] w fun e w' => e = .returned (.int .i64 (l : Int)) ∧ Below w.heap.size w w' := fun w => head_any ⟨v.pl, v.si, x', n', d', L', some ⟨ge, 0, none⟩, l, ce, v.E, some ⟨g, 0, none⟩, k, c', v.U.take k⟩ w
  clear r4 r4' f4 e3 hm hl hb4 t4 s0 s1 s2 s3 s4 hwj hjb hji
  refine wp_region_tail (fun u => u.cell? ⟨p, of, none⟩ = some (.int .i64 v.pl) ∧ u.cell? ⟨p, of + 1, none⟩ = some (.int .i64 v.si) ∧ u.cell? ⟨p, of + 2, none⟩ = some (.slice x' n' d') ∧ u.cell? ⟨p, of + 3, none⟩ = some (.slice (some ⟨ge, 0, none⟩) l ce) ∧ u.cell? ⟨p, of + 4, none⟩ = some (.slice (some ⟨g, 0, none⟩) k c')) [15, 16, 17] (by kernel_rfl) S4 (fun hS => ?_)
  have bD : Below w4.heap.size w4 w4.drew := (Below.refl _ _).drew
  clear S4
  generalize w4.drew = wD at *
  refine By.tk 0 ?_
  refine By.tk 1 ?_
  refine By.tk 2 ?_
  refine By.tk 3 ?_
  refine By.tk 4 ?_
  refine By.tk 5 ?_
  refine By.tk 6 ?_
  refine By.tk 7 ?_
  refine By.tk 10 ?_
  refine By.tk 11 ?_
  refine By.tk 12 ?_
  refine wpAnyT_one (i := 8) (by kernel_rfl) rfl (fun K hK => ?_)
  go_simp
  refine (hH wD).mono ?_
  rintro e w5 ⟨rfl, b5⟩
  have S5 := (⟨keep b5 hS.1, keep b5 hS.2.1, keep b5 hS.2.2.1, keep b5 hS.2.2.2.1, keep b5 hS.2.2.2.2⟩ : w5.cell? ⟨p, of, none⟩ = some (.int .i64 v.pl) ∧ w5.cell? ⟨p, of + 1, none⟩ = some (.int .i64 v.si) ∧ w5.cell? ⟨p, of + 2, none⟩ = some (.slice x' n' d') ∧ w5.cell? ⟨p, of + 3, none⟩ = some (.slice (some ⟨ge, 0, none⟩) l ce) ∧ w5.cell? ⟨p, of + 4, none⟩ = some (.slice (some ⟨g, 0, none⟩) k c'))
  have bD5 := on bD b5
  clear hS bD b5
  refine hK.out _ _ (fun _ => S5) ?_
  clear hK K
  refine By.tk 9 ?_
  refine wpAnyT_one (i := 13) (by kernel_rfl) rfl (fun K hK => ?_)
  go_simp
  refine (hH w5).mono ?_
  rintro e w6 ⟨rfl, b6⟩
  have S6 := (⟨keep b6 S5.1, keep b6 S5.2.1, keep b6 S5.2.2.1, keep b6 S5.2.2.2.1, keep b6 S5.2.2.2.2⟩ : w6.cell? ⟨p, of, none⟩ = some (.int .i64 v.pl) ∧ w6.cell? ⟨p, of + 1, none⟩ = some (.int .i64 v.si) ∧ w6.cell? ⟨p, of + 2, none⟩ = some (.slice x' n' d') ∧ w6.cell? ⟨p, of + 3, none⟩ = some (.slice (some ⟨ge, 0, none⟩) l ce) ∧ w6.cell? ⟨p, of + 4, none⟩ = some (.slice (some ⟨g, 0, none⟩) k c'))
  have bD6 := on bD5 b6
  clear S5 bD5 b6
  refine hK.out _ _ (fun _ => S6) ?_
  clear hK K
  have gee : ∀ q, (Value.slice (some (⟨ge, 0, none⟩ : Addr)) l ce).ownBlock = some q → ge = q := fun q hq => by simpa [Value.ownBlock] using hq
  have oe6 := (HE3.out.turns HT4.out (fun q hq e => HN.out.2.2.2.1 (e.symm.trans (gee q hq).symm))).below bD6
  have hDE := deleteE_any (i := m) (j := l) oe6 (by have := HML.out.2; omega) (Nat.le_refl _)
  have emm : m + (l - l) = m := by omega
  rw [emm] at hDE
  have HBD6 := hid bD6
  have HP6 := hid ((bD6.block p (lt_heap HB4.out)).trans HB4.out)
  clear oe6 emm bD6
  refine wpAnyT_one (i := 14) (by kernel_rfl) rfl (fun K hK => ?_)
  go_simp
  with_reducible refine hDE.mono ?_
  rintro e w7 ⟨rfl, H7⟩
  have hp7 := (H7.out.2.block p (lt_heap HP6.out) HN.out.2.2.2.1).trans HP6.out
  have hK : ∀ (q : Nat) (v : Value), w6.cell? ⟨p, q, none⟩ = some v → w7.cell? ⟨p, q, none⟩ = some v := fun q v hv =>
    (World.cell?_of_block (a := ⟨p, q, none⟩) (H7.out.2.block p (cell_lt' hv) HN.out.2.2.2.1)).trans hv
  have S7 := (⟨hK _ _ S6.1, hK _ _ S6.2.1, hK _ _ S6.2.2.1, hK _ _ S6.2.2.2.1, hK _ _ S6.2.2.2.2⟩ : w7.cell? ⟨p, of, none⟩ = some (.int .i64 v.pl) ∧ w7.cell? ⟨p, of + 1, none⟩ = some (.int .i64 v.si) ∧ w7.cell? ⟨p, of + 2, none⟩ = some (.slice x' n' d') ∧ w7.cell? ⟨p, of + 3, none⟩ = some (.slice (some ⟨ge, 0, none⟩) l ce) ∧ w7.cell? ⟨p, of + 4, none⟩ = some (.slice (some ⟨g, 0, none⟩) k c'))
  have HP7 := hid hp7
  clear hDE S6 hK hH
  refine hK.out _ _ (fun _ => S7) ?_
  clear hK K
  have q7 := S7.2.2.2.1
  have f7 := fr_heap hp7 (of + 3)
  clear S7 hp7
  refine wpAnyT_one (i := 15) (by kernel_rfl) rfl (fun K hK => ?_)
  go_simp
  refine hK.out _ _ (fun h => absurd (by decide) h) ?_
  clear hK K
  refine wpAnyT_one (i := 16) (by kernel_rfl) rfl (fun K hK => ?_)
  go_simp
  refine hK.out _ _ (fun h => absurd (by decide) h) ?_
  clear hK K
  refine wpAnyT_one (i := 17) (by kernel_rfl) rfl (fun K hK => ?_)
  go_simp
  refine hK.out _ _ (fun h => absurd (by decide) h) ?_
  clear hK K
  refine wpAnyT_done (by kernel_rfl) ?_ _
  clear q7 f7
  have hb8 := heap_set HP7.out (j := of + 3) (.slice (some ⟨ge, 0, none⟩) m ce)
  have t8 := (Turns.refl (fun q => q = p) w7).setCell (p := ⟨p, of + 3, none⟩) (.inl rfl) (.slice (some ⟨ge, 0, none⟩) m ce)
  have HP8 := hid hb8
  have HT8 := hid t8
  clear hb8 t8
  generalize w7.setCell ⟨p, of + 3, none⟩ (.slice (some ⟨ge, 0, none⟩) m ce) = w8 at *
  go_wp2_with fail
  go_end0
  refine ⟨rfl, hid ?_⟩
  have hk := HU.out.1
  have hu := HU.out.2
  have hm := HML.out.1
  have hl := HML.out.2
  have hj := HJ.out
  have ogu : (Value.slice v.x3 v.n3 v.c3).ownBlock = some g := by rw [HRR.out.1]; rfl
  have oge : (Value.slice v.x2 v.n2 v.c2).ownBlock = some ge := by rw [HRR.out.2]; rfl
  have T28 : Turns (fun q => q = p ∨ q = g ∨ q = ge) w2 w8 := ((((H3.out.2.weak fun q hq => .inr (.inl hq)).trans (HT4.out.weak fun q hq => .inl hq)).trans (Turns.of_below HBD6.out)).trans (H7.out.2.weak fun q hq => .inr (.inr hq))).trans (HT8.out.weak fun q hq => .inl hq)
  have T38 : Turns (fun q => q = p ∨ q = ge) w3 w8 := (((HT4.out.weak fun q hq => .inl hq).trans (Turns.of_below HBD6.out)).trans (H7.out.2.weak fun q hq => .inr hq)).trans (HT8.out.weak fun q hq => .inl hq)
  have TT : Turns (fun q => q = p ∨ (Value.slice v.x1 v.n1 v.c1).ownBlock = some q ∨ q = g ∨ q = ge) w w8 := (HT2.out.weak fun q hq => hq.elim .inl fun h => .inr (.inl h)).trans (T28.weak fun q hq => hq.elim .inl fun h => .inr (.inr h))
  have sz8 := T28.size
  have oi8 := HI2.out.1.turns T28 (fun q hq e => by
    rcases e with e | e | e
    · exact box_ne HI2.out.1 HHp2.out HT.out.1 hq e.symm
    · exact own_ne HI2.out.1 HU2.out (by decide) hq rfl e
    · exact own_ne HI2.out.1 HE2.out (by decide) hq rfl e)
  have eE : List.take m v.E ++ List.drop l v.E = v.E.take m := by rw [List.drop_eq_nil_of_le (by omega), List.append_nil]
  have eU : List.take k v.U ++ List.drop j v.U = v.U.take k := by rw [List.drop_eq_nil_of_le (by omega), List.append_nil]
  have oe8 := H7.out.1.turns HT8.out (fun q hq e => HN.out.2.2.2.1 (by
    have : ge = q := by simpa [Value.ownBlock] using hq
    omega))
  rw [eE] at oe8
  have ou8 := H3.out.1.turns T38 (fun q hq e => by
    have e2 : g = q := by simpa [Value.ownBlock] using hq
    rcases e with e | e
    · exact HN.out.2.2.1 (by omega)
    · exact HN.out.2.2.2.2 (by omega))
  rw [eU] at ou8
  have KB : Keeps (Nb G w) w w8 := ⟨TT.size, fun b hb hlt => TT.block b hlt (fun e => by
    rcases e with e | e | e | e
    · exact HT.out.2.2.2 (hb.2.same ⟨_, _, e ▸ HP.out⟩)
    · exact own_nb HO.out.oi (by decide) e hb rfl
    · exact own_nb HO.out.ou (by decide) ogu hb e
    · exact own_nb HO.out.oe (by decide) oge hb e)⟩
  have nb8 : ∀ b, Nb G w b → Nb (fun q => G q ∨ New w w8 q) w8 b := fun b hb => ⟨.inl hb.1, hb.2.of_heap (KB.block b hb hb.2.lt)⟩
  refine ⟨⟨v.pl, v.si, x', n', d', L', some ⟨ge, 0, none⟩, m, ce, v.E.take m, some ⟨g, 0, none⟩, k, c', v.U.take k⟩, _, HP8.out, ⟨?_, ?_, ?_, ?_, ?_⟩, fun q hq => ?_, ⟨oi8, oe8, ou8, fun q hq => ?_, fun q hq => .inl (HO.out.ge q (oge.trans (hq.symm.trans rfl).symm)), fun q hq => .inl (HO.out.gu q (ogu.trans (hq.symm.trans rfl).symm)), fun a ha => ?_, fun a ha => HO.out.ce a (List.mem_of_mem_take ha), fun a ha => ((HO.out.cu a (List.mem_of_mem_take ha)).keeps KB).weak nb8, ?_, ?_, ?_⟩, ?_, TT.weak fun q hq => ?_⟩
  · rw [arr_ne (by omega), arr_ne (by omega), arr_ne (by omega)]; exact HA.out.1
  · rw [arr_ne (by omega), arr_ne (by omega), arr_ne (by omega)]; exact HA.out.2.1
  · rw [arr_ne (by omega), arr_ne (by omega)]; exact arr_eq HA.out.2.2.1
  · exact arr_eq (u := .slice v.x2 v.n2 v.c2) (by rw [arr_ne (by omega), arr_ne (by omega)]; exact HA.out.2.2.2.1)
  · rw [arr_ne (by omega)]
    exact arr_eq (u := .slice v.x3 v.n3 v.c3) (by rw [arr_ne (by omega)]; exact HA.out.2.2.2.2)
  · rw [arr_ne (by omega), arr_ne (by omega), arr_ne (by omega)]
  · rcases HI2.out.2.2.2.1 q hq with h | h
    · exact .inl (HO.out.gi q h)
    · refine .inr ⟨Nat.le_trans HB1.out.size h, (World.ownsRow.lt oi8 q hq).2⟩
  · rcases HI2.out.2.2.1 a ha with h | h
    · exact ((HO.out.ci a h).keeps KB).weak nb8
    · subst h
      have hc := HO.out.cu _ (List.mem_of_getElem? hu)
      exact (IAt.keeps (v := ⟨nm, ⟨sz, cx, cn, cc, dat, sum⟩⟩) ⟨hc.1, hc.2⟩ KB).weak nb8
  · have := HI2.out.2.2.2.2
    exact Nat.le_trans this (by omega)
  · rw [List.length_take]; omega
  · rw [List.length_take]; omega
  · have hg : (v.U.map pU).getLast? = some (pU ⟨sq, nm, hs, ⟨sz, cx, cn, cc, dat, sum⟩⟩) := by
      rw [List.getLast?_eq_getElem?, List.length_map, List.getElem?_map, hk, Nat.add_sub_cancel, hu]; rfl
    unfold back1 pS
    dsimp only
    rw [hg]
    dsimp only
    rw [HI2.out.2.1, List.dropLast_eq_take, List.dropLast_eq_take, List.length_map, hk, hm, Nat.add_sub_cancel, Nat.add_sub_cancel, List.map_take]
    rfl
  · rcases hq with h | h | h | h
    · exact .inl h
    · exact .inr (HO.out.gi q h)
    · exact .inr (h ▸ HO.out.gu g ogu)
    · exact .inr (h ▸ HO.out.ge ge oge)

end Go.Proofs.Ytnfflmndejbepaa.Sh

/-
  What an Undo, an entry and an item leave of a shard that lies in a box.
  Conditions: the shard is one's own, its lists are short.
-/
namespace Go.Proofs.Ytnfflmndejbepaa.Sh
set_option linter.unusedSectionVars false
variable [Inhabited DZ]
open Go.RowKit By Fl
set_option linter.unusedVariables false
set_option linter.unusedSimpArgs false
set_option maxRecDepth 100000

section
variable {w w' wa w3 w4 : World} {G : Nat → Prop} {p of : Nat} {A : Array Value} {T : TypeId} {v : SV} {x' : Option Addr} {c' : Nat}

theorem nb_more (KB : Keeps (Nb G w) w w') {G' : Nat → Prop} (hG : ∀ q, G q → G' q) : ∀ b, Nb G w b → Nb G' w' b :=
  fun b hb => ⟨hG _ hb.1, hb.2.of_heap (KB.block b hb hb.2.lt)⟩

/- One more Undo. -/
theorem undo_more (hp : w.heap[p]? = some (.cells A T (0, 0))) (hA : BoxS A of v) (hT : 79 ≠ T ∧ 67 ≠ T ∧ 89 ≠ T ∧ 5 ≠ T) (ho : OwS w G v) (h1 : Below w.heap.size w wa) {u : UV} (hu : UAt wa (Nb (New w wa) wa) u)
    (H : Own w3 0 89 6 enU (.slice x' (v.U.length + 1) c') (v.U ++ [u]) ∧ Turns (fun j => (Value.slice v.x3 v.n3 v.c3).ownBlock = some j) wa w3 ∧ (∀ g, (Value.slice x' (v.U.length + 1) c').ownBlock = some g → (Value.slice v.x3 v.n3 v.c3).ownBlock = some g ∨ g = wa.heap.size))
    (t4 : Turns (fun q => q = p) w3 w4) (hp4 : w4.heap[p]? = some (.cells (A.setIfInBounds (of + 4) (.slice x' (v.U.length + 1) c')) T (0, 0))) (hs : v.U.length < 100000000) :
    OwS w4 (fun q => G q ∨ New w w4 q) ⟨v.pl, v.si, v.x1, v.n1, v.c1, v.I, v.x2, v.n2, v.c2, v.E, x', v.U.length + 1, c', v.U ++ [u]⟩ ∧
      BoxS (A.setIfInBounds (of + 4) (.slice x' (v.U.length + 1) c')) of ⟨v.pl, v.si, v.x1, v.n1, v.c1, v.I, v.x2, v.n2, v.c2, v.E, x', v.U.length + 1, c', v.U ++ [u]⟩ ∧ Turns (fun q => q = p ∨ G q) w w4 := by
  obtain ⟨hTI, hTE, hTU, hT8⟩ := hT
  have T3 : Turns (fun q => (Value.slice v.x3 v.n3 v.c3).ownBlock = some q) w w3 := (Turns.of_below h1).trans H.2.1
  have TT : Turns (fun q => q = p ∨ (Value.slice v.x3 v.n3 v.c3).ownBlock = some q) w w4 := (T3.weak fun q hq => .inr hq).trans (t4.weak fun q hq => .inl hq)
  have npu : ∀ g, (Value.slice x' (v.U.length + 1) c').ownBlock = some g → g ≠ p := fun g hg e => by
    have h3 : g < w3.heap.size := (World.ownsRow.lt H.1 g hg).2
    rcases H.2.2 g hg with h | h
    · exact box_ne ho.ou hp hTU h e.symm
    · have := lt_heap hp
      have := h1.size
      omega
  have ou4 := H.1.turns t4 (fun q hq e => npu q hq e)
  have oi4 := ho.oi.turns TT (fun q hq e => by
    rcases e with e | e
    · exact box_ne ho.oi hp hTI hq e.symm
    · exact own_ne ho.oi ho.ou (by decide) hq e rfl)
  have oe4 := ho.oe.turns TT (fun q hq e => by
    rcases e with e | e
    · exact box_ne ho.oe hp hTE hq e.symm
    · exact own_ne ho.oe ho.ou (by decide) hq e rfl)
  have KB : Keeps (Nb G w) w w4 := ⟨TT.size, fun b hb hlt => TT.block b hlt (fun e => by
    rcases e with e | e
    · exact hT8 (hb.2.same ⟨_, _, e ▸ hp⟩)
    · exact own_nb ho.ou (by decide) e hb rfl)⟩
  have KN : Keeps (Nb (New w wa) wa) wa w4 := ⟨Nat.le_trans H.2.1.size t4.size, fun b hb hlt => by
    have h3 : ¬ (Value.slice v.x3 v.n3 v.c3).ownBlock = some b := fun e => by
      have := (World.ownsRow.lt ho.ou b e).2
      have := hb.1.1
      omega
    have h4 := H.2.1.block b hlt h3
    refine (t4.block b (Nat.lt_of_lt_of_le hlt H.2.1.size) (fun e => ?_)).trans h4
    have := lt_heap hp
    have := hb.1.1
    omega⟩
  have nb4 := nb_more KB (G' := fun q => G q ∨ New w w4 q) fun q hq => .inl hq
  have sz3 := H.2.1.size
  have sz4 := t4.size
  refine ⟨⟨oi4, oe4, ou4, fun q hq => .inl (ho.gi q hq), fun q hq => .inl (ho.ge q hq), fun q hq => ?_, fun a ha => ((ho.ci a ha).keeps KB).weak nb4, fun a ha => ho.ce a ha, fun a ha => ?_, ho.li, ho.le, ?_⟩, ⟨?_, ?_, ?_, ?_, ?_⟩, TT.weak fun q hq => hq.imp id fun h => ho.gu q h⟩
  · have hlt := (World.ownsRow.lt ou4 q hq).2
    rcases H.2.2 q hq with h | h
    · exact .inl (ho.gu q h)
    · refine .inr ⟨?_, hlt⟩
      have := h1.size
      omega
  · rcases List.mem_append.1 ha with h | h
    · exact ((ho.cu a h).keeps KB).weak nb4
    · rw [List.mem_singleton] at h
      subst h
      exact (UAt.keeps hu KN).weak fun b hb => ⟨.inr ⟨hb.1.1, by have := hb.1.2; omega⟩, hb.2.of_heap (KN.block b hb hb.2.lt)⟩
  · show (v.U ++ [u]).length ≤ _
    rw [List.length_append]
    exact hs
  · rw [arr_ne (by omega)]; exact hA.1
  · rw [arr_ne (by omega)]; exact hA.2.1
  · rw [arr_ne (by omega)]; exact hA.2.2.1
  · rw [arr_ne (by omega)]; exact hA.2.2.2.1
  · exact arr_eq hA.2.2.2.2

/- One more entry. -/
theorem entry_more (hp : w.heap[p]? = some (.cells A T (0, 0))) (hA : BoxS A of v) (hT : 79 ≠ T ∧ 67 ≠ T ∧ 89 ≠ T ∧ 5 ≠ T) (ho : OwS w G v) (h1 : Below w.heap.size w wa) {u : Ent} (hu : u.nm.size ≤ 1048576)
    (H : Own w3 0 67 7 enE (.slice x' (v.E.length + 1) c') (v.E ++ [u]) ∧ Turns (fun j => (Value.slice v.x2 v.n2 v.c2).ownBlock = some j) wa w3 ∧ (∀ g, (Value.slice x' (v.E.length + 1) c').ownBlock = some g → (Value.slice v.x2 v.n2 v.c2).ownBlock = some g ∨ g = wa.heap.size))
    (t4 : Turns (fun q => q = p) w3 w4) (hp4 : w4.heap[p]? = some (.cells (A.setIfInBounds (of + 3) (.slice x' (v.E.length + 1) c')) T (0, 0))) (hs : v.E.length < 100000000) :
    OwS w4 (fun q => G q ∨ New w w4 q) ⟨v.pl, v.si, v.x1, v.n1, v.c1, v.I, x', v.E.length + 1, c', v.E ++ [u], v.x3, v.n3, v.c3, v.U⟩ ∧
      BoxS (A.setIfInBounds (of + 3) (.slice x' (v.E.length + 1) c')) of ⟨v.pl, v.si, v.x1, v.n1, v.c1, v.I, x', v.E.length + 1, c', v.E ++ [u], v.x3, v.n3, v.c3, v.U⟩ ∧ Turns (fun q => q = p ∨ G q) w w4 := by
  obtain ⟨hTI, hTE, hTU, hT8⟩ := hT
  have T3 : Turns (fun q => (Value.slice v.x2 v.n2 v.c2).ownBlock = some q) w w3 := (Turns.of_below h1).trans H.2.1
  have TT : Turns (fun q => q = p ∨ (Value.slice v.x2 v.n2 v.c2).ownBlock = some q) w w4 := (T3.weak fun q hq => .inr hq).trans (t4.weak fun q hq => .inl hq)
  have npu : ∀ g, (Value.slice x' (v.E.length + 1) c').ownBlock = some g → g ≠ p := fun g hg e => by
    rcases H.2.2 g hg with h | h
    · exact box_ne ho.oe hp hTE h e.symm
    · have := lt_heap hp
      have := h1.size
      omega
  have oe4 := H.1.turns t4 (fun q hq e => npu q hq e)
  have oi4 := ho.oi.turns TT (fun q hq e => by
    rcases e with e | e
    · exact box_ne ho.oi hp hTI hq e.symm
    · exact own_ne ho.oi ho.oe (by decide) hq e rfl)
  have ou4 := ho.ou.turns TT (fun q hq e => by
    rcases e with e | e
    · exact box_ne ho.ou hp hTU hq e.symm
    · exact own_ne ho.ou ho.oe (by decide) hq e rfl)
  have KB : Keeps (Nb G w) w w4 := ⟨TT.size, fun b hb hlt => TT.block b hlt (fun e => by
    rcases e with e | e
    · exact hT8 (hb.2.same ⟨_, _, e ▸ hp⟩)
    · exact own_nb ho.oe (by decide) e hb rfl)⟩
  have nb4 := nb_more KB (G' := fun q => G q ∨ New w w4 q) fun q hq => .inl hq
  refine ⟨⟨oi4, oe4, ou4, fun q hq => .inl (ho.gi q hq), fun q hq => ?_, fun q hq => .inl (ho.gu q hq), fun a ha => ((ho.ci a ha).keeps KB).weak nb4, fun a ha => ?_, fun a ha => ((ho.cu a ha).keeps KB).weak nb4, ho.li, ?_, ho.lu⟩, ⟨?_, ?_, ?_, ?_, ?_⟩, TT.weak fun q hq => hq.imp id fun h => ho.ge q h⟩
  · have hlt := (World.ownsRow.lt oe4 q hq).2
    rcases H.2.2 q hq with h | h
    · exact .inl (ho.ge q h)
    · refine .inr ⟨?_, hlt⟩
      have := h1.size
      omega
  · rcases List.mem_append.1 ha with h | h
    · exact ho.ce a h
    · rw [List.mem_singleton] at h
      subst h
      exact hu
  · show (v.E ++ [u]).length ≤ _
    rw [List.length_append]
    exact hs
  · rw [arr_ne (by omega)]; exact hA.1
  · rw [arr_ne (by omega)]; exact hA.2.1
  · rw [arr_ne (by omega)]; exact hA.2.2.1
  · exact arr_eq hA.2.2.2.1
  · rw [arr_ne (by omega)]; exact hA.2.2.2.2

/- An item that is a chunk, or gone. -/
theorem set_turned {nm : ByteArray} {has : Bool} {ch : CV} (hp : w.heap[p]? = some (.cells A T (0, 0))) (hA : BoxS A of v) (hT : 79 ≠ T ∧ 67 ≠ T ∧ 89 ≠ T ∧ 5 ≠ T) (ho : OwS w G v) (hnm : nm.size ≤ 1048576) (hc : CAt w (Nb G w) ch) (hs : v.I.length < 100000000)
    (H : SetOk w p of A T (.slice v.x1 v.n1 v.c1) v.I nm has ch w') : Turned w G p of A T ⟨v.pl, v.si, setI (v.I.map pI) nm has (pC ch), v.E, v.U.map pU⟩ w' := by
  obtain ⟨hTI, hTE, hTU, hT8⟩ := hT
  obtain ⟨x1, n1, c1, L, hp2, oi2, hL, hm, TT, hb2, hl2⟩ := H
  have oe4 := ho.oe.turns TT (fun q hq e => by
    rcases e with e | e
    · exact box_ne ho.oe hp hTE hq e.symm
    · exact own_ne ho.oe ho.oi (by decide) hq e rfl)
  have ou4 := ho.ou.turns TT (fun q hq e => by
    rcases e with e | e
    · exact box_ne ho.ou hp hTU hq e.symm
    · exact own_ne ho.ou ho.oi (by decide) hq e rfl)
  have KB : Keeps (Nb G w) w w' := ⟨TT.size, fun b hb hlt => TT.block b hlt (fun e => by
    rcases e with e | e
    · exact hT8 (hb.2.same ⟨_, _, e ▸ hp⟩)
    · exact own_nb ho.oi (by decide) e hb rfl)⟩
  have nb4 := nb_more KB (G' := fun q => G q ∨ New w w' q) fun q hq => .inl hq
  refine ⟨⟨v.pl, v.si, x1, n1, c1, L, v.x2, v.n2, v.c2, v.E, v.x3, v.n3, v.c3, v.U⟩, _, hp2, ⟨?_, ?_, ?_, ?_, ?_⟩, fun q hq => ?_, ⟨oi2, oe4, ou4, fun q hq => ?_, fun q hq => .inl (ho.ge q hq), fun q hq => .inl (ho.gu q hq), fun a ha => ?_, fun a ha => ho.ce a ha, fun a ha => ((ho.cu a ha).keeps KB).weak nb4, Nat.le_trans hl2 (by omega), ho.le, ho.lu⟩, ?_, TT.weak fun q hq => hq.imp id fun h => ho.gi q h⟩
  · rw [arr_ne (by omega)]; exact hA.1
  · rw [arr_ne (by omega)]; exact hA.2.1
  · exact arr_eq hA.2.2.1
  · rw [arr_ne (by omega)]; exact hA.2.2.2.1
  · rw [arr_ne (by omega)]; exact hA.2.2.2.2
  · rw [arr_ne (by omega)]
  · rcases hb2 q hq with h | h
    · exact .inl (ho.gi q h)
    · exact .inr ⟨h, (World.ownsRow.lt oi2 q hq).2⟩
  · rcases hm a ha with h | h
    · exact ((ho.ci a h).keeps KB).weak nb4
    · subst h
      exact (IAt.keeps (v := ⟨nm, ch⟩) ⟨hnm, hc⟩ KB).weak nb4
  · unfold pS
    dsimp only
    rw [hL]

theorem turned_here {A' : Array Value} (hp : w'.heap[p]? = some (.cells A' T (0, 0))) (hA : BoxS A' of v) (hj : ∀ j, (j < of ∨ of + 5 ≤ j) → A'[j]? = A[j]?) (ho : OwS w' (fun q => G q ∨ New w w' q) v) (ht : Turns (fun q => q = p ∨ G q) w w') : Turned w G p of A T (pS v) w' :=
  ⟨v, A', hp, hA, hj, ho, rfl, ht⟩

theorem turned_next {A' : Array Value} {s : Shd} (hj : ∀ j, (j < of ∨ of + 5 ≤ j) → A'[j]? = A[j]?) (ht : Turns (fun q => q = p ∨ G q) w wa) (H : Turned wa (fun q => G q ∨ New w wa q) p of A' T s w') : Turned w G p of A T s w' := by
  obtain ⟨v', A2, hp, hA, hj2, ho, hs, t2⟩ := H
  have tt : Turns (fun q => q = p ∨ G q) w w' := ⟨t2.os.trans ht.os, t2.tape.trans ht.tape, t2.output.trans ht.output, Nat.le_trans ht.size t2.size, fun k hk hn => by
    refine (t2.block k (Nat.lt_of_lt_of_le hk ht.size) (fun e => ?_)).trans (ht.block k hk hn)
    rcases e with e | e | e
    · exact hn (.inl e)
    · exact hn (.inr e)
    · have := e.1
      omega⟩
  refine ⟨v', A2, hp, hA, fun j h => (hj2 j h).trans (hj j h), ho.weak fun q hq => ?_, hs, tt⟩
  have s1 := ht.size
  have s2 := t2.size
  rcases hq with (h | h) | h
  · exact .inl h
  · exact .inr ⟨h.1, by have := h.2; omega⟩
  · exact .inr ⟨by have := h.1; omega, h.2⟩
theorem two_more {v4 v6 : SV} {A4 A6 : Array Value} (M4 : OwS w3 (fun q => G q ∨ New w w3 q) v4 ∧ BoxS A4 of v4 ∧ Turns (fun q => q = p ∨ G q) w w3)
    (M6 : OwS w4 (fun q => (G q ∨ New w w3 q) ∨ New w3 w4 q) v6 ∧ BoxS A6 of v6 ∧ Turns (fun q => q = p ∨ (G q ∨ New w w3 q)) w3 w4) : OwS w4 (fun q => G q ∨ New w w4 q) v6 ∧ BoxS A6 of v6 ∧ Turns (fun q => q = p ∨ G q) w w4 := by
  have s1 := M4.2.2.size
  have s2 := M6.2.2.size
  refine ⟨M6.1.weak fun q hq => ?_, M6.2.1, M4.2.2.more M6.2.2 fun i hi => ?_⟩
  · rcases hq with (h | h) | h
    · exact .inl h
    · exact .inr ⟨h.1, by have := h.2; omega⟩
    · exact .inr ⟨by have := h.1; omega, h.2⟩
  · rcases hi with h | h | h
    · exact .inl (.inl h)
    · exact .inl (.inr h)
    · exact .inr h.1
end

theorem do_is {v : SV} {e : Ent} {c : CV} {ok : Bool} {was : CV} (hok : (find e.nm (v.I.map pI)).isSome = ok) (hw : pC was = (find e.nm (v.I.map pI)).getD zC) :
    doE (pS v) e (pC c) = ⟨v.pl, v.si, if e.code = 0 then setI (v.I.map pI) e.nm (!e.gone) (pC c) else v.I.map pI, v.E ++ [e], (v.U ++ [(⟨e.seq, e.nm, ok, was⟩ : UV)]).map pU⟩ := by
  unfold doE undOf pS
  dsimp only
  rw [List.map_append, hok, ← hw]
  rfl

end Go.Proofs.Ytnfflmndejbepaa.Sh

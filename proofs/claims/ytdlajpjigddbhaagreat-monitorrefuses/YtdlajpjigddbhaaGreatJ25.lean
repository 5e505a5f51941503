/-
  Package monitor: follow: one decree more: it is applied.
  Conditions: the decree's bytes lie elsewhere.
-/
import Derived.Test.YtdlajpjigddbhaaGreatJ24
namespace Go.Proofs.YtdlajpjigddbhaaGreat.Mo
open Go.RowKit Wi By Fl Px At
set_option linter.unusedVariables false
set_option linter.unusedSimpArgs false
set_option maxRecDepth 100000

section
variable {w : World} {B q : Nat} {g : Ln} {st : Nd} {r : Nat} {cs : List Ch} {m : Mp} {Rc : Value} {x : Option Addr} {n c : Nat}

set_option maxHeartbeats 6400000 in
theorem follow_ok (h : MoAt w B q g st r cs m Rc x n c) (hr : r < 1000000000) (hcs : cs.length ≤ 90000) (hmk : m.pool.k ≤ 9223372036854775807) (y : Option Addr) (yn yc : Nat) (l : List Nat) (hl : Go.Proofs.YtdlajpjigddbhaaGreat.Sl w y yn yc l) (hn : yn ≤ 140737488355328) (hy : yn ≠ 0 → ∀ a, y = some a → a.block ≠ q) (ch : Ch) (hd : decC l = (ch, true)) (ha : (applyP m ch).1 = 0) :
    Calls Tryz.prog 45 #[.pointer (some ⟨q, 1, none⟩), .slice y yn yc] w fun e w' => e = .returned (.tuple #[]) ∧ Hid (∃ R' x' n' c', MoAt w' B q g st (r + 1) (stepC cs m l).1 (stepC cs m l).2 R' x' n' c' ∧ Turns (fun k => k = q ∨ Rc.ownBlock = some k) w w' ∧ ∀ k, R'.ownBlock = some k → Rc.ownBlock = some k ∨ w.heap.size ≤ k) := by
  have HSt : Hid (stepC cs m l = (cs ++ [ch], (applyP m ch).2)) := hid (by unfold stepC; rw [hd]; exact if_pos ⟨rfl, ha⟩)
  obtain ⟨h1, t1⟩ := h.setR
  have hl1 : Go.Proofs.YtdlajpjigddbhaaGreat.Sl (w.setCell ⟨q, 1, none⟩ (.int .i64 ((r + 1 : Nat) : Int))) y yn yc l := ⟨hl.len, hl.le, hl.nil, (by
    by_cases h0 : yn = 0
    · exact .inl h0
    · exact t1.row hl.row (fun a ha e => hy h0 a ha e)), hl.lt⟩
  have hD := decodeChange_any y yn yc l _ hl1 hn
  rw [hd] at hD
  have c5 : cod true = 0 := rfl
  rw [c5] at hD
  have k1 : w.cell? ⟨q, 1, none⟩ = some (.int .i64 (r : Int)) := cell_heap h.obj rfl
  have f1 := fr_heap h.obj 1
  have hAp := fun (W : World) (hW : At.Os W x n c m.osds) => apply_new m ch hW hmk
  obtain ⟨ra, hra⟩ : ∃ ra, ra = applyP m ch := ⟨_, rfl⟩
  rw [← hra] at hAp ha
  (try rw [← hra] at HSt)
  obtain ⟨r1, ⟨e2, ⟨k2, m2, g2, d2⟩, L2⟩⟩ := ra
  have HF := hid (And.intro h1 t1)
  have eN : ((r + 1 : Nat) : Int) = (r : Int) + 1 := by omega
  rw [eN] at hD HF
  have ew : IntKind.i64.wrap ((r : Int) + 1) = (r : Int) + 1 := Px.wrap_i64 (by omega) (by omega)
  have hlq := h.lt
  clear h h1 t1 hl1 hl hy hn hd hra c5 hmk
  obtain ⟨ck, ⟨i0, i1, i2, i3, i4, i5, i6, i7⟩⟩ := ch
  obtain ⟨ep, ⟨pk, pm, pg, pd⟩, L⟩ := m
  unfold vC at hD
  unfold vC vM at hAp
  dsimp only at hD hAp ha
  subst ha
  go_enter Tryz.func45, Tryz.ntmps45
  go_wp2_with (
     go_at_call 62; refine hD.mono ?_; rintro e w2 ⟨rfl, hb2⟩; clear hD
     have HB2 := hid hb2; clear hb2)
  have b3 := al w2 (.cells #[.int .i64 ck, .int .i64 i0, .bool i1, .bool i2, .int .i64 i3, .int .i64 i4, .int .i64 i5, .int .i64 i6, .int .i64 i7] 37)
  have pc3 := heap_alloc_new w2 (.cells #[.int .i64 ck, .int .i64 i0, .bool i1, .bool i2, .int .i64 i3, .int .i64 i4, .int .i64 i5, .int .i64 i6, .int .i64 i7] 37)
  obtain ⟨wC, hwC⟩ : ∃ wC, wC = w2.alloc (.cells #[.int .i64 ck, .int .i64 i0, .bool i1, .bool i2, .int .i64 i3, .int .i64 i4, .int .i64 i5, .int .i64 i6, .int .i64 i7] 37) := ⟨_, rfl⟩
  rw [← hwC] at b3 pc3 ⊢
  obtain ⟨wD, hwD⟩ : ∃ wD, wD = wC.drew := ⟨_, rfl⟩
  have bD : Below wC.heap.size wC wD := by rw [hwD]; exact (Below.refl _ _).drew
  have HWD := hid hwD.symm
  have HMD := hid (HF.out.1.below (on (on HB2.out b3) bD))
  have HBD := hid (on (on HB2.out b3) bD)
  have pcD := heap_keep bD pc3
  obtain ⟨pc, hpc⟩ : ∃ pc, pc = w2.heap.size := ⟨_, rfl⟩
  have hpq : pc ≠ q := by have := HB2.out.size; simp at this; omega
  have HPc : Hid (Rc.ownBlock ≠ some pc) := fun e => by have := (HF.out.1.chs.tb e).2.lt; have := HB2.out.size; omega
  rw [← hpc] at pcD ⊢
  have HAD := hAp wD HMD.out.os
  have HAP := hid hAp
  clear hwC hwD hpc pc3 b3 bD hAp
  have a0 : wD.cell? ⟨q, 3, none⟩ = some (.int .i64 ep) := cell_heap HMD.out.obj rfl
  have a1 : wD.cell? ⟨q, 4, none⟩ = some (.int .i64 pk) := cell_heap HMD.out.obj rfl
  have a2 : wD.cell? ⟨q, 5, none⟩ = some (.int .i64 pm) := cell_heap HMD.out.obj rfl
  have a3 : wD.cell? ⟨q, 6, none⟩ = some (.int .i64 pg) := cell_heap HMD.out.obj rfl
  have a4 : wD.cell? ⟨q, 7, none⟩ = some (.int .i64 pd) := cell_heap HMD.out.obj rfl
  have a5 : wD.cell? ⟨q, 8, none⟩ = some (.slice x n c) := cell_heap HMD.out.obj rfl
  have j0 : wD.cell? ⟨pc, 0, none⟩ = some (.int .i64 ck) := cell_heap pcD rfl
  have j1 : wD.cell? ⟨pc, 1, none⟩ = some (.int .i64 i0) := cell_heap pcD rfl
  have j2 : wD.cell? ⟨pc, 2, none⟩ = some (.bool i1) := cell_heap pcD rfl
  have j3 : wD.cell? ⟨pc, 3, none⟩ = some (.bool i2) := cell_heap pcD rfl
  have j4 : wD.cell? ⟨pc, 4, none⟩ = some (.int .i64 i3) := cell_heap pcD rfl
  have j5 : wD.cell? ⟨pc, 5, none⟩ = some (.int .i64 i4) := cell_heap pcD rfl
  have j6 : wD.cell? ⟨pc, 6, none⟩ = some (.int .i64 i5) := cell_heap pcD rfl
  have j7 : wD.cell? ⟨pc, 7, none⟩ = some (.int .i64 i6) := cell_heap pcD rfl
  have j8 : wD.cell? ⟨pc, 8, none⟩ = some (.int .i64 i7) := cell_heap pcD rfl
  refine wp_region_held_drew (S := fun v => v.cell? ⟨q, 3, none⟩ = some (.int .i64 ep) ∧ v.cell? ⟨q, 4, none⟩ = some (.int .i64 pk) ∧ v.cell? ⟨q, 5, none⟩ = some (.int .i64 pm) ∧ v.cell? ⟨q, 6, none⟩ = some (.int .i64 pg) ∧ v.cell? ⟨q, 7, none⟩ = some (.int .i64 pd) ∧ v.cell? ⟨q, 8, none⟩ = some (.slice x n c) ∧ v.cell? ⟨pc, 0, none⟩ = some (.int .i64 ck) ∧ v.cell? ⟨pc, 1, none⟩ = some (.int .i64 i0) ∧ v.cell? ⟨pc, 2, none⟩ = some (.bool i1) ∧ v.cell? ⟨pc, 3, none⟩ = some (.bool i2) ∧ v.cell? ⟨pc, 4, none⟩ = some (.int .i64 i3) ∧ v.cell? ⟨pc, 5, none⟩ = some (.int .i64 i4) ∧ v.cell? ⟨pc, 6, none⟩ = some (.int .i64 i5) ∧ v.cell? ⟨pc, 7, none⟩ = some (.int .i64 i6) ∧ v.cell? ⟨pc, 8, none⟩ = some (.int .i64 i7)) (by kernel_rfl) (by rw [HWD.out]; exact ⟨a0, a1, a2, a3, a4, a5, j0, j1, j2, j3, j4, j5, j6, j7, j8⟩) (fun hHeld => ?_)
  rw [HWD.out] at hHeld ⊢
  refine wpAnyH_take (i := 0) (v := ?_) rfl (by kernel_rfl) (by kernel_rfl) (by kernel_rfl) (fun _ _ _ h => h) (Or.inl ⟨by rfl, ?_⟩) (by assumption) ?_
  case refine_2 => (intro w hSw; (try dsimp only at hSw); go_simp; (try with_reducible rfl))
  (try simp only [Act.put, List.getElem_toArray, List.getElem_cons_succ, List.getElem_cons_zero, List.setIfInBounds_toArray, List.set_cons_zero, List.set_cons_succ])
  refine wpAnyH_take (i := 1) (v := ?_) rfl (by kernel_rfl) (by kernel_rfl) (by kernel_rfl) (fun _ _ _ h => h) (Or.inl ⟨by rfl, ?_⟩) (by assumption) ?_
  case refine_2 => (intro w hSw; (try dsimp only at hSw); go_simp; (try with_reducible rfl))
  (try simp only [Act.put, List.getElem_toArray, List.getElem_cons_succ, List.getElem_cons_zero, List.setIfInBounds_toArray, List.set_cons_zero, List.set_cons_succ])
  refine wpAnyH_take (i := 2) (v := ?_) rfl (by kernel_rfl) (by kernel_rfl) (by kernel_rfl) (fun _ _ _ h => h) (Or.inl ⟨by rfl, ?_⟩) (by assumption) ?_
  case refine_2 => (intro w hSw; (try dsimp only at hSw); go_simp; (try with_reducible rfl))
  (try simp only [Act.put, List.getElem_toArray, List.getElem_cons_succ, List.getElem_cons_zero, List.setIfInBounds_toArray, List.set_cons_zero, List.set_cons_succ])
  refine wpAnyH_take (i := 3) (v := ?_) rfl (by kernel_rfl) (by kernel_rfl) (by kernel_rfl) (fun _ _ _ h => h) (Or.inl ⟨by rfl, ?_⟩) (by assumption) ?_
  case refine_2 => (intro w hSw; (try dsimp only at hSw); go_simp; (try with_reducible rfl))
  (try simp only [Act.put, List.getElem_toArray, List.getElem_cons_succ, List.getElem_cons_zero, List.setIfInBounds_toArray, List.set_cons_zero, List.set_cons_succ])
  refine wpAnyH_take (i := 4) (v := ?_) rfl (by kernel_rfl) (by kernel_rfl) (by kernel_rfl) (fun _ _ _ h => h) (Or.inl ⟨by rfl, ?_⟩) (by assumption) ?_
  case refine_2 => (intro w hSw; (try dsimp only at hSw); go_simp; (try with_reducible rfl))
  (try simp only [Act.put, List.getElem_toArray, List.getElem_cons_succ, List.getElem_cons_zero, List.setIfInBounds_toArray, List.set_cons_zero, List.set_cons_succ])
  refine wpAnyH_ready (rs := [5, 9]) (by kernel_rfl) (by simp) ?_
  refine AllReadyH.cons rfl (fun K hK => ?_) (AllReadyH.cons rfl (fun K hK => ?_) AllReadyH.nil)
  · go_simp
    refine HAD.mono ?_
    rintro ed w3 ⟨y2, n2, cc2, rfl, H3⟩
    have hb3 := H3.out.1
    have bZ := al w3 (.cells #[.int .i64 0, .int .i64 0, .int .i64 0, .int .i64 0, .int .i64 0, .slice none 0 0] 56)
    have bM := al w3 (.cells #[.int .i64 e2, .int .i64 k2, .int .i64 m2, .int .i64 g2, .int .i64 d2, .slice y2 n2 cc2] 56)
    refine hK.out _ _ ⟨keep hb3 a0, keep hb3 a1, keep hb3 a2, keep hb3 a3, keep hb3 a4, keep hb3 a5, keep hb3 j0, keep hb3 j1, keep hb3 j2, keep hb3 j3, keep hb3 j4, keep hb3 j5, keep hb3 j6, keep hb3 j7, keep hb3 j8⟩ (fun hHeld => ?_)
    clear hK K
    refine wpAnyH_take (i := 6) (v := ?_) rfl (by kernel_rfl) (by kernel_rfl) (by kernel_rfl) (fun _ _ _ h => h) (Or.inl ⟨by rfl, ?_⟩) (by assumption) ?_
    case refine_2 => (intro w hSw; (try dsimp only at hSw); go_simp; (try with_reducible rfl))
    (try simp only [Act.put, List.getElem_toArray, List.getElem_cons_succ, List.getElem_cons_zero, List.setIfInBounds_toArray, List.set_cons_zero, List.set_cons_succ])
    refine wpAnyH_take (i := 7) (v := ?_) rfl (by kernel_rfl) (by kernel_rfl) (by kernel_rfl) (fun _ _ _ h => h) (Or.inl ⟨by rfl, ?_⟩) (by assumption) ?_
    case refine_2 => (intro w hSw; (try dsimp only at hSw); go_simp; (try with_reducible rfl))
    (try simp only [Act.put, List.getElem_toArray, List.getElem_cons_succ, List.getElem_cons_zero, List.setIfInBounds_toArray, List.set_cons_zero, List.set_cons_succ])
    refine wpAnyH_take (i := 8) (v := ?_) rfl (by kernel_rfl) (by kernel_rfl) (by kernel_rfl) (fun _ _ _ h => h) (Or.inl ⟨by rfl, ?_⟩) (by assumption) ?_
    case refine_2 => (intro w hSw; (try dsimp only at hSw); go_simp; (try with_reducible rfl))
    (try simp only [Act.put, List.getElem_toArray, List.getElem_cons_succ, List.getElem_cons_zero, List.setIfInBounds_toArray, List.set_cons_zero, List.set_cons_succ])
    refine wpAnyH_ready (rs := [9]) (by kernel_rfl) (by simp) ?_
    refine AllReadyH.cons rfl (fun K hK => ?_) AllReadyH.nil
    go_simp
    refine hK.out _ _ ⟨keep bZ (keep hb3 a0), keep bZ (keep hb3 a1), keep bZ (keep hb3 a2), keep bZ (keep hb3 a3), keep bZ (keep hb3 a4), keep bZ (keep hb3 a5), keep bZ (keep hb3 j0), keep bZ (keep hb3 j1), keep bZ (keep hb3 j2), keep bZ (keep hb3 j3), keep bZ (keep hb3 j4), keep bZ (keep hb3 j5), keep bZ (keep hb3 j6), keep bZ (keep hb3 j7), keep bZ (keep hb3 j8)⟩ (fun hHeld => ?_)
    clear hK K
    refine wpAnyH_ready (rs := [10]) (by kernel_rfl) (by simp) ?_
    refine AllReadyH.cons rfl (fun K hK => ?_) AllReadyH.nil
    go_simp
    refine hK.out _ _ ⟨keep bM (keep hb3 a0), keep bM (keep hb3 a1), keep bM (keep hb3 a2), keep bM (keep hb3 a3), keep bM (keep hb3 a4), keep bM (keep hb3 a5), keep bM (keep hb3 j0), keep bM (keep hb3 j1), keep bM (keep hb3 j2), keep bM (keep hb3 j3), keep bM (keep hb3 j4), keep bM (keep hb3 j5), keep bM (keep hb3 j6), keep bM (keep hb3 j7), keep bM (keep hb3 j8)⟩ (fun hHeld => ?_)
    clear hK K
    refine wpAnyH_take (i := 11) (v := ?_) rfl (by kernel_rfl) (by kernel_rfl) (by kernel_rfl) (fun _ _ _ h => h) (Or.inl ⟨by rfl, ?_⟩) (by assumption) ?_
    case refine_2 => (intro w hSw; (try dsimp only at hSw); go_simp; (try with_reducible rfl))
    (try simp only [Act.put, List.getElem_toArray, List.getElem_cons_succ, List.getElem_cons_zero, List.setIfInBounds_toArray, List.set_cons_zero, List.set_cons_succ])
    refine wpAnyH_done (by kernel_rfl) ?_ _
    clear hHeld
    have hw0 : wD.heap.size ≤ w3.heap.size := hb3.size
    obtain ⟨W, hW⟩ : ∃ W, W = w3.alloc (.cells #[.int .i64 e2, .int .i64 k2, .int .i64 m2, .int .i64 g2, .int .i64 d2, .slice y2 n2 cc2] 56) := ⟨_, rfl⟩
    have pb3 := heap_alloc_new w3 (.cells #[.int .i64 e2, .int .i64 k2, .int .i64 m2, .int .i64 g2, .int .i64 d2, .slice y2 n2 cc2] 56)
    rw [← hW] at bM pb3 ⊢
    have HW : Hid (MoAt W B q g st (r + 1) cs ⟨ep, ⟨pk, pm, pg, pd⟩, L⟩ Rc x n c ∧ W.heap[pc]? = some (.cells #[.int .i64 ck, .int .i64 i0, .bool i1, .bool i2, .int .i64 i3, .int .i64 i4, .int .i64 i5, .int .i64 i6, .int .i64 i7] 37 (0, 0)) ∧ W.heap[w3.heap.size]? = some (.cells #[.int .i64 e2, .int .i64 k2, .int .i64 m2, .int .i64 g2, .int .i64 d2, .slice y2 n2 cc2] 56 (0, 0)) ∧ (At.Os W y2 n2 cc2 L2 ∧ ∀ a, y2 = some a → ¬ fp g a.block ∧ a.block ≠ q ∧ Rc.ownBlock ≠ some a.block) ∧ Below (w.setCell ⟨q, 1, none⟩ (.int .i64 ((r : Int) + 1))).heap.size (w.setCell ⟨q, 1, none⟩ (.int .i64 ((r : Int) + 1))) W) :=
      ⟨HMD.out.below (on hb3 bM), heap_keep (on hb3 bM) pcD, pb3, ⟨H3.out.2.1.below bM, fun a ha => by have q1 := H3.out.2.2 a ha; have q2 := HMD.out.lt; exact ⟨fun hf => by have := (HMD.out.node.u8 _ hf).1; omega, by omega, fun e => by have := (HMD.out.chs.tb e).2.lt; omega⟩⟩, on HBD.out (on hb3 bM)⟩
    obtain ⟨pb, hpb⟩ : ∃ pb, pb = w3.heap.size := ⟨_, rfl⟩
    rw [← hpb] at HW ⊢
    clear hW hpb pb3 bM bZ hb3 H3 hw0 a0 a1 a2 a3 a4 a5 j0 j1 j2 j3 j4 j5 j6 j7 j8 HAD pcD
    have p0 : W.cell? ⟨pb, 0, none⟩ = some (.int .i64 e2) := cell_heap HW.out.2.2.1 rfl
    have p1 : W.cell? ⟨pb, 1, none⟩ = some (.int .i64 k2) := cell_heap HW.out.2.2.1 rfl
    have p2 : W.cell? ⟨pb, 2, none⟩ = some (.int .i64 m2) := cell_heap HW.out.2.2.1 rfl
    have p3 : W.cell? ⟨pb, 3, none⟩ = some (.int .i64 g2) := cell_heap HW.out.2.2.1 rfl
    have p4 : W.cell? ⟨pb, 4, none⟩ = some (.int .i64 d2) := cell_heap HW.out.2.2.1 rfl
    have p5 : W.cell? ⟨pb, 5, none⟩ = some (.slice y2 n2 cc2) := cell_heap HW.out.2.2.1 rfl
    have b0 : W.cell? ⟨q, 3, none⟩ = some (.int .i64 ep) := cell_heap HW.out.1.obj rfl
    have b1 : W.cell? ⟨q, 4, none⟩ = some (.int .i64 pk) := cell_heap HW.out.1.obj rfl
    have b2 : W.cell? ⟨q, 5, none⟩ = some (.int .i64 pm) := cell_heap HW.out.1.obj rfl
    have b3 : W.cell? ⟨q, 6, none⟩ = some (.int .i64 pg) := cell_heap HW.out.1.obj rfl
    have b4 : W.cell? ⟨q, 7, none⟩ = some (.int .i64 pd) := cell_heap HW.out.1.obj rfl
    have b5 : W.cell? ⟨q, 8, none⟩ = some (.slice x n c) := cell_heap HW.out.1.obj rfl
    have z0 := fr_heap HW.out.1.obj 3
    have z1 := fr_heap HW.out.1.obj 4
    have z2 := fr_heap HW.out.1.obj 5
    have z3 := fr_heap HW.out.1.obj 6
    have z4 := fr_heap HW.out.1.obj 7
    have z5 := fr_heap HW.out.1.obj 8
    go_wp2_with fail
    have t6 := put6m_turns W q (.int .i64 e2) (.int .i64 k2) (.int .i64 m2) (.int .i64 g2) (.int .i64 d2) (.slice y2 n2 cc2)
    have o6 := put6m_heap HW.out.1.obj (.int .i64 e2) (.int .i64 k2) (.int .i64 m2) (.int .i64 g2) (.int .i64 d2) (.slice y2 n2 cc2)
    have HM6 : Hid (MoAt (put6m W q (.int .i64 e2) (.int .i64 k2) (.int .i64 m2) (.int .i64 g2) (.int .i64 d2) (.slice y2 n2 cc2)) B q g st (r + 1) cs ⟨e2, ⟨k2, m2, g2, d2⟩, L2⟩ Rc y2 n2 cc2) := HW.out.1.turnq t6 o6 (HW.out.2.2.2.1.1.turns t6 (fun h0 a ha => (HW.out.2.2.2.1.2 a ha).2.1)) (fun _ a ha => HW.out.2.2.2.1.2 a ha)
    have pc6 := (t6.block pc (Array.getElem?_eq_some_iff.1 HW.out.2.1).1 (fun e => hpq e)).trans HW.out.2.1
    have HT6 := hid t6
    obtain ⟨W6, hW6⟩ : ∃ W6, W6 = put6m W q (.int .i64 e2) (.int .i64 k2) (.int .i64 m2) (.int .i64 g2) (.int .i64 d2) (.slice y2 n2 cc2) := ⟨_, rfl⟩
    rw [← hW6] at HM6 pc6 HT6
    have hW7 : put6m W q (.int .i64 e2) (.int .i64 k2) (.int .i64 m2) (.int .i64 g2) (.int .i64 d2) (.slice y2 n2 cc2) = W6 := hW6.symm
    unfold put6m at hW7
    rw [hW7]
    obtain ⟨wE, hwE⟩ : ∃ wE, wE = W6.drew := ⟨_, rfl⟩
    have bE : Below W6.heap.size W6 wE := by rw [hwE]; exact (Below.refl _ _).drew
    have HWE := hid hwE.symm
    have HME := hid (HM6.out.below bE)
    have pcE := heap_keep bE pc6
    have HTE := hid (HT6.out.trans (Turns.of_below bE))
    have x2 : wE.cell? ⟨q, 2, none⟩ = some Rc := cell_heap HME.out.obj rfl
    have j0 : wE.cell? ⟨pc, 0, none⟩ = some (.int .i64 ck) := cell_heap pcE rfl
    have j1 : wE.cell? ⟨pc, 1, none⟩ = some (.int .i64 i0) := cell_heap pcE rfl
    have j2 : wE.cell? ⟨pc, 2, none⟩ = some (.bool i1) := cell_heap pcE rfl
    have j3 : wE.cell? ⟨pc, 3, none⟩ = some (.bool i2) := cell_heap pcE rfl
    have j4 : wE.cell? ⟨pc, 4, none⟩ = some (.int .i64 i3) := cell_heap pcE rfl
    have j5 : wE.cell? ⟨pc, 5, none⟩ = some (.int .i64 i4) := cell_heap pcE rfl
    have j6 : wE.cell? ⟨pc, 6, none⟩ = some (.int .i64 i5) := cell_heap pcE rfl
    have j7 : wE.cell? ⟨pc, 7, none⟩ = some (.int .i64 i6) := cell_heap pcE rfl
    have j8 : wE.cell? ⟨pc, 8, none⟩ = some (.int .i64 i7) := cell_heap pcE rfl
    obtain ⟨R9, c9, W4, hr4, H4⟩ := push_ch HME.out.chs ⟨ck, ⟨i0, i1, i2, i3, i4, i5, i6, i7⟩⟩ (by have := HME.out.low; have := HME.out.lt; omega) (by omega)
    unfold enC at hr4
    dsimp only at hr4
    obtain ⟨hM9, hT9⟩ := HME.out.setC H4.out.2.1 H4.out.1 H4.out.2.2
    have bO := al wE (.cells #[.int .i64 ck, .int .i64 i0, .bool i1, .bool i2, .int .i64 i3, .int .i64 i4, .int .i64 i5, .int .i64 i6, .int .i64 i7] 37)
    have hob4 : W4.heap[q]? = _ := (H4.out.2.1.block q HME.out.lt (fun e => (HME.out.cf q e).2 rfl)).trans HME.out.obj
    have x24 : W4.cell? ⟨q, 2, none⟩ = some Rc := cell_heap hob4 rfl
    have f24 := fr_heap hob4 2
    have HJ4 : Hid (W4.cell? ⟨pc, 0, none⟩ = some (.int .i64 ck) ∧ W4.cell? ⟨pc, 1, none⟩ = some (.int .i64 i0) ∧ W4.cell? ⟨pc, 2, none⟩ = some (.bool i1) ∧ W4.cell? ⟨pc, 3, none⟩ = some (.bool i2) ∧ W4.cell? ⟨pc, 4, none⟩ = some (.int .i64 i3) ∧ W4.cell? ⟨pc, 5, none⟩ = some (.int .i64 i4) ∧ W4.cell? ⟨pc, 6, none⟩ = some (.int .i64 i5) ∧ W4.cell? ⟨pc, 7, none⟩ = some (.int .i64 i6) ∧ W4.cell? ⟨pc, 8, none⟩ = some (.int .i64 i7)) := by
      have e4 := (H4.out.2.1.block pc (Array.getElem?_eq_some_iff.1 pcE).1 (fun e => by have := (HME.out.chs.tb e).2.lt; exact HPc.out e)).trans pcE
      exact ⟨cell_heap e4 rfl, cell_heap e4 rfl, cell_heap e4 rfl, cell_heap e4 rfl, cell_heap e4 rfl, cell_heap e4 rfl, cell_heap e4 rfl, cell_heap e4 rfl, cell_heap e4 rfl⟩
    have HN := hid (And.intro hM9 (And.intro hT9 H4.out.2.2))
    clear hW6 hW7 hwE pc6 pcE hob4 hM9 hT9 bE t6 o6 p0 b0 z0 p1 b1 z1 p2 b2 z2 p3 b3 z3 p4 b4 z4 p5 b5 z5
    refine wp_region_last (fun v => v.cell? ⟨q, 2, none⟩ = some Rc ∧ v.cell? ⟨pc, 0, none⟩ = some (.int .i64 ck) ∧ v.cell? ⟨pc, 1, none⟩ = some (.int .i64 i0) ∧ v.cell? ⟨pc, 2, none⟩ = some (.bool i1) ∧ v.cell? ⟨pc, 3, none⟩ = some (.bool i2) ∧ v.cell? ⟨pc, 4, none⟩ = some (.int .i64 i3) ∧ v.cell? ⟨pc, 5, none⟩ = some (.int .i64 i4) ∧ v.cell? ⟨pc, 6, none⟩ = some (.int .i64 i5) ∧ v.cell? ⟨pc, 7, none⟩ = some (.int .i64 i6) ∧ v.cell? ⟨pc, 8, none⟩ = some (.int .i64 i7)) 10 (by kernel_rfl) (by rw [HWE.out]; exact ⟨x2, j0, j1, j2, j3, j4, j5, j6, j7, j8⟩) (fun hS => ?_)
    rw [HWE.out] at hS ⊢
    refine wpAnyL_take (i := 0) (v := ?_) rfl (by kernel_rfl) (by kernel_rfl) (by kernel_rfl) (by kernel_rfl) (fun _ _ _ h => h) hS (Or.inl ⟨by rfl, ?_⟩) ?_
    case refine_2 => (intro w hSw; (try dsimp only at hSw); go_simp; (try with_reducible rfl))
    (try simp only [Act.put, List.getElem_toArray, List.getElem_cons_succ, List.getElem_cons_zero, List.setIfInBounds_toArray, List.set_cons_zero, List.set_cons_succ])
    refine wpAnyL_take (i := 1) (v := ?_) rfl (by kernel_rfl) (by kernel_rfl) (by kernel_rfl) (by kernel_rfl) (fun _ _ _ h => h) hS (Or.inl ⟨by rfl, ?_⟩) ?_
    case refine_2 => (intro w hSw; (try dsimp only at hSw); go_simp; (try with_reducible rfl))
    (try simp only [Act.put, List.getElem_toArray, List.getElem_cons_succ, List.getElem_cons_zero, List.setIfInBounds_toArray, List.set_cons_zero, List.set_cons_succ])
    refine wpAnyL_take (i := 2) (v := ?_) rfl (by kernel_rfl) (by kernel_rfl) (by kernel_rfl) (by kernel_rfl) (fun _ _ _ h => h) hS (Or.inl ⟨by rfl, ?_⟩) ?_
    case refine_2 => (intro w hSw; (try dsimp only at hSw); go_simp; (try with_reducible rfl))
    (try simp only [Act.put, List.getElem_toArray, List.getElem_cons_succ, List.getElem_cons_zero, List.setIfInBounds_toArray, List.set_cons_zero, List.set_cons_succ])
    refine wpAnyL_take (i := 3) (v := ?_) rfl (by kernel_rfl) (by kernel_rfl) (by kernel_rfl) (by kernel_rfl) (fun _ _ _ h => h) hS (Or.inl ⟨by rfl, ?_⟩) ?_
    case refine_2 => (intro w hSw; (try dsimp only at hSw); go_simp; (try with_reducible rfl))
    (try simp only [Act.put, List.getElem_toArray, List.getElem_cons_succ, List.getElem_cons_zero, List.setIfInBounds_toArray, List.set_cons_zero, List.set_cons_succ])
    refine wpAnyL_take (i := 4) (v := ?_) rfl (by kernel_rfl) (by kernel_rfl) (by kernel_rfl) (by kernel_rfl) (fun _ _ _ h => h) hS (Or.inl ⟨by rfl, ?_⟩) ?_
    case refine_2 => (intro w hSw; (try dsimp only at hSw); go_simp; (try with_reducible rfl))
    (try simp only [Act.put, List.getElem_toArray, List.getElem_cons_succ, List.getElem_cons_zero, List.setIfInBounds_toArray, List.set_cons_zero, List.set_cons_succ])
    refine wpAnyL_take (i := 5) (v := ?_) rfl (by kernel_rfl) (by kernel_rfl) (by kernel_rfl) (by kernel_rfl) (fun _ _ _ h => h) hS (Or.inl ⟨by rfl, ?_⟩) ?_
    case refine_2 => (intro w hSw; (try dsimp only at hSw); go_simp; (try with_reducible rfl))
    (try simp only [Act.put, List.getElem_toArray, List.getElem_cons_succ, List.getElem_cons_zero, List.setIfInBounds_toArray, List.set_cons_zero, List.set_cons_succ])
    refine wpAnyL_one (i := 6) (by kernel_rfl) rfl (fun K hK => ?_)
    go_simp
    refine hK.out _ _ (fun _ => ⟨keep bO x2, keep bO j0, keep bO j1, keep bO j2, keep bO j3, keep bO j4, keep bO j5, keep bO j6, keep bO j7, keep bO j8⟩) ?_
    clear hK K
    refine wpAnyL_one (i := 7) (by kernel_rfl) rfl (fun K hK => ?_)
    refine st_append rfl _ _ 63 rfl _ _ rfl rfl hr4 ?_
    (try simp only [Act.put, List.getElem_toArray, List.getElem_cons_succ, List.getElem_cons_zero, List.setIfInBounds_toArray, List.set_cons_zero, List.set_cons_succ])
    refine hK.out _ _ (fun _ => ⟨x24, HJ4.out⟩) ?_
    clear hK K
    refine wpAnyL_one (i := 8) (by kernel_rfl) rfl (fun K hK => ?_)
    go_simp
    refine hK.out _ _ (fun _ => ⟨x24, HJ4.out⟩) ?_
    clear hK K
    refine wpAnyL_one (i := 9) (by kernel_rfl) rfl (fun K hK => ?_)
    go_simp
    refine hK.out _ _ (fun _ => ⟨x24, HJ4.out⟩) ?_
    clear hK K
    refine wpAnyL_one (i := 10) (by kernel_rfl) rfl (fun K hK => ?_)
    go_simp
    refine hK.out _ _ (fun h => absurd rfl h) ?_
    clear hK K
    refine wpAnyL_done (by kernel_rfl) ?_ _
    go_wp2_with fail
    refine bodyPost_end (results_none rfl _ _ _) rfl ?_
    have T9 := (HF.out.2.trans (Turns.of_below HW.out.2.2.2.2)).trans HTE.out
    refine ⟨rfl, _, _, _, _, by rw [HSt.out]; exact HN.out.1, (T9.weak (fun k hk => .inl hk)).trans HN.out.2.1, fun k hk => ?_⟩
    have s9 := T9.size
    rcases HN.out.2.2 k hk with e9 | e9
    · exact .inl e9
    · exact .inr (by omega)
  · go_simp
    have bZ := al wD (.cells #[.int .i64 0, .int .i64 0, .int .i64 0, .int .i64 0, .int .i64 0, .slice none 0 0] 56)
    have pz := heap_alloc_new wD (.cells #[.int .i64 0, .int .i64 0, .int .i64 0, .int .i64 0, .int .i64 0, .slice none 0 0] 56)
    obtain ⟨wX, hwX⟩ : ∃ wX, wX = wD.alloc (.cells #[.int .i64 0, .int .i64 0, .int .i64 0, .int .i64 0, .int .i64 0, .slice none 0 0] 56) := ⟨_, rfl⟩
    rw [← hwX] at bZ pz ⊢
    clear hwX
    refine hK.out _ _ ⟨keep bZ a0, keep bZ a1, keep bZ a2, keep bZ a3, keep bZ a4, keep bZ a5, keep bZ j0, keep bZ j1, keep bZ j2, keep bZ j3, keep bZ j4, keep bZ j5, keep bZ j6, keep bZ j7, keep bZ j8⟩ (fun hHeld => ?_)
    clear hK K
    refine wpAnyH_ready (rs := [5]) (by kernel_rfl) (by simp) ?_
    refine AllReadyH.cons rfl (fun K hK => ?_) AllReadyH.nil
    go_simp
    refine (HAP.out wX (HMD.out.os.below bZ)).mono ?_
    rintro ed w3 ⟨y2, n2, cc2, rfl, H3⟩
    have hb3 := H3.out.1
    have pz3 := heap_keep hb3 pz
    refine hK.out _ _ ⟨keep hb3 (keep bZ a0), keep hb3 (keep bZ a1), keep hb3 (keep bZ a2), keep hb3 (keep bZ a3), keep hb3 (keep bZ a4), keep hb3 (keep bZ a5), keep hb3 (keep bZ j0), keep hb3 (keep bZ j1), keep hb3 (keep bZ j2), keep hb3 (keep bZ j3), keep hb3 (keep bZ j4), keep hb3 (keep bZ j5), keep hb3 (keep bZ j6), keep hb3 (keep bZ j7), keep hb3 (keep bZ j8)⟩ (fun hHeld => ?_)
    clear hK K
    refine wpAnyH_take (i := 6) (v := ?_) rfl (by kernel_rfl) (by kernel_rfl) (by kernel_rfl) (fun _ _ _ h => h) (Or.inl ⟨by rfl, ?_⟩) (by assumption) ?_
    case refine_2 => (intro w hSw; (try dsimp only at hSw); go_simp; (try with_reducible rfl))
    (try simp only [Act.put, List.getElem_toArray, List.getElem_cons_succ, List.getElem_cons_zero, List.setIfInBounds_toArray, List.set_cons_zero, List.set_cons_succ])
    refine wpAnyH_take (i := 7) (v := ?_) rfl (by kernel_rfl) (by kernel_rfl) (by kernel_rfl) (fun _ _ _ h => h) (Or.inl ⟨by rfl, ?_⟩) (by assumption) ?_
    case refine_2 => (intro w hSw; (try dsimp only at hSw); go_simp; (try with_reducible rfl))
    (try simp only [Act.put, List.getElem_toArray, List.getElem_cons_succ, List.getElem_cons_zero, List.setIfInBounds_toArray, List.set_cons_zero, List.set_cons_succ])
    refine wpAnyH_take (i := 8) (v := ?_) rfl (by kernel_rfl) (by kernel_rfl) (by kernel_rfl) (fun _ _ _ h => h) (Or.inl ⟨by rfl, ?_⟩) (by assumption) ?_
    case refine_2 => (intro w hSw; (try dsimp only at hSw); go_simp; (try with_reducible rfl))
    (try simp only [Act.put, List.getElem_toArray, List.getElem_cons_succ, List.getElem_cons_zero, List.setIfInBounds_toArray, List.set_cons_zero, List.set_cons_succ])
    have dz0 : w3.cell? ⟨wD.heap.size, 0, none⟩ = some (.int .i64 0) := cell_heap pz3 rfl
    have dz1 : w3.cell? ⟨wD.heap.size, 1, none⟩ = some (.int .i64 0) := cell_heap pz3 rfl
    have dz2 : w3.cell? ⟨wD.heap.size, 2, none⟩ = some (.int .i64 0) := cell_heap pz3 rfl
    have dz3 : w3.cell? ⟨wD.heap.size, 3, none⟩ = some (.int .i64 0) := cell_heap pz3 rfl
    have dz4 : w3.cell? ⟨wD.heap.size, 4, none⟩ = some (.int .i64 0) := cell_heap pz3 rfl
    have dz5 : w3.cell? ⟨wD.heap.size, 5, none⟩ = some (.slice none 0 0) := cell_heap pz3 rfl
    have fz0 := fr_heap pz3 0
    have fz1 := fr_heap pz3 1
    have fz2 := fr_heap pz3 2
    have fz3 := fr_heap pz3 3
    have fz4 := fr_heap pz3 4
    have fz5 := fr_heap pz3 5
    have t6 := put6_turns w3 wD.heap.size (.int .i64 e2) (.int .i64 k2) (.int .i64 m2) (.int .i64 g2) (.int .i64 d2) (.slice y2 n2 cc2)
    have hqD : q ≠ wD.heap.size := by have := HMD.out.lt; omega
    have hcD : pc ≠ wD.heap.size := by have := (Array.getElem?_eq_some_iff.1 pcD).1; omega
    refine wpAnyH_ready (rs := [10]) (by kernel_rfl) (by simp) ?_
    refine AllReadyH.cons rfl (fun K hK => ?_) AllReadyH.nil
    go_simp
    refine hK.out _ _ ⟨keept t6 (fun e => hqD e) (keep hb3 (keep bZ a0)), keept t6 (fun e => hqD e) (keep hb3 (keep bZ a1)), keept t6 (fun e => hqD e) (keep hb3 (keep bZ a2)), keept t6 (fun e => hqD e) (keep hb3 (keep bZ a3)), keept t6 (fun e => hqD e) (keep hb3 (keep bZ a4)), keept t6 (fun e => hqD e) (keep hb3 (keep bZ a5)), keept t6 (fun e => hcD e) (keep hb3 (keep bZ j0)), keept t6 (fun e => hcD e) (keep hb3 (keep bZ j1)), keept t6 (fun e => hcD e) (keep hb3 (keep bZ j2)), keept t6 (fun e => hcD e) (keep hb3 (keep bZ j3)), keept t6 (fun e => hcD e) (keep hb3 (keep bZ j4)), keept t6 (fun e => hcD e) (keep hb3 (keep bZ j5)), keept t6 (fun e => hcD e) (keep hb3 (keep bZ j6)), keept t6 (fun e => hcD e) (keep hb3 (keep bZ j7)), keept t6 (fun e => hcD e) (keep hb3 (keep bZ j8))⟩ (fun hHeld => ?_)
    clear hK K
    refine wpAnyH_take (i := 11) (v := ?_) rfl (by kernel_rfl) (by kernel_rfl) (by kernel_rfl) (fun _ _ _ h => h) (Or.inl ⟨by rfl, ?_⟩) (by assumption) ?_
    case refine_2 => (intro w hSw; (try dsimp only at hSw); go_simp; (try with_reducible rfl))
    (try simp only [Act.put, List.getElem_toArray, List.getElem_cons_succ, List.getElem_cons_zero, List.setIfInBounds_toArray, List.set_cons_zero, List.set_cons_succ])
    refine wpAnyH_done (by kernel_rfl) ?_ _
    clear hHeld
    have BX := on bZ hb3
    have lD : wD.heap.size < w3.heap.size := (Array.getElem?_eq_some_iff.1 pz3).1
    have bP : Below wD.heap.size w3 (put6 w3 wD.heap.size (.int .i64 e2) (.int .i64 k2) (.int .i64 m2) (.int .i64 g2) (.int .i64 d2) (.slice y2 n2 cc2)) := t6.below (B := wD.heap.size) (fun k hk => by have e3 : k = wD.heap.size := hk; omega) (by omega)
    have bT : Below wD.heap.size wD (put6 w3 wD.heap.size (.int .i64 e2) (.int .i64 k2) (.int .i64 m2) (.int .i64 g2) (.int .i64 d2) (.slice y2 n2 cc2)) := BX.trans bP
    have pbT := put6_heap pz3 (.int .i64 e2) (.int .i64 k2) (.int .i64 m2) (.int .i64 g2) (.int .i64 d2) (.slice y2 n2 cc2)
    have HW : Hid (MoAt (put6 w3 wD.heap.size (.int .i64 e2) (.int .i64 k2) (.int .i64 m2) (.int .i64 g2) (.int .i64 d2) (.slice y2 n2 cc2)) B q g st (r + 1) cs ⟨ep, ⟨pk, pm, pg, pd⟩, L⟩ Rc x n c ∧ (put6 w3 wD.heap.size (.int .i64 e2) (.int .i64 k2) (.int .i64 m2) (.int .i64 g2) (.int .i64 d2) (.slice y2 n2 cc2)).heap[pc]? = some (.cells #[.int .i64 ck, .int .i64 i0, .bool i1, .bool i2, .int .i64 i3, .int .i64 i4, .int .i64 i5, .int .i64 i6, .int .i64 i7] 37 (0, 0)) ∧ (put6 w3 wD.heap.size (.int .i64 e2) (.int .i64 k2) (.int .i64 m2) (.int .i64 g2) (.int .i64 d2) (.slice y2 n2 cc2)).heap[wD.heap.size]? = some (.cells #[.int .i64 e2, .int .i64 k2, .int .i64 m2, .int .i64 g2, .int .i64 d2, .slice y2 n2 cc2] 56 (0, 0)) ∧ (At.Os (put6 w3 wD.heap.size (.int .i64 e2) (.int .i64 k2) (.int .i64 m2) (.int .i64 g2) (.int .i64 d2) (.slice y2 n2 cc2)) y2 n2 cc2 L2 ∧ ∀ a, y2 = some a → ¬ fp g a.block ∧ a.block ≠ q ∧ Rc.ownBlock ≠ some a.block) ∧ Below (w.setCell ⟨q, 1, none⟩ (.int .i64 ((r : Int) + 1))).heap.size (w.setCell ⟨q, 1, none⟩ (.int .i64 ((r : Int) + 1))) (put6 w3 wD.heap.size (.int .i64 e2) (.int .i64 k2) (.int .i64 m2) (.int .i64 g2) (.int .i64 d2) (.slice y2 n2 cc2))) :=
      ⟨HMD.out.below bT, heap_keep bT pcD, pbT, ⟨H3.out.2.1.turns t6 (fun _ a ha e => by have e3 : a.block = wD.heap.size := e; have := H3.out.2.2 a ha; have := bZ.size; have := (Array.getElem?_eq_some_iff.1 pz).1; omega), fun a ha => by have q1 := H3.out.2.2 a ha; have q2 := HMD.out.lt; have := bZ.size; exact ⟨fun hf => by have := (HMD.out.node.u8 _ hf).1; omega, by omega, fun e => by have := (HMD.out.chs.tb e).2.lt; omega⟩⟩, on HBD.out bT⟩
    obtain ⟨W, hW⟩ : ∃ W, W = put6 w3 wD.heap.size (.int .i64 e2) (.int .i64 k2) (.int .i64 m2) (.int .i64 g2) (.int .i64 d2) (.slice y2 n2 cc2) := ⟨_, rfl⟩
    rw [← hW] at HW
    have hW7 : put6 w3 wD.heap.size (.int .i64 e2) (.int .i64 k2) (.int .i64 m2) (.int .i64 g2) (.int .i64 d2) (.slice y2 n2 cc2) = W := hW.symm
    unfold put6 at hW7
    rw [hW7]
    obtain ⟨pb, hpb⟩ : ∃ pb, pb = wD.heap.size := ⟨_, rfl⟩
    rw [← hpb] at HW ⊢
    clear hW hW7 hpb pbT bT bP BX bZ hb3 H3 t6 lD pz3 pz dz0 fz0 dz1 fz1 dz2 fz2 dz3 fz3 dz4 fz4 dz5 fz5 a0 a1 a2 a3 a4 a5 j0 j1 j2 j3 j4 j5 j6 j7 j8 HAD HAP pcD
    have p0 : W.cell? ⟨pb, 0, none⟩ = some (.int .i64 e2) := cell_heap HW.out.2.2.1 rfl
    have p1 : W.cell? ⟨pb, 1, none⟩ = some (.int .i64 k2) := cell_heap HW.out.2.2.1 rfl
    have p2 : W.cell? ⟨pb, 2, none⟩ = some (.int .i64 m2) := cell_heap HW.out.2.2.1 rfl
    have p3 : W.cell? ⟨pb, 3, none⟩ = some (.int .i64 g2) := cell_heap HW.out.2.2.1 rfl
    have p4 : W.cell? ⟨pb, 4, none⟩ = some (.int .i64 d2) := cell_heap HW.out.2.2.1 rfl
    have p5 : W.cell? ⟨pb, 5, none⟩ = some (.slice y2 n2 cc2) := cell_heap HW.out.2.2.1 rfl
    have b0 : W.cell? ⟨q, 3, none⟩ = some (.int .i64 ep) := cell_heap HW.out.1.obj rfl
    have b1 : W.cell? ⟨q, 4, none⟩ = some (.int .i64 pk) := cell_heap HW.out.1.obj rfl
    have b2 : W.cell? ⟨q, 5, none⟩ = some (.int .i64 pm) := cell_heap HW.out.1.obj rfl
    have b3 : W.cell? ⟨q, 6, none⟩ = some (.int .i64 pg) := cell_heap HW.out.1.obj rfl
    have b4 : W.cell? ⟨q, 7, none⟩ = some (.int .i64 pd) := cell_heap HW.out.1.obj rfl
    have b5 : W.cell? ⟨q, 8, none⟩ = some (.slice x n c) := cell_heap HW.out.1.obj rfl
    have z0 := fr_heap HW.out.1.obj 3
    have z1 := fr_heap HW.out.1.obj 4
    have z2 := fr_heap HW.out.1.obj 5
    have z3 := fr_heap HW.out.1.obj 6
    have z4 := fr_heap HW.out.1.obj 7
    have z5 := fr_heap HW.out.1.obj 8
    go_wp2_with fail
    have t6 := put6m_turns W q (.int .i64 e2) (.int .i64 k2) (.int .i64 m2) (.int .i64 g2) (.int .i64 d2) (.slice y2 n2 cc2)
    have o6 := put6m_heap HW.out.1.obj (.int .i64 e2) (.int .i64 k2) (.int .i64 m2) (.int .i64 g2) (.int .i64 d2) (.slice y2 n2 cc2)
    have HM6 : Hid (MoAt (put6m W q (.int .i64 e2) (.int .i64 k2) (.int .i64 m2) (.int .i64 g2) (.int .i64 d2) (.slice y2 n2 cc2)) B q g st (r + 1) cs ⟨e2, ⟨k2, m2, g2, d2⟩, L2⟩ Rc y2 n2 cc2) := HW.out.1.turnq t6 o6 (HW.out.2.2.2.1.1.turns t6 (fun h0 a ha => (HW.out.2.2.2.1.2 a ha).2.1)) (fun _ a ha => HW.out.2.2.2.1.2 a ha)
    have pc6 := (t6.block pc (Array.getElem?_eq_some_iff.1 HW.out.2.1).1 (fun e => hpq e)).trans HW.out.2.1
    have HT6 := hid t6
    obtain ⟨W6, hW6⟩ : ∃ W6, W6 = put6m W q (.int .i64 e2) (.int .i64 k2) (.int .i64 m2) (.int .i64 g2) (.int .i64 d2) (.slice y2 n2 cc2) := ⟨_, rfl⟩
    rw [← hW6] at HM6 pc6 HT6
    have hW7 : put6m W q (.int .i64 e2) (.int .i64 k2) (.int .i64 m2) (.int .i64 g2) (.int .i64 d2) (.slice y2 n2 cc2) = W6 := hW6.symm
    unfold put6m at hW7
    rw [hW7]
    obtain ⟨wE, hwE⟩ : ∃ wE, wE = W6.drew := ⟨_, rfl⟩
    have bE : Below W6.heap.size W6 wE := by rw [hwE]; exact (Below.refl _ _).drew
    have HWE := hid hwE.symm
    have HME := hid (HM6.out.below bE)
    have pcE := heap_keep bE pc6
    have HTE := hid (HT6.out.trans (Turns.of_below bE))
    have x2 : wE.cell? ⟨q, 2, none⟩ = some Rc := cell_heap HME.out.obj rfl
    have j0 : wE.cell? ⟨pc, 0, none⟩ = some (.int .i64 ck) := cell_heap pcE rfl
    have j1 : wE.cell? ⟨pc, 1, none⟩ = some (.int .i64 i0) := cell_heap pcE rfl
    have j2 : wE.cell? ⟨pc, 2, none⟩ = some (.bool i1) := cell_heap pcE rfl
    have j3 : wE.cell? ⟨pc, 3, none⟩ = some (.bool i2) := cell_heap pcE rfl
    have j4 : wE.cell? ⟨pc, 4, none⟩ = some (.int .i64 i3) := cell_heap pcE rfl
    have j5 : wE.cell? ⟨pc, 5, none⟩ = some (.int .i64 i4) := cell_heap pcE rfl
    have j6 : wE.cell? ⟨pc, 6, none⟩ = some (.int .i64 i5) := cell_heap pcE rfl
    have j7 : wE.cell? ⟨pc, 7, none⟩ = some (.int .i64 i6) := cell_heap pcE rfl
    have j8 : wE.cell? ⟨pc, 8, none⟩ = some (.int .i64 i7) := cell_heap pcE rfl
    obtain ⟨R9, c9, W4, hr4, H4⟩ := push_ch HME.out.chs ⟨ck, ⟨i0, i1, i2, i3, i4, i5, i6, i7⟩⟩ (by have := HME.out.low; have := HME.out.lt; omega) (by omega)
    unfold enC at hr4
    dsimp only at hr4
    obtain ⟨hM9, hT9⟩ := HME.out.setC H4.out.2.1 H4.out.1 H4.out.2.2
    have bO := al wE (.cells #[.int .i64 ck, .int .i64 i0, .bool i1, .bool i2, .int .i64 i3, .int .i64 i4, .int .i64 i5, .int .i64 i6, .int .i64 i7] 37)
    have hob4 : W4.heap[q]? = _ := (H4.out.2.1.block q HME.out.lt (fun e => (HME.out.cf q e).2 rfl)).trans HME.out.obj
    have x24 : W4.cell? ⟨q, 2, none⟩ = some Rc := cell_heap hob4 rfl
    have f24 := fr_heap hob4 2
    have HJ4 : Hid (W4.cell? ⟨pc, 0, none⟩ = some (.int .i64 ck) ∧ W4.cell? ⟨pc, 1, none⟩ = some (.int .i64 i0) ∧ W4.cell? ⟨pc, 2, none⟩ = some (.bool i1) ∧ W4.cell? ⟨pc, 3, none⟩ = some (.bool i2) ∧ W4.cell? ⟨pc, 4, none⟩ = some (.int .i64 i3) ∧ W4.cell? ⟨pc, 5, none⟩ = some (.int .i64 i4) ∧ W4.cell? ⟨pc, 6, none⟩ = some (.int .i64 i5) ∧ W4.cell? ⟨pc, 7, none⟩ = some (.int .i64 i6) ∧ W4.cell? ⟨pc, 8, none⟩ = some (.int .i64 i7)) := by
      have e4 := (H4.out.2.1.block pc (Array.getElem?_eq_some_iff.1 pcE).1 (fun e => by have := (HME.out.chs.tb e).2.lt; exact HPc.out e)).trans pcE
      exact ⟨cell_heap e4 rfl, cell_heap e4 rfl, cell_heap e4 rfl, cell_heap e4 rfl, cell_heap e4 rfl, cell_heap e4 rfl, cell_heap e4 rfl, cell_heap e4 rfl, cell_heap e4 rfl⟩
    have HN := hid (And.intro hM9 (And.intro hT9 H4.out.2.2))
    clear hW6 hW7 hwE pc6 pcE hob4 hM9 hT9 bE t6 o6 p0 b0 z0 p1 b1 z1 p2 b2 z2 p3 b3 z3 p4 b4 z4 p5 b5 z5
    refine wp_region_last (fun v => v.cell? ⟨q, 2, none⟩ = some Rc ∧ v.cell? ⟨pc, 0, none⟩ = some (.int .i64 ck) ∧ v.cell? ⟨pc, 1, none⟩ = some (.int .i64 i0) ∧ v.cell? ⟨pc, 2, none⟩ = some (.bool i1) ∧ v.cell? ⟨pc, 3, none⟩ = some (.bool i2) ∧ v.cell? ⟨pc, 4, none⟩ = some (.int .i64 i3) ∧ v.cell? ⟨pc, 5, none⟩ = some (.int .i64 i4) ∧ v.cell? ⟨pc, 6, none⟩ = some (.int .i64 i5) ∧ v.cell? ⟨pc, 7, none⟩ = some (.int .i64 i6) ∧ v.cell? ⟨pc, 8, none⟩ = some (.int .i64 i7)) 10 (by kernel_rfl) (by rw [HWE.out]; exact ⟨x2, j0, j1, j2, j3, j4, j5, j6, j7, j8⟩) (fun hS => ?_)
    rw [HWE.out] at hS ⊢
    refine wpAnyL_take (i := 0) (v := ?_) rfl (by kernel_rfl) (by kernel_rfl) (by kernel_rfl) (by kernel_rfl) (fun _ _ _ h => h) hS (Or.inl ⟨by rfl, ?_⟩) ?_
    case refine_2 => (intro w hSw; (try dsimp only at hSw); go_simp; (try with_reducible rfl))
    (try simp only [Act.put, List.getElem_toArray, List.getElem_cons_succ, List.getElem_cons_zero, List.setIfInBounds_toArray, List.set_cons_zero, List.set_cons_succ])
    refine wpAnyL_take (i := 1) (v := ?_) rfl (by kernel_rfl) (by kernel_rfl) (by kernel_rfl) (by kernel_rfl) (fun _ _ _ h => h) hS (Or.inl ⟨by rfl, ?_⟩) ?_
    case refine_2 => (intro w hSw; (try dsimp only at hSw); go_simp; (try with_reducible rfl))
    (try simp only [Act.put, List.getElem_toArray, List.getElem_cons_succ, List.getElem_cons_zero, List.setIfInBounds_toArray, List.set_cons_zero, List.set_cons_succ])
    refine wpAnyL_take (i := 2) (v := ?_) rfl (by kernel_rfl) (by kernel_rfl) (by kernel_rfl) (by kernel_rfl) (fun _ _ _ h => h) hS (Or.inl ⟨by rfl, ?_⟩) ?_
    case refine_2 => (intro w hSw; (try dsimp only at hSw); go_simp; (try with_reducible rfl))
    (try simp only [Act.put, List.getElem_toArray, List.getElem_cons_succ, List.getElem_cons_zero, List.setIfInBounds_toArray, List.set_cons_zero, List.set_cons_succ])
    refine wpAnyL_take (i := 3) (v := ?_) rfl (by kernel_rfl) (by kernel_rfl) (by kernel_rfl) (by kernel_rfl) (fun _ _ _ h => h) hS (Or.inl ⟨by rfl, ?_⟩) ?_
    case refine_2 => (intro w hSw; (try dsimp only at hSw); go_simp; (try with_reducible rfl))
    (try simp only [Act.put, List.getElem_toArray, List.getElem_cons_succ, List.getElem_cons_zero, List.setIfInBounds_toArray, List.set_cons_zero, List.set_cons_succ])
    refine wpAnyL_take (i := 4) (v := ?_) rfl (by kernel_rfl) (by kernel_rfl) (by kernel_rfl) (by kernel_rfl) (fun _ _ _ h => h) hS (Or.inl ⟨by rfl, ?_⟩) ?_
    case refine_2 => (intro w hSw; (try dsimp only at hSw); go_simp; (try with_reducible rfl))
    (try simp only [Act.put, List.getElem_toArray, List.getElem_cons_succ, List.getElem_cons_zero, List.setIfInBounds_toArray, List.set_cons_zero, List.set_cons_succ])
    refine wpAnyL_take (i := 5) (v := ?_) rfl (by kernel_rfl) (by kernel_rfl) (by kernel_rfl) (by kernel_rfl) (fun _ _ _ h => h) hS (Or.inl ⟨by rfl, ?_⟩) ?_
    case refine_2 => (intro w hSw; (try dsimp only at hSw); go_simp; (try with_reducible rfl))
    (try simp only [Act.put, List.getElem_toArray, List.getElem_cons_succ, List.getElem_cons_zero, List.setIfInBounds_toArray, List.set_cons_zero, List.set_cons_succ])
    refine wpAnyL_one (i := 6) (by kernel_rfl) rfl (fun K hK => ?_)
    go_simp
    refine hK.out _ _ (fun _ => ⟨keep bO x2, keep bO j0, keep bO j1, keep bO j2, keep bO j3, keep bO j4, keep bO j5, keep bO j6, keep bO j7, keep bO j8⟩) ?_
    clear hK K
    refine wpAnyL_one (i := 7) (by kernel_rfl) rfl (fun K hK => ?_)
    refine st_append rfl _ _ 63 rfl _ _ rfl rfl hr4 ?_
    (try simp only [Act.put, List.getElem_toArray, List.getElem_cons_succ, List.getElem_cons_zero, List.setIfInBounds_toArray, List.set_cons_zero, List.set_cons_succ])
    refine hK.out _ _ (fun _ => ⟨x24, HJ4.out⟩) ?_
    clear hK K
    refine wpAnyL_one (i := 8) (by kernel_rfl) rfl (fun K hK => ?_)
    go_simp
    refine hK.out _ _ (fun _ => ⟨x24, HJ4.out⟩) ?_
    clear hK K
    refine wpAnyL_one (i := 9) (by kernel_rfl) rfl (fun K hK => ?_)
    go_simp
    refine hK.out _ _ (fun _ => ⟨x24, HJ4.out⟩) ?_
    clear hK K
    refine wpAnyL_one (i := 10) (by kernel_rfl) rfl (fun K hK => ?_)
    go_simp
    refine hK.out _ _ (fun h => absurd rfl h) ?_
    clear hK K
    refine wpAnyL_done (by kernel_rfl) ?_ _
    go_wp2_with fail
    refine bodyPost_end (results_none rfl _ _ _) rfl ?_
    have T9 := (HF.out.2.trans (Turns.of_below HW.out.2.2.2.2)).trans HTE.out
    refine ⟨rfl, _, _, _, _, by rw [HSt.out]; exact HN.out.1, (T9.weak (fun k hk => .inl hk)).trans HN.out.2.1, fun k hk => ?_⟩
    have s9 := T9.size
    rcases HN.out.2.2 k hk with e9 | e9
    · exact .inl e9
    · exact .inr (by omega)


end

end Go.Proofs.YtdlajpjigddbhaaGreat.Mo

/-
  What the document tells of a holder: Info; what is alike.
  Conditions: the holder lies in memory.
-/
import Derived.Test.YtnfflmndejbepaaShInfo
namespace Go.Proofs.Ytnfflmndejbepaa.Sh
set_option linter.unusedSectionVars false
variable [Inhabited DZ]
open Go.RowKit By Fl
set_option linter.unusedVariables false
set_option linter.unusedSimpArgs false
set_option maxRecDepth 100000

/- As far as the k-th. -/
structure RiSt (w wr : World) (v : HV) (os li : Int) (k : Nat) (R : Value) : Prop where
  bel : Below w.heap.size w wr
  box : wr.heap[w.heap.size]? = some (.cells (HCells v) 29 (0, 0))
  res : wr.heap[w.heap.size + 1]? = some (.cells zNBox 50 (0, 0))
  x : wr.heap[w.heap.size + 2]? = some (.cells #[.int .i64 os, .int .i64 li, .int .i64 v.now.si, .int .i64 v.now.n2, R] 50 (0, 0))
  own : Own wr (w.heap.size + 3) 91 2 enT R ((v.N.take k).map tOf)

section
variable {w wr wz : World} {v : HV} {k : Nat} {os li : Int} {R : Value}
theorem RiSt.lt (h : RiSt w wr v os li k R) : w.heap.size + 3 ≤ wr.heap.size := lt_heap h.x
theorem RiSt.below (h : RiSt w wr v os li k R) (b : Below wr.heap.size wr wz) : RiSt w wz v os li k R :=
  ⟨on h.bel b, (b.block _ (lt_heap h.box)).trans h.box, (b.block _ (lt_heap h.res)).trans h.res, (b.block _ (lt_heap h.x)).trans h.x, h.own.below b⟩
theorem RiSt.cells (h : RiSt w wr v os li k R) (b : Below (w.heap.size + 3) wr wz) {bl o : Nat} {s : SV} (k1 : w.cell? ⟨bl, o + 1, none⟩ = some (.int .i64 s.si)) (k3 : w.cell? ⟨bl, o + 3, none⟩ = some (.slice s.x2 s.n2 s.c2)) :
    wz.cell? ⟨w.heap.size, 6, none⟩ = some (.slice v.x v.n v.c) ∧ wz.cell? ⟨w.heap.size + 2, 4, none⟩ = some R ∧ wz.cell? ⟨bl, o + 1, none⟩ = some (.int .i64 s.si) ∧ wz.cell? ⟨bl, o + 3, none⟩ = some (.slice s.x2 s.n2 s.c2) := by
  have bw : Below w.heap.size w wz := h.bel.trans (b.mono (by omega))
  exact ⟨cell_heap ((b.block _ (by omega)).trans h.box) rfl, cell_heap ((b.block _ (by omega)).trans h.x) rfl, keep bw k1, keep bw k3⟩
theorem RiSt.step {s : SV} {R' : Value} (h : RiSt w wr v os li k R) (hs : v.N[k]? = some s) (b : Below (w.heap.size + 3) wr wz) (o : Own wz (w.heap.size + 3) 91 2 enT R' ((v.N.take k).map tOf ++ [tOf s])) : RiSt w (wz.setCell ⟨w.heap.size + 2, 4, none⟩ R') v os li (k + 1) R' := by
  have t : Turns (fun q => q = w.heap.size + 2) wz (wz.setCell ⟨w.heap.size + 2, 4, none⟩ R') := turns_put (Turns.refl _ _) _ _
  have z := b.size
  have l := h.lt
  have bw : Below w.heap.size w wz := h.bel.trans (b.mono (by omega))
  refine ⟨bw.trans (t.below (fun q e => by omega) bw.size), (t.block _ (by omega) (by omega)).trans ((b.block _ (by omega)).trans h.box), (t.block _ (by omega) (by omega)).trans ((b.block _ (by omega)).trans h.res), ?_, ?_⟩
  · exact heap_set ((b.block _ (by omega)).trans h.x) (j := 4) R'
  · rw [List.take_add_one, hs, List.map_append]
    exact o.turns t fun q hq e => by have := (World.ownsRow.lt o q hq).1; omega
end

set_option maxHeartbeats 6400000 in
theorem rinfo_any {w : World} {F : Nat → Prop} {v : HV} (os li : Int) (h : HAt w F v) : Calls Try.prog 22 #[vH v, .int .i64 os, .int .i64 li] w (ITells w v os li) := by
  obtain ⟨w1, hw1⟩ : ∃ w1, w1 = (w.alloc (.cells (HCells v) 29)).alloc (.cells zNBox 50) := ⟨_, rfl⟩
  obtain ⟨bb, hsz, g0, g1⟩ := two_boxes2 w (HCells v) zNBox 29 50
  rw [← hw1] at bb hsz g0 g1
  obtain ⟨w2, hw2⟩ : ∃ w2, w2 = w1.alloc (.cells #[.int .i64 os, .int .i64 li, .int .i64 v.now.si, .int .i64 v.now.n2, .slice none 0 0] 50) := ⟨_, rfl⟩
  have b2 : Below w1.heap.size w1 w2 := by rw [hw2]; exact al _ _
  have g2 : w2.heap[w.heap.size + 2]? = some (.cells #[.int .i64 os, .int .i64 li, .int .i64 v.now.si, .int .i64 v.now.n2, .slice none 0 0] 50 (0, 0)) := by rw [hw2, ← hsz]; exact heap_alloc_new _ _
  have HS0 : Hid (RiSt w w2 v os li 0 (.slice none 0 0)) := hid ⟨on bb b2, (b2.block _ (lt_heap g0)).trans g0, (b2.block _ (lt_heap g1)).trans g1, g2, by simpa using Own.nil w2 _ _ _ _⟩
  have hsm := h.n.small
  have HA := hid h.n
  have HL := hid h.n.len
  have HSz := hid hsz
  obtain ⟨q0, q1, q2, q3, q4, q5, q6⟩ := hcells g0
  have HW2 := hid hw2
  clear h bb hsz g0 g1 b2 g2 hw2 q0 q1 q3 q5 q6
  obtain ⟨fe, ⟨pl, si, x1, n1, c1, I, x2, n2, c2, E, x3, n3, c3, U⟩, x, n, c, N⟩ := v
  unfold HCells zNBox at hw1
  unfold vH
  dsimp only at *
  go_enter Try.func22, Try.ntmps22
  go_upto_region 1 with (fail)
  rw [← hw1]
  clear hw1
  go_upto_region 2 with (fail)
  rw [← HW2.out, HSz.out]
  clear q2 q4 HW2 HSz
  go_wp2_with fail
  go_loopw [8] (fun i wr => ∃ k : Nat, k ≤ n ∧ i = .int .i64 k ∧ Hid (∃ y m cy, RiSt w wr ⟨fe, ⟨pl, si, x1, n1, c1, I, x2, n2, c2, E, x3, n3, c3, U⟩, x, n, c, N⟩ os li k (.slice y m cy))) (fun i _ => n - (intOf i).toNat)
  case atStart => exact ⟨0, by omega, rfl, _, _, _, HS0.out⟩
  case round =>
    clear HS0
    obtain ⟨k, hk, rfl, HR0⟩ := hrel
    obtain ⟨y, m, cy, hR⟩ := HR0.out
    have HR := hid hR
    clear hR HR0
    have a6 : wr.cell? ⟨w.heap.size, 6, none⟩ = some (.slice x n c) := cell_heap HR.out.box rfl
    by_cases hlt : k < n
    · have hkn : (k : Int) < (n : Int) := by omega
      obtain ⟨a, ha, hm⟩ := Lis.some HA.out hlt
      rcases HA.out.row with hr0 | ⟨bl, o, hx, hbl, _, hc⟩
      · omega
      obtain ⟨k0, k1, k2, k3, k4⟩ := s_at hc ha
      subst hx
      have HC := hid (fun W (hW : Below (w.heap.size + 3) wr W) => HR.out.cells hW (s := a) k1 k3)
      have HSt := hid (fun W R' (hW : Below (w.heap.size + 3) wr W) => HR.out.step (R' := R') (s := a) ha hW)
      have HLt := hid HR.out.lt
      have hKl : ((N.take k).map tOf).length + 1 ≤ 100000000 := by rw [List.length_map, List.length_take]; omega
      have bD : Below wr.heap.size wr wr.drew := (Below.refl _ _).drew
      have S1 := HC.out wr.drew (bD.mono HLt.out)
      clear hc ha hm hbl k0 k1 k2 k3 k4
      go_upto_region 5 with (fail)
      clear a6
      refine wp_region_tail (fun W => W.cell? ⟨w.heap.size, 6, none⟩ = some (.slice (some ⟨bl, o, none⟩) n c) ∧ W.cell? ⟨w.heap.size + 2, 4, none⟩ = some (.slice y m cy) ∧ W.cell? ⟨bl, o + k * 5 + 1, none⟩ = some (.int .i64 a.si) ∧ W.cell? ⟨bl, o + k * 5 + 3, none⟩ = some (.slice a.x2 a.n2 a.c2)) [18, 19] (by kernel_rfl) S1 (fun hS => ?_)
      have HBD := hid bD
      clear S1 bD
      generalize wr.drew = wD at *
      refine By.tk 0 ?_
      refine By.tk 1 ?_
      refine By.tk 2 ?_
      refine By.tk 3 ?_
      refine By.tk 4 ?_
      refine By.tk 5 ?_
      refine By.tk 6 ?_
      refine By.tk 7 ?_
      refine By.tk 8 ?_
      refine By.tk 9 ?_
      refine By.tk 10 ?_
      refine By.tk 11 ?_
      refine By.tk 12 ?_
      refine By.tk 13 ?_
      refine By.tk 14 ?_
      refine By.tk 15 ?_
      refine wpAnyT_one (i := 16) (by kernel_rfl) rfl (fun K hK => ?_)
      go_simp
      have b7 := al wD (.cells #[.int .i64 a.si, .int .i64 a.n2] 91)
      have S2 := HC.out _ ((on HBD.out b7).mono HLt.out)
      obtain ⟨x', n', c', w4, hap, ho4, hb4, ht4, _⟩ := push_one2 (a := tOf a) #[.int .i64 a.si, .int .i64 a.n2] rfl trow (HR.out.own.below HBD.out) (Nat.le_trans HLt.out HBD.out.size) hKl
      clear hS b7
      refine hK.out _ _ (fun _ => S2) ?_
      clear hK K
      have HB4 := hid ((HBD.out.mono HLt.out).trans hb4)
      have S4 := HC.out w4 HB4.out
      have HS4 := hid (HSt.out w4 (.slice x' n' c') HB4.out ho4)
      clear S2 ht4 ho4 hb4
      refine wpAnyT_one (i := 17) (by kernel_rfl) rfl (fun K hK => ?_)
      refine st_append rfl _ _ 48 rfl _ _ rfl rfl hap ?_
      (try simp only [Act.put, List.getElem_toArray, List.getElem_cons_succ, List.getElem_cons_zero, List.setIfInBounds_toArray, List.set_cons_zero, List.set_cons_succ])
      refine hK.out _ _ (fun _ => S4) ?_
      clear hK K
      clear hap
      have gr := (HB4.out.block (w.heap.size + 2) (by omega)).trans HR.out.x
      have b4 := cell_heap gr (j := 4) rfl
      have fb4 := fr_heap gr 4
      clear gr S4
      refine wpAnyT_one (i := 18) (by kernel_rfl) rfl (fun K hK => ?_)
      go_simp
      refine hK.out _ _ (fun h => absurd (by decide) h) ?_
      clear hK K
      refine wpAnyT_one (i := 19) (by kernel_rfl) rfl (fun K hK => ?_)
      go_simp
      refine hK.out _ _ (fun h => absurd (by decide) h) ?_
      clear hK K
      refine wpAnyT_done (by kernel_rfl) ?_ _
      go_wp2_with fail
      go_roundw
      case rel => exact ⟨k + 1, by omega, by go_num, _, _, _, HS4.out⟩
      case measure => simp [intOf]; omega
    · have hk2 : n = k := by omega
      subst hk2
      have hO := HR.out.own
      rw [show (HV.N ⟨fe, ⟨pl, si, x1, n1, c1, I, x2, n2, c2, E, x3, n3, c3, U⟩, x, n, c, N⟩).take n = N from List.take_of_length_le (by rw [HL.out]; exact Nat.le_refl _)] at hO
      obtain ⟨y', c'', hform, _⟩ := hO.form
      injection hform with p1 p2 p3
      subst p1 p3
      have pm : m = n := by rw [p2, List.length_map, HL.out]
      subst pm
      have HO := hid hO
      clear p2 hO hlt hk
      obtain ⟨b0, b1, b2, b3, b4⟩ := (⟨cell_heap HR.out.x (j := 0) rfl, cell_heap HR.out.x (j := 1) rfl, cell_heap HR.out.x (j := 2) rfl, cell_heap HR.out.x (j := 3) rfl, cell_heap HR.out.x (j := 4) rfl⟩ : wr.cell? ⟨w.heap.size + 2, 0, none⟩ = some (.int .i64 os) ∧ wr.cell? ⟨w.heap.size + 2, 1, none⟩ = some (.int .i64 li) ∧ wr.cell? ⟨w.heap.size + 2, 2, none⟩ = some (.int .i64 si) ∧ wr.cell? ⟨w.heap.size + 2, 3, none⟩ = some (.int .i64 n2) ∧ wr.cell? ⟨w.heap.size + 2, 4, none⟩ = some (.slice y m cy))
      have gr := HR.out.res
      unfold zNBox at gr
      have r0 := cell_heap gr (j := 0) rfl
      have fr0 := fr_heap gr 0
      have r1 := cell_heap gr (j := 1) rfl
      have fr1 := fr_heap gr 1
      have r2 := cell_heap gr (j := 2) rfl
      have fr2 := fr_heap gr 2
      have r3 := cell_heap gr (j := 3) rfl
      have fr3 := fr_heap gr 3
      have r4 := cell_heap gr (j := 4) rfl
      have fr4 := fr_heap gr 4
      clear gr
      go_wp2_with fail
      refine bodyPost_ret (v := .agg #[.int .i64 os, .int .i64 li, .int .i64 si, .int .i64 n2, .slice y m cy]) ?_ rfl ?_
      · rw [results_cell1 rfl]
        go_simp
      · have key : ∀ W, Turns (fun q => q = w.heap.size + 1) wr W → ITells w ⟨fe, ⟨pl, si, x1, n1, c1, I, x2, n2, c2, E, x3, n3, c3, U⟩, x, m, c, N⟩ os li (.returned (.agg #[.int .i64 os, .int .i64 li, .int .i64 si, .int .i64 n2, .slice y m cy])) W := fun W t => by
          have oW := HO.out.turns t (fun q hq e => by have := (World.ownsRow.lt HO.out q hq).1; omega)
          have hl := own_lis (A := TAt) trow oW (by rw [List.length_map, HL.out]; exact hsm) (F := fun _ => True) (fun _ _ => trivial) fun _ _ => trivial
          exact ⟨_, _, rfl, hid ⟨hl, HR.out.bel.trans (t.below (fun q e => by omega) HR.out.bel.size)⟩⟩
        refine key _ ?_
        repeat (first | with_reducible exact Turns.refl _ _ | with_reducible refine turns_put ?_ _ _)

theorem neq_t (a : TV) (w : World) : (binOp .neq 91 (.agg #[.int .i64 a.si, .int .i64 a.hd]) (.agg #[.int .i64 a.si, .int .i64 a.hd])).run Try.prog w = .ok (.bool false) w := by
  go_simp

def NCells (os li no he : Int) (y : Value) : Array Value := #[.int .i64 os, .int .i64 li, .int .i64 no, .int .i64 he, y]

set_option maxHeartbeats 6400000 in
/- What is alike is told to be. -/
theorem rsameInfo_yes {w : World} {F G : Nat → Prop} {x y : Option Addr} {n c d : Nat} {L : List TV} (os li no he : Int) (ha : Ts w F x n c L) (hb : Ts w G y n d L) :
    Calls Try.prog 20 #[.agg #[.int .i64 os, .int .i64 li, .int .i64 no, .int .i64 he, .slice x n c], .agg #[.int .i64 os, .int .i64 li, .int .i64 no, .int .i64 he, .slice y n d]] w fun e w' => e = .returned (.bool true) ∧ Below w.heap.size w w' := by
  obtain ⟨w1, hw1⟩ : ∃ w1, w1 = (w.alloc (.cells (NCells os li no he (.slice x n c)) 50)).alloc (.cells (NCells os li no he (.slice y n d)) 50) := ⟨_, rfl⟩
  obtain ⟨bb, hsz, g0, g1⟩ := two_boxes2 w (NCells os li no he (.slice x n c)) (NCells os li no he (.slice y n d)) 50 50
  rw [← hw1] at bb hsz g0 g1
  have HB := hid bb
  have HKa : Hid (∀ W, Below w1.heap.size w1 W → W.cell? ⟨w.heap.size, 4, none⟩ = some (.slice x n c)) := hid fun W hW => cell_heap ((hW.block _ (lt_heap g0)).trans g0) rfl
  have HKb : Hid (∀ W, Below w1.heap.size w1 W → W.cell? ⟨w.heap.size + 1, 4, none⟩ = some (.slice y n d)) := hid fun W hW => cell_heap ((hW.block _ (lt_heap g1)).trans g1) rfl
  have HA := hid ha
  have HBl := hid hb
  have hsm := ha.small
  have o0 : (os != os) = false := by simp
  have o1 : (li != li) = false := by simp
  have o2 : (no != no) = false := by simp
  have o3 : (he != he) = false := by simp
  have o4 : ((n : Int) != (n : Int)) = false := by simp
  have HW := hid hw1
  unfold NCells at hw1
  clear ha hb bb hsz g0 g1
  go_enter Try.func20, Try.ntmps20
  go_upto_region 3 with (fail)
  rw [← hw1]
  clear hw1 o0 o1 o2 o3 o4
  go_wp2_with fail
  go_loopw [5] (fun i wr => ∃ k : Nat, k ≤ n ∧ i = .int .i64 k ∧ Hid (Below w1.heap.size w1 wr)) (fun i _ => n - (intOf i).toNat)
  case atStart => exact ⟨0, by omega, rfl, Below.refl _ _⟩
  case round =>
    obtain ⟨k, hk, rfl, HR⟩ := hrel
    have pa := HKa.out wr HR.out
    have pb := HKb.out wr HR.out
    by_cases hlt : k < n
    · have hkn : (k : Int) < (n : Int) := by omega
      obtain ⟨a, ha, hm⟩ := Lis.some HA.out hlt
      rcases HA.out.row with hr0 | ⟨bl, o, hx, hbl, _, hc⟩
      · omega
      rcases HBl.out.row with hr0 | ⟨bl2, q, hy, hbl2, _, hc2⟩
      · omega
      obtain ⟨k0, k1⟩ := t_at hc ha
      obtain ⟨l0, l1⟩ := t_at hc2 ha
      have hbw := on HB.out HR.out
      subst hx hy
      have pa' := After.cell pa
      have pb' := After.cell pb
      have r0 := After.cell (keep hbw k0)
      have r1 := After.cell (keep hbw k1)
      have s0 := After.cell (keep hbw l0)
      have s1 := After.cell (keep hbw l1)
      have hq := neq_t a
      obtain ⟨a0, a1⟩ := a
      dsimp only at r0 r1 s0 s1 hq
      clear hc ha hm hbl hc2 hbl2 k0 k1 l0 l1 hbw
      haveI := After.ne wr
      go_wp2_with fail
      refine wp_region_after (by kernel_rfl) (by kernel_rfl) ?_
      repeat (go_big_quiet_step (simp only [hq]))
      refine wpQuiet_nil ?_
      rintro _ ⟨q, rfl⟩
      go_wp2_with fail
      go_roundw
      case rel => exact ⟨k + 1, by omega, by go_num, on HR.out q.h⟩
      case measure => simp [intOf]; omega
    · have hk2 : n = k := by omega
      subst hk2
      go_wp2_with fail
      go_ret
      exact ⟨rfl, on HB.out HR.out⟩
end Go.Proofs.Ytnfflmndejbepaa.Sh

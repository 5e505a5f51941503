/-
  Package interval: backward hands over all intervals, the last one first.
  Conditions: the row of maps lies in memory, and nobody writes it.
-/
import Derived.Test.YthlfmbijagpggaaByHk
import Derived.Test.YthlfmbijagpggaaJIvBack
import Derived.Deep.DeepCutAuto
import Derived.Deep.RegionHeld3
namespace Go.Proofs.Ythlfmbijagpggaa.Iv
open Go.RowKit By Fl At Cr Pl
set_option linter.unusedVariables false
set_option linter.unusedSimpArgs false
set_option maxRecDepth 100000
attribute [local go_sem] Oper.semAt_some

theorem last_split {L : List MV} {q : Nat} (h : L.length = q + 1) : ∃ v, L[q]? = some v ∧ L = L.take q ++ [v] := by
  refine ⟨L[q]'(by omega), List.getElem?_eq_getElem (by omega), ?_⟩
  have := (List.take_append_drop q L).symm
  rw [List.drop_eq_getElem_cons (by omega), List.drop_of_length_le (by omega)] at this
  exact this

set_option maxHeartbeats 3200000 in
theorem back_gives {w : World} {x : Option Addr} {n c : Nat} {L : List MV} {pg : Int} {Rd : Nat → Prop} (b1 b2 : Nat)
    (hM : ∀ W, Turns (fun k => ¬ Rd k) w W → Ms W x n c L ∧ W.cell? ⟨b1, 0, none⟩ = some (.slice x n c) ∧ W.cell? ⟨b2, 0, none⟩ = some (.int .i64 pg)) (hn1 : 1 ≤ n) (hn : n ≤ 4096) :
    Gives 8 18 #[.pointer (some ⟨b1, 0, none⟩), .pointer (some ⟨b2, 0, none⟩)] (bks (L.map MV.m) pg).length (OkS (bks (L.map MV.m) pg)) Rd w := fun l J Jx X Z W hW hfit hRZ hRX hJ hJx hY h0 => by
  obtain ⟨q, hq⟩ : ∃ q, n = q + 1 := ⟨n - 1, by omega⟩
  have hq1 : (n : Int) - 1 = (q : Int) := by omega
  have HQ := hid hq
  obtain ⟨W0, hW0⟩ : ∃ W0, W0 = W.alloc (.cells #[.func (.yield l) #[] #[]] 54) := ⟨_, rfl⟩
  have b0 : Below W.heap.size W W0 := by rw [hW0]; exact al _ _
  have hz0 : W0.heap.size = W.heap.size + 1 := by rw [hW0]; simp
  have y0 : W0.cell? ⟨W.heap.size, 0, none⟩ = some (.func (.yield l) #[] #[]) := by rw [hW0]; go_simp
  have hW1 : Turns (fun k => ¬ Rd k) w W0 := hW.trans (Turns.of_below b0)
  obtain ⟨m1, m2, m3⟩ := hM W0 hW1
  obtain ⟨lv, hlv, hL⟩ := last_split (m1.len.trans hq)
  have hOs := m1.each q lv hlv
  rcases m1.row with e | ⟨b, o, rfl, hb, hc⟩
  · omega
  obtain ⟨d0, d1, d2, d3, d4, d5⟩ := Ms.at hc hlv
  have hle := m1.le
  have hqn : q < n := by omega
  have hqn' : (q : Int) < (n : Int) := by omega
  obtain ⟨T, hT⟩ : ∃ T, T = bks (L.map MV.m) pg := ⟨_, rfl⟩
  have hTb : T = bk (mom lv.m pg) (moms ((L.map MV.m).take q) pg).reverse := by
    have e1 : L.map MV.m = (L.map MV.m).take q ++ [lv.m] := by
      rw [← List.map_take]
      conv => lhs; rw [hL]
      rw [List.map_append]
      rfl
    rw [hT]
    conv => lhs; rw [e1]
    exact bks_eq _ _ _
  rw [← hT] at hY ⊢
  have HM := hid hM
  have HJ := hid (And.intro hJ hJx)
  have HRZ := hid (And.intro hRZ (And.intro hRX hfit))
  have HY := hid hY
  have H0 := hid h0
  have HT := hid hTb
  have HW1 := hid hW1
  have HL := hid (And.intro m1.len hlv)
  have HB0 := hid (And.intro b0 hz0)
  have HMo : Hid (∀ v, Below W0.heap.size W0 v → Calls Try.prog 19 #[vM lv.m.ep lv.m.pool lv.x lv.n lv.c, .int .i64 pg] v fun e w' => MomSays v lv.m pg e w') := fun v hv => moment_any lv.m (hOs.1.below hv) hOs.2 pg
  clear hM hJ hJx hRZ hRX hfit hY h0 hTb hW hW1 m1 hlv hL hOs hc hT hq
  refine callsIn_of_wp_marks Try.func18 rfl trivial ?_ rfl
  refine wpIn_wide.2 ?_
  simp only [Try.ntmps18, List.size_toArray, List.length_cons, List.length_nil, Nat.reduceAdd, Nat.reduceSub, Array.replicate_succ, Array.replicate_zero, List.push_toArray, List.append_toArray, List.nil_append, List.cons_append]
  rw [hW0] at m2
  go_wp2_with fail
  rw [← hW0] at m2 ⊢
  clear hW0
  go_cut [5] from 12 to 17 (fun s5 wc => ∃ (xb : Nat) (v : SpV), s5 = .pointer (some ⟨xb, 0, none⟩) ∧ Hid (Below W0.heap.size W0 wc ∧ SBox wc xb v ∧ v.s = mom lv.m pg ∧ SpAt wc v ∧ (∀ k, blks v k → W0.heap.size ≤ k ∧ k ≠ xb) ∧ W0.heap.size ≤ xb))
  case first =>
    have bD : Below W0.heap.size W0 W0.drew := (Below.refl _ _).drew
    have k2 := keep bD m2
    have k3 := keep bD m3
    have g0 := keep bD d0
    have g1 := keep bD d1
    have g2 := keep bD d2
    have g3 := keep bD d3
    have g4 := keep bD d4
    have g5 := keep bD d5
    have hS : ∀ v, Below W0.drew.heap.size W0.drew v → v.cell? ⟨b1, 0, none⟩ = some (.slice (some ⟨b, o, none⟩) n c) ∧ v.cell? ⟨b2, 0, none⟩ = some (.int .i64 pg) ∧ v.cell? ⟨b, o + q * 6, none⟩ = some (.int .i64 lv.m.ep) ∧ v.cell? ⟨b, o + q * 6 + 1, none⟩ = some (.int .i64 lv.m.pool.k) ∧ v.cell? ⟨b, o + q * 6 + 2, none⟩ = some (.int .i64 lv.m.pool.m) ∧ v.cell? ⟨b, o + q * 6 + 3, none⟩ = some (.int .i64 lv.m.pool.pgs) ∧ v.cell? ⟨b, o + q * 6 + 4, none⟩ = some (.int .i64 lv.m.pool.dom) ∧ v.cell? ⟨b, o + q * 6 + 5, none⟩ = some (.slice lv.x lv.n lv.c) := fun v hv => ⟨keep hv k2, keep hv k3, keep hv g0, keep hv g1, keep hv g2, keep hv g3, keep hv g4, keep hv g5⟩
    have HS := hid hS
    have HBD := hid bD
    have cM := HMo.out _ bD
    obtain ⟨Y, hY⟩ : ∃ Y : Obj, Y = .cells #[.int .i64 0, .int .i64 0, .slice none 0 0, .slice none 0 0, .slice none 0 0, .int .i64 0] 25 := ⟨_, rfl⟩
    have cN := HMo.out (W0.drew.alloc (.cells #[.int .i64 0, .int .i64 0, .slice none 0 0, .slice none 0 0, .slice none 0 0, .int .i64 0] 25)) (on bD (al _ _))
    unfold MomSays vS vM at cM cN
    clear bD m2 m3 d0 d1 d2 d3 d4 d5 hS HMo HM HY HJ HRZ H0 HT HW1 HL y0 Y hY
    refine wp_region_noPanic ?_
    refine wp_region_held_drew (S := fun v => v.cell? ⟨b1, 0, none⟩ = some (.slice (some ⟨b, o, none⟩) n c) ∧ v.cell? ⟨b2, 0, none⟩ = some (.int .i64 pg) ∧ v.cell? ⟨b, o + q * 6, none⟩ = some (.int .i64 lv.m.ep) ∧ v.cell? ⟨b, o + q * 6 + 1, none⟩ = some (.int .i64 lv.m.pool.k) ∧ v.cell? ⟨b, o + q * 6 + 2, none⟩ = some (.int .i64 lv.m.pool.m) ∧ v.cell? ⟨b, o + q * 6 + 3, none⟩ = some (.int .i64 lv.m.pool.pgs) ∧ v.cell? ⟨b, o + q * 6 + 4, none⟩ = some (.int .i64 lv.m.pool.dom) ∧ v.cell? ⟨b, o + q * 6 + 5, none⟩ = some (.slice lv.x lv.n lv.c)) (by kernel_rfl) (HS.out _ (Below.refl _ _)) (fun hHeld => ?_)
    generalize W0.drew = wD at *
    refine By.hk 0 ?_
    refine By.hk 1 ?_
    refine By.hk 2 ?_
    refine By.hk 3 ?_
    refine By.hk 4 ?_
    refine wpAnyH_ready (rs := [5, 6]) (by kernel_rfl) (by simp) ?_
    refine AllReadyH.cons rfl (fun K hK => ?_) (AllReadyH.cons rfl (fun K hK => ?_) AllReadyH.nil)
    · go_simp
      refine cM.mono ?_
      rintro e w2 ⟨v, rfl, HV⟩
      clear cM cN
      refine hK.out _ _ (HS.out _ HV.out.2.1) (fun hHeld => ?_)
      clear hK K
      refine wpAnyH_ready (rs := [6]) (by kernel_rfl) (by simp) ?_
      refine AllReadyH.cons rfl (fun K hK => ?_) AllReadyH.nil
      go_simp
      refine hK.out _ _ (HS.out _ (on HV.out.2.1 (al _ _))) (fun hHeld => ?_)
      clear hK K
      refine wpAnyH_ready (rs := [7]) (by kernel_rfl) (by simp) ?_
      refine AllReadyH.cons rfl (fun K hK => ?_) AllReadyH.nil
      go_simp
      refine hK.out _ _ (HS.out _ (on HV.out.2.1 (al _ _))) (fun hHeld => ?_)
      clear hK K
      refine wpAnyH_done (by kernel_rfl) ?_ _
      refine NoPanic.normal ?_
      go_wp2_with fail
      go_meet
      case rel =>
        obtain ⟨v1, v2, v3, v4⟩ := HV.out
        have z1 := HBD.out.size
        have z2 := v2.size
        exact ⟨w2.heap.size, v, rfl, on HBD.out (on v2 (al _ _)), heap_alloc_new _ _, v1, v3.below (al _ _), fun k hk => ⟨by have := v4 k hk; omega, by have := v3.lt hk; omega⟩, by omega⟩
    · go_simp
      refine hK.out _ _ (HS.out _ (al _ _)) (fun hHeld => ?_)
      clear hK K
      refine wpAnyH_ready (rs := [5]) (by kernel_rfl) (by simp) ?_
      refine AllReadyH.cons rfl (fun K hK => ?_) AllReadyH.nil
      go_simp
      refine cN.mono ?_
      rintro e w2 ⟨v, rfl, HV⟩
      clear cM cN
      have zA : (wD.alloc (.cells #[.int .i64 0, .int .i64 0, .slice none 0 0, .slice none 0 0, .slice none 0 0, .int .i64 0] 25)).heap.size = wD.heap.size + 1 := by simp
      have hx : w2.heap[wD.heap.size]? = some (.cells #[.int .i64 0, .int .i64 0, .slice none 0 0, .slice none 0 0, .slice none 0 0, .int .i64 0] 25 (0, 0)) := (HV.out.2.1.block _ (by simp)).trans (heap_alloc_new _ _)
      have c0 : w2.cell? ⟨wD.heap.size, 0, none⟩ = some (.int .i64 0) := cell_heap hx rfl
      have c1 : w2.cell? ⟨wD.heap.size, 1, none⟩ = some (.int .i64 0) := cell_heap hx rfl
      have c2 : w2.cell? ⟨wD.heap.size, 2, none⟩ = some (.slice none 0 0) := cell_heap hx rfl
      have c3 : w2.cell? ⟨wD.heap.size, 3, none⟩ = some (.slice none 0 0) := cell_heap hx rfl
      have c4 : w2.cell? ⟨wD.heap.size, 4, none⟩ = some (.slice none 0 0) := cell_heap hx rfl
      have c5 : w2.cell? ⟨wD.heap.size, 5, none⟩ = some (.int .i64 0) := cell_heap hx rfl
      have f0 := fr_heap hx 0
      have f1 := fr_heap hx 1
      have f2 := fr_heap hx 2
      have f3 := fr_heap hx 3
      have f4 := fr_heap hx 4
      have f5 := fr_heap hx 5
      have HX := hid (put6_box hx rfl v)
      have HP := hid (turns_put6 w2 wD.heap.size v)
      unfold put6 at HX HP
      clear hx
      have HS2 : Hid (∀ v', Turns (fun k => k = wD.heap.size) w2 v' → Below wD.heap.size wD v') := fun v' hv' => ((al _ _).trans (HV.out.2.1.mono (by omega))).trans (hv'.below (fun j e => by have e' : j = wD.heap.size := e; omega) (by have := HV.out.2.1.size; omega))
      refine hK.out _ _ (HS.out _ (HS2.out _ (Turns.refl _ _))) (fun hHeld => ?_)
      clear hK K
      refine wpAnyH_ready (rs := [7]) (by kernel_rfl) (by simp) ?_
      refine AllReadyH.cons rfl (fun K hK => ?_) AllReadyH.nil
      go_simp
      refine hK.out _ _ (HS.out _ (HS2.out _ HP.out)) (fun hHeld => ?_)
      clear hK K
      refine wpAnyH_done (by kernel_rfl) ?_ _
      refine NoPanic.normal ?_
      clear c0 c1 c2 c3 c4 c5 f0 f1 f2 f3 f4 f5
      go_wp2_with fail
      go_meet
      case rel =>
        obtain ⟨v1, v2, v3, v4⟩ := HV.out
        have z1 := HBD.out.size
        have z2 := v2.size
        have hne : ∀ k, blks v k → k ≠ wD.heap.size := fun k hk e => by have := v4 k hk; omega
        exact ⟨wD.heap.size, v, rfl, HBD.out.trans ((HS2.out _ HP.out).mono z1), HX.out, v1, v3.turns HP.out (fun k hk e => hne k hk e), fun k hk => ⟨by have := v4 k hk; omega, hne k hk⟩, by omega⟩
  case rest =>
    obtain ⟨xb, v0, rfl, HC⟩ := hcut
    have c1 := HC.out.1
    have n2 := keep c1 m2
    have hsz := c1.size
    have hsz0 := HB0.out.2
    have cB := sback_make (some ⟨b, o, none⟩) q c wc
    have hqc : q ≤ c := by omega
    have hqc' : (q : Int) ≤ (c : Int) := by omega
    clear m2 m3 d0 d1 d2 d3 d4 d5 HMo
    rename_i Q9 K9 hK9
    refine hK9 _ _ ?_
    clear hK9
    refine (wpIn_wide (n := 8)).1 ?_
    gi_wp2
    refine ⟨trivial, (callsIn_wide.2 cB).mono ?_⟩
    rintro e w' ⟨rfl, hw'⟩
    subst w'
    clear cB n2
    gi_wp2
    obtain ⟨W1, hW1⟩ : ∃ W1, W1 = wc.alloc (.cells #[.slice (some ⟨b, o, none⟩) q c] 22) := ⟨_, rfl⟩
    rw [← hW1]
    have b1c : Below wc.heap.size wc W1 := by rw [hW1]; exact al _ _
    have hz1 : W1.heap.size = wc.heap.size + 1 := by rw [hW1]; simp
    have k1 : W1.cell? ⟨wc.heap.size, 0, none⟩ = some (.slice (some ⟨b, o, none⟩) q c) := by rw [hW1]; go_simp
    clear hW1
    have b01 : Below W0.heap.size W0 W1 := on c1 b1c
    have hXZ := HRZ.out.2.2.sub
    have hRZ := HRZ.out.1
    have hZlt := HRZ.out.2.2.lt
    have hJ := HJ.out.1
    have hJx := HJ.out.2
    have hxz : ¬ Z xb := fun e => by
      have := hZlt xb e
      have := HC.out.2.2.2.2.2
      omega
    have hyx : W.heap.size ≠ xb := by
      have := HC.out.2.2.2.2.2
      omega
    refine range_gives (gf := 27) (lb := #[.pointer (some ⟨wc.heap.size, 0, none⟩)]) (N := q) (Ok := OkM (L.take q) q) (Rd := fun k => Rd k ∨ k = wc.heap.size) (by omega) rfl (enters_of Try.func27 (by kernel_rfl) rfl) (sback_gives (x := some ⟨b, o, none⟩) (c := c) wc.heap.size ?gm (by omega) _) ?rd ?ps (okM_abd _ _)
      (fun Xi Zi i W' => ∃ v j, BI J X Z Rd w T (L.map MV.m) pg W.heap.size xb l q Xi Zi i W' v j) (BX Jx X Z T) (bi_abd hJ hXZ hRZ) (bx_abd hJx hXZ) ?start ?round ?done ?stop
    case gm =>
      intro W' t'
      have ht : Turns (fun k => ¬ Rd k) w W' := (HW1.out.trans (Turns.of_below b01)).trans (t'.weak fun k hk e => hk (.inl e))
      refine ⟨(HM.out W' ht).1.take (by omega), (World.cell?_of_block (a := ⟨wc.heap.size, 0, none⟩) (t'.block wc.heap.size (by omega) (fun e => e (.inr rfl)))).trans k1⟩
    case rd =>
      intro k hk
      rcases hk with hk | rfl
      · have := hZlt k (hRZ k hk)
        omega
      · omega
    case ps =>
      rintro X' Z' i a W' ⟨mv, jj, _, _, rfl⟩
      rfl
    case start =>
      obtain ⟨e1, e2, e3, e4, e5, e6⟩ := HC.out
      have sx := e2.lt
      have bW : Below W.heap.size W W1 := on HB0.out.1 b01
      refine ⟨v0, 0, ?_, fun k hk => by have := hZlt k hk; omega, e2.turns (Turns.of_below (F := fun _ => False) b1c) (fun e => e), e4.below b1c, fun k hk => ⟨fun e => ?_, (e5 k hk).2, fun e => e⟩, ?_, HW1.out.trans (Turns.of_below b01), keep b01 y0, fun e => e, fun e => e, fun e => ?_, fun k _ e => e⟩
      · refine hJ _ _ _ _ 0 W W1 H0.out (Turns.of_below bW) (fun k hk => ?_) (fun k hk => ?_) (fun k hk => ?_) (fun k hk => ?_)
        · rcases hk with hk | rfl | hk
          · exact .inl hk
          · exact .inr (by omega)
          · exact hk.elim
        · rcases hk with hk | rfl | rfl | hk | hk | rfl
          · exact .inl hk
          · exact .inr (Nat.le_refl _)
          · exact .inr (by omega)
          · exact .inr (by have := (e5 k hk).1; omega)
          · exact .inl (hRZ k hk)
          · exact .inr (by omega)
        · rcases hk with hk | hk | hk
          · exact .inl (hXZ k hk)
          · exact .inr (.inr (.inl hk))
          · exact hk.elim
        · rcases hk with hk | rfl | rfl | hk | hk | rfl
          · have := hZlt k hk; omega
          · omega
          · omega
          · have := e4.lt hk; omega
          · have := hZlt k (hRZ k hk); omega
          · omega
      · have := hZlt k (hXZ k e)
        have := (e5 k hk).1
        omega
      · rw [List.take_zero, List.nil_append, e3]
        exact HT.out
      · rcases e with e | e
        · have := hZlt _ (hRZ _ e)
          omega
        · omega
    case round =>
      rintro lx Xi Zi i a W' hf hlx hXl hB0' ⟨mv, jj, hjj, hmv, rfl⟩
      clear hB0'
      have hmv' : L[jj]? = some mv := by
        rw [List.getElem?_take] at hmv
        split at hmv
        · exact hmv
        · cases hmv
      have hmm : (L.map MV.m)[jj]? = some mv.m := by rw [List.getElem?_map, hmv']; rfl
      have HMV := hid (And.intro hmv' (And.intro hmm hjj))
      unfold vMV vM
      clear hmv hmv' hmm
      gi_wp2
      refine ⟨al _ _, fun W2 t2 hf2 hB2 hO2 => ?_⟩
      clear hO2
      obtain ⟨v, j, hBI⟩ := hB2
      have hmbx : W2.heap[W'.heap.size]? = some (.cells #[.int .i64 mv.m.ep, .int .i64 mv.m.pool.k, .int .i64 mv.m.pool.m, .int .i64 mv.m.pool.pgs, .int .i64 mv.m.pool.dom, .slice mv.x mv.n mv.c] 32 (0, 0)) := (t2.block _ (by simp) (by show ¬ W'.heap.size = lx; omega)).trans (heap_alloc_new _ _)
      have g0 : W2.cell? ⟨W'.heap.size, 0, none⟩ = some (.int .i64 mv.m.ep) := cell_heap hmbx rfl
      have g1 : W2.cell? ⟨W'.heap.size, 1, none⟩ = some (.int .i64 mv.m.pool.k) := cell_heap hmbx rfl
      have g2 : W2.cell? ⟨W'.heap.size, 2, none⟩ = some (.int .i64 mv.m.pool.m) := cell_heap hmbx rfl
      have g3 : W2.cell? ⟨W'.heap.size, 3, none⟩ = some (.int .i64 mv.m.pool.pgs) := cell_heap hmbx rfl
      have g4 : W2.cell? ⟨W'.heap.size, 4, none⟩ = some (.int .i64 mv.m.pool.dom) := cell_heap hmbx rfl
      have g5 : W2.cell? ⟨W'.heap.size, 5, none⟩ = some (.slice mv.x mv.n mv.c) := cell_heap hmbx rfl
      obtain ⟨mm1, _, mm3⟩ := HM.out W2 hBI.trn
      have hOs := mm1.each jj mv HMV.out.1
      have cM := moment_any mv.m hOs.1 hOs.2 pg
      unfold MomSays vS vM at cM
      have HBI := hid hBI
      have HF2 := hid hf2
      clear hmbx mm1 hOs hBI hf hf2 t2 k1 b1c b01
      generalize mv.m.pool.k = p1 at *
      generalize mv.m.pool.m = p2 at *
      generalize mv.m.pool.pgs = p3 at *
      generalize mv.m.pool.dom = p4 at *
      generalize mv.x = p5 at *
      generalize mv.n = p6 at *
      generalize mv.c = p7 at *
      gi_wp2
      refine ⟨trivial, (callsIn_wide.2 cM).mono ?_⟩
      rintro e w3 ⟨v2, rfl, HV⟩
      clear cM g1 g2 g3 g4 g5
      obtain ⟨w4, hw4⟩ : ∃ w4, w4 = w3.alloc (.cells #[.int .i64 v2.s.fr, .int .i64 v2.s.til, .slice v2.x1 v2.n1 v2.c1, .slice v2.x2 v2.n2 v2.c2, .slice v2.x3 v2.n3 v2.c3, .int .i64 (prm v2.s.ac)] 25) := ⟨_, rfl⟩
      have b34 : Below w3.heap.size w3 w4 := by rw [hw4]; exact al _ _
      have b24 : Below W2.heap.size W2 w4 := on HV.out.2.1 b34
      have s2 : SpAt w4 v2 := HV.out.2.2.1.below b34
      have bx4 : SBox w4 xb v := HBI.out.box.turns (Turns.of_below (F := fun _ => False) b24) (fun e => e)
      have ab4 : SBox w4 w3.heap.size v2 := by rw [hw4]; exact heap_alloc_new _ _
      have cL := alike_any s2 (HBI.out.spa.below b24)
      obtain ⟨x0, x1, x2, x3, x4, x5⟩ := bx4.at
      obtain ⟨a0, a1, a2, a3, a4, a5⟩ := ab4.at
      unfold vS at cL
      have HS4 := hid (And.intro s2 (And.intro bx4 ab4))
      have HB24 := hid b24
      have hz4 : w3.heap.size < w4.heap.size := by rw [hw4]; simp
      have hz3 : W2.heap.size ≤ w3.heap.size := HV.out.2.1.size
      have g0' := keep b24 g0
      rw [hw4] at cL x0 x1 x2 x3 x4 x5 a0 a1 a2 a3 a4 a5
      have HW4 := hid hw4
      clear hw4 g0 s2 bx4 ab4 b34 b24
      gi_wp2
      refine ⟨trivial, (callsIn_wide.2 cL).mono ?_⟩
      rintro e w5 ⟨rfl, hb5⟩
      rw [← HW4.out] at hb5
      clear cL x0 x1 x2 x3 x4 x5 a0 a1 a2 a3 a4 a5 HW4
      have b25 : Below W2.heap.size W2 w5 := on HB24.out hb5
      have bx5 : SBox w5 xb v := HS4.out.2.1.turns (Turns.of_below (F := fun _ => False) hb5) (fun e => e)
      have ab5 : SBox w5 w3.heap.size v2 := HS4.out.2.2.turns (Turns.of_below (F := fun _ => False) hb5) (fun e => e)
      have s5 : SpAt w5 v2 := HS4.out.1.below hb5
      have hn2 : ∀ k, blks v2 k → W2.heap.size ≤ k := HV.out.2.2.2
      have hs2 := HV.out.1
      have g5 := keep hb5 g0'
      cases hl : lik v2.s v.s with
      | true =>
        rw [hs2] at hl
        have HR := hid (bi_like hJ hXZ hRZ hxz HBI.out hyx HF2.out b25 HMV.out.2.2 HMV.out.2.1 hl)
        have f0 := bx5.fr 0
        have x0 := bx5.at.1
        clear hl hn2 hs2 s5 ab5 bx5 b25 hb5 HY HM HJ HBI
        gi_wp2
        exact ⟨HR.out.1, .inl HR.out.2⟩
      | false =>
        rw [hs2] at hl
        have hlst := HBI.out.lst
        rw [rest_next HMV.out.2.2 HMV.out.2.1] at hlst
        unfold bk at hlst
        rw [hl, if_neg (by simp)] at hlst
        have hj1 := (split_get hlst).2.2.2
        obtain ⟨f1, f2, f3⟩ := bi_yield hJ hXZ HBI.out HF2.out b25 s5 hn2 (ab := w3.heap.size) hz3 (Nat.lt_of_lt_of_le hz4 hb5.size) hlst
        obtain ⟨fn, tmps, assign, body, hy, hR⟩ := HY.out _ _ j #[vS v] w5 f1 f2 f3
        obtain ⟨x0, x1, x2, x3, x4, x5⟩ := bx5.at
        have y5 := keep (on HB24.out hb5) HBI.out.yld
        unfold vS at hy
        have HX := hid (And.intro b25 (And.intro s5 (And.intro hn2 (And.intro hs2 (And.intro hl (And.intro hj1 (And.intro bx5 ab5)))))))
        have hz5 := hb5.size
        clear hlst f1 f2 f3 bx5 ab5 s5 hn2 hs2 hl b25 hb5 g5 g0'
        gi_wp2
        first
          | refine (round_any hR).mono ?_
          | refine ⟨trivial, (round_any hR).mono ?_⟩
        rintro e W6 ⟨t6, h6⟩
        clear hR hy x0 x1 x2 x3 x4 x5 y5
        obtain ⟨b25, s5, hn2, hs2, hl, hj1, bx5, ab5⟩ := HX.out
        rcases h6 with ⟨rfl, hJ6⟩ | ⟨rfl, hJ6⟩
        · have HR := hid (bi_unlike hJ hXZ hRZ hxz HBI.out hyx HF2.out b25 s5 hn2 (ab := w3.heap.size) hz3 (Nat.lt_of_lt_of_le hz4 hz5) HMV.out.2.2 HMV.out.2.1 hs2 hl t6 hJ6)
          have bx6 : SBox W6 xb v := bx5.turns t6 (fun e => e (.inl (.inr (.inr (.inl rfl)))))
          have ab6 : SBox W6 w3.heap.size v2 := ab5.turns t6 (fun e => e (.inr (.inl rfl)))
          obtain ⟨x0, x1, x2, x3, x4, x5⟩ := bx6.at
          obtain ⟨a0, a1, a2, a3, a4, a5⟩ := ab6.at
          have f0 := bx6.fr 0
          have f1 := bx6.fr 1
          have f2 := bx6.fr 2
          have f3 := bx6.fr 3
          have f4 := bx6.fr 4
          have f5 := bx6.fr 5
          clear bx6 ab6 t6 hJ6 b25 s5 hn2 hs2 hl bx5 ab5 HX HY HM HJ HBI
          unfold put6 at HR
          gi_wp2
          exact ⟨HR.out.1, .inl ⟨_, _, HR.out.2⟩⟩
        · have HR := hid (bx_stop hJx hXZ HBI.out HF2.out b25 hj1 (fun k hk => by
            rcases hk with hk | hk
            · exact .inl (.inl hk)
            · exact .inl (.inr (.inr (.inr (.inr hk))))) t6 hJ6)
          clear t6 hJ6 b25 s5 hn2 hs2 hl bx5 ab5 HX HY HM HJ HBI
          gi_wp2
          exact ⟨HR.out.1, .inr ⟨_, rfl, HR.out.2⟩⟩
    case done =>
      rintro D Xi Zi Wd hD hf hXD ⟨v, j, hBI⟩ hDk
      have hlst := hBI.lst
      rw [Nat.sub_self, List.take_zero] at hlst
      have hlst2 : T = T.take j ++ v.s :: [] := hlst
      obtain ⟨q1, q2, q3, q4⟩ := split_get hlst2
      have hTl : T.length = j + 1 := by
        have := congrArg List.length q3
        rw [List.append_nil, List.length_take] at this
        omega
      have hff := hBI.fit hf hXZ
      have hOk : OkS T (Xo X Xi xb) (Zo Z Zi W.heap.size xb v) j #[vS v] Wd := ⟨v, q1, rfl, hBI.spa, fun k hk => ⟨.inr (.inr (.inr (.inl hk))), fun e => by
        obtain ⟨h1, h2, h3⟩ := hBI.bls k hk
        rcases e with e | e | e
        · exact h1 e
        · exact h2 e
        · exact h3 e⟩⟩
      obtain ⟨fn, tmps, assign, body, hy, hR⟩ := HY.out _ _ j #[vS v] Wd hff hBI.inv hOk
      unfold vS at hy
      obtain ⟨x0, x1, x2, x3, x4, x5⟩ := hBI.box.at
      have y5 := hBI.yld
      have sD : D < Wd.heap.size := (Array.getElem?_eq_some_iff.1 hDk).1
      have HE : Hid (∀ (I : (Nat → Prop) → (Nat → Prop) → Nat → World → Prop) (W6 : World), Abd I → Turns (fun k => ¬ Zo Z Zi W.heap.size xb v k) Wd W6 → I (Xo X Xi xb) (Zo Z Zi W.heap.size xb v) (j + 1) W6 → W6.heap[D]? = some (.deferred (some [])) ∧ I X Z T.length (W6.putObj D (.deferred none))) := fun I W6 hI t6 h6 => by
        refine ⟨(t6.block D sD (fun e => e (.inr (.inr (.inr (.inr (hf.sub D hXD))))))).trans hDk, ?_⟩
        rw [hTl]
        exact hI _ _ _ _ (j + 1) W6 _ h6 ((put_turns _).weak fun k hk => .inr (.inr (hk ▸ hXD))) (fun k hk => .inl (.inl hk)) (fun k hk => .inl (.inl hk)) hXZ (fun k hk => by
          have := hBI.zlt k hk
          have := t6.size
          have := (put_turns (W := W6) (l := D) (.deferred none)).size
          omega)
      clear hlst hlst2 q1 q2 q3 q4 hff hOk hBI hDk hTl
      gi_wp2
      first
        | refine hR.mono ?_
        | refine ⟨trivial, hR.mono ?_⟩
      rintro e W6 ⟨t6, h6⟩
      clear hR hy x0 x1 x2 x3 x4 x5 y5
      rcases h6 with ⟨rfl, h6⟩ | ⟨rfl, h6⟩
      · obtain ⟨hK9, hj⟩ := HE.out J W6 hJ t6 h6
        have HJ9 := hid hj
        clear hj t6 h6 HE
        gi_wp2
        refine ⟨by simp, .inl ⟨_, _, rfl, run_takeDeferred hK9, ?_⟩⟩
        exact ⟨_, results_none rfl _ _ _, ⟨_, rfl⟩, .inl HJ9.out⟩
      · obtain ⟨hK9, hj⟩ := HE.out Jx W6 hJx t6 h6
        have HJ9 := hid hj
        clear hj t6 h6 HE
        gi_wp2
        refine ⟨by simp, .inl ⟨_, _, rfl, run_takeDeferred hK9, ?_⟩⟩
        exact ⟨_, results_none rfl _ _ _, ⟨_, rfl⟩, .inr ⟨_, Nat.le_refl _, HJ9.out⟩⟩
    case stop =>
      rintro D c' Xi Zi i Wd hD hf hXD hi ⟨rfl, j, hj, hx, hz⟩ hDk
      have HJ9 : Hid (Jx X Z j (Wd.putObj D (.deferred none))) := hJx _ _ _ _ j Wd _ hx ((put_turns _).weak fun k hk => .inr (hk ▸ hXD)) (fun k hk => .inl (.inl hk)) (fun k hk => .inl (.inl hk)) hXZ (fun k hk => by
        have := hz k hk
        have := (put_turns (W := Wd) (l := D) (.deferred none)).size
        omega)
      clear hx hz
      gi_wp2
      refine ⟨by simp, .inl ⟨_, _, rfl, run_takeDeferred hDk, ?_⟩⟩
      exact ⟨_, results_none rfl _ _ _, ⟨_, rfl⟩, .inr ⟨j, hj, HJ9.out⟩⟩

end Go.Proofs.Ythlfmbijagpggaa.Iv

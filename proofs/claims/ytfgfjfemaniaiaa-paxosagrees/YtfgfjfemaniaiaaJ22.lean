/-
  What a monitor answers to who asks for a promise, or to accept, of a decree that it does not know.
  Conditions: the monitor is one that New gave ('NdAt').
-/
import Derived.Test.YtfgfjfemaniaiaaJ01
import Derived.Test.YtfgfjfemaniaiaaJ12
import Derived.Test.YtfgfjfemaniaiaaJ11
namespace Go.Proofs.Ytfgfjfemaniaiaa.Px
open Go.RowKit Wi By Fl Ba
set_option linter.unusedVariables false
set_option linter.unusedSimpArgs false
set_option maxRecDepth 100000

section
variable {w : World} {B : Nat} {g : Ln} {st : Nd}

set_option maxHeartbeats 4800000 in
theorem ans_1_yes (h : NdAt w B g st) (num : Nat) (hnl : st.dec.length < num) (ap1 ap2 aa1 aa2 : Int) (vd : List Nat) (hst : st.acc num = ⟨(ap1, ap2), (aa1, aa2), vd⟩) (hq : BOk (ap1, ap2)) (hb : BOk (aa1, aa2)) (hi : st.id < 7) (fr : Int) (kn dn c dl cy : Nat) (p1 p2 a1 a2 : Int) (x y : Option Addr) (dd : List Nat) (hn2 : num ≤ 2147483647) (hsv : Sv w x dn c dd) (hp : BOk (p1, p2)) (hwf : bwf (p1, p2)) (hfr : freeb (ap1, ap2) (aa1, aa2) vd.length (p1, p2) = true) (hgn : gnb g < 1000000000000000) :
    Calls Try.prog 30 #[.pointer (some ⟨g.p, 0, none⟩), .int .i64 fr, .agg #[.int .i64 1, .int .i64 num, .int .i64 p1, .int .i64 p2, .int .i64 a1, .int .i64 a2, .slice x dn c, .int .i64 kn, .slice y dl cy]] w fun e w' => ∃ z n cz, e = .returned (.slice z n cz) ∧ Hid (∃ v9 : MlV, Goes w w' B g { st with acc := upA st.acc num ⟨(p1, p2), (aa1, aa2), vd⟩ } 1 ∧ OwnMl w' w.heap.size (.slice z n cz) [v9] ∧ v9.dst = fr ∧ Fl.Sl w' v9.x v9.n v9.c (encM ⟨3, num, ⟨(p1, p2), (aa1, aa2), vd⟩, 0, []⟩ st.id) ∧ ∀ a, v9.x = some a → w.heap.size ≤ a.block ∧ Tb w' a.block 5) := by
  have bD : Below w.heap.size w (w.alloc (.cells #[.int .i64 1, .int .i64 num, .int .i64 p1, .int .i64 p2, .int .i64 a1, .int .i64 a2, .slice x dn c, .int .i64 kn, .slice y dl cy] 76)).drew := on (al _ _) (Below.refl _ _).drew
  have hpl := h.obj.lt
  have c2 := h.c2
  obtain ⟨x2, cc2, e2, _⟩ := h.rd
  rw [e2] at c2
  have s2 := keep bD c2
  have s3 := keep bD h.c3
  have HH : Hid (NdAt w B g st ∧ st.acc num = ⟨(ap1, ap2), (aa1, aa2), vd⟩ ∧ st.id < 7 ∧ Sv w x dn c dd ∧ BOk (p1, p2) ∧ bwf (p1, p2) ∧ gnb g < 1000000000000000) := ⟨h, hst, hi, hsv, hp, hwf, hgn⟩
  have i1 : ¬ (num : Int) ≤ (st.dec.length : Int) := by omega
  have HQ : Hid (BOk (ap1, ap2) ∧ BOk (aa1, aa2)) := ⟨hq, hb⟩
  obtain ⟨dlen, hdlen⟩ : ∃ k, st.dec.length = k := ⟨_, rfl⟩
  rw [hdlen] at i1 s2
  have hdl8 : (dlen : Int) ≤ 80000 := by have := h.dl; omega
  clear hdlen
  have Hn : Hid (num ≤ 2147483647) := hn2
  clear h hst hi hsv hp hwf hgn e2 c2 hn2 hq hb hnl
  have q1 : (w.alloc (.cells #[.int .i64 1, .int .i64 num, .int .i64 p1, .int .i64 p2, .int .i64 a1, .int .i64 a2, .slice x dn c, .int .i64 kn, .slice y dl cy] 76)).drew.cell? ⟨w.heap.size, 1, none⟩ = some (.int .i64 num) := by go_simp
  have q0 : (w.alloc (.cells #[.int .i64 1, .int .i64 num, .int .i64 p1, .int .i64 p2, .int .i64 a1, .int .i64 a2, .slice x dn c, .int .i64 kn, .slice y dl cy] 76)).drew.cell? ⟨w.heap.size, 0, none⟩ = some (.int .i64 1) := by go_simp
  have q2 : (w.alloc (.cells #[.int .i64 1, .int .i64 num, .int .i64 p1, .int .i64 p2, .int .i64 a1, .int .i64 a2, .slice x dn c, .int .i64 kn, .slice y dl cy] 76)).drew.cell? ⟨w.heap.size, 2, none⟩ = some (.int .i64 p1) := by go_simp
  have q3 : (w.alloc (.cells #[.int .i64 1, .int .i64 num, .int .i64 p1, .int .i64 p2, .int .i64 a1, .int .i64 a2, .slice x dn c, .int .i64 kn, .slice y dl cy] 76)).drew.cell? ⟨w.heap.size, 3, none⟩ = some (.int .i64 p2) := by go_simp
  have q6 : (w.alloc (.cells #[.int .i64 1, .int .i64 num, .int .i64 p1, .int .i64 p2, .int .i64 a1, .int .i64 a2, .slice x dn c, .int .i64 kn, .slice y dl cy] 76)).drew.cell? ⟨w.heap.size, 6, none⟩ = some (.slice x dn c) := by go_simp
  go_enter Try.func30, Try.ntmps30
  go_wp2_with fail
  refine wp_region_held_drew (S := fun q => q.cell? ⟨w.heap.size, 1, none⟩ = some (.int .i64 num) ∧ q.cell? ⟨g.p, 2, none⟩ = some (.slice x2 dlen cc2)) (by kernel_rfl) ⟨q1, s2⟩ (fun hHeld => ?_)
  generalize (w.alloc (.cells #[.int .i64 1, .int .i64 num, .int .i64 p1, .int .i64 p2, .int .i64 a1, .int .i64 a2, .slice x dn c, .int .i64 kn, .slice y dl cy] 76)).drew = wD at *
  refine By.hk 0 ?_
  refine By.hk 1 ?_
  refine By.hk 2 ?_
  refine By.hk 3 ?_
  refine By.hk 4 ?_
  refine By.hk 5 ?_
  refine By.hk 6 ?_
  refine By.hk 7 ?_
  refine wpAnyH_done (by kernel_rfl) ?_ _
  clear hHeld
  have bE : Below w.heap.size w wD.drew := on bD (Below.refl _ _).drew
  have kE := HH.out.1.below bE
  have hnb : num < 4294967296 := by have := Hn.out; omega
  obtain ⟨v, v1, v2, v3⟩ := kE.acc.lookAll num hnb
  obtain ⟨⟨ua, ub⟩, ⟨uc, ud⟩, vx, vn, vc, ve⟩ := v
  have hav : (ap1 = ua ∧ ap2 = ub) ∧ (aa1 = uc ∧ aa2 = ud) ∧ vd = ve := by
    rw [HH.out.2.1] at v2
    injection v2 with e1 e2 e3
    injection e1 with e1 e4
    injection e2 with e2 e5
    exact ⟨⟨e1, e4⟩, ⟨e2, e5⟩, e3⟩
  obtain ⟨⟨rfl, rfl⟩, ⟨rfl, rfl⟩, rfl⟩ := hav
  have hvl : vd.length = vn := v1.sv.sl.len
  rw [hvl] at hfr
  have hlk := v3 wD.drew rfl
  have hlk2 := fun o => v3 (wD.drew.alloc o) ((al wD.drew o).block g.mb kE.acc.lt)
  have hsl : Fl.Sl wD.drew vx vn vc vd := v1.sv.sl
  dsimp only [av, ac] at hlk hlk2
  have HV : Hid (bwf (ap1, ap2) ∧ bwf (aa1, aa2) ∧ vn ≤ 5000) := ⟨v1.p, v1.a, v1.sv.sm⟩
  clear v1 v2 v3 hvl
  have g0 : wD.drew.cell? ⟨w.heap.size, 0, none⟩ = some (.int .i64 1) := q0
  have g1 : wD.drew.cell? ⟨w.heap.size, 1, none⟩ = some (.int .i64 num) := q1
  have g2 : wD.drew.cell? ⟨w.heap.size, 2, none⟩ = some (.int .i64 p1) := q2
  have g3 : wD.drew.cell? ⟨w.heap.size, 3, none⟩ = some (.int .i64 p2) := q3
  have g6 : wD.drew.cell? ⟨w.heap.size, 6, none⟩ = some (.slice x dn c) := q6
  have t3 : wD.drew.cell? ⟨g.p, 3, none⟩ = some (.map (some g.mb)) := s3
  clear q0 q1 q2 q3 q6 s2 s3 bD
  have HE : Hid (Below w.heap.size w wD.drew ∧ NdAt wD.drew B g st) := ⟨bE, kE⟩
  clear kE
  go_wp2_with fail
  refine wp_region_held_drew (S := fun q => q.cell? ⟨g.p, 3, none⟩ = some (.map (some g.mb)) ∧ q.cell? ⟨w.heap.size, 1, none⟩ = some (.int .i64 num) ∧ (Instr.lookup 60 (.map (some g.mb)) (.int .i64 (num : Int)) false).run Try.prog q = .ok (.agg #[.int .i64 ap1, .int .i64 ap2, .int .i64 aa1, .int .i64 aa2, .slice vx vn vc]) q) (by kernel_rfl) ⟨t3, g1, hlk⟩ (fun hHeld => ?_)
  generalize wD.drew = wE at *
  refine By.hk 0 ?_
  refine By.hk 1 ?_
  refine By.hk 2 ?_
  refine By.hk 3 ?_
  refine By.hk 4 ?_
  refine By.hk 5 ?_
  refine By.hk 6 ?_
  refine wpAnyH_ready (rs := [7]) (by kernel_rfl) (by simp) ?_
  refine AllReadyH.cons rfl (fun K hK => ?_) AllReadyH.nil
  go_simp
  refine hK.out _ _ ⟨keep (al _ _) t3, keep (al _ _) g1, hlk2 _⟩ (fun hHeld => ?_)
  clear hK K
  refine wpAnyH_ready (rs := [8]) (by kernel_rfl) (by simp) ?_
  refine AllReadyH.cons rfl (fun K hK => ?_) AllReadyH.nil
  go_simp
  refine hK.out _ _ ⟨keep (al _ _) t3, keep (al _ _) g1, hlk2 _⟩ (fun hHeld => ?_)
  clear hK K
  refine wpAnyH_done (by kernel_rfl) ?_ _
  have lb : w.heap.size < wE.heap.size := cell_lt' g0
  have lp : g.p < wE.heap.size := cell_lt' t3
  have bF := al wE (.cells #[.int .i64 ap1, .int .i64 ap2, .int .i64 aa1, .int .i64 aa2, .slice vx vn vc] 74)
  have hSl : Fl.Sl (wE.alloc (.cells #[.int .i64 ap1, .int .i64 ap2, .int .i64 aa1, .int .i64 aa2, .slice vx vn vc] 74)) vx vn vc vd := hsl.below bF
  have hK := fun (W : World) (hW : Fl.Sl W vx vn vc vd) => prepare_yes (ap1, ap2) (aa1, aa2) vx vn vc vd (p1, p2) W hW (by have := HV.out.2.2; omega) hfr
  dsimp only [bt, ac, z0] at hK
  have hK1 := hK _ hSl
  clear hK hlk hlk2 hHeld hsl hSl
  go_wp2_with (first
    | (
       go_at_call 48; refine hK1.mono ?_; rintro e w5 ⟨y5, cy5, rfl, H5⟩; clear hK1
       have a0 := keep H5.out.1 (b := wE.heap.size) (o := 0) (x := .int .i64 ap1) (by first | assumption | go_simp)
       have a1 := keep H5.out.1 (b := wE.heap.size) (o := 1) (x := .int .i64 ap2) (by first | assumption | go_simp)
       have a2 := keep H5.out.1 (b := wE.heap.size) (o := 2) (x := .int .i64 aa1) (by first | assumption | go_simp)
       have a3 := keep H5.out.1 (b := wE.heap.size) (o := 3) (x := .int .i64 aa2) (by first | assumption | go_simp)
       have a4 := keep H5.out.1 (b := wE.heap.size) (o := 4) (x := .slice vx vn vc) (by first | assumption | go_simp)
       have f0 := keepf H5.out.1 (b := wE.heap.size) (o := 0) (by first | (simp <;> omega) | exact cell_lt' (a := ⟨wE.heap.size, 0, none⟩) (by assumption) | (simp; exact cell_lt' (a := ⟨wE.heap.size, 0, none⟩) (by assumption))) (by first | assumption | go_simp)
       have f1 := keepf H5.out.1 (b := wE.heap.size) (o := 1) (by first | (simp <;> omega) | exact cell_lt' (a := ⟨wE.heap.size, 1, none⟩) (by assumption) | (simp; exact cell_lt' (a := ⟨wE.heap.size, 1, none⟩) (by assumption))) (by first | assumption | go_simp)
       have f2 := keepf H5.out.1 (b := wE.heap.size) (o := 2) (by first | (simp <;> omega) | exact cell_lt' (a := ⟨wE.heap.size, 2, none⟩) (by assumption) | (simp; exact cell_lt' (a := ⟨wE.heap.size, 2, none⟩) (by assumption))) (by first | assumption | go_simp)
       have f3 := keepf H5.out.1 (b := wE.heap.size) (o := 3) (by first | (simp <;> omega) | exact cell_lt' (a := ⟨wE.heap.size, 3, none⟩) (by assumption) | (simp; exact cell_lt' (a := ⟨wE.heap.size, 3, none⟩) (by assumption))) (by first | assumption | go_simp)
       have f4 := keepf H5.out.1 (b := wE.heap.size) (o := 4) (by first | (simp <;> omega) | exact cell_lt' (a := ⟨wE.heap.size, 4, none⟩) (by assumption) | (simp; exact cell_lt' (a := ⟨wE.heap.size, 4, none⟩) (by assumption))) (by first | assumption | go_simp)
       have u1 := keep (on bF H5.out.1) g1
       have u3 := keep (on bF H5.out.1) t3
       have lA : wE.heap.size < w5.heap.size := cell_lt' a0
       have lb5 : w.heap.size < w5.heap.size := by omega
       have lp5 : g.p < w5.heap.size := by omega
       clear g0 g1 g2 g3 g6 t3))
  have tS : Turns (atB wE.heap.size) w5 (((((w5.setCell ⟨wE.heap.size, 0, none⟩ (.int .i64 p1)).setCell ⟨wE.heap.size, 1, none⟩ (.int .i64 p2)).setCell ⟨wE.heap.size, 2, none⟩ (.int .i64 aa1)).setCell ⟨wE.heap.size, 3, none⟩ (.int .i64 aa2)).setCell ⟨wE.heap.size, 4, none⟩ (.slice y5 vn cy5)).drew := (turns_put (turns_put (turns_put (turns_put (turns_put (Turns.refl _ w5) 0 _) 1 _) 2 _) 3 _) 4 _).drew
  have z1 := keept tS (fun e => by have e' : w.heap.size = wE.heap.size := e; omega) u1
  have z3 := keept tS (fun e => by have e' : g.p = wE.heap.size := e; omega) u3
  have m0 : (((((w5.setCell ⟨wE.heap.size, 0, none⟩ (.int .i64 p1)).setCell ⟨wE.heap.size, 1, none⟩ (.int .i64 p2)).setCell ⟨wE.heap.size, 2, none⟩ (.int .i64 aa1)).setCell ⟨wE.heap.size, 3, none⟩ (.int .i64 aa2)).setCell ⟨wE.heap.size, 4, none⟩ (.slice y5 vn cy5)).drew.cell? ⟨wE.heap.size, 0, none⟩ = some (.int .i64 p1) := by go_simp
  have m1 : (((((w5.setCell ⟨wE.heap.size, 0, none⟩ (.int .i64 p1)).setCell ⟨wE.heap.size, 1, none⟩ (.int .i64 p2)).setCell ⟨wE.heap.size, 2, none⟩ (.int .i64 aa1)).setCell ⟨wE.heap.size, 3, none⟩ (.int .i64 aa2)).setCell ⟨wE.heap.size, 4, none⟩ (.slice y5 vn cy5)).drew.cell? ⟨wE.heap.size, 1, none⟩ = some (.int .i64 p2) := by go_simp
  have m2 : (((((w5.setCell ⟨wE.heap.size, 0, none⟩ (.int .i64 p1)).setCell ⟨wE.heap.size, 1, none⟩ (.int .i64 p2)).setCell ⟨wE.heap.size, 2, none⟩ (.int .i64 aa1)).setCell ⟨wE.heap.size, 3, none⟩ (.int .i64 aa2)).setCell ⟨wE.heap.size, 4, none⟩ (.slice y5 vn cy5)).drew.cell? ⟨wE.heap.size, 2, none⟩ = some (.int .i64 aa1) := by go_simp
  have m3 : (((((w5.setCell ⟨wE.heap.size, 0, none⟩ (.int .i64 p1)).setCell ⟨wE.heap.size, 1, none⟩ (.int .i64 p2)).setCell ⟨wE.heap.size, 2, none⟩ (.int .i64 aa1)).setCell ⟨wE.heap.size, 3, none⟩ (.int .i64 aa2)).setCell ⟨wE.heap.size, 4, none⟩ (.slice y5 vn cy5)).drew.cell? ⟨wE.heap.size, 3, none⟩ = some (.int .i64 aa2) := by go_simp
  have m4 : (((((w5.setCell ⟨wE.heap.size, 0, none⟩ (.int .i64 p1)).setCell ⟨wE.heap.size, 1, none⟩ (.int .i64 p2)).setCell ⟨wE.heap.size, 2, none⟩ (.int .i64 aa1)).setCell ⟨wE.heap.size, 3, none⟩ (.int .i64 aa2)).setCell ⟨wE.heap.size, 4, none⟩ (.slice y5 vn cy5)).drew.cell? ⟨wE.heap.size, 4, none⟩ = some (.slice y5 vn cy5) := by go_simp
  have z0ok : True := trivial
  have bG : Below w.heap.size w w5 := on HE.out.1 (on bF H5.out.1)
  have hAu : ∀ k, atB wE.heap.size k → ¬ Tb w5 k 5 := fun k hk tt => by
    have e' : k = wE.heap.size := hk
    subst e'
    have hb := H5.out.1.block wE.heap.size (by simp)
    rw [heap_alloc_new] at hb
    obtain ⟨cs, zz, ht⟩ := tt
    rw [hb] at ht
    injection ht with ht
    injection ht with _ ht _
    revert ht
    decide
  have k6 : NdAt (((((w5.setCell ⟨wE.heap.size, 0, none⟩ (.int .i64 p1)).setCell ⟨wE.heap.size, 1, none⟩ (.int .i64 p2)).setCell ⟨wE.heap.size, 2, none⟩ (.int .i64 aa1)).setCell ⟨wE.heap.size, 3, none⟩ (.int .i64 aa2)).setCell ⟨wE.heap.size, 4, none⟩ (.slice y5 vn cy5)).drew B g st := (HE.out.2.below (on bF H5.out.1)).turns tS (fun k hk e => by
    have e' : k = wE.heap.size := e
    have := (HE.out.2.u8 k hk).1
    omega) hAu
  have hSv6 : Sv (((((w5.setCell ⟨wE.heap.size, 0, none⟩ (.int .i64 p1)).setCell ⟨wE.heap.size, 1, none⟩ (.int .i64 p2)).setCell ⟨wE.heap.size, 2, none⟩ (.int .i64 aa1)).setCell ⟨wE.heap.size, 3, none⟩ (.int .i64 aa2)).setCell ⟨wE.heap.size, 4, none⟩ (.slice y5 vn cy5)).drew y5 vn cy5 vd := (vl_sv H5.out (by have := HV.out.2.2; omega)).turns tS hAu
  obtain ⟨w7, D7, hput, H7⟩ := k6.acc.put num hnb (by have := HH.out.2.2.2.2.2.2; unfold gnb at this; omega) ⟨(p1, p2), (aa1, aa2), y5, vn, cy5, vd⟩ ⟨hSv6, HH.out.2.2.2.2.2.1, HV.out.2.1⟩
  have hput : (Instr.mapUpdate 60 (.map (some g.mb)) (.int .i64 (num : Int)) (.agg #[.int .i64 p1, .int .i64 p2, .int .i64 aa1, .int .i64 aa2, .slice y5 vn cy5])).run Try.prog (((((w5.setCell ⟨wE.heap.size, 0, none⟩ (.int .i64 p1)).setCell ⟨wE.heap.size, 1, none⟩ (.int .i64 p2)).setCell ⟨wE.heap.size, 2, none⟩ (.int .i64 aa1)).setCell ⟨wE.heap.size, 3, none⟩ (.int .i64 aa2)).setCell ⟨wE.heap.size, 4, none⟩ (.slice y5 vn cy5)).drew = .ok () w7 := hput
  have k7 := k6.setA H7.out.1 H7.out.2
  have hmA : ∀ k, k = w.heap.size ∨ k = wE.heap.size → ¬ atB g.mb k := fun k hk e => by
    have e' : k = g.mb := e
    have h1 := (HH.out.1.u8 g.mb (.inr (.inl rfl))).1
    have h2 := HE.out.1.size
    rcases hk with hk | hk <;> omega
  have n1 := keept H7.out.2 (hmA _ (.inl rfl)) z1
  have n3 : w7.cell? ⟨g.p, 3, none⟩ = some (.map (some g.mb)) := k7.c3
  have o0 := keept H7.out.2 (hmA _ (.inr rfl)) m0
  have o1 := keept H7.out.2 (hmA _ (.inr rfl)) m1
  have o2 := keept H7.out.2 (hmA _ (.inr rfl)) m2
  have o3 := keept H7.out.2 (hmA _ (.inr rfl)) m3
  have o4 := keept H7.out.2 (hmA _ (.inr rfl)) m4
  have hSd := fun (W : World) (bb : Below w7.heap.size w7 W) => send_any (k7.below bb) HH.out.2.2.1 fr ⟨3, num, ⟨(p1, p2), (aa1, aa2), vd⟩, 0, []⟩ y5 none cy5 0 ⟨by show 3 < _; omega, by show num < _; omega, by show 0 < _; omega, HH.out.2.2.2.2.1, HQ.out.2, by
      have q := (hSv6.turns H7.out.2 (mb_not_u8 k6.acc.isM)).sl.below bb
      have q2 := q.len
      show Fl.Sl W y5 (vd : List Nat).length cy5 vd
      rw [q2]
      exact q, by
      have q2 := hSv6.sl.len
      show (vd : List Nat).length ≤ 5000
      rw [q2]
      exact hSv6.sm, .inl rfl, by show 0 ≤ 64; omega, fun d hd => by cases hd⟩
  dsimp only [mv, List.length_nil] at hSd
  have hdl2 : vd.length = vn := hSv6.sl.len
  rw [hdl2] at hSd
  clear hdl2
  have HF : Hid (∀ w9 z9 l9 c9, Vl w7 w9 z9 l9 c9 (encM ⟨3, num, ⟨(p1, p2), (aa1, aa2), vd⟩, 0, []⟩ st.id) → ∃ v9 : MlV, Goes w (w9.alloc (.cells #[.int .i64 fr, .slice z9 l9 c9] 70)) B g { st with acc := upA st.acc num ⟨(p1, p2), (aa1, aa2), vd⟩ } 1 ∧ OwnMl (w9.alloc (.cells #[.int .i64 fr, .slice z9 l9 c9] 70)) w.heap.size (.slice (some ⟨w9.heap.size, 0, none⟩) 1 1) [v9] ∧ v9.dst = fr ∧ Fl.Sl (w9.alloc (.cells #[.int .i64 fr, .slice z9 l9 c9] 70)) v9.x v9.n v9.c (encM ⟨3, num, ⟨(p1, p2), (aa1, aa2), vd⟩, 0, []⟩ st.id) ∧ ∀ a, v9.x = some a → w.heap.size ≤ a.block ∧ Tb (w9.alloc (.cells #[.int .i64 fr, .slice z9 l9 c9] 70)) a.block 5) := fun w9 z9 l9 c9 V9 => by
    have tT : Turns (fp g) w w7 := ((Turns.of_below bG).more (tS.weak (fun k hk => hk)) (fun k hk => .inr (by have e' : k = wE.heap.size := hk; have := HE.out.1.size; omega))).trans (H7.out.2.weak fun k hk => .inr (.inl hk))
    have b9 := al w9 (.cells #[.int .i64 fr, .slice z9 l9 c9] 70)
    have hsz : w.heap.size ≤ w9.heap.size := Nat.le_trans tT.size V9.1.size
    refine ⟨⟨fr, z9, l9, c9⟩, Goes.trans (k1 := 1) (k2 := 0) ?_ tT ?_ (fun k hk => .inl ?_) (Goes.same k7 (on V9.1 b9)), own_ml w9 _ hsz ⟨fr, z9, l9, c9⟩, rfl, V9.2.1.below b9, fun a ha => ⟨Nat.le_trans tT.size (V9.2.2 a ha).1, (V9.2.2 a ha).2.of_heap (b9.block _ (V9.2.2 a ha).2.lt)⟩⟩
    · rfl
    · show gnb { g with nb := g.nb + 1, D := D7 } ≤ gnb g + 1
      unfold gnb
      dsimp only
      omega
    · exact hk
  clear k6 k7 hSv6 H7 hmA hAu tS bG HE H5 z0ok bE bF u1 u3
  go_wp2_with fail
  refine wp_region_held_drew (S := fun q => q.cell? ⟨g.p, 3, none⟩ = some (.map (some g.mb)) ∧ q.cell? ⟨w.heap.size, 1, none⟩ = some (.int .i64 num) ∧ q.cell? ⟨wE.heap.size, 0, none⟩ = some (.int .i64 p1) ∧ q.cell? ⟨wE.heap.size, 1, none⟩ = some (.int .i64 p2) ∧ q.cell? ⟨wE.heap.size, 2, none⟩ = some (.int .i64 aa1) ∧ q.cell? ⟨wE.heap.size, 3, none⟩ = some (.int .i64 aa2) ∧ q.cell? ⟨wE.heap.size, 4, none⟩ = some (.slice y5 vn cy5)) (by kernel_rfl) ⟨z3, z1, m0, m1, m2, m3, m4⟩ (fun hHeld => ?_)
  generalize (((((w5.setCell ⟨wE.heap.size, 0, none⟩ (.int .i64 p1)).setCell ⟨wE.heap.size, 1, none⟩ (.int .i64 p2)).setCell ⟨wE.heap.size, 2, none⟩ (.int .i64 aa1)).setCell ⟨wE.heap.size, 3, none⟩ (.int .i64 aa2)).setCell ⟨wE.heap.size, 4, none⟩ (.slice y5 vn cy5)).drew = wF at *
  refine By.hk 0 ?_
  refine By.hk 1 ?_
  refine By.hk 2 ?_
  refine By.hk 3 ?_
  refine By.hk 4 ?_
  refine By.hk 5 ?_
  refine By.hk 6 ?_
  refine wpAnyH_ready (rs := [7]) (by kernel_rfl) (by simp) ?_
  refine AllReadyH.cons rfl (fun K hK => ?_) AllReadyH.nil
  refine st_mapupdate rfl _ _ _ 60 rfl _ _ _ rfl rfl rfl hput ?_
  (try simp only [Act.put, List.getElem_toArray, List.getElem_cons_succ, List.getElem_cons_zero, List.setIfInBounds_toArray, List.set_cons_zero, List.set_cons_succ])
  refine hK.out _ _ ⟨n3, n1, o0, o1, o2, o3, o4⟩ (fun hHeld => ?_)
  clear hK K
  refine wpAnyH_done (by kernel_rfl) ?_ _
  clear hHeld z1 z3 m0 m1 m2 m3 m4 hput
  go_wp2_with (first
    | (
       go_at_call 50; refine (hSd _ (Below.refl _ _)).mono ?_; rintro e w9 ⟨z9, l9, c9, rfl, H9⟩; clear hSd))
  go_ret
  exact ⟨_, _, _, rfl, HF.out _ _ _ _ H9.out.2⟩

set_option maxHeartbeats 4800000 in
theorem ans_1_no (h : NdAt w B g st) (num : Nat) (hnl : st.dec.length < num) (ap1 ap2 aa1 aa2 : Int) (vd : List Nat) (hst : st.acc num = ⟨(ap1, ap2), (aa1, aa2), vd⟩) (hq : BOk (ap1, ap2)) (hb : BOk (aa1, aa2)) (hi : st.id < 7) (fr : Int) (kn dn c dl cy : Nat) (p1 p2 a1 a2 : Int) (x y : Option Addr) (dd : List Nat) (hn2 : num ≤ 2147483647) (hsv : Sv w x dn c dd) (hp : BOk (p1, p2)) (hwf : bwf (p1, p2)) (hfr : freeb (ap1, ap2) (aa1, aa2) vd.length (p1, p2) = false) (hgn : gnb g < 1000000000000000) :
    Calls Try.prog 30 #[.pointer (some ⟨g.p, 0, none⟩), .int .i64 fr, .agg #[.int .i64 1, .int .i64 num, .int .i64 p1, .int .i64 p2, .int .i64 a1, .int .i64 a2, .slice x dn c, .int .i64 kn, .slice y dl cy]] w fun e w' => ∃ z n cz, e = .returned (.slice z n cz) ∧ Hid (∃ v9 : MlV, Goes w w' B g { st with acc := upA st.acc num ⟨(ap1, ap2), (aa1, aa2), vd⟩ } 1 ∧ OwnMl w' w.heap.size (.slice z n cz) [v9] ∧ v9.dst = fr ∧ Fl.Sl w' v9.x v9.n v9.c (encM ⟨3, num, ⟨(ap1, ap2), (aa1, aa2), vd⟩, 0, []⟩ st.id) ∧ ∀ a, v9.x = some a → w.heap.size ≤ a.block ∧ Tb w' a.block 5) := by
  have bD : Below w.heap.size w (w.alloc (.cells #[.int .i64 1, .int .i64 num, .int .i64 p1, .int .i64 p2, .int .i64 a1, .int .i64 a2, .slice x dn c, .int .i64 kn, .slice y dl cy] 76)).drew := on (al _ _) (Below.refl _ _).drew
  have hpl := h.obj.lt
  have c2 := h.c2
  obtain ⟨x2, cc2, e2, _⟩ := h.rd
  rw [e2] at c2
  have s2 := keep bD c2
  have s3 := keep bD h.c3
  have HH : Hid (NdAt w B g st ∧ st.acc num = ⟨(ap1, ap2), (aa1, aa2), vd⟩ ∧ st.id < 7 ∧ Sv w x dn c dd ∧ BOk (p1, p2) ∧ bwf (p1, p2) ∧ gnb g < 1000000000000000) := ⟨h, hst, hi, hsv, hp, hwf, hgn⟩
  have i1 : ¬ (num : Int) ≤ (st.dec.length : Int) := by omega
  have HQ : Hid (BOk (ap1, ap2) ∧ BOk (aa1, aa2)) := ⟨hq, hb⟩
  obtain ⟨dlen, hdlen⟩ : ∃ k, st.dec.length = k := ⟨_, rfl⟩
  rw [hdlen] at i1 s2
  have hdl8 : (dlen : Int) ≤ 80000 := by have := h.dl; omega
  clear hdlen
  have Hn : Hid (num ≤ 2147483647) := hn2
  clear h hst hi hsv hp hwf hgn e2 c2 hn2 hq hb hnl
  have q1 : (w.alloc (.cells #[.int .i64 1, .int .i64 num, .int .i64 p1, .int .i64 p2, .int .i64 a1, .int .i64 a2, .slice x dn c, .int .i64 kn, .slice y dl cy] 76)).drew.cell? ⟨w.heap.size, 1, none⟩ = some (.int .i64 num) := by go_simp
  have q0 : (w.alloc (.cells #[.int .i64 1, .int .i64 num, .int .i64 p1, .int .i64 p2, .int .i64 a1, .int .i64 a2, .slice x dn c, .int .i64 kn, .slice y dl cy] 76)).drew.cell? ⟨w.heap.size, 0, none⟩ = some (.int .i64 1) := by go_simp
  have q2 : (w.alloc (.cells #[.int .i64 1, .int .i64 num, .int .i64 p1, .int .i64 p2, .int .i64 a1, .int .i64 a2, .slice x dn c, .int .i64 kn, .slice y dl cy] 76)).drew.cell? ⟨w.heap.size, 2, none⟩ = some (.int .i64 p1) := by go_simp
  have q3 : (w.alloc (.cells #[.int .i64 1, .int .i64 num, .int .i64 p1, .int .i64 p2, .int .i64 a1, .int .i64 a2, .slice x dn c, .int .i64 kn, .slice y dl cy] 76)).drew.cell? ⟨w.heap.size, 3, none⟩ = some (.int .i64 p2) := by go_simp
  have q6 : (w.alloc (.cells #[.int .i64 1, .int .i64 num, .int .i64 p1, .int .i64 p2, .int .i64 a1, .int .i64 a2, .slice x dn c, .int .i64 kn, .slice y dl cy] 76)).drew.cell? ⟨w.heap.size, 6, none⟩ = some (.slice x dn c) := by go_simp
  go_enter Try.func30, Try.ntmps30
  go_wp2_with fail
  refine wp_region_held_drew (S := fun q => q.cell? ⟨w.heap.size, 1, none⟩ = some (.int .i64 num) ∧ q.cell? ⟨g.p, 2, none⟩ = some (.slice x2 dlen cc2)) (by kernel_rfl) ⟨q1, s2⟩ (fun hHeld => ?_)
  generalize (w.alloc (.cells #[.int .i64 1, .int .i64 num, .int .i64 p1, .int .i64 p2, .int .i64 a1, .int .i64 a2, .slice x dn c, .int .i64 kn, .slice y dl cy] 76)).drew = wD at *
  refine By.hk 0 ?_
  refine By.hk 1 ?_
  refine By.hk 2 ?_
  refine By.hk 3 ?_
  refine By.hk 4 ?_
  refine By.hk 5 ?_
  refine By.hk 6 ?_
  refine By.hk 7 ?_
  refine wpAnyH_done (by kernel_rfl) ?_ _
  clear hHeld
  have bE : Below w.heap.size w wD.drew := on bD (Below.refl _ _).drew
  have kE := HH.out.1.below bE
  have hnb : num < 4294967296 := by have := Hn.out; omega
  obtain ⟨v, v1, v2, v3⟩ := kE.acc.lookAll num hnb
  obtain ⟨⟨ua, ub⟩, ⟨uc, ud⟩, vx, vn, vc, ve⟩ := v
  have hav : (ap1 = ua ∧ ap2 = ub) ∧ (aa1 = uc ∧ aa2 = ud) ∧ vd = ve := by
    rw [HH.out.2.1] at v2
    injection v2 with e1 e2 e3
    injection e1 with e1 e4
    injection e2 with e2 e5
    exact ⟨⟨e1, e4⟩, ⟨e2, e5⟩, e3⟩
  obtain ⟨⟨rfl, rfl⟩, ⟨rfl, rfl⟩, rfl⟩ := hav
  have hvl : vd.length = vn := v1.sv.sl.len
  rw [hvl] at hfr
  have hlk := v3 wD.drew rfl
  have hlk2 := fun o => v3 (wD.drew.alloc o) ((al wD.drew o).block g.mb kE.acc.lt)
  have hsl : Fl.Sl wD.drew vx vn vc vd := v1.sv.sl
  dsimp only [av, ac] at hlk hlk2
  have HV : Hid (bwf (ap1, ap2) ∧ bwf (aa1, aa2) ∧ vn ≤ 5000) := ⟨v1.p, v1.a, v1.sv.sm⟩
  clear v1 v2 v3 hvl
  have g0 : wD.drew.cell? ⟨w.heap.size, 0, none⟩ = some (.int .i64 1) := q0
  have g1 : wD.drew.cell? ⟨w.heap.size, 1, none⟩ = some (.int .i64 num) := q1
  have g2 : wD.drew.cell? ⟨w.heap.size, 2, none⟩ = some (.int .i64 p1) := q2
  have g3 : wD.drew.cell? ⟨w.heap.size, 3, none⟩ = some (.int .i64 p2) := q3
  have g6 : wD.drew.cell? ⟨w.heap.size, 6, none⟩ = some (.slice x dn c) := q6
  have t3 : wD.drew.cell? ⟨g.p, 3, none⟩ = some (.map (some g.mb)) := s3
  clear q0 q1 q2 q3 q6 s2 s3 bD
  have HE : Hid (Below w.heap.size w wD.drew ∧ NdAt wD.drew B g st) := ⟨bE, kE⟩
  clear kE
  go_wp2_with fail
  refine wp_region_held_drew (S := fun q => q.cell? ⟨g.p, 3, none⟩ = some (.map (some g.mb)) ∧ q.cell? ⟨w.heap.size, 1, none⟩ = some (.int .i64 num) ∧ (Instr.lookup 60 (.map (some g.mb)) (.int .i64 (num : Int)) false).run Try.prog q = .ok (.agg #[.int .i64 ap1, .int .i64 ap2, .int .i64 aa1, .int .i64 aa2, .slice vx vn vc]) q) (by kernel_rfl) ⟨t3, g1, hlk⟩ (fun hHeld => ?_)
  generalize wD.drew = wE at *
  refine By.hk 0 ?_
  refine By.hk 1 ?_
  refine By.hk 2 ?_
  refine By.hk 3 ?_
  refine By.hk 4 ?_
  refine By.hk 5 ?_
  refine By.hk 6 ?_
  refine wpAnyH_ready (rs := [7]) (by kernel_rfl) (by simp) ?_
  refine AllReadyH.cons rfl (fun K hK => ?_) AllReadyH.nil
  go_simp
  refine hK.out _ _ ⟨keep (al _ _) t3, keep (al _ _) g1, hlk2 _⟩ (fun hHeld => ?_)
  clear hK K
  refine wpAnyH_ready (rs := [8]) (by kernel_rfl) (by simp) ?_
  refine AllReadyH.cons rfl (fun K hK => ?_) AllReadyH.nil
  go_simp
  refine hK.out _ _ ⟨keep (al _ _) t3, keep (al _ _) g1, hlk2 _⟩ (fun hHeld => ?_)
  clear hK K
  refine wpAnyH_done (by kernel_rfl) ?_ _
  have lb : w.heap.size < wE.heap.size := cell_lt' g0
  have lp : g.p < wE.heap.size := cell_lt' t3
  have bF := al wE (.cells #[.int .i64 ap1, .int .i64 ap2, .int .i64 aa1, .int .i64 aa2, .slice vx vn vc] 74)
  have hSl : Fl.Sl (wE.alloc (.cells #[.int .i64 ap1, .int .i64 ap2, .int .i64 aa1, .int .i64 aa2, .slice vx vn vc] 74)) vx vn vc vd := hsl.below bF
  have hK := fun (W : World) (hW : Fl.Sl W vx vn vc vd) => prepare_no (ap1, ap2) (aa1, aa2) vx vn vc vd (p1, p2) W hW (by have := HV.out.2.2; omega) hfr
  dsimp only [bt, ac, z0] at hK
  have hK1 := hK _ hSl
  clear hK hlk hlk2 hHeld hsl hSl
  go_wp2_with (first
    | (
       go_at_call 48; refine hK1.mono ?_; rintro e w5 ⟨y5, cy5, rfl, H5⟩; clear hK1
       have a0 := keep H5.out.1 (b := wE.heap.size) (o := 0) (x := .int .i64 ap1) (by first | assumption | go_simp)
       have a1 := keep H5.out.1 (b := wE.heap.size) (o := 1) (x := .int .i64 ap2) (by first | assumption | go_simp)
       have a2 := keep H5.out.1 (b := wE.heap.size) (o := 2) (x := .int .i64 aa1) (by first | assumption | go_simp)
       have a3 := keep H5.out.1 (b := wE.heap.size) (o := 3) (x := .int .i64 aa2) (by first | assumption | go_simp)
       have a4 := keep H5.out.1 (b := wE.heap.size) (o := 4) (x := .slice vx vn vc) (by first | assumption | go_simp)
       have f0 := keepf H5.out.1 (b := wE.heap.size) (o := 0) (by first | (simp <;> omega) | exact cell_lt' (a := ⟨wE.heap.size, 0, none⟩) (by assumption) | (simp; exact cell_lt' (a := ⟨wE.heap.size, 0, none⟩) (by assumption))) (by first | assumption | go_simp)
       have f1 := keepf H5.out.1 (b := wE.heap.size) (o := 1) (by first | (simp <;> omega) | exact cell_lt' (a := ⟨wE.heap.size, 1, none⟩) (by assumption) | (simp; exact cell_lt' (a := ⟨wE.heap.size, 1, none⟩) (by assumption))) (by first | assumption | go_simp)
       have f2 := keepf H5.out.1 (b := wE.heap.size) (o := 2) (by first | (simp <;> omega) | exact cell_lt' (a := ⟨wE.heap.size, 2, none⟩) (by assumption) | (simp; exact cell_lt' (a := ⟨wE.heap.size, 2, none⟩) (by assumption))) (by first | assumption | go_simp)
       have f3 := keepf H5.out.1 (b := wE.heap.size) (o := 3) (by first | (simp <;> omega) | exact cell_lt' (a := ⟨wE.heap.size, 3, none⟩) (by assumption) | (simp; exact cell_lt' (a := ⟨wE.heap.size, 3, none⟩) (by assumption))) (by first | assumption | go_simp)
       have f4 := keepf H5.out.1 (b := wE.heap.size) (o := 4) (by first | (simp <;> omega) | exact cell_lt' (a := ⟨wE.heap.size, 4, none⟩) (by assumption) | (simp; exact cell_lt' (a := ⟨wE.heap.size, 4, none⟩) (by assumption))) (by first | assumption | go_simp)
       have u1 := keep (on bF H5.out.1) g1
       have u3 := keep (on bF H5.out.1) t3
       have lA : wE.heap.size < w5.heap.size := cell_lt' a0
       have lb5 : w.heap.size < w5.heap.size := by omega
       have lp5 : g.p < w5.heap.size := by omega
       clear g0 g1 g2 g3 g6 t3))
  have tS : Turns (atB wE.heap.size) w5 (((((w5.setCell ⟨wE.heap.size, 0, none⟩ (.int .i64 ap1)).setCell ⟨wE.heap.size, 1, none⟩ (.int .i64 ap2)).setCell ⟨wE.heap.size, 2, none⟩ (.int .i64 aa1)).setCell ⟨wE.heap.size, 3, none⟩ (.int .i64 aa2)).setCell ⟨wE.heap.size, 4, none⟩ (.slice y5 vn cy5)).drew := (turns_put (turns_put (turns_put (turns_put (turns_put (Turns.refl _ w5) 0 _) 1 _) 2 _) 3 _) 4 _).drew
  have z1 := keept tS (fun e => by have e' : w.heap.size = wE.heap.size := e; omega) u1
  have z3 := keept tS (fun e => by have e' : g.p = wE.heap.size := e; omega) u3
  have m0 : (((((w5.setCell ⟨wE.heap.size, 0, none⟩ (.int .i64 ap1)).setCell ⟨wE.heap.size, 1, none⟩ (.int .i64 ap2)).setCell ⟨wE.heap.size, 2, none⟩ (.int .i64 aa1)).setCell ⟨wE.heap.size, 3, none⟩ (.int .i64 aa2)).setCell ⟨wE.heap.size, 4, none⟩ (.slice y5 vn cy5)).drew.cell? ⟨wE.heap.size, 0, none⟩ = some (.int .i64 ap1) := by go_simp
  have m1 : (((((w5.setCell ⟨wE.heap.size, 0, none⟩ (.int .i64 ap1)).setCell ⟨wE.heap.size, 1, none⟩ (.int .i64 ap2)).setCell ⟨wE.heap.size, 2, none⟩ (.int .i64 aa1)).setCell ⟨wE.heap.size, 3, none⟩ (.int .i64 aa2)).setCell ⟨wE.heap.size, 4, none⟩ (.slice y5 vn cy5)).drew.cell? ⟨wE.heap.size, 1, none⟩ = some (.int .i64 ap2) := by go_simp
  have m2 : (((((w5.setCell ⟨wE.heap.size, 0, none⟩ (.int .i64 ap1)).setCell ⟨wE.heap.size, 1, none⟩ (.int .i64 ap2)).setCell ⟨wE.heap.size, 2, none⟩ (.int .i64 aa1)).setCell ⟨wE.heap.size, 3, none⟩ (.int .i64 aa2)).setCell ⟨wE.heap.size, 4, none⟩ (.slice y5 vn cy5)).drew.cell? ⟨wE.heap.size, 2, none⟩ = some (.int .i64 aa1) := by go_simp
  have m3 : (((((w5.setCell ⟨wE.heap.size, 0, none⟩ (.int .i64 ap1)).setCell ⟨wE.heap.size, 1, none⟩ (.int .i64 ap2)).setCell ⟨wE.heap.size, 2, none⟩ (.int .i64 aa1)).setCell ⟨wE.heap.size, 3, none⟩ (.int .i64 aa2)).setCell ⟨wE.heap.size, 4, none⟩ (.slice y5 vn cy5)).drew.cell? ⟨wE.heap.size, 3, none⟩ = some (.int .i64 aa2) := by go_simp
  have m4 : (((((w5.setCell ⟨wE.heap.size, 0, none⟩ (.int .i64 ap1)).setCell ⟨wE.heap.size, 1, none⟩ (.int .i64 ap2)).setCell ⟨wE.heap.size, 2, none⟩ (.int .i64 aa1)).setCell ⟨wE.heap.size, 3, none⟩ (.int .i64 aa2)).setCell ⟨wE.heap.size, 4, none⟩ (.slice y5 vn cy5)).drew.cell? ⟨wE.heap.size, 4, none⟩ = some (.slice y5 vn cy5) := by go_simp
  have z0ok : True := trivial
  have bG : Below w.heap.size w w5 := on HE.out.1 (on bF H5.out.1)
  have hAu : ∀ k, atB wE.heap.size k → ¬ Tb w5 k 5 := fun k hk tt => by
    have e' : k = wE.heap.size := hk
    subst e'
    have hb := H5.out.1.block wE.heap.size (by simp)
    rw [heap_alloc_new] at hb
    obtain ⟨cs, zz, ht⟩ := tt
    rw [hb] at ht
    injection ht with ht
    injection ht with _ ht _
    revert ht
    decide
  have k6 : NdAt (((((w5.setCell ⟨wE.heap.size, 0, none⟩ (.int .i64 ap1)).setCell ⟨wE.heap.size, 1, none⟩ (.int .i64 ap2)).setCell ⟨wE.heap.size, 2, none⟩ (.int .i64 aa1)).setCell ⟨wE.heap.size, 3, none⟩ (.int .i64 aa2)).setCell ⟨wE.heap.size, 4, none⟩ (.slice y5 vn cy5)).drew B g st := (HE.out.2.below (on bF H5.out.1)).turns tS (fun k hk e => by
    have e' : k = wE.heap.size := e
    have := (HE.out.2.u8 k hk).1
    omega) hAu
  have hSv6 : Sv (((((w5.setCell ⟨wE.heap.size, 0, none⟩ (.int .i64 ap1)).setCell ⟨wE.heap.size, 1, none⟩ (.int .i64 ap2)).setCell ⟨wE.heap.size, 2, none⟩ (.int .i64 aa1)).setCell ⟨wE.heap.size, 3, none⟩ (.int .i64 aa2)).setCell ⟨wE.heap.size, 4, none⟩ (.slice y5 vn cy5)).drew y5 vn cy5 vd := (vl_sv H5.out (by have := HV.out.2.2; omega)).turns tS hAu
  obtain ⟨w7, D7, hput, H7⟩ := k6.acc.put num hnb (by have := HH.out.2.2.2.2.2.2; unfold gnb at this; omega) ⟨(ap1, ap2), (aa1, aa2), y5, vn, cy5, vd⟩ ⟨hSv6, HV.out.1, HV.out.2.1⟩
  have hput : (Instr.mapUpdate 60 (.map (some g.mb)) (.int .i64 (num : Int)) (.agg #[.int .i64 ap1, .int .i64 ap2, .int .i64 aa1, .int .i64 aa2, .slice y5 vn cy5])).run Try.prog (((((w5.setCell ⟨wE.heap.size, 0, none⟩ (.int .i64 ap1)).setCell ⟨wE.heap.size, 1, none⟩ (.int .i64 ap2)).setCell ⟨wE.heap.size, 2, none⟩ (.int .i64 aa1)).setCell ⟨wE.heap.size, 3, none⟩ (.int .i64 aa2)).setCell ⟨wE.heap.size, 4, none⟩ (.slice y5 vn cy5)).drew = .ok () w7 := hput
  have k7 := k6.setA H7.out.1 H7.out.2
  have hmA : ∀ k, k = w.heap.size ∨ k = wE.heap.size → ¬ atB g.mb k := fun k hk e => by
    have e' : k = g.mb := e
    have h1 := (HH.out.1.u8 g.mb (.inr (.inl rfl))).1
    have h2 := HE.out.1.size
    rcases hk with hk | hk <;> omega
  have n1 := keept H7.out.2 (hmA _ (.inl rfl)) z1
  have n3 : w7.cell? ⟨g.p, 3, none⟩ = some (.map (some g.mb)) := k7.c3
  have o0 := keept H7.out.2 (hmA _ (.inr rfl)) m0
  have o1 := keept H7.out.2 (hmA _ (.inr rfl)) m1
  have o2 := keept H7.out.2 (hmA _ (.inr rfl)) m2
  have o3 := keept H7.out.2 (hmA _ (.inr rfl)) m3
  have o4 := keept H7.out.2 (hmA _ (.inr rfl)) m4
  have hSd := fun (W : World) (bb : Below w7.heap.size w7 W) => send_any (k7.below bb) HH.out.2.2.1 fr ⟨3, num, ⟨(ap1, ap2), (aa1, aa2), vd⟩, 0, []⟩ y5 none cy5 0 ⟨by show 3 < _; omega, by show num < _; omega, by show 0 < _; omega, HQ.out.1, HQ.out.2, by
      have q := (hSv6.turns H7.out.2 (mb_not_u8 k6.acc.isM)).sl.below bb
      have q2 := q.len
      show Fl.Sl W y5 (vd : List Nat).length cy5 vd
      rw [q2]
      exact q, by
      have q2 := hSv6.sl.len
      show (vd : List Nat).length ≤ 5000
      rw [q2]
      exact hSv6.sm, .inl rfl, by show 0 ≤ 64; omega, fun d hd => by cases hd⟩
  dsimp only [mv, List.length_nil] at hSd
  have hdl2 : vd.length = vn := hSv6.sl.len
  rw [hdl2] at hSd
  clear hdl2
  have HF : Hid (∀ w9 z9 l9 c9, Vl w7 w9 z9 l9 c9 (encM ⟨3, num, ⟨(ap1, ap2), (aa1, aa2), vd⟩, 0, []⟩ st.id) → ∃ v9 : MlV, Goes w (w9.alloc (.cells #[.int .i64 fr, .slice z9 l9 c9] 70)) B g { st with acc := upA st.acc num ⟨(ap1, ap2), (aa1, aa2), vd⟩ } 1 ∧ OwnMl (w9.alloc (.cells #[.int .i64 fr, .slice z9 l9 c9] 70)) w.heap.size (.slice (some ⟨w9.heap.size, 0, none⟩) 1 1) [v9] ∧ v9.dst = fr ∧ Fl.Sl (w9.alloc (.cells #[.int .i64 fr, .slice z9 l9 c9] 70)) v9.x v9.n v9.c (encM ⟨3, num, ⟨(ap1, ap2), (aa1, aa2), vd⟩, 0, []⟩ st.id) ∧ ∀ a, v9.x = some a → w.heap.size ≤ a.block ∧ Tb (w9.alloc (.cells #[.int .i64 fr, .slice z9 l9 c9] 70)) a.block 5) := fun w9 z9 l9 c9 V9 => by
    have tT : Turns (fp g) w w7 := ((Turns.of_below bG).more (tS.weak (fun k hk => hk)) (fun k hk => .inr (by have e' : k = wE.heap.size := hk; have := HE.out.1.size; omega))).trans (H7.out.2.weak fun k hk => .inr (.inl hk))
    have b9 := al w9 (.cells #[.int .i64 fr, .slice z9 l9 c9] 70)
    have hsz : w.heap.size ≤ w9.heap.size := Nat.le_trans tT.size V9.1.size
    refine ⟨⟨fr, z9, l9, c9⟩, Goes.trans (k1 := 1) (k2 := 0) ?_ tT ?_ (fun k hk => .inl ?_) (Goes.same k7 (on V9.1 b9)), own_ml w9 _ hsz ⟨fr, z9, l9, c9⟩, rfl, V9.2.1.below b9, fun a ha => ⟨Nat.le_trans tT.size (V9.2.2 a ha).1, (V9.2.2 a ha).2.of_heap (b9.block _ (V9.2.2 a ha).2.lt)⟩⟩
    · rfl
    · show gnb { g with nb := g.nb + 1, D := D7 } ≤ gnb g + 1
      unfold gnb
      dsimp only
      omega
    · exact hk
  clear k6 k7 hSv6 H7 hmA hAu tS bG HE H5 z0ok bE bF u1 u3
  go_wp2_with fail
  refine wp_region_held_drew (S := fun q => q.cell? ⟨g.p, 3, none⟩ = some (.map (some g.mb)) ∧ q.cell? ⟨w.heap.size, 1, none⟩ = some (.int .i64 num) ∧ q.cell? ⟨wE.heap.size, 0, none⟩ = some (.int .i64 ap1) ∧ q.cell? ⟨wE.heap.size, 1, none⟩ = some (.int .i64 ap2) ∧ q.cell? ⟨wE.heap.size, 2, none⟩ = some (.int .i64 aa1) ∧ q.cell? ⟨wE.heap.size, 3, none⟩ = some (.int .i64 aa2) ∧ q.cell? ⟨wE.heap.size, 4, none⟩ = some (.slice y5 vn cy5)) (by kernel_rfl) ⟨z3, z1, m0, m1, m2, m3, m4⟩ (fun hHeld => ?_)
  generalize (((((w5.setCell ⟨wE.heap.size, 0, none⟩ (.int .i64 ap1)).setCell ⟨wE.heap.size, 1, none⟩ (.int .i64 ap2)).setCell ⟨wE.heap.size, 2, none⟩ (.int .i64 aa1)).setCell ⟨wE.heap.size, 3, none⟩ (.int .i64 aa2)).setCell ⟨wE.heap.size, 4, none⟩ (.slice y5 vn cy5)).drew = wF at *
  refine By.hk 0 ?_
  refine By.hk 1 ?_
  refine By.hk 2 ?_
  refine By.hk 3 ?_
  refine By.hk 4 ?_
  refine By.hk 5 ?_
  refine By.hk 6 ?_
  refine wpAnyH_ready (rs := [7]) (by kernel_rfl) (by simp) ?_
  refine AllReadyH.cons rfl (fun K hK => ?_) AllReadyH.nil
  refine st_mapupdate rfl _ _ _ 60 rfl _ _ _ rfl rfl rfl hput ?_
  (try simp only [Act.put, List.getElem_toArray, List.getElem_cons_succ, List.getElem_cons_zero, List.setIfInBounds_toArray, List.set_cons_zero, List.set_cons_succ])
  refine hK.out _ _ ⟨n3, n1, o0, o1, o2, o3, o4⟩ (fun hHeld => ?_)
  clear hK K
  refine wpAnyH_done (by kernel_rfl) ?_ _
  clear hHeld z1 z3 m0 m1 m2 m3 m4 hput
  go_wp2_with (first
    | (
       go_at_call 50; refine (hSd _ (Below.refl _ _)).mono ?_; rintro e w9 ⟨z9, l9, c9, rfl, H9⟩; clear hSd))
  go_ret
  exact ⟨_, _, _, rfl, HF.out _ _ _ _ H9.out.2⟩

set_option maxHeartbeats 4800000 in
theorem ans_2_yes (h : NdAt w B g st) (num : Nat) (hnl : st.dec.length < num) (ap1 ap2 aa1 aa2 : Int) (vd : List Nat) (hst : st.acc num = ⟨(ap1, ap2), (aa1, aa2), vd⟩) (hq : BOk (ap1, ap2)) (hb : BOk (aa1, aa2)) (hi : st.id < 7) (fr : Int) (kn dn c dl cy : Nat) (p1 p2 a1 a2 : Int) (x y : Option Addr) (dd : List Nat) (hn2 : num ≤ 2147483647) (hsv : Sv w x dn c dd) (hp : BOk (p1, p2)) (hwf : bwf (p1, p2)) (hfr : freeb (ap1, ap2) (aa1, aa2) vd.length (p1, p2) = true) (hgn : gnb g < 1000000000000000) :
    Calls Try.prog 30 #[.pointer (some ⟨g.p, 0, none⟩), .int .i64 fr, .agg #[.int .i64 2, .int .i64 num, .int .i64 p1, .int .i64 p2, .int .i64 a1, .int .i64 a2, .slice x dn c, .int .i64 kn, .slice y dl cy]] w fun e w' => ∃ z n cz, e = .returned (.slice z n cz) ∧ Hid (∃ v9 : MlV, Goes w w' B g { st with acc := upA st.acc num ⟨(p1, p2), (p1, p2), dd⟩ } 1 ∧ OwnMl w' w.heap.size (.slice z n cz) [v9] ∧ v9.dst = fr ∧ Fl.Sl w' v9.x v9.n v9.c (encM ⟨3, num, ⟨(p1, p2), (p1, p2), dd⟩, 0, []⟩ st.id) ∧ ∀ a, v9.x = some a → w.heap.size ≤ a.block ∧ Tb w' a.block 5) := by
  have bD : Below w.heap.size w (w.alloc (.cells #[.int .i64 2, .int .i64 num, .int .i64 p1, .int .i64 p2, .int .i64 a1, .int .i64 a2, .slice x dn c, .int .i64 kn, .slice y dl cy] 76)).drew := on (al _ _) (Below.refl _ _).drew
  have hpl := h.obj.lt
  have c2 := h.c2
  obtain ⟨x2, cc2, e2, _⟩ := h.rd
  rw [e2] at c2
  have s2 := keep bD c2
  have s3 := keep bD h.c3
  have HH : Hid (NdAt w B g st ∧ st.acc num = ⟨(ap1, ap2), (aa1, aa2), vd⟩ ∧ st.id < 7 ∧ Sv w x dn c dd ∧ BOk (p1, p2) ∧ bwf (p1, p2) ∧ gnb g < 1000000000000000) := ⟨h, hst, hi, hsv, hp, hwf, hgn⟩
  have i1 : ¬ (num : Int) ≤ (st.dec.length : Int) := by omega
  have HQ : Hid (BOk (ap1, ap2) ∧ BOk (aa1, aa2)) := ⟨hq, hb⟩
  obtain ⟨dlen, hdlen⟩ : ∃ k, st.dec.length = k := ⟨_, rfl⟩
  rw [hdlen] at i1 s2
  have hdl8 : (dlen : Int) ≤ 80000 := by have := h.dl; omega
  clear hdlen
  have Hn : Hid (num ≤ 2147483647) := hn2
  clear h hst hi hsv hp hwf hgn e2 c2 hn2 hq hb hnl
  have q1 : (w.alloc (.cells #[.int .i64 2, .int .i64 num, .int .i64 p1, .int .i64 p2, .int .i64 a1, .int .i64 a2, .slice x dn c, .int .i64 kn, .slice y dl cy] 76)).drew.cell? ⟨w.heap.size, 1, none⟩ = some (.int .i64 num) := by go_simp
  have q0 : (w.alloc (.cells #[.int .i64 2, .int .i64 num, .int .i64 p1, .int .i64 p2, .int .i64 a1, .int .i64 a2, .slice x dn c, .int .i64 kn, .slice y dl cy] 76)).drew.cell? ⟨w.heap.size, 0, none⟩ = some (.int .i64 2) := by go_simp
  have q2 : (w.alloc (.cells #[.int .i64 2, .int .i64 num, .int .i64 p1, .int .i64 p2, .int .i64 a1, .int .i64 a2, .slice x dn c, .int .i64 kn, .slice y dl cy] 76)).drew.cell? ⟨w.heap.size, 2, none⟩ = some (.int .i64 p1) := by go_simp
  have q3 : (w.alloc (.cells #[.int .i64 2, .int .i64 num, .int .i64 p1, .int .i64 p2, .int .i64 a1, .int .i64 a2, .slice x dn c, .int .i64 kn, .slice y dl cy] 76)).drew.cell? ⟨w.heap.size, 3, none⟩ = some (.int .i64 p2) := by go_simp
  have q6 : (w.alloc (.cells #[.int .i64 2, .int .i64 num, .int .i64 p1, .int .i64 p2, .int .i64 a1, .int .i64 a2, .slice x dn c, .int .i64 kn, .slice y dl cy] 76)).drew.cell? ⟨w.heap.size, 6, none⟩ = some (.slice x dn c) := by go_simp
  go_enter Try.func30, Try.ntmps30
  go_wp2_with fail
  refine wp_region_held_drew (S := fun q => q.cell? ⟨w.heap.size, 1, none⟩ = some (.int .i64 num) ∧ q.cell? ⟨g.p, 2, none⟩ = some (.slice x2 dlen cc2)) (by kernel_rfl) ⟨q1, s2⟩ (fun hHeld => ?_)
  generalize (w.alloc (.cells #[.int .i64 2, .int .i64 num, .int .i64 p1, .int .i64 p2, .int .i64 a1, .int .i64 a2, .slice x dn c, .int .i64 kn, .slice y dl cy] 76)).drew = wD at *
  refine By.hk 0 ?_
  refine By.hk 1 ?_
  refine By.hk 2 ?_
  refine By.hk 3 ?_
  refine By.hk 4 ?_
  refine By.hk 5 ?_
  refine By.hk 6 ?_
  refine By.hk 7 ?_
  refine wpAnyH_done (by kernel_rfl) ?_ _
  clear hHeld
  have bE : Below w.heap.size w wD.drew := on bD (Below.refl _ _).drew
  have kE := HH.out.1.below bE
  have hnb : num < 4294967296 := by have := Hn.out; omega
  obtain ⟨v, v1, v2, v3⟩ := kE.acc.lookAll num hnb
  obtain ⟨⟨ua, ub⟩, ⟨uc, ud⟩, vx, vn, vc, ve⟩ := v
  have hav : (ap1 = ua ∧ ap2 = ub) ∧ (aa1 = uc ∧ aa2 = ud) ∧ vd = ve := by
    rw [HH.out.2.1] at v2
    injection v2 with e1 e2 e3
    injection e1 with e1 e4
    injection e2 with e2 e5
    exact ⟨⟨e1, e4⟩, ⟨e2, e5⟩, e3⟩
  obtain ⟨⟨rfl, rfl⟩, ⟨rfl, rfl⟩, rfl⟩ := hav
  have hvl : vd.length = vn := v1.sv.sl.len
  rw [hvl] at hfr
  have hlk := v3 wD.drew rfl
  have hlk2 := fun o => v3 (wD.drew.alloc o) ((al wD.drew o).block g.mb kE.acc.lt)
  have hsl : Fl.Sl wD.drew vx vn vc vd := v1.sv.sl
  dsimp only [av, ac] at hlk hlk2
  have HV : Hid (bwf (ap1, ap2) ∧ bwf (aa1, aa2) ∧ vn ≤ 5000) := ⟨v1.p, v1.a, v1.sv.sm⟩
  clear v1 v2 v3 hvl
  have g0 : wD.drew.cell? ⟨w.heap.size, 0, none⟩ = some (.int .i64 2) := q0
  have g1 : wD.drew.cell? ⟨w.heap.size, 1, none⟩ = some (.int .i64 num) := q1
  have g2 : wD.drew.cell? ⟨w.heap.size, 2, none⟩ = some (.int .i64 p1) := q2
  have g3 : wD.drew.cell? ⟨w.heap.size, 3, none⟩ = some (.int .i64 p2) := q3
  have g6 : wD.drew.cell? ⟨w.heap.size, 6, none⟩ = some (.slice x dn c) := q6
  have t3 : wD.drew.cell? ⟨g.p, 3, none⟩ = some (.map (some g.mb)) := s3
  clear q0 q1 q2 q3 q6 s2 s3 bD
  have HE : Hid (Below w.heap.size w wD.drew ∧ NdAt wD.drew B g st) := ⟨bE, kE⟩
  clear kE
  go_wp2_with fail
  refine wp_region_held_drew (S := fun q => q.cell? ⟨g.p, 3, none⟩ = some (.map (some g.mb)) ∧ q.cell? ⟨w.heap.size, 1, none⟩ = some (.int .i64 num) ∧ (Instr.lookup 60 (.map (some g.mb)) (.int .i64 (num : Int)) false).run Try.prog q = .ok (.agg #[.int .i64 ap1, .int .i64 ap2, .int .i64 aa1, .int .i64 aa2, .slice vx vn vc]) q) (by kernel_rfl) ⟨t3, g1, hlk⟩ (fun hHeld => ?_)
  generalize wD.drew = wE at *
  refine By.hk 0 ?_
  refine By.hk 1 ?_
  refine By.hk 2 ?_
  refine By.hk 3 ?_
  refine By.hk 4 ?_
  refine By.hk 5 ?_
  refine By.hk 6 ?_
  refine wpAnyH_ready (rs := [7]) (by kernel_rfl) (by simp) ?_
  refine AllReadyH.cons rfl (fun K hK => ?_) AllReadyH.nil
  go_simp
  refine hK.out _ _ ⟨keep (al _ _) t3, keep (al _ _) g1, hlk2 _⟩ (fun hHeld => ?_)
  clear hK K
  refine wpAnyH_ready (rs := [8]) (by kernel_rfl) (by simp) ?_
  refine AllReadyH.cons rfl (fun K hK => ?_) AllReadyH.nil
  go_simp
  refine hK.out _ _ ⟨keep (al _ _) t3, keep (al _ _) g1, hlk2 _⟩ (fun hHeld => ?_)
  clear hK K
  refine wpAnyH_done (by kernel_rfl) ?_ _
  have lb : w.heap.size < wE.heap.size := cell_lt' g0
  have lp : g.p < wE.heap.size := cell_lt' t3
  have bF := al wE (.cells #[.int .i64 ap1, .int .i64 ap2, .int .i64 aa1, .int .i64 aa2, .slice vx vn vc] 74)
  have hSl : Fl.Sl (wE.alloc (.cells #[.int .i64 ap1, .int .i64 ap2, .int .i64 aa1, .int .i64 aa2, .slice vx vn vc] 74)) x dn c dd := (HH.out.2.2.2.1.below (on bE bF)).sl
  have hK := fun (W : World) (hW : Fl.Sl W x dn c dd) => accept_yes (ap1, ap2) (aa1, aa2) vx vn vc (p1, p2) x dn c dd W hW (by have := HH.out.2.2.2.1.sm; omega) hfr
  dsimp only [bt, ac, z0] at hK
  have hK1 := hK _ hSl
  clear hK hlk hlk2 hHeld hsl hSl
  go_wp2_with (first
    | (
       go_at_call 49; refine hK1.mono ?_; rintro e w5 ⟨y5, cy5, rfl, H5⟩; clear hK1
       have a0 := keep H5.out.1 (b := wE.heap.size) (o := 0) (x := .int .i64 ap1) (by first | assumption | go_simp)
       have a1 := keep H5.out.1 (b := wE.heap.size) (o := 1) (x := .int .i64 ap2) (by first | assumption | go_simp)
       have a2 := keep H5.out.1 (b := wE.heap.size) (o := 2) (x := .int .i64 aa1) (by first | assumption | go_simp)
       have a3 := keep H5.out.1 (b := wE.heap.size) (o := 3) (x := .int .i64 aa2) (by first | assumption | go_simp)
       have a4 := keep H5.out.1 (b := wE.heap.size) (o := 4) (x := .slice vx vn vc) (by first | assumption | go_simp)
       have f0 := keepf H5.out.1 (b := wE.heap.size) (o := 0) (by first | (simp <;> omega) | exact cell_lt' (a := ⟨wE.heap.size, 0, none⟩) (by assumption) | (simp; exact cell_lt' (a := ⟨wE.heap.size, 0, none⟩) (by assumption))) (by first | assumption | go_simp)
       have f1 := keepf H5.out.1 (b := wE.heap.size) (o := 1) (by first | (simp <;> omega) | exact cell_lt' (a := ⟨wE.heap.size, 1, none⟩) (by assumption) | (simp; exact cell_lt' (a := ⟨wE.heap.size, 1, none⟩) (by assumption))) (by first | assumption | go_simp)
       have f2 := keepf H5.out.1 (b := wE.heap.size) (o := 2) (by first | (simp <;> omega) | exact cell_lt' (a := ⟨wE.heap.size, 2, none⟩) (by assumption) | (simp; exact cell_lt' (a := ⟨wE.heap.size, 2, none⟩) (by assumption))) (by first | assumption | go_simp)
       have f3 := keepf H5.out.1 (b := wE.heap.size) (o := 3) (by first | (simp <;> omega) | exact cell_lt' (a := ⟨wE.heap.size, 3, none⟩) (by assumption) | (simp; exact cell_lt' (a := ⟨wE.heap.size, 3, none⟩) (by assumption))) (by first | assumption | go_simp)
       have f4 := keepf H5.out.1 (b := wE.heap.size) (o := 4) (by first | (simp <;> omega) | exact cell_lt' (a := ⟨wE.heap.size, 4, none⟩) (by assumption) | (simp; exact cell_lt' (a := ⟨wE.heap.size, 4, none⟩) (by assumption))) (by first | assumption | go_simp)
       have u1 := keep (on bF H5.out.1) g1
       have u3 := keep (on bF H5.out.1) t3
       have lA : wE.heap.size < w5.heap.size := cell_lt' a0
       have lb5 : w.heap.size < w5.heap.size := by omega
       have lp5 : g.p < w5.heap.size := by omega
       clear g0 g1 g2 g3 g6 t3))
  have tS : Turns (atB wE.heap.size) w5 (((((w5.setCell ⟨wE.heap.size, 0, none⟩ (.int .i64 p1)).setCell ⟨wE.heap.size, 1, none⟩ (.int .i64 p2)).setCell ⟨wE.heap.size, 2, none⟩ (.int .i64 p1)).setCell ⟨wE.heap.size, 3, none⟩ (.int .i64 p2)).setCell ⟨wE.heap.size, 4, none⟩ (.slice y5 dn cy5)).drew := (turns_put (turns_put (turns_put (turns_put (turns_put (Turns.refl _ w5) 0 _) 1 _) 2 _) 3 _) 4 _).drew
  have z1 := keept tS (fun e => by have e' : w.heap.size = wE.heap.size := e; omega) u1
  have z3 := keept tS (fun e => by have e' : g.p = wE.heap.size := e; omega) u3
  have m0 : (((((w5.setCell ⟨wE.heap.size, 0, none⟩ (.int .i64 p1)).setCell ⟨wE.heap.size, 1, none⟩ (.int .i64 p2)).setCell ⟨wE.heap.size, 2, none⟩ (.int .i64 p1)).setCell ⟨wE.heap.size, 3, none⟩ (.int .i64 p2)).setCell ⟨wE.heap.size, 4, none⟩ (.slice y5 dn cy5)).drew.cell? ⟨wE.heap.size, 0, none⟩ = some (.int .i64 p1) := by go_simp
  have m1 : (((((w5.setCell ⟨wE.heap.size, 0, none⟩ (.int .i64 p1)).setCell ⟨wE.heap.size, 1, none⟩ (.int .i64 p2)).setCell ⟨wE.heap.size, 2, none⟩ (.int .i64 p1)).setCell ⟨wE.heap.size, 3, none⟩ (.int .i64 p2)).setCell ⟨wE.heap.size, 4, none⟩ (.slice y5 dn cy5)).drew.cell? ⟨wE.heap.size, 1, none⟩ = some (.int .i64 p2) := by go_simp
  have m2 : (((((w5.setCell ⟨wE.heap.size, 0, none⟩ (.int .i64 p1)).setCell ⟨wE.heap.size, 1, none⟩ (.int .i64 p2)).setCell ⟨wE.heap.size, 2, none⟩ (.int .i64 p1)).setCell ⟨wE.heap.size, 3, none⟩ (.int .i64 p2)).setCell ⟨wE.heap.size, 4, none⟩ (.slice y5 dn cy5)).drew.cell? ⟨wE.heap.size, 2, none⟩ = some (.int .i64 p1) := by go_simp
  have m3 : (((((w5.setCell ⟨wE.heap.size, 0, none⟩ (.int .i64 p1)).setCell ⟨wE.heap.size, 1, none⟩ (.int .i64 p2)).setCell ⟨wE.heap.size, 2, none⟩ (.int .i64 p1)).setCell ⟨wE.heap.size, 3, none⟩ (.int .i64 p2)).setCell ⟨wE.heap.size, 4, none⟩ (.slice y5 dn cy5)).drew.cell? ⟨wE.heap.size, 3, none⟩ = some (.int .i64 p2) := by go_simp
  have m4 : (((((w5.setCell ⟨wE.heap.size, 0, none⟩ (.int .i64 p1)).setCell ⟨wE.heap.size, 1, none⟩ (.int .i64 p2)).setCell ⟨wE.heap.size, 2, none⟩ (.int .i64 p1)).setCell ⟨wE.heap.size, 3, none⟩ (.int .i64 p2)).setCell ⟨wE.heap.size, 4, none⟩ (.slice y5 dn cy5)).drew.cell? ⟨wE.heap.size, 4, none⟩ = some (.slice y5 dn cy5) := by go_simp
  have z0ok : True := trivial
  have bG : Below w.heap.size w w5 := on HE.out.1 (on bF H5.out.1)
  have hAu : ∀ k, atB wE.heap.size k → ¬ Tb w5 k 5 := fun k hk tt => by
    have e' : k = wE.heap.size := hk
    subst e'
    have hb := H5.out.1.block wE.heap.size (by simp)
    rw [heap_alloc_new] at hb
    obtain ⟨cs, zz, ht⟩ := tt
    rw [hb] at ht
    injection ht with ht
    injection ht with _ ht _
    revert ht
    decide
  have k6 : NdAt (((((w5.setCell ⟨wE.heap.size, 0, none⟩ (.int .i64 p1)).setCell ⟨wE.heap.size, 1, none⟩ (.int .i64 p2)).setCell ⟨wE.heap.size, 2, none⟩ (.int .i64 p1)).setCell ⟨wE.heap.size, 3, none⟩ (.int .i64 p2)).setCell ⟨wE.heap.size, 4, none⟩ (.slice y5 dn cy5)).drew B g st := (HE.out.2.below (on bF H5.out.1)).turns tS (fun k hk e => by
    have e' : k = wE.heap.size := e
    have := (HE.out.2.u8 k hk).1
    omega) hAu
  have hSv6 : Sv (((((w5.setCell ⟨wE.heap.size, 0, none⟩ (.int .i64 p1)).setCell ⟨wE.heap.size, 1, none⟩ (.int .i64 p2)).setCell ⟨wE.heap.size, 2, none⟩ (.int .i64 p1)).setCell ⟨wE.heap.size, 3, none⟩ (.int .i64 p2)).setCell ⟨wE.heap.size, 4, none⟩ (.slice y5 dn cy5)).drew y5 dn cy5 dd := (vl_sv H5.out (by have := HH.out.2.2.2.1.sm; omega)).turns tS hAu
  obtain ⟨w7, D7, hput, H7⟩ := k6.acc.put num hnb (by have := HH.out.2.2.2.2.2.2; unfold gnb at this; omega) ⟨(p1, p2), (p1, p2), y5, dn, cy5, dd⟩ ⟨hSv6, HH.out.2.2.2.2.2.1, HH.out.2.2.2.2.2.1⟩
  have hput : (Instr.mapUpdate 60 (.map (some g.mb)) (.int .i64 (num : Int)) (.agg #[.int .i64 p1, .int .i64 p2, .int .i64 p1, .int .i64 p2, .slice y5 dn cy5])).run Try.prog (((((w5.setCell ⟨wE.heap.size, 0, none⟩ (.int .i64 p1)).setCell ⟨wE.heap.size, 1, none⟩ (.int .i64 p2)).setCell ⟨wE.heap.size, 2, none⟩ (.int .i64 p1)).setCell ⟨wE.heap.size, 3, none⟩ (.int .i64 p2)).setCell ⟨wE.heap.size, 4, none⟩ (.slice y5 dn cy5)).drew = .ok () w7 := hput
  have k7 := k6.setA H7.out.1 H7.out.2
  have hmA : ∀ k, k = w.heap.size ∨ k = wE.heap.size → ¬ atB g.mb k := fun k hk e => by
    have e' : k = g.mb := e
    have h1 := (HH.out.1.u8 g.mb (.inr (.inl rfl))).1
    have h2 := HE.out.1.size
    rcases hk with hk | hk <;> omega
  have n1 := keept H7.out.2 (hmA _ (.inl rfl)) z1
  have n3 : w7.cell? ⟨g.p, 3, none⟩ = some (.map (some g.mb)) := k7.c3
  have o0 := keept H7.out.2 (hmA _ (.inr rfl)) m0
  have o1 := keept H7.out.2 (hmA _ (.inr rfl)) m1
  have o2 := keept H7.out.2 (hmA _ (.inr rfl)) m2
  have o3 := keept H7.out.2 (hmA _ (.inr rfl)) m3
  have o4 := keept H7.out.2 (hmA _ (.inr rfl)) m4
  have hSd := fun (W : World) (bb : Below w7.heap.size w7 W) => send_any (k7.below bb) HH.out.2.2.1 fr ⟨3, num, ⟨(p1, p2), (p1, p2), dd⟩, 0, []⟩ y5 none cy5 0 ⟨by show 3 < _; omega, by show num < _; omega, by show 0 < _; omega, HH.out.2.2.2.2.1, HH.out.2.2.2.2.1, by
      have q := (hSv6.turns H7.out.2 (mb_not_u8 k6.acc.isM)).sl.below bb
      have q2 := q.len
      show Fl.Sl W y5 (dd : List Nat).length cy5 dd
      rw [q2]
      exact q, by
      have q2 := hSv6.sl.len
      show (dd : List Nat).length ≤ 5000
      rw [q2]
      exact hSv6.sm, .inl rfl, by show 0 ≤ 64; omega, fun d hd => by cases hd⟩
  dsimp only [mv, List.length_nil] at hSd
  have hdl2 : dd.length = dn := hSv6.sl.len
  rw [hdl2] at hSd
  clear hdl2
  have HF : Hid (∀ w9 z9 l9 c9, Vl w7 w9 z9 l9 c9 (encM ⟨3, num, ⟨(p1, p2), (p1, p2), dd⟩, 0, []⟩ st.id) → ∃ v9 : MlV, Goes w (w9.alloc (.cells #[.int .i64 fr, .slice z9 l9 c9] 70)) B g { st with acc := upA st.acc num ⟨(p1, p2), (p1, p2), dd⟩ } 1 ∧ OwnMl (w9.alloc (.cells #[.int .i64 fr, .slice z9 l9 c9] 70)) w.heap.size (.slice (some ⟨w9.heap.size, 0, none⟩) 1 1) [v9] ∧ v9.dst = fr ∧ Fl.Sl (w9.alloc (.cells #[.int .i64 fr, .slice z9 l9 c9] 70)) v9.x v9.n v9.c (encM ⟨3, num, ⟨(p1, p2), (p1, p2), dd⟩, 0, []⟩ st.id) ∧ ∀ a, v9.x = some a → w.heap.size ≤ a.block ∧ Tb (w9.alloc (.cells #[.int .i64 fr, .slice z9 l9 c9] 70)) a.block 5) := fun w9 z9 l9 c9 V9 => by
    have tT : Turns (fp g) w w7 := ((Turns.of_below bG).more (tS.weak (fun k hk => hk)) (fun k hk => .inr (by have e' : k = wE.heap.size := hk; have := HE.out.1.size; omega))).trans (H7.out.2.weak fun k hk => .inr (.inl hk))
    have b9 := al w9 (.cells #[.int .i64 fr, .slice z9 l9 c9] 70)
    have hsz : w.heap.size ≤ w9.heap.size := Nat.le_trans tT.size V9.1.size
    refine ⟨⟨fr, z9, l9, c9⟩, Goes.trans (k1 := 1) (k2 := 0) ?_ tT ?_ (fun k hk => .inl ?_) (Goes.same k7 (on V9.1 b9)), own_ml w9 _ hsz ⟨fr, z9, l9, c9⟩, rfl, V9.2.1.below b9, fun a ha => ⟨Nat.le_trans tT.size (V9.2.2 a ha).1, (V9.2.2 a ha).2.of_heap (b9.block _ (V9.2.2 a ha).2.lt)⟩⟩
    · rfl
    · show gnb { g with nb := g.nb + 1, D := D7 } ≤ gnb g + 1
      unfold gnb
      dsimp only
      omega
    · exact hk
  clear k6 k7 hSv6 H7 hmA hAu tS bG HE H5 z0ok bE bF u1 u3
  go_wp2_with fail
  refine wp_region_held_drew (S := fun q => q.cell? ⟨g.p, 3, none⟩ = some (.map (some g.mb)) ∧ q.cell? ⟨w.heap.size, 1, none⟩ = some (.int .i64 num) ∧ q.cell? ⟨wE.heap.size, 0, none⟩ = some (.int .i64 p1) ∧ q.cell? ⟨wE.heap.size, 1, none⟩ = some (.int .i64 p2) ∧ q.cell? ⟨wE.heap.size, 2, none⟩ = some (.int .i64 p1) ∧ q.cell? ⟨wE.heap.size, 3, none⟩ = some (.int .i64 p2) ∧ q.cell? ⟨wE.heap.size, 4, none⟩ = some (.slice y5 dn cy5)) (by kernel_rfl) ⟨z3, z1, m0, m1, m2, m3, m4⟩ (fun hHeld => ?_)
  generalize (((((w5.setCell ⟨wE.heap.size, 0, none⟩ (.int .i64 p1)).setCell ⟨wE.heap.size, 1, none⟩ (.int .i64 p2)).setCell ⟨wE.heap.size, 2, none⟩ (.int .i64 p1)).setCell ⟨wE.heap.size, 3, none⟩ (.int .i64 p2)).setCell ⟨wE.heap.size, 4, none⟩ (.slice y5 dn cy5)).drew = wF at *
  refine By.hk 0 ?_
  refine By.hk 1 ?_
  refine By.hk 2 ?_
  refine By.hk 3 ?_
  refine By.hk 4 ?_
  refine By.hk 5 ?_
  refine By.hk 6 ?_
  refine wpAnyH_ready (rs := [7]) (by kernel_rfl) (by simp) ?_
  refine AllReadyH.cons rfl (fun K hK => ?_) AllReadyH.nil
  refine st_mapupdate rfl _ _ _ 60 rfl _ _ _ rfl rfl rfl hput ?_
  (try simp only [Act.put, List.getElem_toArray, List.getElem_cons_succ, List.getElem_cons_zero, List.setIfInBounds_toArray, List.set_cons_zero, List.set_cons_succ])
  refine hK.out _ _ ⟨n3, n1, o0, o1, o2, o3, o4⟩ (fun hHeld => ?_)
  clear hK K
  refine wpAnyH_done (by kernel_rfl) ?_ _
  clear hHeld z1 z3 m0 m1 m2 m3 m4 hput
  go_wp2_with (first
    | (
       go_at_call 50; refine (hSd _ (Below.refl _ _)).mono ?_; rintro e w9 ⟨z9, l9, c9, rfl, H9⟩; clear hSd))
  go_ret
  exact ⟨_, _, _, rfl, HF.out _ _ _ _ H9.out.2⟩

set_option maxHeartbeats 4800000 in
theorem ans_2_no (h : NdAt w B g st) (num : Nat) (hnl : st.dec.length < num) (ap1 ap2 aa1 aa2 : Int) (vd : List Nat) (hst : st.acc num = ⟨(ap1, ap2), (aa1, aa2), vd⟩) (hq : BOk (ap1, ap2)) (hb : BOk (aa1, aa2)) (hi : st.id < 7) (fr : Int) (kn dn c dl cy : Nat) (p1 p2 a1 a2 : Int) (x y : Option Addr) (dd : List Nat) (hn2 : num ≤ 2147483647) (hsv : Sv w x dn c dd) (hp : BOk (p1, p2)) (hwf : bwf (p1, p2)) (hfr : freeb (ap1, ap2) (aa1, aa2) vd.length (p1, p2) = false) (hgn : gnb g < 1000000000000000) :
    Calls Try.prog 30 #[.pointer (some ⟨g.p, 0, none⟩), .int .i64 fr, .agg #[.int .i64 2, .int .i64 num, .int .i64 p1, .int .i64 p2, .int .i64 a1, .int .i64 a2, .slice x dn c, .int .i64 kn, .slice y dl cy]] w fun e w' => ∃ z n cz, e = .returned (.slice z n cz) ∧ Hid (∃ v9 : MlV, Goes w w' B g { st with acc := upA st.acc num ⟨(ap1, ap2), (aa1, aa2), vd⟩ } 1 ∧ OwnMl w' w.heap.size (.slice z n cz) [v9] ∧ v9.dst = fr ∧ Fl.Sl w' v9.x v9.n v9.c (encM ⟨3, num, ⟨(ap1, ap2), (aa1, aa2), vd⟩, 0, []⟩ st.id) ∧ ∀ a, v9.x = some a → w.heap.size ≤ a.block ∧ Tb w' a.block 5) := by
  have bD : Below w.heap.size w (w.alloc (.cells #[.int .i64 2, .int .i64 num, .int .i64 p1, .int .i64 p2, .int .i64 a1, .int .i64 a2, .slice x dn c, .int .i64 kn, .slice y dl cy] 76)).drew := on (al _ _) (Below.refl _ _).drew
  have hpl := h.obj.lt
  have c2 := h.c2
  obtain ⟨x2, cc2, e2, _⟩ := h.rd
  rw [e2] at c2
  have s2 := keep bD c2
  have s3 := keep bD h.c3
  have HH : Hid (NdAt w B g st ∧ st.acc num = ⟨(ap1, ap2), (aa1, aa2), vd⟩ ∧ st.id < 7 ∧ Sv w x dn c dd ∧ BOk (p1, p2) ∧ bwf (p1, p2) ∧ gnb g < 1000000000000000) := ⟨h, hst, hi, hsv, hp, hwf, hgn⟩
  have i1 : ¬ (num : Int) ≤ (st.dec.length : Int) := by omega
  have HQ : Hid (BOk (ap1, ap2) ∧ BOk (aa1, aa2)) := ⟨hq, hb⟩
  obtain ⟨dlen, hdlen⟩ : ∃ k, st.dec.length = k := ⟨_, rfl⟩
  rw [hdlen] at i1 s2
  have hdl8 : (dlen : Int) ≤ 80000 := by have := h.dl; omega
  clear hdlen
  have Hn : Hid (num ≤ 2147483647) := hn2
  clear h hst hi hsv hp hwf hgn e2 c2 hn2 hq hb hnl
  have q1 : (w.alloc (.cells #[.int .i64 2, .int .i64 num, .int .i64 p1, .int .i64 p2, .int .i64 a1, .int .i64 a2, .slice x dn c, .int .i64 kn, .slice y dl cy] 76)).drew.cell? ⟨w.heap.size, 1, none⟩ = some (.int .i64 num) := by go_simp
  have q0 : (w.alloc (.cells #[.int .i64 2, .int .i64 num, .int .i64 p1, .int .i64 p2, .int .i64 a1, .int .i64 a2, .slice x dn c, .int .i64 kn, .slice y dl cy] 76)).drew.cell? ⟨w.heap.size, 0, none⟩ = some (.int .i64 2) := by go_simp
  have q2 : (w.alloc (.cells #[.int .i64 2, .int .i64 num, .int .i64 p1, .int .i64 p2, .int .i64 a1, .int .i64 a2, .slice x dn c, .int .i64 kn, .slice y dl cy] 76)).drew.cell? ⟨w.heap.size, 2, none⟩ = some (.int .i64 p1) := by go_simp
  have q3 : (w.alloc (.cells #[.int .i64 2, .int .i64 num, .int .i64 p1, .int .i64 p2, .int .i64 a1, .int .i64 a2, .slice x dn c, .int .i64 kn, .slice y dl cy] 76)).drew.cell? ⟨w.heap.size, 3, none⟩ = some (.int .i64 p2) := by go_simp
  have q6 : (w.alloc (.cells #[.int .i64 2, .int .i64 num, .int .i64 p1, .int .i64 p2, .int .i64 a1, .int .i64 a2, .slice x dn c, .int .i64 kn, .slice y dl cy] 76)).drew.cell? ⟨w.heap.size, 6, none⟩ = some (.slice x dn c) := by go_simp
  go_enter Try.func30, Try.ntmps30
  go_wp2_with fail
  refine wp_region_held_drew (S := fun q => q.cell? ⟨w.heap.size, 1, none⟩ = some (.int .i64 num) ∧ q.cell? ⟨g.p, 2, none⟩ = some (.slice x2 dlen cc2)) (by kernel_rfl) ⟨q1, s2⟩ (fun hHeld => ?_)
  generalize (w.alloc (.cells #[.int .i64 2, .int .i64 num, .int .i64 p1, .int .i64 p2, .int .i64 a1, .int .i64 a2, .slice x dn c, .int .i64 kn, .slice y dl cy] 76)).drew = wD at *
  refine By.hk 0 ?_
  refine By.hk 1 ?_
  refine By.hk 2 ?_
  refine By.hk 3 ?_
  refine By.hk 4 ?_
  refine By.hk 5 ?_
  refine By.hk 6 ?_
  refine By.hk 7 ?_
  refine wpAnyH_done (by kernel_rfl) ?_ _
  clear hHeld
  have bE : Below w.heap.size w wD.drew := on bD (Below.refl _ _).drew
  have kE := HH.out.1.below bE
  have hnb : num < 4294967296 := by have := Hn.out; omega
  obtain ⟨v, v1, v2, v3⟩ := kE.acc.lookAll num hnb
  obtain ⟨⟨ua, ub⟩, ⟨uc, ud⟩, vx, vn, vc, ve⟩ := v
  have hav : (ap1 = ua ∧ ap2 = ub) ∧ (aa1 = uc ∧ aa2 = ud) ∧ vd = ve := by
    rw [HH.out.2.1] at v2
    injection v2 with e1 e2 e3
    injection e1 with e1 e4
    injection e2 with e2 e5
    exact ⟨⟨e1, e4⟩, ⟨e2, e5⟩, e3⟩
  obtain ⟨⟨rfl, rfl⟩, ⟨rfl, rfl⟩, rfl⟩ := hav
  have hvl : vd.length = vn := v1.sv.sl.len
  rw [hvl] at hfr
  have hlk := v3 wD.drew rfl
  have hlk2 := fun o => v3 (wD.drew.alloc o) ((al wD.drew o).block g.mb kE.acc.lt)
  have hsl : Fl.Sl wD.drew vx vn vc vd := v1.sv.sl
  dsimp only [av, ac] at hlk hlk2
  have HV : Hid (bwf (ap1, ap2) ∧ bwf (aa1, aa2) ∧ vn ≤ 5000) := ⟨v1.p, v1.a, v1.sv.sm⟩
  clear v1 v2 v3 hvl
  have g0 : wD.drew.cell? ⟨w.heap.size, 0, none⟩ = some (.int .i64 2) := q0
  have g1 : wD.drew.cell? ⟨w.heap.size, 1, none⟩ = some (.int .i64 num) := q1
  have g2 : wD.drew.cell? ⟨w.heap.size, 2, none⟩ = some (.int .i64 p1) := q2
  have g3 : wD.drew.cell? ⟨w.heap.size, 3, none⟩ = some (.int .i64 p2) := q3
  have g6 : wD.drew.cell? ⟨w.heap.size, 6, none⟩ = some (.slice x dn c) := q6
  have t3 : wD.drew.cell? ⟨g.p, 3, none⟩ = some (.map (some g.mb)) := s3
  clear q0 q1 q2 q3 q6 s2 s3 bD
  have HE : Hid (Below w.heap.size w wD.drew ∧ NdAt wD.drew B g st) := ⟨bE, kE⟩
  clear kE
  go_wp2_with fail
  refine wp_region_held_drew (S := fun q => q.cell? ⟨g.p, 3, none⟩ = some (.map (some g.mb)) ∧ q.cell? ⟨w.heap.size, 1, none⟩ = some (.int .i64 num) ∧ (Instr.lookup 60 (.map (some g.mb)) (.int .i64 (num : Int)) false).run Try.prog q = .ok (.agg #[.int .i64 ap1, .int .i64 ap2, .int .i64 aa1, .int .i64 aa2, .slice vx vn vc]) q) (by kernel_rfl) ⟨t3, g1, hlk⟩ (fun hHeld => ?_)
  generalize wD.drew = wE at *
  refine By.hk 0 ?_
  refine By.hk 1 ?_
  refine By.hk 2 ?_
  refine By.hk 3 ?_
  refine By.hk 4 ?_
  refine By.hk 5 ?_
  refine By.hk 6 ?_
  refine wpAnyH_ready (rs := [7]) (by kernel_rfl) (by simp) ?_
  refine AllReadyH.cons rfl (fun K hK => ?_) AllReadyH.nil
  go_simp
  refine hK.out _ _ ⟨keep (al _ _) t3, keep (al _ _) g1, hlk2 _⟩ (fun hHeld => ?_)
  clear hK K
  refine wpAnyH_ready (rs := [8]) (by kernel_rfl) (by simp) ?_
  refine AllReadyH.cons rfl (fun K hK => ?_) AllReadyH.nil
  go_simp
  refine hK.out _ _ ⟨keep (al _ _) t3, keep (al _ _) g1, hlk2 _⟩ (fun hHeld => ?_)
  clear hK K
  refine wpAnyH_done (by kernel_rfl) ?_ _
  have lb : w.heap.size < wE.heap.size := cell_lt' g0
  have lp : g.p < wE.heap.size := cell_lt' t3
  have bF := al wE (.cells #[.int .i64 ap1, .int .i64 ap2, .int .i64 aa1, .int .i64 aa2, .slice vx vn vc] 74)
  have hSl : Fl.Sl (wE.alloc (.cells #[.int .i64 ap1, .int .i64 ap2, .int .i64 aa1, .int .i64 aa2, .slice vx vn vc] 74)) vx vn vc vd := hsl.below bF
  have hK := fun (W : World) (hW : Fl.Sl W vx vn vc vd) => accept_no (ap1, ap2) (aa1, aa2) vx vn vc vd (p1, p2) x dn c W hW (by have := HV.out.2.2; omega) hfr
  dsimp only [bt, ac, z0] at hK
  have hK1 := hK _ hSl
  clear hK hlk hlk2 hHeld hsl hSl
  go_wp2_with (first
    | (
       go_at_call 49; refine hK1.mono ?_; rintro e w5 ⟨y5, cy5, rfl, H5⟩; clear hK1
       have a0 := keep H5.out.1 (b := wE.heap.size) (o := 0) (x := .int .i64 ap1) (by first | assumption | go_simp)
       have a1 := keep H5.out.1 (b := wE.heap.size) (o := 1) (x := .int .i64 ap2) (by first | assumption | go_simp)
       have a2 := keep H5.out.1 (b := wE.heap.size) (o := 2) (x := .int .i64 aa1) (by first | assumption | go_simp)
       have a3 := keep H5.out.1 (b := wE.heap.size) (o := 3) (x := .int .i64 aa2) (by first | assumption | go_simp)
       have a4 := keep H5.out.1 (b := wE.heap.size) (o := 4) (x := .slice vx vn vc) (by first | assumption | go_simp)
       have f0 := keepf H5.out.1 (b := wE.heap.size) (o := 0) (by first | (simp <;> omega) | exact cell_lt' (a := ⟨wE.heap.size, 0, none⟩) (by assumption) | (simp; exact cell_lt' (a := ⟨wE.heap.size, 0, none⟩) (by assumption))) (by first | assumption | go_simp)
       have f1 := keepf H5.out.1 (b := wE.heap.size) (o := 1) (by first | (simp <;> omega) | exact cell_lt' (a := ⟨wE.heap.size, 1, none⟩) (by assumption) | (simp; exact cell_lt' (a := ⟨wE.heap.size, 1, none⟩) (by assumption))) (by first | assumption | go_simp)
       have f2 := keepf H5.out.1 (b := wE.heap.size) (o := 2) (by first | (simp <;> omega) | exact cell_lt' (a := ⟨wE.heap.size, 2, none⟩) (by assumption) | (simp; exact cell_lt' (a := ⟨wE.heap.size, 2, none⟩) (by assumption))) (by first | assumption | go_simp)
       have f3 := keepf H5.out.1 (b := wE.heap.size) (o := 3) (by first | (simp <;> omega) | exact cell_lt' (a := ⟨wE.heap.size, 3, none⟩) (by assumption) | (simp; exact cell_lt' (a := ⟨wE.heap.size, 3, none⟩) (by assumption))) (by first | assumption | go_simp)
       have f4 := keepf H5.out.1 (b := wE.heap.size) (o := 4) (by first | (simp <;> omega) | exact cell_lt' (a := ⟨wE.heap.size, 4, none⟩) (by assumption) | (simp; exact cell_lt' (a := ⟨wE.heap.size, 4, none⟩) (by assumption))) (by first | assumption | go_simp)
       have u1 := keep (on bF H5.out.1) g1
       have u3 := keep (on bF H5.out.1) t3
       have lA : wE.heap.size < w5.heap.size := cell_lt' a0
       have lb5 : w.heap.size < w5.heap.size := by omega
       have lp5 : g.p < w5.heap.size := by omega
       clear g0 g1 g2 g3 g6 t3))
  have tS : Turns (atB wE.heap.size) w5 (((((w5.setCell ⟨wE.heap.size, 0, none⟩ (.int .i64 ap1)).setCell ⟨wE.heap.size, 1, none⟩ (.int .i64 ap2)).setCell ⟨wE.heap.size, 2, none⟩ (.int .i64 aa1)).setCell ⟨wE.heap.size, 3, none⟩ (.int .i64 aa2)).setCell ⟨wE.heap.size, 4, none⟩ (.slice y5 vn cy5)).drew := (turns_put (turns_put (turns_put (turns_put (turns_put (Turns.refl _ w5) 0 _) 1 _) 2 _) 3 _) 4 _).drew
  have z1 := keept tS (fun e => by have e' : w.heap.size = wE.heap.size := e; omega) u1
  have z3 := keept tS (fun e => by have e' : g.p = wE.heap.size := e; omega) u3
  have m0 : (((((w5.setCell ⟨wE.heap.size, 0, none⟩ (.int .i64 ap1)).setCell ⟨wE.heap.size, 1, none⟩ (.int .i64 ap2)).setCell ⟨wE.heap.size, 2, none⟩ (.int .i64 aa1)).setCell ⟨wE.heap.size, 3, none⟩ (.int .i64 aa2)).setCell ⟨wE.heap.size, 4, none⟩ (.slice y5 vn cy5)).drew.cell? ⟨wE.heap.size, 0, none⟩ = some (.int .i64 ap1) := by go_simp
  have m1 : (((((w5.setCell ⟨wE.heap.size, 0, none⟩ (.int .i64 ap1)).setCell ⟨wE.heap.size, 1, none⟩ (.int .i64 ap2)).setCell ⟨wE.heap.size, 2, none⟩ (.int .i64 aa1)).setCell ⟨wE.heap.size, 3, none⟩ (.int .i64 aa2)).setCell ⟨wE.heap.size, 4, none⟩ (.slice y5 vn cy5)).drew.cell? ⟨wE.heap.size, 1, none⟩ = some (.int .i64 ap2) := by go_simp
  have m2 : (((((w5.setCell ⟨wE.heap.size, 0, none⟩ (.int .i64 ap1)).setCell ⟨wE.heap.size, 1, none⟩ (.int .i64 ap2)).setCell ⟨wE.heap.size, 2, none⟩ (.int .i64 aa1)).setCell ⟨wE.heap.size, 3, none⟩ (.int .i64 aa2)).setCell ⟨wE.heap.size, 4, none⟩ (.slice y5 vn cy5)).drew.cell? ⟨wE.heap.size, 2, none⟩ = some (.int .i64 aa1) := by go_simp
  have m3 : (((((w5.setCell ⟨wE.heap.size, 0, none⟩ (.int .i64 ap1)).setCell ⟨wE.heap.size, 1, none⟩ (.int .i64 ap2)).setCell ⟨wE.heap.size, 2, none⟩ (.int .i64 aa1)).setCell ⟨wE.heap.size, 3, none⟩ (.int .i64 aa2)).setCell ⟨wE.heap.size, 4, none⟩ (.slice y5 vn cy5)).drew.cell? ⟨wE.heap.size, 3, none⟩ = some (.int .i64 aa2) := by go_simp
  have m4 : (((((w5.setCell ⟨wE.heap.size, 0, none⟩ (.int .i64 ap1)).setCell ⟨wE.heap.size, 1, none⟩ (.int .i64 ap2)).setCell ⟨wE.heap.size, 2, none⟩ (.int .i64 aa1)).setCell ⟨wE.heap.size, 3, none⟩ (.int .i64 aa2)).setCell ⟨wE.heap.size, 4, none⟩ (.slice y5 vn cy5)).drew.cell? ⟨wE.heap.size, 4, none⟩ = some (.slice y5 vn cy5) := by go_simp
  have z0ok : True := trivial
  have bG : Below w.heap.size w w5 := on HE.out.1 (on bF H5.out.1)
  have hAu : ∀ k, atB wE.heap.size k → ¬ Tb w5 k 5 := fun k hk tt => by
    have e' : k = wE.heap.size := hk
    subst e'
    have hb := H5.out.1.block wE.heap.size (by simp)
    rw [heap_alloc_new] at hb
    obtain ⟨cs, zz, ht⟩ := tt
    rw [hb] at ht
    injection ht with ht
    injection ht with _ ht _
    revert ht
    decide
  have k6 : NdAt (((((w5.setCell ⟨wE.heap.size, 0, none⟩ (.int .i64 ap1)).setCell ⟨wE.heap.size, 1, none⟩ (.int .i64 ap2)).setCell ⟨wE.heap.size, 2, none⟩ (.int .i64 aa1)).setCell ⟨wE.heap.size, 3, none⟩ (.int .i64 aa2)).setCell ⟨wE.heap.size, 4, none⟩ (.slice y5 vn cy5)).drew B g st := (HE.out.2.below (on bF H5.out.1)).turns tS (fun k hk e => by
    have e' : k = wE.heap.size := e
    have := (HE.out.2.u8 k hk).1
    omega) hAu
  have hSv6 : Sv (((((w5.setCell ⟨wE.heap.size, 0, none⟩ (.int .i64 ap1)).setCell ⟨wE.heap.size, 1, none⟩ (.int .i64 ap2)).setCell ⟨wE.heap.size, 2, none⟩ (.int .i64 aa1)).setCell ⟨wE.heap.size, 3, none⟩ (.int .i64 aa2)).setCell ⟨wE.heap.size, 4, none⟩ (.slice y5 vn cy5)).drew y5 vn cy5 vd := (vl_sv H5.out (by have := HV.out.2.2; omega)).turns tS hAu
  obtain ⟨w7, D7, hput, H7⟩ := k6.acc.put num hnb (by have := HH.out.2.2.2.2.2.2; unfold gnb at this; omega) ⟨(ap1, ap2), (aa1, aa2), y5, vn, cy5, vd⟩ ⟨hSv6, HV.out.1, HV.out.2.1⟩
  have hput : (Instr.mapUpdate 60 (.map (some g.mb)) (.int .i64 (num : Int)) (.agg #[.int .i64 ap1, .int .i64 ap2, .int .i64 aa1, .int .i64 aa2, .slice y5 vn cy5])).run Try.prog (((((w5.setCell ⟨wE.heap.size, 0, none⟩ (.int .i64 ap1)).setCell ⟨wE.heap.size, 1, none⟩ (.int .i64 ap2)).setCell ⟨wE.heap.size, 2, none⟩ (.int .i64 aa1)).setCell ⟨wE.heap.size, 3, none⟩ (.int .i64 aa2)).setCell ⟨wE.heap.size, 4, none⟩ (.slice y5 vn cy5)).drew = .ok () w7 := hput
  have k7 := k6.setA H7.out.1 H7.out.2
  have hmA : ∀ k, k = w.heap.size ∨ k = wE.heap.size → ¬ atB g.mb k := fun k hk e => by
    have e' : k = g.mb := e
    have h1 := (HH.out.1.u8 g.mb (.inr (.inl rfl))).1
    have h2 := HE.out.1.size
    rcases hk with hk | hk <;> omega
  have n1 := keept H7.out.2 (hmA _ (.inl rfl)) z1
  have n3 : w7.cell? ⟨g.p, 3, none⟩ = some (.map (some g.mb)) := k7.c3
  have o0 := keept H7.out.2 (hmA _ (.inr rfl)) m0
  have o1 := keept H7.out.2 (hmA _ (.inr rfl)) m1
  have o2 := keept H7.out.2 (hmA _ (.inr rfl)) m2
  have o3 := keept H7.out.2 (hmA _ (.inr rfl)) m3
  have o4 := keept H7.out.2 (hmA _ (.inr rfl)) m4
  have hSd := fun (W : World) (bb : Below w7.heap.size w7 W) => send_any (k7.below bb) HH.out.2.2.1 fr ⟨3, num, ⟨(ap1, ap2), (aa1, aa2), vd⟩, 0, []⟩ y5 none cy5 0 ⟨by show 3 < _; omega, by show num < _; omega, by show 0 < _; omega, HQ.out.1, HQ.out.2, by
      have q := (hSv6.turns H7.out.2 (mb_not_u8 k6.acc.isM)).sl.below bb
      have q2 := q.len
      show Fl.Sl W y5 (vd : List Nat).length cy5 vd
      rw [q2]
      exact q, by
      have q2 := hSv6.sl.len
      show (vd : List Nat).length ≤ 5000
      rw [q2]
      exact hSv6.sm, .inl rfl, by show 0 ≤ 64; omega, fun d hd => by cases hd⟩
  dsimp only [mv, List.length_nil] at hSd
  have hdl2 : vd.length = vn := hSv6.sl.len
  rw [hdl2] at hSd
  clear hdl2
  have HF : Hid (∀ w9 z9 l9 c9, Vl w7 w9 z9 l9 c9 (encM ⟨3, num, ⟨(ap1, ap2), (aa1, aa2), vd⟩, 0, []⟩ st.id) → ∃ v9 : MlV, Goes w (w9.alloc (.cells #[.int .i64 fr, .slice z9 l9 c9] 70)) B g { st with acc := upA st.acc num ⟨(ap1, ap2), (aa1, aa2), vd⟩ } 1 ∧ OwnMl (w9.alloc (.cells #[.int .i64 fr, .slice z9 l9 c9] 70)) w.heap.size (.slice (some ⟨w9.heap.size, 0, none⟩) 1 1) [v9] ∧ v9.dst = fr ∧ Fl.Sl (w9.alloc (.cells #[.int .i64 fr, .slice z9 l9 c9] 70)) v9.x v9.n v9.c (encM ⟨3, num, ⟨(ap1, ap2), (aa1, aa2), vd⟩, 0, []⟩ st.id) ∧ ∀ a, v9.x = some a → w.heap.size ≤ a.block ∧ Tb (w9.alloc (.cells #[.int .i64 fr, .slice z9 l9 c9] 70)) a.block 5) := fun w9 z9 l9 c9 V9 => by
    have tT : Turns (fp g) w w7 := ((Turns.of_below bG).more (tS.weak (fun k hk => hk)) (fun k hk => .inr (by have e' : k = wE.heap.size := hk; have := HE.out.1.size; omega))).trans (H7.out.2.weak fun k hk => .inr (.inl hk))
    have b9 := al w9 (.cells #[.int .i64 fr, .slice z9 l9 c9] 70)
    have hsz : w.heap.size ≤ w9.heap.size := Nat.le_trans tT.size V9.1.size
    refine ⟨⟨fr, z9, l9, c9⟩, Goes.trans (k1 := 1) (k2 := 0) ?_ tT ?_ (fun k hk => .inl ?_) (Goes.same k7 (on V9.1 b9)), own_ml w9 _ hsz ⟨fr, z9, l9, c9⟩, rfl, V9.2.1.below b9, fun a ha => ⟨Nat.le_trans tT.size (V9.2.2 a ha).1, (V9.2.2 a ha).2.of_heap (b9.block _ (V9.2.2 a ha).2.lt)⟩⟩
    · rfl
    · show gnb { g with nb := g.nb + 1, D := D7 } ≤ gnb g + 1
      unfold gnb
      dsimp only
      omega
    · exact hk
  clear k6 k7 hSv6 H7 hmA hAu tS bG HE H5 z0ok bE bF u1 u3
  go_wp2_with fail
  refine wp_region_held_drew (S := fun q => q.cell? ⟨g.p, 3, none⟩ = some (.map (some g.mb)) ∧ q.cell? ⟨w.heap.size, 1, none⟩ = some (.int .i64 num) ∧ q.cell? ⟨wE.heap.size, 0, none⟩ = some (.int .i64 ap1) ∧ q.cell? ⟨wE.heap.size, 1, none⟩ = some (.int .i64 ap2) ∧ q.cell? ⟨wE.heap.size, 2, none⟩ = some (.int .i64 aa1) ∧ q.cell? ⟨wE.heap.size, 3, none⟩ = some (.int .i64 aa2) ∧ q.cell? ⟨wE.heap.size, 4, none⟩ = some (.slice y5 vn cy5)) (by kernel_rfl) ⟨z3, z1, m0, m1, m2, m3, m4⟩ (fun hHeld => ?_)
  generalize (((((w5.setCell ⟨wE.heap.size, 0, none⟩ (.int .i64 ap1)).setCell ⟨wE.heap.size, 1, none⟩ (.int .i64 ap2)).setCell ⟨wE.heap.size, 2, none⟩ (.int .i64 aa1)).setCell ⟨wE.heap.size, 3, none⟩ (.int .i64 aa2)).setCell ⟨wE.heap.size, 4, none⟩ (.slice y5 vn cy5)).drew = wF at *
  refine By.hk 0 ?_
  refine By.hk 1 ?_
  refine By.hk 2 ?_
  refine By.hk 3 ?_
  refine By.hk 4 ?_
  refine By.hk 5 ?_
  refine By.hk 6 ?_
  refine wpAnyH_ready (rs := [7]) (by kernel_rfl) (by simp) ?_
  refine AllReadyH.cons rfl (fun K hK => ?_) AllReadyH.nil
  refine st_mapupdate rfl _ _ _ 60 rfl _ _ _ rfl rfl rfl hput ?_
  (try simp only [Act.put, List.getElem_toArray, List.getElem_cons_succ, List.getElem_cons_zero, List.setIfInBounds_toArray, List.set_cons_zero, List.set_cons_succ])
  refine hK.out _ _ ⟨n3, n1, o0, o1, o2, o3, o4⟩ (fun hHeld => ?_)
  clear hK K
  refine wpAnyH_done (by kernel_rfl) ?_ _
  clear hHeld z1 z3 m0 m1 m2 m3 m4 hput
  go_wp2_with (first
    | (
       go_at_call 50; refine (hSd _ (Below.refl _ _)).mono ?_; rintro e w9 ⟨z9, l9, c9, rfl, H9⟩; clear hSd))
  go_ret
  exact ⟨_, _, _, rfl, HF.out _ _ _ _ H9.out.2⟩

end

end Go.Proofs.Ytfgfjfemaniaiaa.Px

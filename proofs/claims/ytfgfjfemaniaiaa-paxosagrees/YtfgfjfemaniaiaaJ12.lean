/-
  6 texts of this proof, one behind the other: PxBegin2, PxMail, PxAgree, PxInv, PxInv2, PxInv3.
-/
import Derived.Test.YtfgfjfemaniaiaaJ01
import Derived.Test.YtfgfjfemaniaiaaJ11
import Derived.Test.YtfgfjfemaniaiaaJ02
import Derived.Test.YtfgfjfemaniaiaaJ10
/-
  A bid begins where a monitor is alone and something waits.
  Conditions: the monitor is one that New gave ('NdAt'), without a bid.
-/
namespace Go.Proofs.Ytfgfjfemaniaiaa.Px
open Go.RowKit Wi By Fl Ba
set_option linter.unusedVariables false
set_option linter.unusedSimpArgs false
set_option maxRecDepth 100000

section
variable {w : World} {B : Nat} {g : Ln} {st : Nd}

def begun (st : Nd) : Nd := { st with acc := upA st.acc (st.dec.length + 1) ⟨(1, 0), z0, []⟩, bid := some ⟨st.dec.length + 1, (1, 0), [], fun _ => noAc⟩ }

set_option maxHeartbeats 2400000 in
theorem begin_one (h : NdAt w B g st) (hb : st.bid = none) (hn1 : st.n = 1) (hid0 : st.id = 0) (hw : st.wait ≠ []) (hacc : st.acc (st.dec.length + 1) = noAc) (hgn : gnb g < 1000000000000000000) :
    Calls Try.prog 57 #[.pointer (some ⟨g.p, 0, none⟩)] w fun e w' => e = .returned (.slice none 0 0) ∧ Hid (Goes w w' B g (begun st) 1) := by
  have hgb : g.b = none := by
    rcases h.bid with ⟨q, _⟩ | ⟨l, b, q1, q2, _⟩
    · exact q
    · rw [hb] at q2
      cases q2
  have hH := fun (W : World) (b : Below w.heap.size w W) => highest_none (h.below b) hb
  have hN := fun W => next_any (st.acc (st.dec.length + 1)).p st.id W
  rw [hacc] at hH hN
  have enx : nx noAc.p ((st.id : Nat) : Int) = ((1, 0), true) := by rw [hid0]; decide
  rw [enx] at hN
  have HH : Hid (NdAt w B g st) := h
  have hpl := h.obj.lt
  have hdl := h.dl
  have c0 := h.c0
  have c2 := h.c2
  have c5 := h.c5
  have HX : Hid (st.bid = none ∧ st.n = 1 ∧ st.id = 0 ∧ st.acc (st.dec.length + 1) = noAc ∧ g.b = none ∧ gnb g < 1000000000000000000) := ⟨hb, hn1, hid0, hacc, hgb, hgn⟩
  obtain ⟨y, cy, e, _⟩ := h.rd
  obtain ⟨y5, c5', e5, _⟩ := h.rw_
  rw [e] at c2
  rw [e5] at c5
  have hwl : ((st.wait.length : Int) == 0) = false := by
    have : st.wait.length ≠ 0 := fun e => hw (List.eq_nil_of_length_eq_zero e)
    simp
    omega
  obtain ⟨n1, hn1'⟩ : ∃ n1, n1 = st.dec.length + 1 := ⟨_, rfl⟩
  have i1 : (st.dec.length : Int) + 1 = (n1 : Int) := by omega
  have wz : IntKind.i64.wrap (n1 : Int) = (n1 : Int) := wrap_i64 (by omega) (by omega)
  have Hn1 : Hid (n1 = st.dec.length + 1) := hn1'
  have bD : Below w.heap.size w w.drew := (Below.refl _ _).drew
  have s0 := keep bD c0
  clear h hb hw e e5 hgb hn1 hid0 hacc hgn enx hn1' hdl
  dsimp only [bt, noAc, z0] at hH hN
  obtain ⟨ok, hok⟩ : ∃ ok, ok = true := ⟨_, rfl⟩
  obtain ⟨t1, ht1⟩ : ∃ t1 : Int, t1 = 1 := ⟨_, rfl⟩
  obtain ⟨t2, ht2⟩ : ∃ t2 : Int, t2 = 0 := ⟨_, rfl⟩
  have HO : Hid (ok = true ∧ t1 = 1 ∧ t2 = 0) := ⟨hok, ht1, ht2⟩
  have hN : ∀ W : World, Calls Try.prog 77 #[.agg #[.int .i64 0, .int .i64 0], .int .i64 st.id] W fun e w' => e = .returned (.tuple #[.agg #[.int .i64 t1, .int .i64 t2], .bool ok]) ∧ Below W.heap.size W w' := by
    rw [hok, ht1, ht2]
    exact hN
  clear hok ht1 ht2
  generalize st.dec.length = dl at c2 i1
  generalize st.wait.length = wl at c5 hwl
  go_enter Try.func57, Try.ntmps57
  go_wp2_with fail
  go_cut [4, 5] (fun s4 s5 wc => ∃ gb, s4 = .pointer (some ⟨gb, 0, none⟩) ∧ s5 = .bool ok ∧ Hid (Below w.heap.size w wc ∧ w.heap.size ≤ gb ∧ wc.cell? ⟨gb, 0, none⟩ = some (.int .i64 t1) ∧ wc.cell? ⟨gb, 1, none⟩ = some (.int .i64 t2)))
  case first =>
    refine wp_region_held_drew (S := fun q => q.cell? ⟨g.p, 0, none⟩ = some (.int .i64 st.id)) (by kernel_rfl) s0 (fun hHeld => ?_)
    generalize w.drew = wD at *
    refine By.hk 0 ?_
    refine By.hk 2 ?_
    refine By.hk 3 ?_
    refine By.hk 4 ?_
    refine By.hk 5 ?_
    refine wpAnyH_ready (rs := [1, 10]) (by kernel_rfl) (by simp) ?_
    refine AllReadyH.cons rfl (fun K hK => ?_) (AllReadyH.cons rfl (fun K hK => ?_) AllReadyH.nil)
    · go_simp
      refine (hH _ bD).mono ?_
      rintro e w1 ⟨rfl, H1⟩
      replace s0 := keep H1.out s0
      have B1 := on bD H1.out
      refine hK.out _ _ s0 (fun hHeld => ?_)
      clear hK K
      refine wpAnyH_ready (rs := [6, 10]) (by kernel_rfl) (by simp) ?_
      refine AllReadyH.cons rfl (fun K hK => ?_) (AllReadyH.cons rfl (fun K hK => ?_) AllReadyH.nil)
      · go_simp
        refine (hN _).mono ?_
        rintro e w2 ⟨rfl, H2⟩
        replace s0 := keep H2 s0
        have B2 := on B1 H2
        have lp2 : g.p < w2.heap.size := cell_lt' s0
        refine hK.out _ _ s0 (fun hHeld => ?_)
        clear hK K
        refine By.hk 7 ?_
        refine By.hk 8 ?_
        refine By.hk 9 ?_
        refine wpAnyH_ready (rs := [10]) (by kernel_rfl) (by simp) ?_
        refine AllReadyH.cons rfl (fun K hK => ?_) AllReadyH.nil
        go_simp
        refine hK.out _ _ (keep (al _ _) s0) (fun hHeld => ?_)
        clear hK K
        refine wpAnyH_ready (rs := [11]) (by kernel_rfl) (by simp) ?_
        refine AllReadyH.cons rfl (fun K hK => ?_) AllReadyH.nil
        go_simp
        refine hK.out _ _ (keep (al _ _) s0) (fun hHeld => ?_)
        clear hK K
        refine By.hk 12 ?_
        refine wpAnyH_done (by kernel_rfl) ?_ _
        go_wp2_with fail
        go_meet
        case rel => exact ⟨w2.heap.size, rfl, rfl, on B2 (al _ _), B2.size, by go_simp, by go_simp⟩
      · go_simp
        have bA := on B1 (al w1 (.cells #[.int .i64 0, .int .i64 0] 72))
        have r0 : (w1.alloc (.cells #[.int .i64 0, .int .i64 0] 72)).cell? ⟨w1.heap.size, 0, none⟩ = some (.int .i64 0) := by go_simp
        have r1 : (w1.alloc (.cells #[.int .i64 0, .int .i64 0] 72)).cell? ⟨w1.heap.size, 1, none⟩ = some (.int .i64 0) := by go_simp
        have f0 : (w1.alloc (.cells #[.int .i64 0, .int .i64 0] 72)).frozen? ⟨w1.heap.size, 0, none⟩ = false := by go_simp
        have f1 : (w1.alloc (.cells #[.int .i64 0, .int .i64 0] 72)).frozen? ⟨w1.heap.size, 1, none⟩ = false := by go_simp
        have lp1 : g.p < w1.heap.size := cell_lt' s0
        replace s0 := keep (al w1 (.cells #[.int .i64 0, .int .i64 0] 72)) s0
        refine hK.out _ _ s0 (fun hHeld => ?_)
        clear hK K
        refine wpAnyH_ready (rs := [6]) (by kernel_rfl) (by simp) ?_
        refine AllReadyH.cons rfl (fun K hK => ?_) AllReadyH.nil
        go_simp
        refine (hN _).mono ?_
        rintro e w2 ⟨rfl, H2⟩
        have l1 : w1.heap.size < (w1.alloc (.cells #[.int .i64 0, .int .i64 0] 72)).heap.size := by simp
        replace s0 := keep H2 s0
        replace f0 := keepf H2 l1 f0
        replace f1 := keepf H2 l1 f1
        replace r0 := keep H2 r0
        replace r1 := keep H2 r1
        have B2 := on bA H2
        have pn : g.p ≠ w1.heap.size := by omega
        refine hK.out _ _ s0 (fun hHeld => ?_)
        clear hK K
        refine By.hk 7 ?_
        refine By.hk 8 ?_
        refine By.hk 9 ?_
        refine wpAnyH_ready (rs := [11]) (by kernel_rfl) (by simp) ?_
        refine AllReadyH.cons rfl (fun K hK => ?_) AllReadyH.nil
        go_simp
        refine hK.out _ _ (by go_simp) (fun hHeld => ?_)
        clear hK K
        refine By.hk 12 ?_
        refine wpAnyH_done (by kernel_rfl) ?_ _
        go_wp2_with fail
        go_meet
        case rel => exact ⟨w1.heap.size, rfl, rfl, below2 B2 w1.heap.size B1.size _ _, B1.size, by go_simp, by go_simp⟩
    · go_simp
      have bA := on bD (al wD (.cells #[.int .i64 0, .int .i64 0] 72))
      have r0 : (wD.alloc (.cells #[.int .i64 0, .int .i64 0] 72)).cell? ⟨wD.heap.size, 0, none⟩ = some (.int .i64 0) := by go_simp
      have r1 : (wD.alloc (.cells #[.int .i64 0, .int .i64 0] 72)).cell? ⟨wD.heap.size, 1, none⟩ = some (.int .i64 0) := by go_simp
      have f0 : (wD.alloc (.cells #[.int .i64 0, .int .i64 0] 72)).frozen? ⟨wD.heap.size, 0, none⟩ = false := by go_simp
      have f1 : (wD.alloc (.cells #[.int .i64 0, .int .i64 0] 72)).frozen? ⟨wD.heap.size, 1, none⟩ = false := by go_simp
      have l1 : wD.heap.size < (wD.alloc (.cells #[.int .i64 0, .int .i64 0] 72)).heap.size := by simp
      have lpD : g.p < wD.heap.size := cell_lt' s0
      replace s0 := keep (al wD (.cells #[.int .i64 0, .int .i64 0] 72)) s0
      refine hK.out _ _ s0 (fun hHeld => ?_)
      clear hK K
      refine wpAnyH_ready (rs := [1]) (by kernel_rfl) (by simp) ?_
      refine AllReadyH.cons rfl (fun K hK => ?_) AllReadyH.nil
      go_simp
      refine (hH _ bA).mono ?_
      rintro e w1 ⟨rfl, H1⟩
      replace s0 := keep H1.out s0
      replace f0 := keepf H1.out l1 f0
      replace f1 := keepf H1.out l1 f1
      replace r0 := keep H1.out r0
      replace r1 := keep H1.out r1
      have B1 := on bA H1.out
      have l2 : wD.heap.size < w1.heap.size := cell_lt' r0
      refine hK.out _ _ s0 (fun hHeld => ?_)
      clear hK K
      refine wpAnyH_ready (rs := [6]) (by kernel_rfl) (by simp) ?_
      refine AllReadyH.cons rfl (fun K hK => ?_) AllReadyH.nil
      go_simp
      refine (hN _).mono ?_
      rintro e w2 ⟨rfl, H2⟩
      replace s0 := keep H2 s0
      replace f0 := keepf H2 l2 f0
      replace f1 := keepf H2 l2 f1
      replace r0 := keep H2 r0
      replace r1 := keep H2 r1
      have B2 := on B1 H2
      have pn : g.p ≠ wD.heap.size := by omega
      refine hK.out _ _ s0 (fun hHeld => ?_)
      clear hK K
      refine By.hk 7 ?_
      refine By.hk 8 ?_
      refine By.hk 9 ?_
      refine wpAnyH_ready (rs := [11]) (by kernel_rfl) (by simp) ?_
      refine AllReadyH.cons rfl (fun K hK => ?_) AllReadyH.nil
      go_simp
      refine hK.out _ _ (by go_simp) (fun hHeld => ?_)
      clear hK K
      refine By.hk 12 ?_
      refine wpAnyH_done (by kernel_rfl) ?_ _
      go_wp2_with fail
      go_meet
      case rel => exact ⟨wD.heap.size, rfl, rfl, below2 B2 wD.heap.size bD.size _ _, bD.size, by go_simp, by go_simp⟩
  case rest =>
    obtain ⟨gb, rfl, rfl, HC⟩ := hcut
    obtain ⟨rfl, rfl, rfl⟩ := HO.out
    have q5 := keep HC.out.1 c5
    clear hH hN s0 bD HO c0 c2
    have bE : Below w.heap.size w wc.drew := on HC.out.1 (Below.refl _ _).drew
    have kE := HH.out.below bE
    have hn1b : n1 < 4294967296 := by have := Hn1.out; have := HH.out.dl; omega
    obtain ⟨v, v1, v2, v3⟩ := kE.acc.lookAll n1 hn1b
    have hav : v.p = z0 ∧ v.a = z0 ∧ v.d = [] := by
      have q := HX.out.2.2.2.1
      rw [← Hn1.out] at q
      rw [q] at v2
      injection v2 with a1 a2 a3
      exact ⟨a1.symm, a2.symm, a3.symm⟩
    have hvn : v.n = 0 := by rw [← v1.sv.sl.len, hav.2.2]; rfl
    have hP := fun (W : World) (b : Below wc.drew.heap.size wc.drew W) => prepare_yes v.p v.a v.x v.n v.c v.d (1, 0) W (v1.sv.sl.below b) (by rw [hvn]; omega) (by rw [hav.1, hav.2.1, hvn]; decide)
    have hlk := v3 wc.drew rfl
    have s3 : wc.drew.cell? ⟨g.p, 3, none⟩ = some (.map (some g.mb)) := kE.c3
    have g0 : wc.drew.cell? ⟨gb, 0, none⟩ = some (.int .i64 1) := HC.out.2.2.1
    have g1 : wc.drew.cell? ⟨gb, 1, none⟩ = some (.int .i64 0) := HC.out.2.2.2
    have HV : Hid (v.p = z0 ∧ v.a = z0 ∧ v.d = [] ∧ v.n = 0) := ⟨hav.1, hav.2.1, hav.2.2, hvn⟩
    have HE : Hid (Below w.heap.size w wc.drew ∧ NdAt wc.drew B g st ∧ w.heap.size ≤ gb) := ⟨bE, kE, HC.out.2.1⟩
    have Hv3 : Hid (∀ w' : World, w'.heap[g.mb]? = wc.drew.heap[g.mb]? → (Instr.lookup 60 (.map (some g.mb)) (.int .i64 (n1 : Int)) false).run Try.prog w' = .ok (av v) w') := v3
    dsimp only [av, ac, bt] at hP hlk Hv3
    clear hav hvn v1 v2 v3 kE bE
    obtain ⟨⟨vp1, vp2⟩, ⟨va1, va2⟩, vx, vn, vc, vd⟩ := v
    dsimp only at hP hlk Hv3 HV
    go_wp2_with fail
    refine wp_region_held_drew (S := fun q => q.cell? ⟨g.p, 3, none⟩ = some (.map (some g.mb)) ∧ q.cell? ⟨gb, 0, none⟩ = some (.int .i64 1) ∧ q.cell? ⟨gb, 1, none⟩ = some (.int .i64 0)) (by kernel_rfl) ⟨s3, g0, g1⟩ (fun hHeld => ?_)
    generalize wc.drew = wE at *
    refine By.hk 0 ?_
    refine By.hk 1 ?_
    refine By.hk 2 ?_
    refine By.hk 3 ?_
    refine By.hk 4 ?_
    refine By.hk 5 ?_
    refine By.hk 6 ?_
    refine By.hk 7 ?_
    refine By.hk 8 ?_
    refine By.hk 9 ?_
    refine By.hk 11 ?_
    refine wpAnyH_ready (rs := [10]) (by kernel_rfl) (by simp) ?_
    refine AllReadyH.cons rfl (fun K hK => ?_) AllReadyH.nil
    refine st_lookup rfl _ _ 60 false rfl _ _ _ rfl rfl hlk ?_
    (try simp only [Act.put, List.getElem_toArray, List.getElem_cons_succ, List.getElem_cons_zero, List.setIfInBounds_toArray, List.set_cons_zero, List.set_cons_succ])
    refine hK.out _ _ ⟨s3, g0, g1⟩ (fun hHeld => ?_)
    clear hK K
    refine wpAnyH_ready (rs := [12]) (by kernel_rfl) (by simp) ?_
    refine AllReadyH.cons rfl (fun K hK => ?_) AllReadyH.nil
    go_simp
    refine (hP _ (Below.refl _ _)).mono ?_
    rintro e w2 ⟨y2, cy2, rfl, H2⟩
    have k2 := HE.out.2.1.below H2.out.1
    obtain ⟨w3, D3, hput, H3⟩ := k2.acc.put n1 hn1b (by have := HX.out.2.2.2.2.2; unfold gnb at this; omega) ⟨(1, 0), (va1, va2), y2, vn, cy2, vd⟩ ⟨vl_sv H2.out (by show vn ≤ 5000; have := HV.out.2.2.2; omega), ⟨wfi_all (a := 1) (by omega) (by omega), wfi_all (a := 0) (by omega) (by omega)⟩, by show bwf (va1, va2); rw [HV.out.2.1]; exact z0_wf⟩
    dsimp only [av, ac] at hput
    have hgm : ¬ atB g.mb gb := fun e => by
      have e' : gb = g.mb := e
      have := (HH.out.u8 g.mb (.inr (.inl rfl))).1
      have := HE.out.2.2
      omega
    have g0' := keep H2.out.1 g0
    have g1' := keep H2.out.1 g1
    have k3 := k2.setA H3.out.1 H3.out.2
    refine hK.out _ _ ⟨keep H2.out.1 s3, g0', g1'⟩ (fun hHeld => ?_)
    clear hK K
    refine By.hk 13 ?_
    refine By.hk 14 ?_
    refine By.hk 15 ?_
    refine wpAnyH_ready (rs := [16]) (by kernel_rfl) (by simp) ?_
    refine AllReadyH.cons rfl (fun K hK => ?_) AllReadyH.nil
    refine st_mapupdate rfl _ _ _ 60 rfl _ _ _ rfl rfl rfl hput ?_
    (try simp only [Act.put, List.getElem_toArray, List.getElem_cons_succ, List.getElem_cons_zero, List.setIfInBounds_toArray, List.set_cons_zero, List.set_cons_succ])
    have c3' : w3.cell? ⟨g.p, 3, none⟩ = some (.map (some g.mb)) := k3.c3
    have c6' : w3.cell? ⟨g.p, 6, none⟩ = some (.pointer none) := by have q := k3.c6; dsimp only at q; rw [HX.out.2.2.2.2.1] at q; exact q
    have f6' : w3.frozen? ⟨g.p, 6, none⟩ = false := k3.fz 6
    have g0'' := keept H3.out.2 hgm g0'
    have g1'' := keept H3.out.2 hgm g1'
    have hbw : bwf ((1, 0) : Bt) := ⟨wfi_all (a := 1) (by omega) (by omega), wfi_all (a := 0) (by omega) (by omega)⟩
    obtain ⟨k4, t4⟩ := k3.newBid n1 (1, 0) hbw
    have hAsk := ask_one k4 HX.out.2.1 HX.out.2.2.1
    have HF : Hid (Goes w (((w3.setCell ⟨g.p, 6, none⟩ (.pointer (some ⟨w3.heap.size + 1, 0, none⟩))).alloc (.map #[] 0)).alloc (.cells #[.int .i64 n1, .int .i64 1, .int .i64 0, .slice none 0 0, .map (some w3.heap.size)] 96)) B g (begun st) 1) := by
      have hnb : gnb g = g.nb := by unfold gnb; rw [HX.out.2.2.2.2.1]; rfl
      have hT : Turns (fp g) w w3 := ((Turns.of_below HE.out.1).trans (Turns.of_below H2.out.1)).trans (H3.out.2.weak fun k hk => .inr (.inl hk))
      refine ⟨({ g with nb := g.nb + 1, D := D3, b := some ⟨w3.heap.size + 1, w3.heap.size, 0, .map [], none, 0, 0⟩ } : Ln), rfl, ?_, hT.more t4 (fun k hk => .inl hk), ?_, fun k hk => ?_⟩
      rotate_left 1
      · show g.nb + 1 + 0 ≤ gnb g + 1
        omega
      · rcases hk with q | q | q | q | ⟨l, q, r⟩
        · exact .inl (.inl q)
        · exact .inl (.inr (.inl q))
        · exact .inl (.inr (.inr (.inl q)))
        · exact .inl (.inr (.inr (.inr (.inl q))))
        · injection q with q
          subst q
          right
          have := hT.size
          rcases r with r | r
          · have r' : k = w3.heap.size + 1 := r; omega
          · have r' : k = w3.heap.size := r; omega
      · have e2 : begun st = { ({ st with acc := upA st.acc n1 (acOf ⟨(1, 0), (va1, va2), y2, vn, cy2, vd⟩) } : Nd) with bid := some ⟨n1, (1, 0), [], fun _ => noAc⟩ } := by
          unfold begun acOf
          dsimp only
          rw [← Hn1.out]
          have a1 := HV.out.2.1
          have a2 := HV.out.2.2.1
          rw [a1, a2]
        rw [e2]
        exact k4
    refine hK.out _ _ ⟨c3', g0'', g1''⟩ (fun hHeld => ?_)
    clear hK K
    refine wpAnyH_done (by kernel_rfl) ?_ _
    have hmm := @run_makeMap Try.prog
    have hlg : gb < w3.heap.size := cell_lt' g0''
    have hlp : g.p < w3.heap.size := cell_lt' c6'
    dsimp only at hAsk
    clear k2 k3 k4 t4 hput hHeld H3 HE HC Hv3 hlk s3 g0 g1 g0' g1' hP hgm
    go_wp2_with (first
      | (
         go_at_call 36; refine hAsk.mono ?_; rintro e w9 ⟨rfl, hw9⟩; subst w9; clear hAsk))
    go_ret
    exact ⟨rfl, HF.out⟩

end

end Go.Proofs.Ytfgfjfemaniaiaa.Px

/-
  Mails, as rows of one's own.
  Conditions: none.
-/
namespace Go.Proofs.Ytfgfjfemaniaiaa.Px
open Go.RowKit Wi By Fl Ba
set_option linter.unusedVariables false
set_option linter.unusedSimpArgs false
set_option maxRecDepth 100000

structure MlV where
  dst : Int
  x : Option Addr
  n : Nat
  c : Nat

def encMl (m : MlV) : List Value := [.int .i64 m.dst, .slice m.x m.n m.c]

abbrev OwnMl (w : World) (B : Nat) (R : Value) (L : List MlV) : Prop := Own w B 70 2 encMl R L

theorem mrow : Row 49 70 2 32 encMl := by
  have hi : (Try.prog.info? 70).map (fun i => (i.zero, i.size, i.bytes)) = some (some (.agg #[.int .i64 0, .slice none 0 0]), 2, 32) := by kernel_rfl
  obtain ⟨i0, h1, h2, h3, h4⟩ := info_parts hi
  exact ⟨Try.underlying49, ⟨i0, _, h1, h2, h3, h4, rfl⟩, by decide, by decide, fun a => rfl, fun a v hv => by simp [encMl] at hv; rcases hv with rfl | rfl <;> rfl⟩

theorem own_ml (w : World) (B : Nat) (hB : B ≤ w.heap.size) (m : MlV) : OwnMl (w.alloc (.cells #[.int .i64 m.dst, .slice m.x m.n m.c] 70)) B (.slice (some ⟨w.heap.size, 0, none⟩) 1 1) [m] := by
  unfold OwnMl Own
  refine ⟨by simp [flat, encMl], .inr ⟨w.heap.size, 1, #[.int .i64 m.dst, .slice m.x m.n m.c], rfl, hB, ?_, ?_, ?_⟩⟩
  · exact heap_alloc_new _ _
  · simp
  · exact ⟨by decide, rfl, rfl⟩

end Go.Proofs.Ytfgfjfemaniaiaa.Px

/-
  Many decrees, plainly: what monitors promised, accepted and asked for, decree by decree, as ghosts that only grow, and why no decree has two values.
  Conditions: none.
-/
namespace Go.Proofs.Ytfgfjfemaniaiaa.Px
open Ba
set_option linter.unusedVariables false
set_option linter.unusedSimpArgs false
set_option maxRecDepth 100000

/- One decree: V a ballot's value, vt who accepted it, P what was promised. -/
structure Slot (n : Nat) (V : Bt → Option (List Nat)) (vt : Nat → Bt → Prop) (P : Nat → Bt) : Prop where
  pz : ∀ k, le z0 (P k)
  vtp : ∀ k b, vt k b → le b (P k)
  vtv : ∀ k b, vt k b → V b ≠ none
  vpos : ∀ b, V b ≠ none → lt z0 b
  own : ∀ b v, V b = some v → ∃ m : Nat, m < n ∧ b.2 = (m : Int) ∧ le b (P m)
  safe : ∀ b v, V b = some v → ∀ b', lt b' b → V b' = some v ∨ Maj n (fun k => ¬ vt k b' ∧ lt b' (P k))

/- What was told of monitor k once: it stays true. -/
structure Was (V : Bt → Option (List Nat)) (vt : Nat → Bt → Prop) (P : Nat → Bt) (k : Nat) (p a : Bt) (d : List Nat) : Prop where
  pp : le p (P k)
  ap : le a p
  acc : a = z0 ∨ (vt k a ∧ V a = some d)
  low : ∀ b, vt k b → lt b p → le b a

/- What monitor k is now. -/
structure Now (V : Bt → Option (List Nat)) (vt : Nat → Bt → Prop) (P : Nat → Bt) (k : Nat) (p a : Bt) (d : List Nat) : Prop where
  eq : p = P k
  ap : le a p
  acc : a = z0 ∨ (vt k a ∧ V a = some d)
  most : ∀ b, vt k b → le b a

/- A step of monitor m. -/
structure Ext (m : Nat) (V : Bt → Option (List Nat)) (vt : Nat → Bt → Prop) (P : Nat → Bt) (V' : Bt → Option (List Nat)) (vt' : Nat → Bt → Prop) (P' : Nat → Bt) : Prop where
  gv : ∀ b u, V b = some u → V' b = some u
  vn : ∀ b, b.2 ≠ (m : Int) → V' b = V b
  gt : ∀ k b, vt k b → vt' k b
  vto : ∀ k b, k ≠ m → vt' k b → vt k b
  vtn : ∀ k b, vt' k b → vt k b ∨ le (P k) b
  po : ∀ k, k ≠ m → P' k = P k
  gp : ∀ k, le (P k) (P' k)

def Chose (n : Nat) (V : Bt → Option (List Nat)) (vt : Nat → Bt → Prop) (v : List Nat) : Prop := ∃ b, V b = some v ∧ Maj n (fun k => vt k b)

section
variable {n m : Nat} {V V' V'' : Bt → Option (List Nat)} {vt vt' vt'' : Nat → Bt → Prop} {P P' P'' : Nat → Bt}

theorem not_lt_le {a b : Bt} (h : lt a b) (k : le b a) : False := k h

theorem Ext.refl (m : Nat) (V : Bt → Option (List Nat)) (vt : Nat → Bt → Prop) (P : Nat → Bt) : Ext m V vt P V vt P :=
  ⟨fun _ _ h => h, fun _ _ => rfl, fun _ _ h => h, fun _ _ _ h => h, fun _ _ h => .inl h, fun _ _ => rfl, fun _ => le_refl _⟩

theorem Ext.trans (h : Ext m V vt P V' vt' P') (k : Ext m V' vt' P' V'' vt'' P'') : Ext m V vt P V'' vt'' P'' :=
  ⟨fun b u q => k.gv b u (h.gv b u q), fun b q => (k.vn b q).trans (h.vn b q), fun i b q => k.gt i b (h.gt i b q), fun i b q r => h.vto i b q (k.vto i b q r),
    fun i b q => by
      rcases k.vtn i b q with r | r
      · exact h.vtn i b r
      · exact .inr (le_trans (h.gp i) r),
    fun i q => (k.po i q).trans (h.po i q), fun i => le_trans (h.gp i) (k.gp i)⟩

theorem Was.ext {k : Nat} {p a : Bt} {d : List Nat} (h : Was V vt P k p a d) (e : Ext m V vt P V' vt' P') : Was V' vt' P' k p a d := by
  refine ⟨le_trans h.pp (e.gp k), h.ap, ?_, fun b q r => ?_⟩
  · rcases h.acc with q | ⟨q1, q2⟩
    · exact .inl q
    · exact .inr ⟨e.gt k a q1, e.gv a d q2⟩
  · rcases e.vtn k b q with s | s
    · exact h.low b s r
    · exact absurd r (le_trans h.pp s)

theorem Now.was {k : Nat} {p a : Bt} {d : List Nat} (h : Now V vt P k p a d) : Was V vt P k p a d :=
  ⟨by rw [h.eq]; exact le_refl _, h.ap, h.acc, fun b q _ => h.most b q⟩

theorem Now.other {k : Nat} {p a : Bt} {d : List Nat} (h : Now V vt P k p a d) (e : Ext m V vt P V' vt' P') (hk : k ≠ m) : Now V' vt' P' k p a d := by
  refine ⟨by rw [e.po k hk]; exact h.eq, h.ap, ?_, fun b q => h.most b (e.vto k b hk q)⟩
  rcases h.acc with q | ⟨q1, q2⟩
  · exact .inl q
  · exact .inr ⟨e.gt k a q1, e.gv a d q2⟩

theorem Slot.nothing (h : Slot n V vt P) (k : Nat) : Was V vt P k z0 z0 [] :=
  ⟨h.pz k, le_refl _, .inl rfl, fun b q r => absurd (h.vpos b (h.vtv k b q)) (fun s => lt_asym r s)⟩

theorem Slot.new (n : Nat) : Slot n (fun _ => none) (fun _ _ => False) (fun _ => z0) :=
  ⟨fun _ => le_refl _, fun _ _ h => h.elim, fun _ _ h => h.elim, fun _ h => absurd rfl h, (fun _ _ h => by cases h), fun _ _ h => by cases h⟩

theorem Now.new (k : Nat) : Now (fun _ => none) (fun _ _ => False) (fun _ => z0) k z0 z0 [] := ⟨rfl, le_refl _, .inl rfl, fun _ h => h.elim⟩

theorem Chose.ext {v : List Nat} (h : Chose n V vt v) (e : Ext m V vt P V' vt' P') : Chose n V' vt' v := by
  obtain ⟨b, h1, h2⟩ := h
  exact ⟨b, e.gv b v h1, h2.mono fun i _ q => e.gt i b q⟩

/- No decree has two values. -/
theorem Slot.one (h : Slot n V vt P) {u v : List Nat} (hu : Chose n V vt u) (hv : Chose n V vt v) : u = v := by
  obtain ⟨b, u1, u2⟩ := hu
  obtain ⟨c, v1, v2⟩ := hv
  rcases lt_tri b c with t | t | t
  · rcases h.safe c v v1 b t with s | s
    · rw [u1] at s
      injection s
    · obtain ⟨i, hi, r1, r2⟩ := u2.meet s
      exact absurd r1 r2.1
  · subst t
    rw [u1] at v1
    injection v1
  · rcases h.safe b u u1 c t with s | s
    · rw [v1] at s
      injection s with s
      exact s.symm
    · obtain ⟨i, hi, r1, r2⟩ := v2.meet s
      exact absurd r1 r2.1

theorem up_le {b : Bt} (hb : le (P m) b) : ∀ i, le (P i) (up P m b i) := fun i => by
  by_cases e : i = m
  · subst e
    rw [up_same]
    exact hb
  · rw [up_other _ _ e]
    exact le_refl _

/- Monitor m promises. -/
theorem Slot.promise (h : Slot n V vt P) (m : Nat) (b : Bt) (hb : le (P m) b) : Slot n V vt (up P m b) ∧ Ext m V vt P V vt (up P m b) := by
  have hle := up_le (P := P) hb
  refine ⟨⟨fun k => le_trans (h.pz k) (hle k), fun k c q => le_trans (h.vtp k c q) (hle k), h.vtv, h.vpos, fun c v q => ?_, fun c v q b' hb' => ?_⟩, ?_⟩
  · obtain ⟨i, h1, h2, h3⟩ := h.own c v q
    exact ⟨i, h1, h2, le_trans h3 (hle i)⟩
  · rcases h.safe c v q b' hb' with s | s
    · exact .inl s
    · exact .inr (s.mono fun i _ r => ⟨r.1, lt_of_lt_le r.2 (hle i)⟩)
  · exact ⟨fun _ _ q => q, fun _ _ => rfl, fun _ _ q => q, fun _ _ _ q => q, fun _ _ q => .inl q, fun i hi => up_other _ _ hi, hle⟩

theorem Now.promise {p a : Bt} {d : List Nat} (h : Now V vt P m p a d) (b : Bt) (hb : le p b) : Now V vt (up P m b) m b a d :=
  ⟨(up_same _ _ _).symm, le_trans h.ap hb, h.acc, h.most⟩

/- Monitor m accepts what was asked for. -/
theorem Slot.vote (h : Slot n V vt P) (m : Nat) (b : Bt) (hb : le (P m) b) (v : List Nat) (hv : V b = some v) :
    Slot n V (fun k c => vt k c ∨ (k = m ∧ c = b)) (up P m b) ∧ Ext m V vt P V (fun k c => vt k c ∨ (k = m ∧ c = b)) (up P m b) := by
  have hle := up_le (P := P) hb
  refine ⟨⟨fun k => le_trans (h.pz k) (hle k), fun k c q => ?_, fun k c q => ?_, h.vpos, fun c u q => ?_, fun c u q b' hb' => ?_⟩, ?_⟩
  · rcases q with q | ⟨rfl, rfl⟩
    · exact le_trans (h.vtp k c q) (hle k)
    · rw [up_same]
      exact le_refl _
  · rcases q with q | ⟨_, rfl⟩
    · exact h.vtv k c q
    · rw [hv]
      simp
  · obtain ⟨i, h1, h2, h3⟩ := h.own c u q
    exact ⟨i, h1, h2, le_trans h3 (hle i)⟩
  · rcases h.safe c u q b' hb' with s | s
    · exact .inl s
    · refine .inr (s.mono fun i _ r => ⟨fun w => ?_, lt_of_lt_le r.2 (hle i)⟩)
      rcases w with w | ⟨w1, w2⟩
      · exact r.1 w
      · subst w1
        subst w2
        exact hb r.2
  · refine ⟨fun _ _ q => q, fun _ _ => rfl, fun _ _ q => .inl q, fun k c hk q => ?_, fun k c q => ?_, fun i hi => up_other _ _ hi, hle⟩
    · rcases q with q | ⟨q, _⟩
      · exact q
      · exact absurd q hk
    · rcases q with q | ⟨rfl, rfl⟩
      · exact .inl q
      · exact .inr hb

theorem Now.vote {p a : Bt} {d : List Nat} (h : Now V vt P m p a d) (b : Bt) (hb : le p b) (v : List Nat) (hv : V b = some v) (hs : ∀ c, vt m c → le c (P m)) :
    Now V (fun k c => vt k c ∨ (k = m ∧ c = b)) (up P m b) m b b v :=
  ⟨(up_same _ _ _).symm, le_refl _, .inr ⟨.inr ⟨rfl, rfl⟩, hv⟩, fun c q => by
    rcases q with q | ⟨_, q⟩
    · exact le_trans (hs c q) (by rw [← h.eq]; exact hb)
    · rw [q]
      exact le_refl _⟩

/- What those that promised leave open. -/
def Open (n : Nat) (M : Nat → Option (Bt × List Nat)) (v : List Nat) : Prop :=
  (∀ k, k < n → ∀ a d, M k = some (a, d) → a = z0) ∨ ∃ k a, k < n ∧ M k = some (a, v) ∧ a ≠ z0 ∧ ∀ i, i < n → ∀ a' d', M i = some (a', d') → a' = z0 ∨ le a' a

/- Monitor m asks for a value. -/
theorem Slot.ask (h : Slot n V vt P) (m : Nat) (hm : m < n) (b : Bt) (hbm : b.2 = (m : Int)) (hz : lt z0 b) (hbp : le b (P m)) (hV : V b = none) (M : Nat → Option (Bt × List Nat)) (hM : ∀ k, k < n → ∀ a d, M k = some (a, d) → Was V vt P k b a d) (hq : Maj n (fun k => M k ≠ none)) (v : List Nat) (hp : Open n M v) :
    Slot n (fun c => if c = b then some v else V c) vt P ∧ Ext m V vt P (fun c => if c = b then some v else V c) vt P := by
  have old : ∀ c u, V c = some u → (if c = b then some v else V c) = some u := fun c u hc => by
    by_cases e : c = b
    · subst e
      rw [hV] at hc
      cases hc
    · rw [if_neg e]
      exact hc
  have oldne : ∀ c, V c ≠ none → (if c = b then some v else V c) ≠ none := fun c hc => by
    by_cases e : c = b
    · rw [if_pos e]
      simp
    · rw [if_neg e]
      exact hc
  have all : ∀ b', lt b' b → (∀ k, k < n → ∀ a d, M k = some (a, d) → lt a b' ∨ a = z0) → lt z0 b' → Maj n (fun k => ¬ vt k b' ∧ lt b' (P k)) := fun b' hb' hall hb0 => hq.mono fun k hk q => by
    cases e : M k with
    | none => exact absurd e q
    | some x =>
      obtain ⟨a, d⟩ := x
      have w := hM k hk a d e
      refine ⟨fun hvt => ?_, lt_of_lt_le hb' w.pp⟩
      have := w.low b' hvt hb'
      rcases hall k hk a d e with h1 | h1
      · exact this h1
      · subst h1
        exact this hb0
  have low : ∀ b', ¬ lt z0 b' → lt b' b → Maj n (fun k => ¬ vt k b' ∧ lt b' (P k)) := fun b' h0 hb' => hq.mono fun k hk q => by
    cases e : M k with
    | none => exact absurd e q
    | some x =>
      obtain ⟨a, d⟩ := x
      exact ⟨fun hvt => h0 (h.vpos b' (h.vtv k b' hvt)), lt_of_lt_le hb' (hM k hk a d e).pp⟩
  refine ⟨⟨h.pz, h.vtp, fun k c q => oldne c (h.vtv k c q), fun c hc => ?_, fun c u hc => ?_, fun c u hc b' hb' => ?_⟩, old, fun c hc => if_neg (fun e => hc (by rw [e]; exact hbm)), fun _ _ q => q, fun _ _ _ q => q, fun _ _ q => .inl q, fun _ _ => rfl, fun _ => le_refl _⟩
  · by_cases e : c = b
    · subst e
      exact hz
    · simp only [if_neg e] at hc
      exact h.vpos c hc
  · by_cases e : c = b
    · subst e
      exact ⟨m, hm, hbm, hbp⟩
    · simp only [if_neg e] at hc
      exact h.own c u hc
  · by_cases e : c = b
    · subst e
      simp only [if_true] at hc
      injection hc with hc
      subst hc
      by_cases h0 : lt z0 b'
      · rcases hp with hp | ⟨k, a, hk, ha, hane, hmax⟩
        · exact .inr (all b' hb' (fun k hk a d e => .inr (hp k hk a d e)) h0)
        · have hVa := ((hM k hk a v ha).acc.resolve_left hane).2
          rcases lt_tri b' a with t | t | t
          · rcases h.safe a v hVa b' t with s | s
            · exact .inl (old _ _ s)
            · exact .inr s
          · subst t
            exact .inl (old _ _ hVa)
          · exact .inr (all b' hb' (fun i hi a' d' e => by
              rcases hmax i hi a' d' e with r | r
              · exact .inr r
              · exact .inl (lt_of_le_lt r t)) h0)
      · exact .inr (low b' h0 hb')
    · simp only [if_neg e] at hc
      rcases h.safe c u hc b' hb' with s | s
      · exact .inl (old _ _ s)
      · exact .inr s

/- A majority of what was told accepted one ballot. -/
theorem Slot.chose (h : Slot n V vt P) (p a : Nat → Bt) (d : Nat → List Nat) (hW : ∀ k, k < n → Was V vt P k (p k) (a k) (d k)) (b : Bt) (hb : b ≠ z0) (hq : Maj n (fun k => a k = b)) (k : Nat) (hk : k < n) (ha : a k = b) : Chose n V vt (d k) := by
  refine ⟨b, ?_, hq.mono fun i hi e => ?_⟩
  · have := ((hW k hk).acc.resolve_left (by rw [ha]; exact hb)).2
    rwa [ha] at this
  · have := ((hW i hi).acc.resolve_left (by rw [e]; exact hb)).1
    rwa [e] at this

/- A ballot of one's own above all that one promised was never asked for. -/
theorem Slot.fresh (h : Slot n V vt P) (m : Nat) (b : Bt) (hbm : b.2 = (m : Int)) (hb : lt (P m) b) : V b = none := by
  cases e : V b with
  | none => rfl
  | some v =>
    obtain ⟨i, hi, h2, h3⟩ := h.own b v e
    rw [hbm] at h2
    have : i = m := by omega
    subst this
    exact absurd hb h3

end

end Go.Proofs.Ytfgfjfemaniaiaa.Px

/-
  Monitors and messages held against the ghosts of 'PxAgree': what stays true whatever is delivered, lost or doubled.
  Conditions: none.
-/
namespace Go.Proofs.Ytfgfjfemaniaiaa.Px
open Go.RowKit Wi By Fl Ba
set_option linter.unusedVariables false
set_option linter.unusedSimpArgs false
set_option maxRecDepth 100000

structure Gh where
  V : Nat → Bt → Option (List Nat)
  vt : Nat → Nat → Bt → Prop
  P : Nat → Nat → Bt

/- A decree that somebody proposed. -/
structure Asked (n : Nat) (said : ByteArray → Prop) (d : Dc) : Prop where
  ok : DOk d
  ser : 1 ≤ d.ser
  few : d.ser ≤ 2147483647
  mon : d.mon < n
  said : said d.val

structure GI (n : Nat) (said : ByteArray → Prop) (G : Gh) : Prop where
  slot : ∀ s, Slot n (G.V s) (G.vt s) (G.P s)
  val : ∀ s b v, G.V s b = some v → ∃ d, v = dbytes d ∧ Asked n said d

def GExt (m : Nat) (G G' : Gh) : Prop := ∀ s, Ext m (G.V s) (G.vt s) (G.P s) (G'.V s) (G'.vt s) (G'.P s)
def Told (G : Gh) (s k : Nat) (a : Ac) : Prop := Was (G.V s) (G.vt s) (G.P s) k a.p a.a a.d
def Ch (n : Nat) (G : Gh) (s : Nat) (v : List Nat) : Prop := Chose n (G.V s) (G.vt s) v

structure BidOk (n : Nat) (G : Gh) (id len : Nat) (b : Bd) : Prop where
  num : b.num = len + 1
  mon : b.bal.2 = (id : Int)
  pos : lt z0 b.bal
  own : le b.bal (G.P b.num id)
  val : G.V b.num b.bal = if b.val = [] then none else some b.val
  told : ∀ k, k < n → Told G b.num k (b.told k)

structure NodeOk (n : Nat) (said : ByteArray → Prop) (G : Gh) (st : Nd) : Prop where
  sn : st.n = n
  sid : st.id < n
  dec : ∀ i d, st.dec[i]? = some d → Ch n G (i + 1) (dbytes d) ∧ Asked n said d
  acc : ∀ s, st.dec.length < s → Now (G.V s) (G.vt s) (G.P s) st.id (st.acc s).p (st.acc s).a (st.acc s).d
  may : ∀ s, st.dec.length < s → mayA (st.acc s).p (st.acc s).a (st.acc s).d.length = true
  bid : ∀ b, st.bid = some b → BidOk n G st.id st.dec.length b
  wait : ∀ d ∈ st.wait, Asked n said d

structure MsgOk (n : Nat) (said : ByteArray → Prop) (G : Gh) (fr : Nat) (m : Ms) : Prop where
  acc : m.kind = 2 → G.V m.num m.st.p = some m.st.d
  told : m.kind = 3 → Told G m.num fr m.st
  decs : m.kind = 5 → ∀ i d, m.decs[i]? = some d → Ch n G (m.num + i) (dbytes d) ∧ Asked n said d

theorem upA_other (M : Nat → Ac) {k i : Nat} (a : Ac) (h : i ≠ k) : upA M k a i = M i := by simp [upA, h]
theorem upA_same (M : Nat → Ac) (k : Nat) (a : Ac) : upA M k a k = a := by simp [upA]

section
variable {n m : Nat} {said said' : ByteArray → Prop} {G G' G'' : Gh} {st : Nd}

theorem GExt.refl (m : Nat) (G : Gh) : GExt m G G := fun s => Ext.refl _ _ _ _
theorem GExt.trans (h : GExt m G G') (k : GExt m G' G'') : GExt m G G'' := fun s => (h s).trans (k s)

theorem Asked.more {d : Dc} (h : Asked n said d) (k : ∀ v, said v → said' v) : Asked n said' d := ⟨h.ok, h.ser, h.few, h.mon, k _ h.said⟩

theorem BidOk.other {id len : Nat} {b : Bd} (h : BidOk n G id len b) (e : GExt m G G') (hi : id ≠ m) : BidOk n G' id len b := by
  refine ⟨h.num, h.mon, h.pos, le_trans h.own ((e _).gp id), ?_, fun k hk => (h.told k hk).ext (e _)⟩
  rw [(e _).vn b.bal (by rw [h.mon]; omega)]
  exact h.val

/- What another one does turns nothing of it. -/
theorem NodeOk.other (h : NodeOk n said G st) (e : GExt m G G') (hi : st.id ≠ m) (hs : ∀ v, said v → said' v) : NodeOk n said' G' st :=
  ⟨h.sn, h.sid, fun i d q => ⟨(h.dec i d q).1.ext (e _), (h.dec i d q).2.more hs⟩, fun s q => (h.acc s q).other (e s) hi, h.may, fun b q => (h.bid b q).other e hi, fun d q => (h.wait d q).more hs⟩

theorem MsgOk.ext {fr : Nat} {u : Ms} (h : MsgOk n said G fr u) (e : GExt m G G') (hs : ∀ v, said v → said' v) : MsgOk n said' G' fr u :=
  ⟨fun q => (e _).gv _ _ (h.acc q), fun q => Was.ext (h.told q) (e _), fun q i d r => ⟨(h.decs q i d r).1.ext (e _), (h.decs q i d r).2.more hs⟩⟩

theorem GI.more (h : GI n said G) (k : ∀ v, said v → said' v) : GI n said' G := ⟨h.slot, fun s b v q => by
  obtain ⟨d, h1, h2⟩ := h.val s b v q
  exact ⟨d, h1, h2.more k⟩⟩

/- Two monitors know the same of a decree. -/
theorem GI.same (h : GI n said G) {s : Nat} {u v : List Nat} (hu : Ch n G s u) (hv : Ch n G s v) : u = v := (h.slot s).one hu hv

theorem GI.new (n : Nat) (said : ByteArray → Prop) : GI n said ⟨fun _ _ => none, fun _ _ _ => False, fun _ _ => z0⟩ := ⟨fun s => Slot.new n, fun s b v q => by cases q⟩

theorem NodeOk.crashed (h : NodeOk n said G st) : NodeOk n said G (crashed st) := ⟨h.sn, h.sid, h.dec, h.acc, h.may, (fun b q => by cases q), (fun d q => by cases q)⟩

theorem NodeOk.proposed (h : NodeOk n said G st) (v : ByteArray) (hv : said v) (hn : v.size ≤ 4096) (hser : st.ser < 2147483647) (hn7 : n ≤ 7) : NodeOk n said G (proposed st v) := by
  refine ⟨h.sn, h.sid, h.dec, h.acc, h.may, h.bid, fun d q => ?_⟩
  rcases List.mem_append.1 q with r | r
  · exact h.wait d r
  · simp only [List.mem_singleton] at r
    subst r
    have := h.sid
    exact ⟨⟨by show st.id < _; omega, by show st.ser + 1 < _; omega, hn⟩, by show 1 ≤ st.ser + 1; omega, by show st.ser + 1 ≤ _; omega, h.sid, hv⟩

/- The next decree is learnt. -/
theorem NodeOk.learned (h : NodeOk n said G st) (d : Dc) (hc : Ch n G (st.dec.length + 1) (dbytes d)) (hd : Asked n said d) : NodeOk n said G (learned st d) := by
  refine ⟨h.sn, h.sid, fun i e q => ?_, fun s q => ?_, fun s q => ?_, (fun b q => by cases q), fun e q => h.wait e (left_mem q)⟩
  · have q : (st.dec ++ [d])[i]? = some e := q
    by_cases hi : i < st.dec.length
    · rw [List.getElem?_append_left hi] at q
      exact h.dec i e q
    · rw [List.getElem?_append_right (by omega)] at q
      have hi0 : i - st.dec.length = 0 := by
        have := (List.getElem?_eq_some_iff.1 q).1
        simp at this
        omega
      rw [hi0] at q
      simp at q
      subst q
      have : i = st.dec.length := by omega
      subst this
      exact ⟨hc, hd⟩
  · have q : (st.dec ++ [d]).length < s := q
    simp at q
    have e : (Px.learned st d).acc s = st.acc s := upA_other _ _ (by omega)
    rw [e]
    exact h.acc s (by omega)
  · have q : (st.dec ++ [d]).length < s := q
    simp at q
    have e : (Px.learned st d).acc s = st.acc s := upA_other _ _ (by omega)
    rw [e]
    exact h.may s (by omega)

end

end Go.Proofs.Ytfgfjfemaniaiaa.Px

/-
  Steps of a monitor, held against the ghosts of 'PxAgree': it promises, accepts, begins, hears, asks for a value.
  Conditions: none.
-/
namespace Go.Proofs.Ytfgfjfemaniaiaa.Px
open Go.RowKit Wi By Fl Ba
set_option linter.unusedVariables false
set_option linter.unusedSimpArgs false
set_option maxRecDepth 100000

/- The ghosts of one decree are others. -/
def GS (G : Gh) (s : Nat) (V : Bt → Option (List Nat)) (vt : Nat → Bt → Prop) (P : Nat → Bt) : Gh :=
  ⟨fun i => if i = s then V else G.V i, fun i => if i = s then vt else G.vt i, fun i => if i = s then P else G.P i⟩

section
variable {n m s : Nat} {said : ByteArray → Prop} {G : Gh} {st : Nd} {V : Bt → Option (List Nat)} {vt : Nat → Bt → Prop} {P : Nat → Bt}

theorem GS_V : (GS G s V vt P).V s = V := if_pos rfl
theorem GS_vt : (GS G s V vt P).vt s = vt := if_pos rfl
theorem GS_P : (GS G s V vt P).P s = P := if_pos rfl
theorem GS_Vo {i : Nat} (h : i ≠ s) : (GS G s V vt P).V i = G.V i := if_neg h
theorem GS_vto {i : Nat} (h : i ≠ s) : (GS G s V vt P).vt i = G.vt i := if_neg h
theorem GS_Po {i : Nat} (h : i ≠ s) : (GS G s V vt P).P i = G.P i := if_neg h

theorem GS_ext (e : Ext m (G.V s) (G.vt s) (G.P s) V vt P) : GExt m G (GS G s V vt P) := fun i => by
  by_cases h : i = s
  · subst h
    rw [GS_V, GS_vt, GS_P]
    exact e
  · rw [GS_Vo h, GS_vto h, GS_Po h]
    exact Ext.refl _ _ _ _

theorem GS_gi (h : GI n said G) (hs : Slot n V vt P) (hv : ∀ b v, V b = some v → ∃ d, v = dbytes d ∧ Asked n said d) : GI n said (GS G s V vt P) := by
  refine ⟨fun i => ?_, fun i b v q => ?_⟩
  · by_cases e : i = s
    · subst e
      rw [GS_V, GS_vt, GS_P]
      exact hs
    · rw [GS_Vo e, GS_vto e, GS_Po e]
      exact h.slot i
  · by_cases e : i = s
    · subst e
      rw [GS_V] at q
      exact hv b v q
    · rw [GS_Vo e] at q
      exact h.val i b v q

/- Its own bid, while no value of its ballot is turned. -/
theorem BidOk.grow {G' : Gh} {id len : Nat} {b : Bd} (h : BidOk n G id len b) (e : GExt m G G') (hv : G'.V b.num b.bal = G.V b.num b.bal) : BidOk n G' id len b :=
  ⟨h.num, h.mon, h.pos, le_trans h.own ((e _).gp id), hv.trans h.val, fun k hk => (h.told k hk).ext (e _)⟩

/- What it promised and accepted of one decree is other. -/
theorem NodeOk.setAcc (h : NodeOk n said G st) (hs : st.dec.length < s) (e : Ext st.id (G.V s) (G.vt s) (G.P s) (G.V s) vt P) (a : Ac) (hn : Now (G.V s) vt P st.id a.p a.a a.d) (hm : mayA a.p a.a a.d.length = true) :
    NodeOk n said (GS G s (G.V s) vt P) { st with acc := upA st.acc s a } := by
  have he := GS_ext e
  refine ⟨h.sn, h.sid, fun i d q => ⟨(h.dec i d q).1.ext (he _), (h.dec i d q).2⟩, fun i q => ?_, fun i q => ?_, fun b q => (h.bid b q).grow he ?_, h.wait⟩
  · have q : st.dec.length < i := q
    by_cases e1 : i = s
    · subst e1
      show Now _ _ _ st.id (upA st.acc i a i).p (upA st.acc i a i).a (upA st.acc i a i).d
      rw [GS_V, GS_vt, GS_P, upA_same]
      exact hn
    · show Now _ _ _ st.id (upA st.acc s a i).p (upA st.acc s a i).a (upA st.acc s a i).d
      rw [GS_Vo e1, GS_vto e1, GS_Po e1, upA_other _ _ e1]
      exact h.acc i q
  · have q : st.dec.length < i := q
    by_cases e1 : i = s
    · subst e1
      show mayA (upA st.acc i a i).p (upA st.acc i a i).a (upA st.acc i a i).d.length = true
      rw [upA_same]
      exact hm
    · show mayA (upA st.acc s a i).p (upA st.acc s a i).a (upA st.acc s a i).d.length = true
      rw [upA_other _ _ e1]
      exact h.may i q
  · by_cases e1 : b.num = s
    · rw [e1, GS_V]
    · rw [GS_Vo e1]

theorem ltb_iff (a b : Bt) : ltb a b = true ↔ lt a b := by
  unfold ltb lt
  split <;> simp <;> omega

theorem free_le {p a b : Bt} {k : Nat} (h : freeb p a k b = true) : le p b ∧ mayb b = true ∧ mayA p a k = true := by
  unfold freeb at h
  simp only [Bool.and_eq_true, Bool.not_eq_true'] at h
  exact ⟨(fun q => by rw [(ltb_iff b p).2 q] at h; cases h.2), h.1.2, h.1.1⟩

theorem may_pos {b : Bt} (h : mayb b = true) : lt z0 b := by
  unfold mayb at h
  simp only [Bool.and_eq_true, decide_eq_true_eq] at h
  unfold lt z0
  simp
  omega

theorem mzb_may {b : Bt} (h : mayb b = true) : mzb b = true := by
  unfold mzb
  rw [h]
  simp

theorem may_prep {p a b : Bt} {k : Nat} (h : freeb p a k b = true) : mayA b a k = true := by
  obtain ⟨h1, h2, h3⟩ := free_le h
  unfold mayA at h3 ⊢
  simp only [Bool.and_eq_true, Bool.not_eq_true'] at h3 ⊢
  refine ⟨⟨⟨mzb_may h2, h3.1.1.2⟩, ?_⟩, h3.2⟩
  cases q : ltb b a with
  | false => rfl
  | true =>
    have q1 := (ltb_iff b a).1 q
    have q2 : le a p := fun r => by have := (ltb_iff p a).2 r; rw [this] at h3; cases h3.1.2
    exact absurd q1 (le_trans q2 h1)

theorem may_acc {b : Bt} {k : Nat} (h : mayb b = true) : mayA b b k = true := by
  unfold mayA
  simp only [Bool.and_eq_true, Bool.not_eq_true']
  refine ⟨⟨⟨mzb_may h, mzb_may h⟩, ?_⟩, ?_⟩
  · cases q : ltb b b with
    | false => rfl
    | true => exact absurd ((ltb_iff b b).1 q) (lt_irr b)
  · have : zb b = false := by
      cases q : zb b with
      | false => rfl
      | true =>
        unfold zb at q
        simp only [Bool.and_eq_true, decide_eq_true_eq] at q
        have e : b = z0 := bt_ext q.1 q.2
        have := may_pos h
        rw [e] at this
        exact absurd this (lt_irr _)
    rw [this]
    rfl

/- It promises a ballot. -/
theorem NodeOk.promise (h : NodeOk n said G st) (g : GI n said G) (s : Nat) (hs : st.dec.length < s) (b : Bt) (hf : freeb (st.acc s).p (st.acc s).a (st.acc s).d.length b = true) :
    ∃ G', GI n said G' ∧ GExt st.id G G' ∧ NodeOk n said G' { st with acc := upA st.acc s ⟨b, (st.acc s).a, (st.acc s).d⟩ } ∧ Told G' s st.id ⟨b, (st.acc s).a, (st.acc s).d⟩ := by
  have hN := h.acc s hs
  obtain ⟨h1, h2⟩ := (g.slot s).promise st.id b (by rw [← hN.eq]; exact (free_le hf).1)
  have hn := hN.promise b (free_le hf).1
  refine ⟨_, GS_gi (s := s) g h1 (g.val s), GS_ext h2, h.setAcc hs h2 ⟨b, _, _⟩ hn (may_prep hf), ?_⟩
  unfold Told
  rw [GS_V, GS_vt, GS_P]
  exact hn.was

/- It accepts what was asked for. -/
theorem NodeOk.vote (h : NodeOk n said G st) (g : GI n said G) (s : Nat) (hs : st.dec.length < s) (b : Bt) (v : List Nat) (hv : G.V s b = some v) (hf : freeb (st.acc s).p (st.acc s).a (st.acc s).d.length b = true) :
    ∃ G', GI n said G' ∧ GExt st.id G G' ∧ NodeOk n said G' { st with acc := upA st.acc s ⟨b, b, v⟩ } ∧ Told G' s st.id ⟨b, b, v⟩ ∧ (∀ i, G'.V i = G.V i) := by
  have hN := h.acc s hs
  obtain ⟨h1, h2⟩ := (g.slot s).vote st.id b (by rw [← hN.eq]; exact (free_le hf).1) v hv
  have hn := hN.vote b (free_le hf).1 v hv (fun c q => (g.slot s).vtp _ c q)
  refine ⟨_, GS_gi (s := s) g h1 (g.val s), GS_ext h2, h.setAcc hs h2 ⟨b, b, v⟩ hn (may_acc (free_le hf).2.1), ?_, fun i => ?_⟩
  · unfold Told
    rw [GS_V, GS_vt, GS_P]
    exact hn.was
  · by_cases e : i = s
    · subst e
      rw [GS_V]
    · rw [GS_Vo e]

/- What it is now, told. -/
theorem NodeOk.tell (h : NodeOk n said G st) (s : Nat) (hs : st.dec.length < s) : Told G s st.id (st.acc s) := (h.acc s hs).was

/- It hears of another one. -/
theorem NodeOk.hear (h : NodeOk n said G st) (b : Bd) (hb : st.bid = some b) (k : Nat) (a : Ac) (ht : Told G b.num k a) : NodeOk n said G { st with bid := some { b with told := upA b.told k a } } := by
  have q := h.bid b hb
  refine ⟨h.sn, h.sid, h.dec, h.acc, h.may, fun c e => ?_, h.wait⟩
  have e : some { b with told := upA b.told k a } = some c := e
  injection e with e
  subst e
  refine ⟨q.num, q.mon, q.pos, q.own, q.val, fun i hi => ?_⟩
  by_cases e : i = k
  · subst e
    show Told G b.num i (upA b.told i a i)
    rw [upA_same]
    exact ht
  · show Told G b.num i (upA b.told k a i)
    rw [upA_other _ _ e]
    exact q.told i hi

/- It begins a bid of a ballot above all that it promised. -/
theorem NodeOk.begin_ (h : NodeOk n said G st) (g : GI n said G) (b : Bt) (hbm : b.2 = (st.id : Int)) (hlt : lt (st.acc (st.dec.length + 1)).p b) (hf : freeb (st.acc (st.dec.length + 1)).p (st.acc (st.dec.length + 1)).a (st.acc (st.dec.length + 1)).d.length b = true) :
    ∃ G', GI n said G' ∧ GExt st.id G G' ∧ NodeOk n said G' { st with acc := upA st.acc (st.dec.length + 1) ⟨b, (st.acc (st.dec.length + 1)).a, (st.acc (st.dec.length + 1)).d⟩, bid := some ⟨st.dec.length + 1, b, [], fun _ => noAc⟩ } := by
  have hV : G.V (st.dec.length + 1) b = none := (g.slot _).fresh st.id b hbm (by rw [← (h.acc _ (by omega)).eq]; exact hlt)
  have hN := h.acc (st.dec.length + 1) (by omega)
  obtain ⟨h1, h2⟩ := (g.slot (st.dec.length + 1)).promise st.id b (by rw [← hN.eq]; exact (free_le hf).1)
  have hn := hN.promise b (free_le hf).1
  have hk := h.setAcc (by omega) h2 ⟨b, _, _⟩ hn (may_prep hf)
  have hg := GS_gi (s := st.dec.length + 1) g h1 (g.val _)
  refine ⟨_, hg, GS_ext h2, hk.sn, hk.sid, hk.dec, hk.acc, hk.may, fun c e => ?_, hk.wait⟩
  have e : some (⟨st.dec.length + 1, b, [], fun _ => noAc⟩ : Bd) = some c := e
  injection e with e
  subst e
  refine ⟨rfl, hbm, may_pos (free_le hf).2.1, ?_, ?_, fun k hk => (hg.slot _).nothing k⟩
  · show le b ((GS G _ _ _ _).P (st.dec.length + 1) st.id)
    rw [GS_P, up_same]
    exact le_refl _
  · show (GS G _ _ _ _).V (st.dec.length + 1) b = _
    rw [GS_V, hV]
    rfl

end

end Go.Proofs.Ytfgfjfemaniaiaa.Px

/-
  Steps of a monitor, held against the ghosts of 'PxAgree': it asks for a value, and comes to know that one is chosen.
  Conditions: none.
-/
namespace Go.Proofs.Ytfgfjfemaniaiaa.Px
open Go.RowKit Wi By Fl Ba
set_option linter.unusedVariables false
set_option linter.unusedSimpArgs false
set_option maxRecDepth 100000

section
variable {n m s : Nat} {said : ByteArray → Prop} {G : Gh} {st : Nd}

theorem uv_some (k : Nat) : uv k ≠ [] := fun e => by
  have := uv_pos k
  rw [e] at this
  cases this

theorem dbytes_some (d : Dc) : dbytes d ≠ [] := fun e => by
  unfold dbytes at e
  simp only [List.append_eq_nil_iff] at e
  exact uv_some _ e.1.1

/- It asks for a value that those leave open that promised. -/
theorem NodeOk.pick (h : NodeOk n said G st) (g : GI n said G) (b : Bd) (hb : st.bid = some b) (hval : b.val = []) (M : Nat → Option (Bt × List Nat)) (hM : ∀ k, k < n → ∀ a d, M k = some (a, d) → Told G b.num k ⟨b.bal, a, d⟩) (hq : Maj n (fun k => M k ≠ none)) (v : List Nat) (hp : Open n M v) (hv : ∃ d, v = dbytes d ∧ Asked n said d) :
    ∃ G', GI n said G' ∧ GExt st.id G G' ∧ NodeOk n said G' { st with bid := some { b with val := v } } ∧ G'.V b.num b.bal = some v := by
  have q := h.bid b hb
  have hV : G.V b.num b.bal = none := by rw [q.val, if_pos hval]
  obtain ⟨h1, h2⟩ := (g.slot b.num).ask st.id h.sid b.bal q.mon q.pos q.own hV M hM hq v hp
  have hg : GI n said (GS G b.num (fun c => if c = b.bal then some v else G.V b.num c) (G.vt b.num) (G.P b.num)) := GS_gi g h1 (fun c u hc => by
    by_cases e : c = b.bal
    · simp only [if_pos e] at hc
      injection hc with hc
      subst hc
      exact hv
    · simp only [if_neg e] at hc
      exact g.val _ c u hc)
  have he := GS_ext (G := G) (s := b.num) h2
  have hVv : (GS G b.num (fun c => if c = b.bal then some v else G.V b.num c) (G.vt b.num) (G.P b.num)).V b.num b.bal = some v := by rw [GS_V]; exact if_pos rfl
  have hvne : v ≠ [] := by
    obtain ⟨d, e, _⟩ := hv
    rw [e]
    exact dbytes_some d
  refine ⟨_, hg, he, ⟨h.sn, h.sid, fun i d r => ⟨(h.dec i d r).1.ext (he _), (h.dec i d r).2⟩, fun i r => ?_, h.may, fun c e => ?_, h.wait⟩, hVv⟩
  · have hN := h.acc i r
    by_cases e : i = b.num
    · subst e
      rw [GS_V, GS_vt, GS_P]
      refine ⟨hN.eq, hN.ap, ?_, hN.most⟩
      rcases hN.acc with t | ⟨t1, t2⟩
      · exact .inl t
      · exact .inr ⟨t1, h2.gv _ _ t2⟩
    · rw [GS_Vo e, GS_vto e, GS_Po e]
      exact hN
  · have e : some { b with val := v } = some c := e
    injection e with e
    subst e
    refine ⟨q.num, q.mon, q.pos, ?_, ?_, fun k hk => (q.told k hk).ext (he _)⟩
    · show le b.bal ((GS G b.num _ _ _).P b.num st.id)
      rw [GS_P]
      exact q.own
    · show (GS G b.num _ _ _).V b.num b.bal = if v = [] then none else some v
      rw [hVv, if_neg hvne]

/- What it sees chosen is chosen. -/
theorem NodeOk.chosen (h : NodeOk n said G st) (g : GI n said G) (b : Bd) (hb : st.bid = some b) (S : Nat → Ac) (hS : ∀ k, k < n → Told G b.num k (S k)) (c : Bt) (hc : c ≠ z0) (hq : Maj n (fun k => (S k).a = c)) (k : Nat) (hk : k < n) (ha : (S k).a = c) :
    Ch n G (st.dec.length + 1) (S k).d ∧ ∃ d, (S k).d = dbytes d ∧ Asked n said d := by
  have q := h.bid b hb
  have hC := (g.slot b.num).chose (fun i => (S i).p) (fun i => (S i).a) (fun i => (S i).d) hS c hc hq k hk ha
  refine ⟨by rw [← q.num]; exact hC, ?_⟩
  obtain ⟨u, h1, _⟩ := hC
  exact g.val _ u _ h1

/- The states that a bid sees: what the others told, and its own. -/
def seenA (st : Nd) (b : Bd) : Nat → Ac := upA b.told st.id (st.acc b.num)

theorem NodeOk.seen (h : NodeOk n said G st) (b : Bd) (hb : st.bid = some b) : ∀ k, k < n → Told G b.num k (seenA st b k) := fun k hk => by
  have q := h.bid b hb
  unfold seenA
  by_cases e : k = st.id
  · subst e
    rw [upA_same]
    exact h.tell b.num (by rw [q.num]; omega)
  · rw [upA_other _ _ e]
    exact q.told k hk

/- Of two monitors one's decrees are the beginning of the other's. -/
theorem NodeOk.agree {st' : Nd} (h : NodeOk n said G st) (k : NodeOk n said G st') (g : GI n said G) (i : Nat) (d d' : Dc) (hd : st.dec[i]? = some d) (hd' : st'.dec[i]? = some d') : dbytes d = dbytes d' :=
  g.same (h.dec i d hd).1 (k.dec i d' hd').1

theorem MsgOk.say (fr num : Nat) : MsgOk n said G fr ⟨4, num, noAc, 0, []⟩ := ⟨(fun e => by cases e), (fun e => by cases e), (fun e => by cases e)⟩
theorem MsgOk.prepare (fr num : Nat) (a : Ac) : MsgOk n said G fr ⟨1, num, a, 0, []⟩ := ⟨(fun e => by cases e), (fun e => by cases e), (fun e => by cases e)⟩
theorem MsgOk.accept (fr num : Nat) (b : Bt) (v : List Nat) (h : G.V num b = some v) : MsgOk n said G fr ⟨2, num, ⟨b, b, v⟩, 0, []⟩ := ⟨fun _ => h, (fun e => by cases e), (fun e => by cases e)⟩
theorem MsgOk.state (fr num : Nat) (a : Ac) (h : Told G num fr a) : MsgOk n said G fr ⟨3, num, a, 0, []⟩ := ⟨(fun e => by cases e), fun _ => h, (fun e => by cases e)⟩

/- What it tells of decrees that it knows. -/
theorem NodeOk.tells (h : NodeOk n said G st) (first k known : Nat) (h1 : 1 ≤ first) : MsgOk n said G st.id ⟨5, first, noAc, known, (st.dec.drop (first - 1)).take k⟩ := by
  refine ⟨(fun e => by cases e), (fun e => by cases e), fun _ i d q => ?_⟩
  have q : ((st.dec.drop (first - 1)).take k)[i]? = some d := q
  have hi : i < k := by
    have := (List.getElem?_eq_some_iff.1 q).1
    simp at this
    omega
  rw [List.getElem?_take_of_lt hi, List.getElem?_drop] at q
  have := h.dec _ d q
  rw [show first - 1 + i + 1 = first + i by omega] at this
  exact this

end

end Go.Proofs.Ytfgfjfemaniaiaa.Px

/-
  8 texts of this proof, one behind the other: PxBegin3, PxBegin4, AtFunc, AtBox, PxHigh2, PxBegin5, PxMail3, PxSettle1.
-/
import Derived.Test.YtfgfjfemaniaiaaJ01
import Derived.Test.YtfgfjfemaniaiaaJ12
import Derived.Test.YtfgfjfemaniaiaaJ16
import Derived.Test.YtfgfjfemaniaiaaJ11
import Derived.Shelf.Abstract
import Derived.Laws.AppendOwnNone
/-
  Package paxos: begin, at any state, where a ballot is begun.
  Conditions: the monitor is one that New gave ('NdAt').
-/
namespace Go.Proofs.Ytfgfjfemaniaiaa.Px
open Go.RowKit Wi By Fl Ba
set_option linter.unusedVariables false
set_option linter.unusedSimpArgs false
set_option maxRecDepth 100000

def begunG (st : Nd) (b : Bt) : Nd := { st with acc := upA st.acc (st.dec.length + 1) ⟨b, (st.acc (st.dec.length + 1)).a, (st.acc (st.dec.length + 1)).d⟩, bid := some ⟨st.dec.length + 1, b, [], fun _ => noAc⟩ }

theorem own_base {α : Type} {w : World} {B B0 : Nat} {e : TypeId} {sz : Nat} {enc : α → List Value} {R : Value} {L : List α} (h : Own w B e sz enc R L) (hb : B0 ≤ B) : Own w B0 e sz enc R L := by
  refine ⟨h.1, ?_⟩
  rcases h.2 with q | ⟨g, cap, cur, h0, h1, h2⟩
  · exact .inl q
  · exact .inr ⟨g, cap, cur, h0, by omega, h2⟩

theorem MlsK.base {w : World} {B B0 : Nat} {R : Value} {n id k : Nat} {P : Ms → Prop} (h : MlsK w B R n id k P) (hb : B0 ≤ B) : MlsK w B0 R n id k P := by
  obtain ⟨L, h1, h2⟩ := h
  exact ⟨L, own_base h1 hb, h2⟩

section
variable {w : World} {B : Nat} {g : Ln} {st : Nd}

set_option maxHeartbeats 6400000 in
theorem begin_go (h : NdAt w B g st) (hi : Bt) (hH : ∀ W, Below w.heap.size w W → Calls Try.prog 54 #[.pointer (some ⟨g.p, 0, none⟩)] W fun e w' => e = .returned (bt hi) ∧ Hid (Below W.heap.size W w')) (t1 t2 : Int) (hnx : nx hi ((st.id : Nat) : Int) = ((t1, t2), true)) (hw : st.wait ≠ []) (hfree : freeb (st.acc (st.dec.length + 1)).p (st.acc (st.dec.length + 1)).a (st.acc (st.dec.length + 1)).d.length (t1, t2) = true) (hbk : BOk (t1, t2)) (hbw : bwf (t1, t2)) (hn7 : st.n ≤ 7) (hid7 : st.id < st.n) (hgn : gnb g < 1000000000000000000) :
    Calls Try.prog 57 #[.pointer (some ⟨g.p, 0, none⟩)] w fun e w' => ∃ R, e = .returned R ∧ Hid (Goes w w' B g (begunG st (t1, t2)) 1 ∧ MlsK w' w.heap.size R st.n st.id 7 (fun m => m = reqM ⟨st.dec.length + 1, (t1, t2), [], fun _ => noAc⟩)) := by
  have hN := fun W => next_any hi st.id W
  rw [hnx] at hN
  obtain ⟨rq, hrq⟩ : ∃ rq, rq = reqM ⟨st.dec.length + 1, (t1, t2), [], fun _ => noAc⟩ := ⟨_, rfl⟩
  rw [← hrq]
  have HRq := hid hrq
  clear hrq
  have HH : Hid (NdAt w B g st) := h
  have hpl := h.obj.lt
  have hdl := h.dl
  have c0 := h.c0
  have c2 := h.c2
  have c5 := h.c5
  have HX : Hid (freeb (st.acc (st.dec.length + 1)).p (st.acc (st.dec.length + 1)).a (st.acc (st.dec.length + 1)).d.length (t1, t2) = true ∧ BOk (t1, t2) ∧ bwf (t1, t2) ∧ st.n ≤ 7 ∧ st.id < st.n ∧ gnb g < 1000000000000000000) := ⟨hfree, hbk, hbw, hn7, hid7, hgn⟩
  obtain ⟨y, cy, e, _⟩ := h.rd
  obtain ⟨y5, c5', e5, _⟩ := h.rw_
  rw [e] at c2
  rw [e5] at c5
  have hwl : ((st.wait.length : Int) == 0) = false := by
    have : st.wait.length ≠ 0 := fun e => hw (List.eq_nil_of_length_eq_zero e)
    simp
    omega
  obtain ⟨n1, hn1'⟩ : ∃ n1, n1 = st.dec.length + 1 := ⟨_, rfl⟩
  have i1 : (st.dec.length : Int) + 1 = (n1 : Int) := by omega
  have wz : IntKind.i64.wrap (n1 : Int) = (n1 : Int) := wrap_i64 (by omega) (by omega)
  have Hn1 : Hid (n1 = st.dec.length + 1) := hn1'
  have bD : Below w.heap.size w w.drew := (Below.refl _ _).drew
  have s0 := keep bD c0
  clear h hw e e5 hgn hnx hn1' hdl hfree hbk hbw hn7 hid7
  obtain ⟨h1, h2⟩ := hi
  dsimp only [bt] at hH hN
  obtain ⟨ok, hok⟩ : ∃ ok, ok = true := ⟨_, rfl⟩
  have HO : Hid (ok = true) := hok
  have hN : ∀ W : World, Calls Try.prog 77 #[.agg #[.int .i64 h1, .int .i64 h2], .int .i64 st.id] W fun e w' => e = .returned (.tuple #[.agg #[.int .i64 t1, .int .i64 t2], .bool ok]) ∧ Below W.heap.size W w' := by
    rw [hok]
    exact hN
  clear hok
  generalize st.dec.length = dl at c2 i1
  generalize st.wait.length = wl at c5 hwl
  go_enter Try.func57, Try.ntmps57
  go_wp2_with fail
  go_cut [4, 5] (fun s4 s5 wc => ∃ gb, s4 = .pointer (some ⟨gb, 0, none⟩) ∧ s5 = .bool ok ∧ Hid (Below w.heap.size w wc ∧ w.heap.size ≤ gb ∧ wc.cell? ⟨gb, 0, none⟩ = some (.int .i64 t1) ∧ wc.cell? ⟨gb, 1, none⟩ = some (.int .i64 t2)))
  case first =>
    refine wp_region_held_drew (S := fun q => q.cell? ⟨g.p, 0, none⟩ = some (.int .i64 st.id)) (by kernel_rfl) s0 (fun hHeld => ?_)
    generalize w.drew = wD at *
    refine By.hk 0 ?_
    refine By.hk 2 ?_
    refine By.hk 3 ?_
    refine By.hk 4 ?_
    refine By.hk 5 ?_
    refine wpAnyH_ready (rs := [1, 10]) (by kernel_rfl) (by simp) ?_
    refine AllReadyH.cons rfl (fun K hK => ?_) (AllReadyH.cons rfl (fun K hK => ?_) AllReadyH.nil)
    · go_simp
      refine (hH _ bD).mono ?_
      rintro e w1 ⟨rfl, H1⟩
      replace s0 := keep H1.out s0
      have B1 := on bD H1.out
      refine hK.out _ _ s0 (fun hHeld => ?_)
      clear hK K
      refine wpAnyH_ready (rs := [6, 10]) (by kernel_rfl) (by simp) ?_
      refine AllReadyH.cons rfl (fun K hK => ?_) (AllReadyH.cons rfl (fun K hK => ?_) AllReadyH.nil)
      · go_simp
        refine (hN _).mono ?_
        rintro e w2 ⟨rfl, H2⟩
        replace s0 := keep H2 s0
        have B2 := on B1 H2
        have lp2 : g.p < w2.heap.size := cell_lt' s0
        refine hK.out _ _ s0 (fun hHeld => ?_)
        clear hK K
        refine By.hk 7 ?_
        refine By.hk 8 ?_
        refine By.hk 9 ?_
        refine wpAnyH_ready (rs := [10]) (by kernel_rfl) (by simp) ?_
        refine AllReadyH.cons rfl (fun K hK => ?_) AllReadyH.nil
        go_simp
        refine hK.out _ _ (keep (al _ _) s0) (fun hHeld => ?_)
        clear hK K
        refine wpAnyH_ready (rs := [11]) (by kernel_rfl) (by simp) ?_
        refine AllReadyH.cons rfl (fun K hK => ?_) AllReadyH.nil
        go_simp
        refine hK.out _ _ (keep (al _ _) s0) (fun hHeld => ?_)
        clear hK K
        refine By.hk 12 ?_
        refine wpAnyH_done (by kernel_rfl) ?_ _
        go_wp2_with fail
        go_meet
        case rel => exact ⟨w2.heap.size, rfl, rfl, on B2 (al _ _), B2.size, by go_simp, by go_simp⟩
      · go_simp
        have bA := on B1 (al w1 (.cells #[.int .i64 0, .int .i64 0] 72))
        have r0 : (w1.alloc (.cells #[.int .i64 0, .int .i64 0] 72)).cell? ⟨w1.heap.size, 0, none⟩ = some (.int .i64 0) := by go_simp
        have r1 : (w1.alloc (.cells #[.int .i64 0, .int .i64 0] 72)).cell? ⟨w1.heap.size, 1, none⟩ = some (.int .i64 0) := by go_simp
        have f0 : (w1.alloc (.cells #[.int .i64 0, .int .i64 0] 72)).frozen? ⟨w1.heap.size, 0, none⟩ = false := by go_simp
        have f1 : (w1.alloc (.cells #[.int .i64 0, .int .i64 0] 72)).frozen? ⟨w1.heap.size, 1, none⟩ = false := by go_simp
        have lp1 : g.p < w1.heap.size := cell_lt' s0
        replace s0 := keep (al w1 (.cells #[.int .i64 0, .int .i64 0] 72)) s0
        refine hK.out _ _ s0 (fun hHeld => ?_)
        clear hK K
        refine wpAnyH_ready (rs := [6]) (by kernel_rfl) (by simp) ?_
        refine AllReadyH.cons rfl (fun K hK => ?_) AllReadyH.nil
        go_simp
        refine (hN _).mono ?_
        rintro e w2 ⟨rfl, H2⟩
        have l1 : w1.heap.size < (w1.alloc (.cells #[.int .i64 0, .int .i64 0] 72)).heap.size := by simp
        replace s0 := keep H2 s0
        replace f0 := keepf H2 l1 f0
        replace f1 := keepf H2 l1 f1
        replace r0 := keep H2 r0
        replace r1 := keep H2 r1
        have B2 := on bA H2
        have pn : g.p ≠ w1.heap.size := by omega
        refine hK.out _ _ s0 (fun hHeld => ?_)
        clear hK K
        refine By.hk 7 ?_
        refine By.hk 8 ?_
        refine By.hk 9 ?_
        refine wpAnyH_ready (rs := [11]) (by kernel_rfl) (by simp) ?_
        refine AllReadyH.cons rfl (fun K hK => ?_) AllReadyH.nil
        go_simp
        refine hK.out _ _ (by go_simp) (fun hHeld => ?_)
        clear hK K
        refine By.hk 12 ?_
        refine wpAnyH_done (by kernel_rfl) ?_ _
        go_wp2_with fail
        go_meet
        case rel => exact ⟨w1.heap.size, rfl, rfl, below2 B2 w1.heap.size B1.size _ _, B1.size, by go_simp, by go_simp⟩
    · go_simp
      have bA := on bD (al wD (.cells #[.int .i64 0, .int .i64 0] 72))
      have r0 : (wD.alloc (.cells #[.int .i64 0, .int .i64 0] 72)).cell? ⟨wD.heap.size, 0, none⟩ = some (.int .i64 0) := by go_simp
      have r1 : (wD.alloc (.cells #[.int .i64 0, .int .i64 0] 72)).cell? ⟨wD.heap.size, 1, none⟩ = some (.int .i64 0) := by go_simp
      have f0 : (wD.alloc (.cells #[.int .i64 0, .int .i64 0] 72)).frozen? ⟨wD.heap.size, 0, none⟩ = false := by go_simp
      have f1 : (wD.alloc (.cells #[.int .i64 0, .int .i64 0] 72)).frozen? ⟨wD.heap.size, 1, none⟩ = false := by go_simp
      have l1 : wD.heap.size < (wD.alloc (.cells #[.int .i64 0, .int .i64 0] 72)).heap.size := by simp
      have lpD : g.p < wD.heap.size := cell_lt' s0
      replace s0 := keep (al wD (.cells #[.int .i64 0, .int .i64 0] 72)) s0
      refine hK.out _ _ s0 (fun hHeld => ?_)
      clear hK K
      refine wpAnyH_ready (rs := [1]) (by kernel_rfl) (by simp) ?_
      refine AllReadyH.cons rfl (fun K hK => ?_) AllReadyH.nil
      go_simp
      refine (hH _ bA).mono ?_
      rintro e w1 ⟨rfl, H1⟩
      replace s0 := keep H1.out s0
      replace f0 := keepf H1.out l1 f0
      replace f1 := keepf H1.out l1 f1
      replace r0 := keep H1.out r0
      replace r1 := keep H1.out r1
      have B1 := on bA H1.out
      have l2 : wD.heap.size < w1.heap.size := cell_lt' r0
      refine hK.out _ _ s0 (fun hHeld => ?_)
      clear hK K
      refine wpAnyH_ready (rs := [6]) (by kernel_rfl) (by simp) ?_
      refine AllReadyH.cons rfl (fun K hK => ?_) AllReadyH.nil
      go_simp
      refine (hN _).mono ?_
      rintro e w2 ⟨rfl, H2⟩
      replace s0 := keep H2 s0
      replace f0 := keepf H2 l2 f0
      replace f1 := keepf H2 l2 f1
      replace r0 := keep H2 r0
      replace r1 := keep H2 r1
      have B2 := on B1 H2
      have pn : g.p ≠ wD.heap.size := by omega
      refine hK.out _ _ s0 (fun hHeld => ?_)
      clear hK K
      refine By.hk 7 ?_
      refine By.hk 8 ?_
      refine By.hk 9 ?_
      refine wpAnyH_ready (rs := [11]) (by kernel_rfl) (by simp) ?_
      refine AllReadyH.cons rfl (fun K hK => ?_) AllReadyH.nil
      go_simp
      refine hK.out _ _ (by go_simp) (fun hHeld => ?_)
      clear hK K
      refine By.hk 12 ?_
      refine wpAnyH_done (by kernel_rfl) ?_ _
      go_wp2_with fail
      go_meet
      case rel => exact ⟨wD.heap.size, rfl, rfl, below2 B2 wD.heap.size bD.size _ _, bD.size, by go_simp, by go_simp⟩
  case rest =>
    obtain ⟨gb, rfl, rfl, HC⟩ := hcut
    obtain rfl := HO.out
    have q5 := keep HC.out.1 c5
    clear hH hN s0 bD HO c0 c2
    have bE : Below w.heap.size w wc.drew := on HC.out.1 (Below.refl _ _).drew
    have kE := HH.out.below bE
    have hn1b : n1 < 4294967296 := by have := Hn1.out; have := HH.out.dl; omega
    obtain ⟨v, v1, v2, v3⟩ := kE.acc.lookAll n1 hn1b
    have hav : freeb v.p v.a v.n (t1, t2) = true := by
      have q := HX.out.1
      rw [← Hn1.out, v2] at q
      have q2 : (acOf v).d.length = v.n := v1.sv.sl.len
      rw [q2] at q
      exact q
    have hP := fun (W : World) (b : Below wc.drew.heap.size wc.drew W) => prepare_yes v.p v.a v.x v.n v.c v.d (t1, t2) W (v1.sv.sl.below b) (by have := v1.sv.sm; omega) hav
    have hlk := v3 wc.drew rfl
    have s3 : wc.drew.cell? ⟨g.p, 3, none⟩ = some (.map (some g.mb)) := kE.c3
    have g0 : wc.drew.cell? ⟨gb, 0, none⟩ = some (.int .i64 t1) := HC.out.2.2.1
    have g1 : wc.drew.cell? ⟨gb, 1, none⟩ = some (.int .i64 t2) := HC.out.2.2.2
    have HV : Hid (st.acc n1 = acOf v ∧ v.n ≤ 5000 ∧ bwf v.a) := ⟨v2, v1.sv.sm, v1.a⟩
    have HE : Hid (Below w.heap.size w wc.drew ∧ NdAt wc.drew B g st ∧ w.heap.size ≤ gb) := ⟨bE, kE, HC.out.2.1⟩
    have Hv3 : Hid (∀ w' : World, w'.heap[g.mb]? = wc.drew.heap[g.mb]? → (Instr.lookup 60 (.map (some g.mb)) (.int .i64 (n1 : Int)) false).run Try.prog w' = .ok (av v) w') := v3
    dsimp only [av, ac, bt] at hP hlk Hv3
    clear hav v1 v2 v3 kE bE
    obtain ⟨⟨vp1, vp2⟩, ⟨va1, va2⟩, vx, vn, vc, vd⟩ := v
    dsimp only at hP hlk Hv3 HV
    go_wp2_with fail
    refine wp_region_held_drew (S := fun q => q.cell? ⟨g.p, 3, none⟩ = some (.map (some g.mb)) ∧ q.cell? ⟨gb, 0, none⟩ = some (.int .i64 t1) ∧ q.cell? ⟨gb, 1, none⟩ = some (.int .i64 t2)) (by kernel_rfl) ⟨s3, g0, g1⟩ (fun hHeld => ?_)
    generalize wc.drew = wE at *
    refine By.hk 0 ?_
    refine By.hk 1 ?_
    refine By.hk 2 ?_
    refine By.hk 3 ?_
    refine By.hk 4 ?_
    refine By.hk 5 ?_
    refine By.hk 6 ?_
    refine By.hk 7 ?_
    refine By.hk 8 ?_
    refine By.hk 9 ?_
    refine By.hk 11 ?_
    refine wpAnyH_ready (rs := [10]) (by kernel_rfl) (by simp) ?_
    refine AllReadyH.cons rfl (fun K hK => ?_) AllReadyH.nil
    refine st_lookup rfl _ _ 60 false rfl _ _ _ rfl rfl hlk ?_
    (try simp only [Act.put, List.getElem_toArray, List.getElem_cons_succ, List.getElem_cons_zero, List.setIfInBounds_toArray, List.set_cons_zero, List.set_cons_succ])
    refine hK.out _ _ ⟨s3, g0, g1⟩ (fun hHeld => ?_)
    clear hK K
    refine wpAnyH_ready (rs := [12]) (by kernel_rfl) (by simp) ?_
    refine AllReadyH.cons rfl (fun K hK => ?_) AllReadyH.nil
    go_simp
    refine (hP _ (Below.refl _ _)).mono ?_
    rintro e w2 ⟨y2, cy2, rfl, H2⟩
    have k2 := HE.out.2.1.below H2.out.1
    obtain ⟨w3, D3, hput, H3⟩ := k2.acc.put n1 hn1b (by have := HX.out.2.2.2.2.2; unfold gnb at this; omega) ⟨(t1, t2), (va1, va2), y2, vn, cy2, vd⟩ ⟨vl_sv H2.out HV.out.2.1, HX.out.2.2.1, HV.out.2.2⟩
    dsimp only [av, ac] at hput
    have hgm : ¬ atB g.mb gb := fun e => by
      have e' : gb = g.mb := e
      have := (HH.out.u8 g.mb (.inr (.inl rfl))).1
      have := HE.out.2.2
      omega
    have g0' := keep H2.out.1 g0
    have g1' := keep H2.out.1 g1
    have k3 := k2.setA H3.out.1 H3.out.2
    refine hK.out _ _ ⟨keep H2.out.1 s3, g0', g1'⟩ (fun hHeld => ?_)
    clear hK K
    refine By.hk 13 ?_
    refine By.hk 14 ?_
    refine By.hk 15 ?_
    refine wpAnyH_ready (rs := [16]) (by kernel_rfl) (by simp) ?_
    refine AllReadyH.cons rfl (fun K hK => ?_) AllReadyH.nil
    refine st_mapupdate rfl _ _ _ 60 rfl _ _ _ rfl rfl rfl hput ?_
    (try simp only [Act.put, List.getElem_toArray, List.getElem_cons_succ, List.getElem_cons_zero, List.setIfInBounds_toArray, List.set_cons_zero, List.set_cons_succ])
    have c3' : w3.cell? ⟨g.p, 3, none⟩ = some (.map (some g.mb)) := k3.c3
    have c6' : w3.cell? ⟨g.p, 6, none⟩ = some (bidV g.b) := k3.c6
    have f6' : w3.frozen? ⟨g.p, 6, none⟩ = false := k3.fz 6
    have g0'' := keept H3.out.2 hgm g0'
    have g1'' := keept H3.out.2 hgm g1'
    obtain ⟨k4, t4⟩ := k3.newBid n1 (t1, t2) HX.out.2.2.1
    have hAsk := ask_any k4 ⟨n1, (t1, t2), [], fun _ => noAc⟩ rfl HX.out.2.2.2.1 HX.out.2.2.2.2.1 hn1b HX.out.2.1
    have HF : Hid (Goes w (((w3.setCell ⟨g.p, 6, none⟩ (.pointer (some ⟨w3.heap.size + 1, 0, none⟩))).alloc (.map #[] 0)).alloc (.cells #[.int .i64 n1, .int .i64 t1, .int .i64 t2, .slice none 0 0, .map (some w3.heap.size)] 96)) B g (begunG st (t1, t2)) 1) := by
      have hnb : g.nb ≤ gnb g := by unfold gnb; omega
      have hT : Turns (fp g) w w3 := ((Turns.of_below HE.out.1).trans (Turns.of_below H2.out.1)).trans (H3.out.2.weak fun k hk => .inr (.inl hk))
      refine ⟨({ g with nb := g.nb + 1, D := D3, b := some ⟨w3.heap.size + 1, w3.heap.size, 0, .map [], none, 0, 0⟩ } : Ln), rfl, ?_, hT.more t4 (fun k hk => .inl hk), ?_, fun k hk => ?_⟩
      rotate_left 1
      · show g.nb + 1 + 0 ≤ gnb g + 1
        omega
      · rcases hk with q | q | q | q | ⟨l, q, r⟩
        · exact .inl (.inl q)
        · exact .inl (.inr (.inl q))
        · exact .inl (.inr (.inr (.inl q)))
        · exact .inl (.inr (.inr (.inr (.inl q))))
        · injection q with q
          subst q
          right
          have := hT.size
          rcases r with r | r
          · have r' : k = w3.heap.size + 1 := r; omega
          · have r' : k = w3.heap.size := r; omega
      · have e2 : begunG st (t1, t2) = { ({ st with acc := upA st.acc n1 (acOf ⟨(t1, t2), (va1, va2), y2, vn, cy2, vd⟩) } : Nd) with bid := some ⟨n1, (t1, t2), [], fun _ => noAc⟩ } := by
          unfold begunG acOf
          dsimp only
          rw [← Hn1.out, HV.out.1]
          rfl
        rw [e2]
        exact k4
    have hlow : w.heap.size ≤ w3.heap.size := Nat.le_trans HE.out.1.size (Nat.le_trans H2.out.1.size H3.out.2.size)
    refine hK.out _ _ ⟨c3', g0'', g1''⟩ (fun hHeld => ?_)
    clear hK K
    refine wpAnyH_done (by kernel_rfl) ?_ _
    have hmm := @run_makeMap Try.prog
    have hlg : gb < w3.heap.size := cell_lt' g0''
    have hlp : g.p < w3.heap.size := cell_lt' c6'
    dsimp only at hAsk
    clear k2 k3 k4 t4 hput hHeld H3 HE HC Hv3 hlk s3 g0 g1 g0' g1' hP hgm
    go_wp2_with (first
      | (
         go_at_call 36; refine hAsk.mono ?_; rintro e w9 ⟨R9, rfl, H9⟩; clear hAsk))
    go_ret
    have hM9 := H9.out.2.base (B0 := w.heap.size) (by simp; omega)
    rw [Hn1.out, ← HRq.out] at hM9
    exact ⟨R9, rfl, HF.out.then H9.out.1, hM9⟩

end

end Go.Proofs.Ytfgfjfemaniaiaa.Px

/-
  Package paxos: begin, at any state, where nothing is begun.
  Conditions: the monitor is one that New gave ('NdAt').
-/
namespace Go.Proofs.Ytfgfjfemaniaiaa.Px
open Go.RowKit Wi By Fl Ba
set_option linter.unusedVariables false
set_option linter.unusedSimpArgs false
set_option maxRecDepth 100000

section
variable {w : World} {B : Nat} {g : Ln} {st : Nd}

set_option maxHeartbeats 6400000 in
theorem begin_no (h : NdAt w B g st) (hi : Bt) (hH : ∀ W, Below w.heap.size w W → Calls Try.prog 54 #[.pointer (some ⟨g.p, 0, none⟩)] W fun e w' => e = .returned (bt hi) ∧ Hid (Below W.heap.size W w')) (hno : (nx hi ((st.id : Nat) : Int)).2 = false ∨ st.wait = []) :
    Calls Try.prog 57 #[.pointer (some ⟨g.p, 0, none⟩)] w fun e w' => e = .returned (.slice none 0 0) ∧ Hid (Below w.heap.size w w') := by
  have hN := fun W => next_any hi st.id W
  have hpl := h.obj.lt
  have hdl := h.dl
  have c0 := h.c0
  have c2 := h.c2
  have c5 := h.c5
  obtain ⟨y, cy, e, _⟩ := h.rd
  obtain ⟨y5, c5', e5, _⟩ := h.rw_
  rw [e] at c2
  rw [e5] at c5
  have hno2 : (nx hi ((st.id : Nat) : Int)).2 = false ∨ st.wait.length = 0 := hno.imp id (fun e => by rw [e]; rfl)
  have i1 : (st.dec.length : Int) ≤ 80000 := by omega
  have bD : Below w.heap.size w w.drew := (Below.refl _ _).drew
  have s0 := keep bD c0
  have s5 := keep bD c5
  clear h hno e e5 hdl
  generalize nx hi ((st.id : Nat) : Int) = N at *
  obtain ⟨⟨t1, t2⟩, ok⟩ := N
  obtain ⟨hp1, hp2⟩ := hi
  have HNo := hid hno2
  generalize st.wait.length = wl at *
  clear hno2
  dsimp only [bt] at *
  generalize st.dec.length = dl at *
  generalize st.id = id at *
  generalize g.p = p at *
  go_enter Try.func57, Try.ntmps57
  go_wp2_with fail
  go_cut [4, 5] (fun s4 s5 wc => ∃ gb, s4 = .pointer (some ⟨gb, 0, none⟩) ∧ s5 = .bool ok ∧ Hid (Below w.heap.size w wc ∧ w.heap.size ≤ gb ∧ wc.cell? ⟨gb, 0, none⟩ = some (.int .i64 t1) ∧ wc.cell? ⟨gb, 1, none⟩ = some (.int .i64 t2)))
  case first =>
    refine wp_region_held_drew (S := fun q => q.cell? ⟨p, 0, none⟩ = some (.int .i64 id)) (by kernel_rfl) s0 (fun hHeld => ?_)
    generalize w.drew = wD at *
    refine By.hk 0 ?_
    refine By.hk 2 ?_
    refine By.hk 3 ?_
    refine By.hk 4 ?_
    refine By.hk 5 ?_
    refine wpAnyH_ready (rs := [1, 10]) (by kernel_rfl) (by simp) ?_
    refine AllReadyH.cons rfl (fun K hK => ?_) (AllReadyH.cons rfl (fun K hK => ?_) AllReadyH.nil)
    · go_simp
      refine (hH _ bD).mono ?_
      rintro e w1 ⟨rfl, H1⟩
      replace s0 := keep H1.out s0
      have B1 := on bD H1.out
      refine hK.out _ _ s0 (fun hHeld => ?_)
      clear hK K
      refine wpAnyH_ready (rs := [6, 10]) (by kernel_rfl) (by simp) ?_
      refine AllReadyH.cons rfl (fun K hK => ?_) (AllReadyH.cons rfl (fun K hK => ?_) AllReadyH.nil)
      · go_simp
        refine (hN _).mono ?_
        rintro e w2 ⟨rfl, H2⟩
        replace s0 := keep H2 s0
        have B2 := on B1 H2
        have lp2 : p < w2.heap.size := cell_lt' s0
        refine hK.out _ _ s0 (fun hHeld => ?_)
        clear hK K
        refine By.hk 7 ?_
        refine By.hk 8 ?_
        refine By.hk 9 ?_
        refine wpAnyH_ready (rs := [10]) (by kernel_rfl) (by simp) ?_
        refine AllReadyH.cons rfl (fun K hK => ?_) AllReadyH.nil
        go_simp
        refine hK.out _ _ (keep (al _ _) s0) (fun hHeld => ?_)
        clear hK K
        refine wpAnyH_ready (rs := [11]) (by kernel_rfl) (by simp) ?_
        refine AllReadyH.cons rfl (fun K hK => ?_) AllReadyH.nil
        go_simp
        refine hK.out _ _ (keep (al _ _) s0) (fun hHeld => ?_)
        clear hK K
        refine By.hk 12 ?_
        refine wpAnyH_done (by kernel_rfl) ?_ _
        go_wp2_with fail
        go_meet
        case rel => exact ⟨w2.heap.size, rfl, rfl, on B2 (al _ _), B2.size, by go_simp, by go_simp⟩
      · go_simp
        have bA := on B1 (al w1 (.cells #[.int .i64 0, .int .i64 0] 72))
        have r0 : (w1.alloc (.cells #[.int .i64 0, .int .i64 0] 72)).cell? ⟨w1.heap.size, 0, none⟩ = some (.int .i64 0) := by go_simp
        have r1 : (w1.alloc (.cells #[.int .i64 0, .int .i64 0] 72)).cell? ⟨w1.heap.size, 1, none⟩ = some (.int .i64 0) := by go_simp
        have f0 : (w1.alloc (.cells #[.int .i64 0, .int .i64 0] 72)).frozen? ⟨w1.heap.size, 0, none⟩ = false := by go_simp
        have f1 : (w1.alloc (.cells #[.int .i64 0, .int .i64 0] 72)).frozen? ⟨w1.heap.size, 1, none⟩ = false := by go_simp
        have lp1 : p < w1.heap.size := cell_lt' s0
        replace s0 := keep (al w1 (.cells #[.int .i64 0, .int .i64 0] 72)) s0
        refine hK.out _ _ s0 (fun hHeld => ?_)
        clear hK K
        refine wpAnyH_ready (rs := [6]) (by kernel_rfl) (by simp) ?_
        refine AllReadyH.cons rfl (fun K hK => ?_) AllReadyH.nil
        go_simp
        refine (hN _).mono ?_
        rintro e w2 ⟨rfl, H2⟩
        have l1 : w1.heap.size < (w1.alloc (.cells #[.int .i64 0, .int .i64 0] 72)).heap.size := by simp
        replace s0 := keep H2 s0
        replace f0 := keepf H2 l1 f0
        replace f1 := keepf H2 l1 f1
        replace r0 := keep H2 r0
        replace r1 := keep H2 r1
        have B2 := on bA H2
        have pn : p ≠ w1.heap.size := by omega
        refine hK.out _ _ s0 (fun hHeld => ?_)
        clear hK K
        refine By.hk 7 ?_
        refine By.hk 8 ?_
        refine By.hk 9 ?_
        refine wpAnyH_ready (rs := [11]) (by kernel_rfl) (by simp) ?_
        refine AllReadyH.cons rfl (fun K hK => ?_) AllReadyH.nil
        go_simp
        refine hK.out _ _ (by go_simp) (fun hHeld => ?_)
        clear hK K
        refine By.hk 12 ?_
        refine wpAnyH_done (by kernel_rfl) ?_ _
        go_wp2_with fail
        go_meet
        case rel => exact ⟨w1.heap.size, rfl, rfl, below2 B2 w1.heap.size B1.size _ _, B1.size, by go_simp, by go_simp⟩
    · go_simp
      have bA := on bD (al wD (.cells #[.int .i64 0, .int .i64 0] 72))
      have r0 : (wD.alloc (.cells #[.int .i64 0, .int .i64 0] 72)).cell? ⟨wD.heap.size, 0, none⟩ = some (.int .i64 0) := by go_simp
      have r1 : (wD.alloc (.cells #[.int .i64 0, .int .i64 0] 72)).cell? ⟨wD.heap.size, 1, none⟩ = some (.int .i64 0) := by go_simp
      have f0 : (wD.alloc (.cells #[.int .i64 0, .int .i64 0] 72)).frozen? ⟨wD.heap.size, 0, none⟩ = false := by go_simp
      have f1 : (wD.alloc (.cells #[.int .i64 0, .int .i64 0] 72)).frozen? ⟨wD.heap.size, 1, none⟩ = false := by go_simp
      have l1 : wD.heap.size < (wD.alloc (.cells #[.int .i64 0, .int .i64 0] 72)).heap.size := by simp
      have lpD : p < wD.heap.size := cell_lt' s0
      replace s0 := keep (al wD (.cells #[.int .i64 0, .int .i64 0] 72)) s0
      refine hK.out _ _ s0 (fun hHeld => ?_)
      clear hK K
      refine wpAnyH_ready (rs := [1]) (by kernel_rfl) (by simp) ?_
      refine AllReadyH.cons rfl (fun K hK => ?_) AllReadyH.nil
      go_simp
      refine (hH _ bA).mono ?_
      rintro e w1 ⟨rfl, H1⟩
      replace s0 := keep H1.out s0
      replace f0 := keepf H1.out l1 f0
      replace f1 := keepf H1.out l1 f1
      replace r0 := keep H1.out r0
      replace r1 := keep H1.out r1
      have B1 := on bA H1.out
      have l2 : wD.heap.size < w1.heap.size := cell_lt' r0
      refine hK.out _ _ s0 (fun hHeld => ?_)
      clear hK K
      refine wpAnyH_ready (rs := [6]) (by kernel_rfl) (by simp) ?_
      refine AllReadyH.cons rfl (fun K hK => ?_) AllReadyH.nil
      go_simp
      refine (hN _).mono ?_
      rintro e w2 ⟨rfl, H2⟩
      replace s0 := keep H2 s0
      replace f0 := keepf H2 l2 f0
      replace f1 := keepf H2 l2 f1
      replace r0 := keep H2 r0
      replace r1 := keep H2 r1
      have B2 := on B1 H2
      have pn : p ≠ wD.heap.size := by omega
      refine hK.out _ _ s0 (fun hHeld => ?_)
      clear hK K
      refine By.hk 7 ?_
      refine By.hk 8 ?_
      refine By.hk 9 ?_
      refine wpAnyH_ready (rs := [11]) (by kernel_rfl) (by simp) ?_
      refine AllReadyH.cons rfl (fun K hK => ?_) AllReadyH.nil
      go_simp
      refine hK.out _ _ (by go_simp) (fun hHeld => ?_)
      clear hK K
      refine By.hk 12 ?_
      refine wpAnyH_done (by kernel_rfl) ?_ _
      go_wp2_with fail
      go_meet
      case rel => exact ⟨wD.heap.size, rfl, rfl, below2 B2 wD.heap.size bD.size _ _, bD.size, by go_simp, by go_simp⟩
  case rest =>
    obtain ⟨gb, rfl, rfl, HC⟩ := hcut
    have q5 := keep HC.out.1 c5
    clear hH hN s0 s5 bD
    cases ok with
    | false =>
      go_wp2_with fail
      go_ret
      exact ⟨rfl, HC.out.1⟩
    | true =>
      obtain rfl : wl = 0 := by
        rcases HNo.out with e | e
        · cases e
        · exact e
      go_wp2_with fail
      go_ret
      exact ⟨rfl, HC.out.1⟩

end

end Go.Proofs.Ytfgfjfemaniaiaa.Px

/-
  slices.IndexFunc and slices.ContainsFunc at OSDs, whatever is asked of each; seat, moved.
  Conditions: the list lies in memory.
-/
namespace Go.Proofs.Ytfgfjfemaniaiaa.At
open Go.RowKit By Fl
set_option linter.unusedVariables false
set_option linter.unusedSimpArgs false
set_option maxRecDepth 100000

/- What is asked of each: it answers p, and turns nothing. -/
def Pr (g : Nat) (lb : Array Value) (p : Osd → Bool) (w : World) : Prop :=
  ∀ (W : World) (x : Osd), Below w.heap.size w W → Calls Try.prog g (#[vO x] ++ lb) W fun e w' => e = .returned (.bool (p x)) ∧ Below W.heap.size W w'

theorem Pr.below {g : Nat} {lb : Array Value} {p : Osd → Bool} {w w' : World} (h : Pr g lb p w) (hb : Below w.heap.size w w') : Pr g lb p w' := fun W x hW => h W x (on hb hW)

theorem idx_any (p : Osd → Bool) (L : List Osd) : L.any p = decide (0 ≤ idx p L) := by
  unfold idx
  cases h : L.findIdx? p with
  | none =>
    rw [List.findIdx?_eq_none_iff] at h
    simp only [Bool.eq_false_iff] at *
    have : L.any p = false := by
      rw [List.any_eq_false]
      intro x hx e
      exact h x hx e
    rw [this]
    rfl
  | some k =>
    obtain ⟨a, ha, hp, _⟩ := idx_some h
    have : L.any p = true := List.any_eq_true.2 ⟨a, List.mem_of_getElem? ha, hp⟩
    rw [this]
    simp

end Go.Proofs.Ytfgfjfemaniaiaa.At

/-
  One OSD, and one map, that are written: where they lie; what setUp, setDown, setIn, setOut, setWeight do to one.
  Conditions: none.
-/
namespace Go.Proofs.Ytfgfjfemaniaiaa.At
open Go.RowKit By Fl
set_option linter.unusedVariables false
set_option linter.unusedSimpArgs false
set_option maxRecDepth 100000

theorem heap_set {w : World} {a j : Nat} {cs : Array Value} {t : TypeId} (h : w.heap[a]? = some (.cells cs t (0, 0))) (v : Value) : (w.setCell ⟨a, j, none⟩ v).heap[a]? = some (.cells (cs.setIfInBounds j v) t (0, 0)) := by
  rw [setCell_eq_setRow w a j cs t (0, 0) v h]
  exact setRow_heap w a cs _ t (0, 0) h

theorem cell_heap {w : World} {a j : Nat} {cs : Array Value} {t : TypeId} (h : w.heap[a]? = some (.cells cs t (0, 0))) {v : Value} (hv : cs[j]? = some v) : w.cell? ⟨a, j, none⟩ = some v := by
  simp only [World.cell?, h]
  simpa using hv

theorem fr_heap {w : World} {a : Nat} {cs : Array Value} {t : TypeId} (h : w.heap[a]? = some (.cells cs t (0, 0))) (j : Nat) : w.frozen? ⟨a, j, none⟩ = false := by
  simp [World.frozen?, h]

theorem turns_put {w w' : World} {a : Nat} (t : Turns (fun k => k = a) w w') (j : Nat) (v : Value) : Turns (fun k => k = a) w (w'.setCell ⟨a, j, none⟩ v) := t.setCell (p := ⟨a, j, none⟩) (.inl rfl) v

end Go.Proofs.Ytfgfjfemaniaiaa.At

/-
  The highest ballot of the next decree, where something is asked for.
  Conditions: the monitor is one that New gave ('NdAt'), with a bid.
-/
namespace Go.Proofs.Ytfgfjfemaniaiaa.Px
open Go.RowKit Wi By Fl Ba
set_option linter.unusedVariables false
set_option linter.unusedSimpArgs false
set_option maxRecDepth 100000

def foldH (h : Bt) (S : Nat → Bt) : Nat → Bt
  | 0 => h
  | k + 1 => if ltb (foldH h S k) (S k) = true then S k else foldH h S k

structure HiL (w wr : World) (R H X N : Nat) (V : Nat → AccV) (h : Bt) : Prop where
  bel : Below w.heap.size w wr
  hb : wr.heap[H]? = some (.cells #[.int .i64 h.1, .int .i64 h.2] 72 (0, 0))
  rb : wr.heap[R]? = some (.cells #[.int .i64 0, .int .i64 0] 72 (0, 0))
  row : ∀ i, i < N → wr.cell? ⟨X, i * 5, none⟩ = some (.int .i64 (V i).p.1) ∧ wr.cell? ⟨X, i * 5 + 1, none⟩ = some (.int .i64 (V i).p.2) ∧ wr.cell? ⟨X, i * 5 + 2, none⟩ = some (.int .i64 (V i).a.1) ∧ wr.cell? ⟨X, i * 5 + 3, none⟩ = some (.int .i64 (V i).a.2) ∧ wr.cell? ⟨X, i * 5 + 4, none⟩ = some (.slice (V i).x (V i).n (V i).c)
  lo : w.heap.size ≤ R ∧ w.heap.size ≤ H ∧ R ≠ H ∧ X ≠ H

theorem heap_keep9 {w v : World} {b : Nat} {o : Obj} (hb : Below w.heap.size w v) (h : w.heap[b]? = some o) : v.heap[b]? = some o := (hb.block b (Array.getElem?_eq_some_iff.1 h).1).trans h

theorem HiL.below {w wr wr' : World} {R H X N : Nat} {V : Nat → AccV} {h : Bt} (k : HiL w wr R H X N V h) (b : Below wr.heap.size wr wr') : HiL w wr' R H X N V h :=
  ⟨on k.bel b, heap_keep9 b k.hb, heap_keep9 b k.rb, fun i hi => by obtain ⟨a0, a1, a2, a3, a4⟩ := k.row i hi; exact ⟨keep b a0, keep b a1, keep b a2, keep b a3, keep b a4⟩, k.lo⟩

theorem HiL.set {w wr : World} {R H X N : Nat} {V : Nat → AccV} {h : Bt} (k : HiL w wr R H X N V h) (v0 v1 : Int) : HiL w ((wr.setCell ⟨H, 0, none⟩ (.int .i64 v0)).setCell ⟨H, 1, none⟩ (.int .i64 v1)) R H X N V (v0, v1) := by
  have t : Turns (fun j => j = H) wr ((wr.setCell ⟨H, 0, none⟩ (.int .i64 v0)).setCell ⟨H, 1, none⟩ (.int .i64 v1)) := At.turns_put (At.turns_put (Turns.refl _ _) _ _) _ _
  have hX : ¬ X = H := k.lo.2.2.2
  refine ⟨k.bel.trans (t.below (B := w.heap.size) (fun j hj => by have e : j = H := hj; have := k.lo.2.1; omega) k.bel.size), ?_, (t.block R (Array.getElem?_eq_some_iff.1 k.rb).1 (fun e => k.lo.2.2.1 e)).trans k.rb, fun i hi => ?_, k.lo⟩
  · refine (At.heap_set (At.heap_set k.hb _) _).trans ?_
    simp
  · obtain ⟨a0, a1, a2, a3, a4⟩ := k.row i hi
    exact ⟨keept t hX a0, keept t hX a1, keept t hX a2, keept t hX a3, keept t hX a4⟩

def highB (st : Nd) (b : Bd) : Bt := foldH (st.acc (st.dec.length + 1)).p (fun i => (stA st b i).p) st.n

section
variable {w : World} {B : Nat} {g : Ln} {st : Nd}

set_option maxHeartbeats 3200000 in
theorem highest_some (h : NdAt w B g st) (b : Bd) (hb : st.bid = some b) (hn : st.n ≤ 7) (hid_ : st.id < st.n) (hnum : b.num < 4294967296) :
    Calls Try.prog 54 #[.pointer (some ⟨g.p, 0, none⟩)] w fun e w' => e = .returned (bt (highB st b)) ∧ Hid (Below w.heap.size w w') := by
  have hStates := fun (W : World) (k : Below w.heap.size w W) => states_any (h.below k) b hb hn hid_ hnum
  have HF : Hid (foldH (st.acc (st.dec.length + 1)).p (fun i => (stA st b i).p) st.n = highB st b) := rfl
  have hgb : ∃ l, g.b = some l := by
    rcases h.bid with ⟨_, q⟩ | ⟨l, b', q1, q2, _⟩
    · rw [hb] at q
      cases q
    · exact ⟨l, q1⟩
  obtain ⟨l, hgb⟩ := hgb
  have hpl := h.obj.lt
  have hml := h.acc.lt
  have hdl := h.dl
  have c2 := h.c2
  have c3 := h.c3
  have c6 : w.cell? ⟨g.p, 6, none⟩ = some (.pointer (some ⟨l.bp, 0, none⟩)) := by rw [h.c6, hgb]; rfl
  obtain ⟨y, cy, e, _⟩ := h.rd
  rw [e] at c2
  obtain ⟨v, v1, v2, v3⟩ := h.acc.lookAll (st.dec.length + 1) (by omega)
  obtain ⟨n1, hn1⟩ : ∃ n1, n1 = st.dec.length + 1 := ⟨_, rfl⟩
  rw [← hn1] at v2 v3
  have i1 : (st.dec.length : Int) + 1 = (n1 : Int) := by omega
  have wz : IntKind.i64.wrap (n1 : Int) = (n1 : Int) := wrap_i64 (by omega) (by omega)
  have HP : Hid ((st.acc n1).p = v.p) := by show (st.acc n1).p = v.p; rw [v2]; rfl
  have bD : Below w.heap.size w (w.alloc (.cells #[.int .i64 0, .int .i64 0] 72)).drew := on (al _ _) (Below.refl _ _).drew
  have s2 := keep bD c2
  have s3 := keep bD c3
  have s6 := keep bD c6
  have hlk := v3 _ (bD.block _ hml)
  have hl2 := fun o => v3 _ (((al (w.alloc (.cells #[.int .i64 0, .int .i64 0] 72)).drew o).block g.mb (by have := bD.size; omega)).trans (bD.block _ hml))
  dsimp only [av, ac] at hlk hl2
  have hpw : bwf v.p := v1.p
  have HF2 : Hid (foldH (v.p.1, v.p.2) (fun i => (stA st b i).p) st.n = highB st b) := by have q := HF.out; rw [← hn1, HP.out] at q; exact q
  obtain ⟨hi, hhi⟩ : ∃ hi, hi = highB st b := ⟨_, rfl⟩
  rw [← hhi] at HF2 ⊢
  have nI : (st.n : Int) ≤ 7 := by omega
  have hn7 : st.n ≤ 7 := hn
  clear h e hgb hb v1 v2 v3 hn1 HP hdl HF hhi hn hid_ hnum hpw
  have hStates2 : ∀ W, Below w.heap.size w W → Calls Try.prog 71 #[.pointer (some ⟨g.p, 0, none⟩)] W fun e w' => ∃ (V : Nat → AccV), e = .returned (.slice (some ⟨W.heap.size, 0, none⟩) st.n st.n) ∧ Hid (Below W.heap.size W w' ∧ Accs w' (some ⟨W.heap.size, 0, none⟩) st.n V ∧ ∀ i, i < st.n → (V i).p = (fun i => (stA st b i).p) i) := fun W k => (hStates W k).mono fun e w' ⟨V, a1, a2⟩ => ⟨V, a1, a2.out.1, a2.out.2.1, fun i hi => by have q := (a2.out.2.2 i hi).2; have q2 : (acOf (V i)).p = (V i).p := rfl; rw [← q2, q]⟩
  clear hStates
  generalize (fun i => (stA st b i).p) = SP at *
  generalize st.n = N at *
  generalize st.dec.length = dl at *
  generalize v.p.1 = u0 at *
  generalize v.p.2 = u1 at *
  generalize v.a.1 = u2 at *
  generalize v.a.2 = u3 at *
  generalize v.x = ux at *
  generalize v.n = un at *
  generalize v.c = uc at *
  generalize g.mb = mb at *
  generalize g.p = p at *
  have hfld : ∀ W : World, (Instr.field 74 (.agg #[.int .i64 u0, .int .i64 u1, .int .i64 u2, .int .i64 u3, .slice ux un uc]) 0).run Try.prog W = .ok (.agg #[.int .i64 u0, .int .i64 u1]) W := fun _ => by kernel_rfl
  go_enter Try.func54, Try.ntmps54
  go_wp2_with fail
  have HRB : Hid ((w.alloc (.cells #[.int .i64 0, .int .i64 0] 72)).drew.heap[w.heap.size]? = some (.cells #[.int .i64 0, .int .i64 0] 72 (0, 0))) := heap_alloc_new w (.cells #[.int .i64 0, .int .i64 0] 72)
  have r0 : (w.alloc (.cells #[.int .i64 0, .int .i64 0] 72)).drew.cell? ⟨w.heap.size, 0, none⟩ = some (.int .i64 0) := by go_simp
  have r1 : (w.alloc (.cells #[.int .i64 0, .int .i64 0] 72)).drew.cell? ⟨w.heap.size, 1, none⟩ = some (.int .i64 0) := by go_simp
  have f0 : (w.alloc (.cells #[.int .i64 0, .int .i64 0] 72)).drew.frozen? ⟨w.heap.size, 0, none⟩ = false := by go_simp
  have f1 : (w.alloc (.cells #[.int .i64 0, .int .i64 0] 72)).drew.frozen? ⟨w.heap.size, 1, none⟩ = false := by go_simp
  refine wp_region_held_drew (S := fun q => q.cell? ⟨p, 2, none⟩ = some (.slice y dl cy) ∧ q.cell? ⟨p, 3, none⟩ = some (.map (some mb)) ∧ (Instr.lookup 60 (.map (some mb)) (.int .i64 (n1 : Int)) false).run Try.prog q = .ok (.agg #[.int .i64 u0, .int .i64 u1, .int .i64 u2, .int .i64 u3, .slice ux un uc]) q) (by kernel_rfl) ⟨s2, s3, hlk⟩ (fun hHeld => ?_)
  generalize (w.alloc (.cells #[.int .i64 0, .int .i64 0] 72)).drew = wD at *
  refine By.hk 0 ?_
  refine By.hk 1 ?_
  refine By.hk 2 ?_
  refine By.hk 3 ?_
  refine By.hk 4 ?_
  refine By.hk 5 ?_
  refine By.hk 6 ?_
  refine By.hk 7 ?_
  refine By.hk 8 ?_
  refine By.hk 9 ?_
  refine By.hk 10 ?_
  refine By.hk 11 ?_
  refine wpAnyH_ready (rs := [12]) (by kernel_rfl) (by simp) ?_
  refine AllReadyH.cons rfl (fun K hK => ?_) AllReadyH.nil
  go_simp
  refine hK.out _ _ ⟨keep (al _ _) s2, keep (al _ _) s3, hl2 _⟩ (fun hHeld => ?_)
  clear hK K
  refine wpAnyH_ready (rs := [13]) (by kernel_rfl) (by simp) ?_
  refine AllReadyH.cons rfl (fun K hK => ?_) AllReadyH.nil
  go_simp
  refine hK.out _ _ ⟨keep (al _ _) s2, keep (al _ _) s3, hl2 _⟩ (fun hHeld => ?_)
  clear hK K
  refine wpAnyH_done (by kernel_rfl) ?_ _
  have l0 : w.heap.size < wD.heap.size := cell_lt' r0
  have lp : p < wD.heap.size := cell_lt' s6
  have hpe : ∀ W : World, (binOp .eql 61 (.pointer (some ⟨l.bp, 0, none⟩)) (.pointer none)).run Try.prog W = .ok (.bool false) W := fun _ => by kernel_rfl
  have bH := al wD (.cells #[.int .i64 u0, .int .i64 u1] 72)
  have hS1 := hStates2 _ (on bD bH)
  have HB0 := hid (on bD bH)
  have t0 := keep bH r0
  have t1 := keep bH r1
  have x0 := keepf bH l0 f0
  have x1 := keepf bH l0 f1
  have y0 : (wD.alloc (.cells #[.int .i64 u0, .int .i64 u1] 72)).cell? ⟨wD.heap.size, 0, none⟩ = some (.int .i64 u0) := by go_simp
  have y1 : (wD.alloc (.cells #[.int .i64 u0, .int .i64 u1] 72)).cell? ⟨wD.heap.size, 1, none⟩ = some (.int .i64 u1) := by go_simp
  have g0 : (wD.alloc (.cells #[.int .i64 u0, .int .i64 u1] 72)).frozen? ⟨wD.heap.size, 0, none⟩ = false := by go_simp
  have g1 : (wD.alloc (.cells #[.int .i64 u0, .int .i64 u1] 72)).frozen? ⟨wD.heap.size, 1, none⟩ = false := by go_simp
  clear hlk hl2 hHeld c2 c3 c6 hfld hStates2 r0 r1 f0 f1
  go_wp2_with (
     go_at_call 71; refine hS1.mono ?_; rintro e w1 ⟨V, rfl, H1⟩; clear hS1)
  have eX : (wD.alloc (.cells #[.int .i64 u0, .int .i64 u1] 72)).heap.size = wD.heap.size + 1 := by simp
  rw [eX] at H1
  obtain ⟨X, hX⟩ : ∃ X, X = wD.heap.size + 1 := ⟨_, rfl⟩
  rw [← hX] at H1 ⊢
  have HXs : Hid (X = wD.heap.size + 1) := hid hX
  have hrow : ∀ i, i < N → w1.cell? ⟨X, i * 5, none⟩ = some (.int .i64 (V i).p.1) ∧ w1.cell? ⟨X, i * 5 + 1, none⟩ = some (.int .i64 (V i).p.2) ∧ w1.cell? ⟨X, i * 5 + 2, none⟩ = some (.int .i64 (V i).a.1) ∧ w1.cell? ⟨X, i * 5 + 3, none⟩ = some (.int .i64 (V i).a.2) ∧ w1.cell? ⟨X, i * 5 + 4, none⟩ = some (.slice (V i).x (V i).n (V i).c) := fun i hi => by
    rcases H1.out.2.1.row with e | ⟨b9, o9, e1, _, e3⟩
    · omega
    · injection e1 with e1
      injection e1 with e1 e2
      subst e1 e2
      have := e3 i hi
      simpa using this
  have H0 : Hid (HiL w w1 w.heap.size wD.heap.size X N V (u0, u1)) := by
    have hb1 : Below X w1 w1 := Below.refl _ _
    refine ⟨(HB0.out).trans (H1.out.1.mono (by rw [hX, ← eX]; exact HB0.out.size)), (H1.out.1.block _ (by rw [hX]; omega)).trans (heap_alloc_new _ _), (H1.out.1.block _ (by rw [hX]; omega)).trans ?_, hrow, ⟨Nat.le_refl _, bD.size, by omega, by have := HXs.out; omega⟩⟩
    exact heap_keep9 bH HRB.out
  have HVp := hid H1.out.2.2
  clear hX eX hrow H1 HB0 bH t0 t1 x0 x1 y0 y1 g0 g1 hpe
  go_wp2_with fail
  go_loopw [27, 5] (fun i _ wr => ∃ k : Nat, k ≤ N ∧ i = .int .i64 k ∧ Hid (HiL w wr w.heap.size wD.heap.size X N V (foldH (u0, u1) SP k))) (fun i _ _ => N - (intOf i).toNat)
  case atStart => exact ⟨0, by omega, rfl, H0.out⟩
  case round =>
    clear H0
    obtain ⟨k, hk, rfl, HR⟩ := hrel
    obtain ⟨FH, hFH⟩ : ∃ FH, FH = foldH (u0, u1) SP k := ⟨_, rfl⟩
    have HFH := hid hFH
    rw [← hFH] at HR
    clear hFH
    obtain ⟨q0, q1⟩ := FH
    have h0 : wr.cell? ⟨wD.heap.size, 0, none⟩ = some (.int .i64 q0) := At.cell_heap HR.out.hb rfl
    have h1 : wr.cell? ⟨wD.heap.size, 1, none⟩ = some (.int .i64 q1) := At.cell_heap HR.out.hb rfl
    have lH : wD.heap.size < wr.heap.size := cell_lt' h0
    have z0' := At.fr_heap HR.out.hb 0
    have z1' := At.fr_heap HR.out.hb 1
    have r0 : wr.cell? ⟨w.heap.size, 0, none⟩ = some (.int .i64 0) := At.cell_heap HR.out.rb rfl
    have r1 : wr.cell? ⟨w.heap.size, 1, none⟩ = some (.int .i64 0) := At.cell_heap HR.out.rb rfl
    have f0 := At.fr_heap HR.out.rb 0
    have f1 := At.fr_heap HR.out.rb 1
    by_cases hlt : k < N
    · have hkn : (k : Int) < (N : Int) := by omega
      obtain ⟨a0, a1, a2, a3, a4⟩ := HR.out.row k hlt
      have hVk := HVp.out k hlt
      obtain ⟨⟨⟨v0, v1⟩, ⟨v2, v3⟩, vx, vn, vc, vd⟩, hv⟩ : ∃ v, v = V k := ⟨_, rfl⟩
      rw [← hv] at a0 a1 a2 a3 a4 hVk
      dsimp only at a0 a1 a2 a3 a4 hVk
      have bX := al wr (.cells #[.int .i64 v0, .int .i64 v1, .int .i64 v2, .int .i64 v3, .slice vx vn vc] 74)
      have hL := less_any (q0, q1) (v0, v1) (wr.alloc (.cells #[.int .i64 v0, .int .i64 v1, .int .i64 v2, .int .i64 v3, .slice vx vn vc] 74))
      have hF2 : foldH (u0, u1) SP (k + 1) = if ltb (q0, q1) (v0, v1) = true then (v0, v1) else (q0, q1) := by
        show (if ltb (foldH (u0, u1) SP k) (SP k) = true then SP k else foldH (u0, u1) SP k) = _
        rw [← HFH.out, ← hVk]
      have HF3 := hid hF2
      have HBX := hid bX
      have nl : ((k : Nat) : Int) * 5 = ((k * 5 : Nat) : Int) := by omega
      clear hv hVk hF2 bX
      cases hc : ltb (q0, q1) (v0, v1) with
      | false =>
        rw [hc] at hL HF3
        dsimp only [bt] at hL
        go_wp2_with (
           go_at_call 51; refine hL.mono ?_; rintro e w2 ⟨rfl, hb2⟩; clear hL)
        go_roundw
        case rel => exact ⟨k + 1, by omega, by go_num, by rw [HF3.out]; exact HR.out.below (on HBX.out hb2)⟩
        case measure => simp [intOf]; omega
      | true =>
        rw [hc] at hL HF3
        dsimp only [bt] at hL
        go_wp2_with (
           go_at_call 51; refine hL.mono ?_; rintro e w2 ⟨rfl, hb2⟩; clear hL
           have m0 := keep hb2 (b := wr.heap.size) (o := 0) (x := .int .i64 v0) (by first | assumption | go_simp)
           have m1 := keep hb2 (b := wr.heap.size) (o := 1) (x := .int .i64 v1) (by first | assumption | go_simp)
           have m2 := keep hb2 (b := wr.heap.size) (o := 2) (x := .int .i64 v2) (by first | assumption | go_simp)
           have m3 := keep hb2 (b := wr.heap.size) (o := 3) (x := .int .i64 v3) (by first | assumption | go_simp)
           have m4 := keep hb2 (b := wr.heap.size) (o := 4) (x := .slice vx vn vc) (by first | assumption | go_simp)
           have HR2 := hid (HR.out.below (on HBX.out hb2))
           have n0 : w2.cell? ⟨wD.heap.size, 0, none⟩ = some (.int .i64 q0) := At.cell_heap HR2.out.hb rfl
           have n1' : w2.cell? ⟨wD.heap.size, 1, none⟩ = some (.int .i64 q1) := At.cell_heap HR2.out.hb rfl
           have o0 := At.fr_heap HR2.out.hb 0
           have o1 := At.fr_heap HR2.out.hb 1)
        go_roundw
        case rel => exact ⟨k + 1, by omega, by go_num, by rw [HF3.out]; exact HR2.out.set v0 v1⟩
        case measure => simp [intOf]; omega
    · obtain rfl : k = N := by omega
      have hkn : ¬ (k : Int) < (k : Int) := by omega
      have hfin : hi = (q0, q1) := by rw [← HF2.out, ← HFH.out]
      have BR := HR.out.bel
      have lwr : w.heap.size < wr.heap.size := cell_lt' r0
      go_wp2_with fail
      refine bodyPost_ret (v := .agg #[.int .i64 q0, .int .i64 q1]) ?_ rfl ⟨?_, ?_⟩
      · rw [results_cell1 rfl]
        go_simp
      · first | rfl | (rw [hfin]; rfl)
      · show Below _ _ _
        repeat (first | with_reducible exact BR | (with_reducible refine Below.setCell ?_ (by first | (simp; done) | (simp; omega) | omega) _) | (with_reducible refine Below.alloc ?_ (by first | (simp; done) | (simp; omega) | omega) _))

end

end Go.Proofs.Ytfgfjfemaniaiaa.Px

/-
  Package paxos: begin, at any state: what is known of all monitors stays true.
  Conditions: the monitor is one that New gave ('NdAt').
-/
namespace Go.Proofs.Ytfgfjfemaniaiaa.Px
open Go.RowKit Wi By Fl Ba
set_option linter.unusedVariables false
set_option linter.unusedSimpArgs false
set_option maxRecDepth 100000

/- Which ballots it holds. -/
structure NB (n : Nat) (st : Nd) : Prop where
  acc : ∀ s, st.dec.length < s → Sb n (st.acc s).p ∧ Sb n (st.acc s).a
  bid : ∀ b, st.bid = some b → mayb b.bal = true ∧ st.wait ≠ []

theorem foldH_ge (h : Bt) (S : Nat → Bt) : ∀ k, le h (foldH h S k)
  | 0 => le_refl h
  | k + 1 => by
    show le h (if ltb (foldH h S k) (S k) = true then S k else foldH h S k)
    split
    · rename_i e
      exact le_trans (foldH_ge h S k) (lt_le ((ltb_iff _ _).1 e))
    · exact foldH_ge h S k

theorem nx_ok {s b : Bt} {m : Int} (h : nx s m = (b, true)) : lt s b ∧ b.2 = m ∧ mayb b = true := by
  unfold nx at h
  by_cases h0 : mzb s = true
  · rw [if_pos h0] at h
    by_cases h3 : ltb s (max s.1 1, m) = true
    · rw [if_pos h3] at h
      by_cases h2 : mayb (max s.1 1, m) = true
      · rw [if_pos h2] at h
        injection h with h _
        subst h
        exact ⟨(ltb_iff _ _).1 h3, rfl, h2⟩
      · rw [if_neg h2] at h
        injection h with _ h
        cases h
    · rw [if_neg h3] at h
      by_cases h2 : mayb (max s.1 1 + 1, m) = true
      · rw [if_pos h2] at h
        injection h with h _
        subst h
        refine ⟨?_, rfl, h2⟩
        unfold lt
        dsimp only
        omega
      · rw [if_neg h2] at h
        injection h with _ h
        cases h
  · rw [if_neg h0] at h
    injection h with _ h
    cases h

theorem may_sb {n : Nat} {b : Bt} (h : mayb b = true) (hb : b.2 < (n : Int)) : Sb n b := by
  unfold mayb at h
  simp at h
  exact ⟨by omega, by omega, by omega, hb⟩

theorem may_bok {b : Bt} (h : mayb b = true) : BOk b ∧ bwf b := by
  unfold mayb at h
  simp at h
  exact ⟨⟨by omega, by omega, by omega, by omega⟩, wfi_all (by omega) (by omega), wfi_all (by omega) (by omega)⟩

theorem free_of {p a b : Bt} {k : Nat} (h1 : lt p b) (h2 : mayb b = true) (h3 : mayA p a k = true) : freeb p a k b = true := by
  unfold freeb
  have h4 : ltb b p = false := by
    cases e : ltb b p with
    | true => exact absurd ((ltb_iff _ _).1 e) (lt_asym h1)
    | false => rfl
  rw [h2, h3, h4]
  rfl

theorem sent_prep {n id num : Nat} {b : Bt} (hid : id < n) (hn : n ≤ 7) (hnum : num ≤ 2147483647) (h1 : 1 ≤ num) (hb : mayb b = true) (hm : b.2 = (id : Int)) : Sent n id ⟨1, num, ⟨b, z0, []⟩, 0, []⟩ := by
  have hs : Sb n b := may_sb hb (by omega)
  have hz : Sb n z0 := ⟨by decide, by decide, by decide, by show (0 : Int) < _; omega⟩
  refine ⟨hid, hnum, ?_, (fun e => by cases e), (fun e => by cases e), fun _ _ => ⟨rfl, rfl, hs, hz, Nat.zero_le _⟩⟩
  have e1 : zb b = false := by
    unfold mayb at hb
    simp at hb
    unfold zb
    simp
    omega
  have e2 : ltb b z0 = false := by
    unfold mayb at hb
    simp at hb
    cases e : ltb b z0 with
    | true =>
      have q := (ltb_iff _ _).1 e
      unfold lt z0 at q
      dsimp only at q
      omega
    | false => rfl
  have e3 : mayA b z0 0 = true := by
    unfold mayA mzb
    rw [hb, e2]
    simp
    decide
  unfold mayM mayState
  have e4 : zb z0 = true := by decide
  simp [e1, e3, e4, h1, hm]

theorem msg_prep {n : Nat} {said : ByteArray → Prop} {G : Gh} {fr num : Nat} {a : Ac} : MsgOk n said G fr ⟨1, num, a, 0, []⟩ := MsgOk.prepare fr num a

/- What a call of a monitor does, with what is known of all. -/
def Step (n : Nat) (said : ByteArray → Prop) (G : Gh) (w w' : World) (B : Nat) (g : Ln) (st st' : Nd) (R : Value) (k : Nat) : Prop :=
  ∃ G', Goes w w' B g st' k ∧ GI n said G' ∧ GExt st.id G G' ∧ NodeOk n said G' st' ∧ NB n st' ∧ MlsK w' w.heap.size R n st.id k (fun m => Sent n st.id m ∧ MsgOk n said G' st.id m)

section
variable {w : World} {B : Nat} {g : Ln} {st : Nd} {n : Nat} {said : ByteArray → Prop} {G : Gh}

theorem high_any (h : NdAt w B g st) (k : NodeOk n said G st) (hn : n ≤ 7) : ∃ hi, le (st.acc (st.dec.length + 1)).p hi ∧ ∀ W, Below w.heap.size w W → Calls Try.prog 54 #[.pointer (some ⟨g.p, 0, none⟩)] W fun e w' => e = .returned (bt hi) ∧ Hid (Below W.heap.size W w') := by
  cases hb : st.bid with
  | none => exact ⟨_, le_refl _, fun W b => highest_none (h.below b) hb⟩
  | some b =>
    have hnum : b.num < 4294967296 := by have := (k.bid b hb).num; have := h.dl; omega
    refine ⟨highB st b, foldH_ge _ _ _, fun W b' => highest_some (h.below b') b hb (by rw [k.sn]; exact hn) (by rw [k.sn]; exact k.sid) hnum⟩

theorem begin_any (h : NdAt w B g st) (k : NodeOk n said G st) (q : GI n said G) (nb : NB n st) (hn : n ≤ 7) (hgn : gnb g < 1000000000000000000) :
    Calls Try.prog 57 #[.pointer (some ⟨g.p, 0, none⟩)] w fun e w' => ∃ R, e = .returned R ∧ Hid (∃ st', Step n said G w w' B g st st' R 7 ∧ st'.dec = st.dec ∧ st'.wait = st.wait ∧ st'.id = st.id ∧ st'.ser = st.ser ∧ (st' = st ∨ ∃ b, st' = begunG st b)) := by
  obtain ⟨hi, hle, hH⟩ := high_any h k hn
  have hstop : ((nx hi ((st.id : Nat) : Int)).2 = false ∨ st.wait = []) → Calls Try.prog 57 #[.pointer (some ⟨g.p, 0, none⟩)] w fun e w' => ∃ R, e = .returned R ∧ Hid (∃ st', Step n said G w w' B g st st' R 7 ∧ st'.dec = st.dec ∧ st'.wait = st.wait ∧ st'.id = st.id ∧ st'.ser = st.ser ∧ (st' = st ∨ ∃ b, st' = begunG st b)) := fun hno => by
    refine (begin_no h hi hH hno).mono fun e w' ⟨a1, a2⟩ => ⟨_, a1, st, ⟨G, (Goes.same h a2.out).mono (by omega), q, GExt.refl _ _, k, nb, (MlsK.nil _ _ _ _ _).mono (by omega) (fun _ h => h)⟩, rfl, rfl, rfl, rfl, .inl rfl⟩
  by_cases hw : st.wait = []
  · exact hstop (.inr hw)
  cases hx : (nx hi ((st.id : Nat) : Int)).2 with
  | false => exact hstop (.inl hx)
  | true =>
    obtain ⟨⟨⟨t1, t2⟩, ok⟩, hxx⟩ : ∃ N, N = nx hi ((st.id : Nat) : Int) := ⟨_, rfl⟩
    rw [← hxx] at hx
    dsimp only at hx
    subst hx
    obtain ⟨e1, e2, e3⟩ := nx_ok hxx.symm
    have hlt : lt (st.acc (st.dec.length + 1)).p (t1, t2) := lt_of_le_lt hle e1
    have hfree := free_of (k := (st.acc (st.dec.length + 1)).d.length) hlt e3 (k.may (st.dec.length + 1) (by omega))
    obtain ⟨G', g1, g2, g3⟩ := k.begin_ q (t1, t2) e2 hlt hfree
    obtain ⟨hbk, hbw⟩ := may_bok e3
    have hdl := h.dl
    have hsid := k.sid
    refine (begin_go h hi hH t1 t2 hxx.symm hw hfree hbk hbw (by rw [k.sn]; exact hn) (by rw [k.sn]; exact hsid) hgn).mono fun e w' ⟨R, a1, a2⟩ => ⟨R, a1, begunG st (t1, t2), ⟨G', a2.out.1.mono (by omega), g1, g2, g3, ⟨fun s hs => ?_, fun b hb => ?_⟩, ?_⟩, rfl, rfl, rfl, rfl, .inr ⟨_, rfl⟩⟩
    · have hs' : st.dec.length < s := hs
      show Sb n (upA st.acc (st.dec.length + 1) ⟨(t1, t2), _, _⟩ s).p ∧ Sb n (upA st.acc (st.dec.length + 1) ⟨(t1, t2), _, _⟩ s).a
      by_cases e : s = st.dec.length + 1
      · subst e
        rw [upA_same]
        exact ⟨may_sb e3 (by rw [e2]; omega), (nb.acc _ (by omega)).2⟩
      · rw [upA_other _ _ e]
        exact nb.acc s hs'
    · injection hb with hb
      subst hb
      exact ⟨e3, hw⟩
    · have hm := a2.out.2
      rw [k.sn] at hm
      refine hm.mono (by omega) (fun m hm => ?_)
      subst hm
      have er : reqM ⟨st.dec.length + 1, (t1, t2), [], fun _ => noAc⟩ = ⟨1, st.dec.length + 1, ⟨(t1, t2), z0, []⟩, 0, []⟩ := if_pos rfl
      rw [er]
      exact ⟨sent_prep hsid hn (by omega) (by omega) e3 e2, msg_prep⟩

end

end Go.Proofs.Ytfgfjfemaniaiaa.Px

/-
  Mails behind mails.
  Conditions: none.
-/
namespace Go.Proofs.Ytfgfjfemaniaiaa.Px
open Go.RowKit Wi By Fl Ba
set_option linter.unusedVariables false
set_option linter.unusedSimpArgs false
set_option maxRecDepth 100000

theorem MlsK.cat {w : World} {B B2 : Nat} {R R2 : Value} {n id k1 k2 : Nat} {P : Ms → Prop} (h : MlsK w B R n id k1 P) (k : MlsK w B2 R2 n id k2 P) (hB : B ≤ w.heap.size) (hk1 : k1 ≤ 50000) (hk2 : k2 ≤ 20000) :
    ∃ R' W', (Builtin.append_ #[49, 49] 49 #[R, R2]).run Try.prog w = .ok R' W' ∧ Hid (MlsK W' B R' n id (k1 + k2) P ∧ Turns (fun j => R.ownBlock = some j) w W') := by
  obtain ⟨L, h1, h2, h3⟩ := h
  obtain ⟨L2, q1, q2, q3⟩ := k
  obtain ⟨x2, c2, e, _, hnil, hat⟩ := q1.form
  cases x2 with
  | none =>
    obtain ⟨e1, e2⟩ := hnil rfl
    have eL : L2 = [] := List.eq_nil_of_length_eq_zero e1
    subst eL
    subst e2
    subst e
    obtain ⟨i, z, i1, i2, i3, i4, i5⟩ := mrow.info
    have hr := run_append_owned_none (P := Try.prog) w B 49 49 70 i 2 mrow.und i1 R L.length _ h1
    exact ⟨R, w, hr, ⟨L, h1, by omega, h3⟩, Turns.refl _ _⟩
  | some ad =>
    obtain ⟨g, rfl, g1, g2⟩ := hat ad rfl
    subst e
    obtain ⟨x', c', W', hr, H⟩ := h1.push mrow hB ⟨g, 0, none⟩ L2.length c2 L2 rfl (fun j u hj => World.ownsRow.cells q1 (g := g) rfl j u hj) (by omega)
    refine ⟨_, W', hr, ⟨_, H.out.1, by rw [List.length_append]; omega, fun m hm => ?_⟩, H.out.2.1⟩
    rcases List.mem_append.1 hm with hm | hm
    · obtain ⟨a, e, c, u, d, f⟩ := h3 m hm
      exact ⟨a, e, c, u, d, f.turns H.out.2.1 (mail_not_u8 h1)⟩
    · obtain ⟨a, e, c, u, d, f⟩ := q3 m hm
      exact ⟨a, e, c, u, d, f.turns H.out.2.1 (mail_not_u8 h1)⟩

theorem MlsK.below_turns {w w' : World} {B : Nat} {R : Value} {n id k : Nat} {P : Ms → Prop} {G : Nat → Prop} (h : MlsK w B R n id k P) (t : Turns G w w') (hR : ∀ j, R.ownBlock = some j → ¬ G j) (hu : ∀ j, G j → ¬ Tb w j 5) : MlsK w' B R n id k P := by
  obtain ⟨L, h1, h2, h3⟩ := h
  exact ⟨L, h1.turns t hR, h2, fun m hm => by obtain ⟨a, e, c, u, d, f⟩ := h3 m hm; exact ⟨a, e, c, u, d, f.turns t hu⟩⟩

theorem MlsK.low {w : World} {B : Nat} {R : Value} {n id k : Nat} {P : Ms → Prop} (h : MlsK w B R n id k P) : ∀ j, R.ownBlock = some j → B ≤ j ∧ j < w.heap.size := fun j hj => by
  obtain ⟨L, h1, _⟩ := h
  exact ⟨(h1.tb hj).1, (h1.tb hj).2.lt⟩

end Go.Proofs.Ytfgfjfemaniaiaa.Px

/-
  A chosen value is settled where a monitor is alone and nothing more waits.
  Conditions: the monitor is one that New gave ('NdAt').
-/
namespace Go.Proofs.Ytfgfjfemaniaiaa.Px
open Go.RowKit Wi By Fl Ba
set_option linter.unusedVariables false
set_option linter.unusedSimpArgs false
set_option maxRecDepth 100000

theorem app_nil (w : World) : (Builtin.append_ #[49, 49] 49 #[.slice none 0 0, .slice none 0 0]).run Try.prog w = .ok (.slice none 0 0) w := by
  simp [Builtin.append_, run_underlying Try.underlying49, Builtin.lenOf, Builtin.firstCells]

section
variable {w : World} {B : Nat} {g : Ln} {st : Nd}

set_option maxHeartbeats 3200000 in
theorem settle_one (h : NdAt w B g st) (hn1 : st.n = 1) (hid0 : st.id = 0) (d : Dc) (x : Option Addr) (n c : Nat) (l : List Nat) (hl : Fl.Sl w x n c l) (hn : n ≤ 5000) (hdo : dOf 1 l = some d) (hdok : DOk d) (hdl : st.dec.length < 70000) (hwl : left d st.wait = []) :
    Calls Try.prog 72 #[.pointer (some ⟨g.p, 0, none⟩), .slice x n c] w fun e w' => e = .returned (.slice none 0 0) ∧ Hid (Goes w w' B g (learned st d) 0) := by
  have hD := fun (W : World) (b : Below w.heap.size w W) => dof_any x n c l 1 (by omega) W (hl.below b) (by omega)
  rw [hdo] at hD
  dsimp only [Option.getD, Option.isSome, dv] at hD
  have hL := fun (W : World) (b : Below w.heap.size w W) => learn_any (h.below b) d hdok hdl
  dsimp only [dv] at hL
  have c1 := h.c1
  rw [hn1] at c1
  have hpl := h.obj.lt
  have HX : Hid (st.n = 1 ∧ st.id = 0 ∧ left d st.wait = []) := ⟨hn1, hid0, hwl⟩
  have hap := app_nil
  clear h hl hn1 hid0 hdo hdok hdl hwl hn
  obtain ⟨mon, ser, s⟩ := d
  dsimp only at hD hL
  go_enter Try.func72, Try.ntmps72
  go_wp2_with (first
    | (
       go_at_call 82; refine (hD _ (Below.refl _ _)).mono ?_; rintro e w1 ⟨rfl, H1⟩; clear hD
       have B1 : Below w.heap.size w (w1.alloc (.cells #[.int .i64 mon, .int .i64 ser, .string s] 68)) := on H1.out (al _ _)
       have hL1 := hL _ B1
       clear hL)
    | (
       go_at_call 53; refine hL1.mono ?_; rintro e w2 ⟨rfl, H2⟩; clear hL1
       obtain ⟨g2, e2, k2, t2, n2, f2⟩ := H2.out
       have c0 : w2.cell? ⟨g.p, 0, none⟩ = some (.int .i64 0) := by rw [← e2, k2.c0]; show some (Value.int .i64 ((st.id : Nat) : Int)) = _; rw [HX.out.2.1]; rfl
       have c1' : w2.cell? ⟨g.p, 1, none⟩ = some (.int .i64 1) := by rw [← e2, k2.c1]; show some (Value.int .i64 ((st.n : Nat) : Int)) = _; rw [HX.out.1]; rfl
       have hB0 := begin_idle k2 rfl HX.out.2.2
       rw [e2] at hB0
       have HG : Hid (∀ wF, Below w2.heap.size w2 wF → Goes w wF B g (learned st ⟨mon, ser, s⟩) 0) := fun wF bF =>
         Goes.trans (k1 := 0) (k2 := 0) e2 ((Turns.of_below B1).trans t2) n2 (fun k hk => (f2 k hk).imp id (fun q => Nat.le_trans B1.size q)) (Goes.same k2 bF)
       clear H2 k2 t2 n2 f2))
  go_loopw [7, 8, 25] (fun out _ i wr => ∃ k : Nat, k ≤ 1 ∧ i = .int .i64 k ∧ out = .slice none 0 0 ∧ wr = w2) (fun _ _ i _ => 1 - (intOf i).toNat)
  case atStart => exact ⟨0, by omega, rfl, rfl, rfl⟩
  case round =>
    obtain ⟨k, hk, rfl, rfl, hw⟩ := hrel
    subst hw
    by_cases hk0 : k = 0
    · subst hk0
      go_wp2_with fail
      go_roundw
      case rel => exact ⟨1, by omega, by go_num, by first | trivial | rfl, by first | trivial | rfl⟩
      case measure => simp [intOf]
    · obtain rfl : k = 1 := by omega
      go_wp2_with (first
        | (
           go_at_call 57; refine hB0.mono ?_; rintro e w3 ⟨rfl, H3⟩; clear hB0)
        | (
           at_builtin; refine wpList_append_run rfl _ _ 49 rfl _ _ rfl rfl (hap _) ?_))
      go_ret
      exact ⟨rfl, HG.out _ H3.out⟩

end

end Go.Proofs.Ytfgfjfemaniaiaa.Px

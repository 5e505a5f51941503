/-
  Activate.
  Conditions: the holder lies in memory.
-/
import Derived.Test.YtnfflmndejbepaaJShSeat
import Derived.Deep.Cut
namespace Go.Proofs.Ytnfflmndejbepaa.Sh
set_option linter.unusedSectionVars false
variable [Inhabited DZ]
open Go.RowKit By Fl
set_option linter.unusedVariables false
set_option linter.unusedSimpArgs false
set_option maxRecDepth 100000

/- A shard that stands by, in the place of the one that is. -/
theorem OwH.next {w W : World} {G0 Gl : Nat → Prop} {GN : Nat → Nat → Prop} {v : HV} {s : SV} {g k c : Nat} (h : OwH w G0 Gl GN v) (hx : v.x = some ⟨g, 0, none⟩) (hs : v.N[k]? = some s) (hk : Keeps (fun q => ∃ i, GN i q) w W) (ho : Own W 0 26 5 enS (.slice (some ⟨g, 0, none⟩) (v.n - (k + 1)) c) (v.N.drop (k + 1))) :
    OwH W (GN k) Gl (fun i => GN (i + (k + 1))) ⟨v.fe, s, some ⟨g, 0, none⟩, v.n - (k + 1), c, v.N.drop (k + 1)⟩ := by
  refine ⟨(h.nx k s hs).keeps (hk.weak fun q hq => ⟨k, hq⟩), ho, fun q hq => h.gl q (by rw [hx]; simpa [Value.ownBlock] using hq), fun i t ht => ?_, fun q hq => (h.d1 k q hq).2, fun i q hq => ⟨fun e => h.d2 (i + (k + 1)) k q (by omega) hq e, (h.d1 _ q hq).2⟩, fun i j q hij hq e => h.d2 _ _ q (by omega) hq e, by show (v.N.drop (k + 1)).length ≤ _; rw [List.length_drop]; have := h.ln; omega⟩
  have ht' : v.N[i + (k + 1)]? = some t := by
    have : (v.N.drop (k + 1))[i]? = some t := ht
    rw [List.getElem?_drop] at this
    rw [← this]
    congr 1
    omega
  exact (h.nx _ t ht').keeps (hk.weak fun q hq => ⟨_, hq⟩)

set_option maxHeartbeats 12800000 in
theorem activate_any {w : World} {F : Nat → Prop} {v : HV} (since : Int) (h : HAt w F v) : Calls Try.prog 33 #[vH v, .int .i64 since] w fun e w' => Tells w (actP (pH v) since).1 (actP (pH v) since).2 e w' := by
  obtain ⟨w1, hw1⟩ : ∃ w1, w1 = (w.alloc (.cells (HCells v) 29)).alloc (.cells zHBox 29) := ⟨_, rfl⟩
  obtain ⟨bb, hsz, g0, g1⟩ := two_boxes w (HCells v) zHBox 29
  rw [← hw1] at bb hsz g0 g1
  have hC1 := ask_any since (h.below bb)
  have HC2 := hid (fun W (hW : Below w1.heap.size w1 W) => copied_any (h.below (on bb hW)))
  have HPl := hid (fun (k : Nat) (s : Shd) => act_next (H := pH v) (since := since) (k := k) (s := s))
  have HPn := hid (act_none (H := pH v) (since := since))
  have HPo := hid (act_now (H := pH v) (since := since))
  have HPx := hid (act_no (H := pH v) (since := since))
  have HPy := hid (ask_yes (H := pH v) (since := since))
  generalize hPP : actP (pH v) since = PP at *
  generalize hAA : askP (pH v) since = AA at *
  clear hPP hAA
  have HB := hid bb
  have HSz := hid hsz
  have HG0 := hid g0
  have HG1 := hid g1
  have HHn : Hid ((pH v).now.si = v.now.si ∧ (pH v).nx = v.N.map pS) := hid ⟨rfl, rfl⟩
  generalize pH v = HH at *
  clear h bb hsz g0 g1
  obtain ⟨fe, ⟨pl, si, x1, n1, c1, I, x2, n2, c2, E, x3, n3, c3, UU⟩, x, n, c, N⟩ := v
  unfold HCells zHBox at hw1
  unfold HCells at HG0
  unfold zHBox at HG1
  unfold Tells at hC1
  unfold vH at hC1 HC2
  show Calls Try.prog 33 #[.agg #[.int .i64 fe, .int .i64 pl, .int .i64 si, .slice x1 n1 c1, .slice x2 n2 c2, .slice x3 n3 c3, .slice x n c], .int .i64 since] w _
  dsimp only at *
  have HW := hid hw1
  rw [hw1] at hC1
  clear hw1
  have fin : ∀ (wc W : World) (G0 Gl : Nat → Prop) (GN : Nat → Nat → Prop) (u : HV) (H : Hld) (z : Int), Below w1.heap.size w1 wc → OwH wc G0 Gl GN u → pH u = H → (∀ q, AllG G0 Gl GN q → New w1 wc q) → Turns (fun k => k = w.heap.size ∨ k = w.heap.size + 1) wc W → PP = (H, z) → Tells w PP.1 PP.2 (.returned (.tuple #[vH u, .int .i64 z])) W := fun wc W G0 Gl GN u H z h2 h3 h4 h5 t hp => by
    have := own_kept HB.out HSz.out h3 h2 h5 t
    rw [hp]
    exact ⟨u, rfl, hid ⟨G0, Gl, GN, this.1, h4, this.2.1, this.2.2⟩⟩
  have HFin := hid fin
  clear fin
  go_enter Try.func33, Try.ntmps33
  go_upto_region 2 with (go_at_call 28; refine hC1.mono ?_; rintro e wa ⟨v', rfl, H1⟩; obtain ⟨fe', ⟨pl', si', z1, m1, d1, sI, z2, m2, d2, sE, z3, m3, d3, sU⟩, zx, zn, zc, sN⟩ := v'; dsimp only; clear hC1)
  obtain ⟨G0, Gl, GN, o1, e1, b1, q1⟩ := H1.out
  rw [← HW.out] at b1 q1
  have bo := al wa (.cells #[.int .i64 fe', .int .i64 pl', .int .i64 si', .slice z1 m1 d1, .slice z2 m2 d2, .slice z3 m3 d3, .slice zx zn zc] 29)
  have HO1 := hid o1
  have HE1 := hid e1
  have HB1 := hid b1
  have HQ1 := hid q1
  have hg := heap_alloc_new wa (.cells #[.int .i64 fe', .int .i64 pl', .int .i64 si', .slice z1 m1 d1, .slice z2 m2 d2, .slice z3 m3 d3, .slice zx zn zc] 29)
  have ga := ((on b1 bo).block w.heap.size (by have := HSz.out; omega)).trans HG0.out
  have gb := ((on b1 bo).block (w.heap.size + 1) (by have := HSz.out; omega)).trans HG1.out
  have HBo := hid bo
  obtain ⟨p, hp⟩ : ∃ p, p = wa.heap.size := ⟨_, rfl⟩
  have HPp := hid hp
  rw [← hp] at hg ⊢
  generalize wa.alloc (.cells #[.int .i64 fe', .int .i64 pl', .int .i64 si', .slice z1 m1 d1, .slice z2 m2 d2, .slice z3 m3 d3, .slice zx zn zc] 29) = w2 at *
  have HGa := hid ga
  have HGb := hid gb
  have HGo := hid hg
  clear H1 o1 e1 b1 q1 bo hp
  have k0 := cell_heap hg (j := 0) rfl
  have a0 := cell_heap ga (j := 0) rfl
  have b0 := cell_heap gb (j := 0) rfl
  have fb0 := fr_heap gb 0
  have k1 := cell_heap hg (j := 1) rfl
  have a1 := cell_heap ga (j := 1) rfl
  have b1 := cell_heap gb (j := 1) rfl
  have fb1 := fr_heap gb 1
  have k2 := cell_heap hg (j := 2) rfl
  have a2 := cell_heap ga (j := 2) rfl
  have b2 := cell_heap gb (j := 2) rfl
  have fb2 := fr_heap gb 2
  have k3 := cell_heap hg (j := 3) rfl
  have a3 := cell_heap ga (j := 3) rfl
  have b3 := cell_heap gb (j := 3) rfl
  have fb3 := fr_heap gb 3
  have k4 := cell_heap hg (j := 4) rfl
  have a4 := cell_heap ga (j := 4) rfl
  have b4 := cell_heap gb (j := 4) rfl
  have fb4 := fr_heap gb 4
  have k5 := cell_heap hg (j := 5) rfl
  have a5 := cell_heap ga (j := 5) rfl
  have b5 := cell_heap gb (j := 5) rfl
  have fb5 := fr_heap gb 5
  have k6 := cell_heap hg (j := 6) rfl
  have a6 := cell_heap ga (j := 6) rfl
  have b6 := cell_heap gb (j := 6) rfl
  have fb6 := fr_heap gb 6
  (try dsimp only at k0 a0 k1 a1 k2 a2 k3 a3 k4 a4 k5 a5 k6 a6)
  clear hg ga gb
  generalize hzz : AA.2 = z at *
  by_cases hz0 : z = 0
  · subst hz0
    obtain ⟨hH, hsw, hff, hAA⟩ := HPy.out rfl
    have hAe : pH ⟨fe', ⟨pl', si', z1, m1, d1, sI, z2, m2, d2, sE, z3, m3, d3, sU⟩, zx, zn, zc, sN⟩ = ⟨since, HH.now, HH.nx⟩ := HE1.out.trans (by rw [hAA])
    have hfe : fe' = since := congrArg Hld.fe hAe
    have hsi : si' = HH.now.si := congrArg (fun H => H.now.si) hAe
    have HAe := hid hAe
    have HZ := hid hzz
    subst hfe
    clear hH hsw hff hAA hAe hzz
    by_cases hsn : si' = fe'
    · have hb : (si' == fe') = true := by simp [hsn]
      have HPP := hid (HPo.out rfl (by rw [← hsi]; exact hsn))
      clear hsi hsn
      go_wp2_with fail
      refine bodyPost_ret (v := .tuple #[vH ⟨fe', ⟨pl', si', z1, m1, d1, sI, z2, m2, d2, sE, z3, m3, d3, sU⟩, zx, zn, zc, sN⟩, .int .i64 0]) ?_ rfl ?_
      · rw [results_cell2 rfl]
        unfold vH
        go_simp
      · refine HFin.out w2 _ G0 Gl GN ⟨fe', ⟨pl', si', z1, m1, d1, sI, z2, m2, d2, sE, z3, m3, d3, sU⟩, zx, zn, zc, sN⟩ _ 0 (on HB1.out HBo.out) (HO1.out.below HBo.out) HAe.out (fun q hq => (HQ1.out q hq).mono HBo.out.size) ?_ HPP.out
        repeat (first | (with_reducible refine Turns.two ?_ (by first | exact .inl rfl | exact .inr rfl) _) | with_reducible exact Turns.refl _ _)
    · have hb : (si' == fe') = false := by simp [hsn]
      have HSn := hid (show HH.now.si ≠ fe' by rw [← hsi]; exact hsn)
      have hSt := seat_any fe' ((HO1.out.below HBo.out).toH.n)
      dsimp only at hSt
      clear hsi hsn
      go_upto_region 5 with (go_at_call 40; refine hSt.mono ?_; rintro e w3 ⟨r, rfl, H3⟩)
      have bz3 := H3.out.2
      have ga := (bz3.block w.heap.size (lt_heap HGa.out)).trans HGa.out
      have gb := (bz3.block (w.heap.size + 1) (lt_heap HGb.out)).trans HGb.out
      have go := (bz3.block p (lt_heap HGo.out)).trans HGo.out
      replace k0 := cell_heap go (j := 0) rfl
      replace a0 := cell_heap ga (j := 0) rfl
      replace b0 := cell_heap gb (j := 0) rfl
      replace fb0 := fr_heap gb 0
      replace k1 := cell_heap go (j := 1) rfl
      replace a1 := cell_heap ga (j := 1) rfl
      replace b1 := cell_heap gb (j := 1) rfl
      replace fb1 := fr_heap gb 1
      replace k2 := cell_heap go (j := 2) rfl
      replace a2 := cell_heap ga (j := 2) rfl
      replace b2 := cell_heap gb (j := 2) rfl
      replace fb2 := fr_heap gb 2
      replace k3 := cell_heap go (j := 3) rfl
      replace a3 := cell_heap ga (j := 3) rfl
      replace b3 := cell_heap gb (j := 3) rfl
      replace fb3 := fr_heap gb 3
      replace k4 := cell_heap go (j := 4) rfl
      replace a4 := cell_heap ga (j := 4) rfl
      replace b4 := cell_heap gb (j := 4) rfl
      replace fb4 := fr_heap gb 4
      replace k5 := cell_heap go (j := 5) rfl
      replace a5 := cell_heap ga (j := 5) rfl
      replace b5 := cell_heap gb (j := 5) rfl
      replace fb5 := fr_heap gb 5
      replace k6 := cell_heap go (j := 6) rfl
      replace a6 := cell_heap ga (j := 6) rfl
      replace b6 := cell_heap gb (j := 6) rfl
      replace fb6 := fr_heap gb 6
      (try dsimp only at k0 a0 k1 a1 k2 a2 k3 a3 k4 a4 k5 a5 k6 a6)
      have HGa3 := hid ga
      have HGb3 := hid gb
      have HGo3 := hid go
      have HB3 := hid bz3
      clear ga gb go bz3 hSt
      rcases H3.out.1 with ⟨rfl, hno⟩ | ⟨k, s, rfl, hk, hks, hkn⟩
      · have HPP := hid (HPn.out (by trivial) HSn.out (fun s hs => by
          have e := congrArg Hld.nx HAe.out
          have : s ∈ sN.map pS := by rw [show sN.map pS = HH.nx from e]; exact hs
          obtain ⟨t, ht, rfl⟩ := List.mem_map.1 this
          exact hno t ht))
        clear H3 hno
        go_wp2_with (go_at_call 56; refine (HC2.out _ (on HB1.out (on HBo.out HB3.out))).mono ?_; rintro e w4 ⟨v4, rfl, H4⟩; obtain ⟨yf, ⟨yp, ys, y1, j1, l1, yI, y2, j2, l2, yE, y3, j3, l3, yU⟩, yx, yn, yc, yN⟩ := v4; dsimp only; obtain ⟨G4, Gl4, GN4, o4, e4, bq4, q4⟩ := H4.out; have gb := (bq4.block (w.heap.size + 1) (lt_heap HGb3.out)).trans HGb3.out; replace b0 := cell_heap gb (j := 0) rfl; replace fb0 := fr_heap gb 0; replace b1 := cell_heap gb (j := 1) rfl; replace fb1 := fr_heap gb 1; replace b2 := cell_heap gb (j := 2) rfl; replace fb2 := fr_heap gb 2; replace b3 := cell_heap gb (j := 3) rfl; replace fb3 := fr_heap gb 3; replace b4 := cell_heap gb (j := 4) rfl; replace fb4 := fr_heap gb 4; replace b5 := cell_heap gb (j := 5) rfl; replace fb5 := fr_heap gb 5; replace b6 := cell_heap gb (j := 6) rfl; replace fb6 := fr_heap gb 6; have HO4 := hid o4; have HE4 := hid e4; have HB4 := hid bq4; have HQ4 := hid q4; clear H4 o4 e4 bq4 q4 gb)
        refine bodyPost_ret (v := .tuple #[vH ⟨yf, ⟨yp, ys, y1, j1, l1, yI, y2, j2, l2, yE, y3, j3, l3, yU⟩, yx, yn, yc, yN⟩, .int .i64 4]) ?_ rfl ?_
        · rw [results_cell2 rfl]
          unfold vH
          go_simp
        · refine HFin.out w4 _ G4 Gl4 GN4 ⟨yf, ⟨yp, ys, y1, j1, l1, yI, y2, j2, l2, yE, y3, j3, l3, yU⟩, yx, yn, yc, yN⟩ HH 4 (on HB1.out (on HBo.out (on HB3.out HB4.out))) HO4.out HE4.out (fun q hq => ⟨by have := (HQ4.out q hq).1; have := HB1.out.size; have := HBo.out.size; have := HB3.out.size; omega, (HQ4.out q hq).2⟩) ?_ HPP.out
          repeat (first | (with_reducible refine Turns.two ?_ (by first | exact .inl rfl | exact .inr rfl) _) | with_reducible exact Turns.refl _ _)
      · have hkS : (sN.map pS)[k]? = some (pS s) := by simp [hk]
        have eN : sN.map pS = HH.nx := congrArg Hld.nx HAe.out
        have HPP := hid (HPl.out k (pS s) (by trivial) HSn.out (by rw [← eN]; exact hkS) hks (fun j t hj ht => by
          rw [← eN] at ht
          rw [List.getElem?_map] at ht
          obtain ⟨u, hu, rfl⟩ := Option.map_eq_some_iff.1 ht
          exact hkn j u hj hu))
        rw [← eN] at HPP
        have hkl : k < sN.length := (List.getElem?_eq_some_iff.1 hk).1
        have hne : sN ≠ [] := fun e => by rw [e] at hkl; simp at hkl
        obtain ⟨g, c', hR, hle, hcm, _, hgl⟩ := HO1.out.own.there hne
        injection hR with e1 e2 e3
        subst e1 e3
        have hsm := HO1.out.ln
        dsimp only at hsm
        (try dsimp only at e2)
        have HX := hid e2
        have hlt : (k : Int) < (zn : Int) := by omega
        have hk0 : ¬ ((k : Int) < 0) := by omega
        obtain ⟨j, hj⟩ : ∃ j, j = k + 1 := ⟨_, rfl⟩
        have HJ := hid hj
        have hji : (k : Int) + 1 = (j : Int) := by omega
        have hwr : IntKind.i64.wrap ((j : Int)) = (j : Int) := by rw [IntKind.wrap_i64]; omega
        have hjn : j ≤ zn := by omega
        have hj0 : 0 < j := by omega
        clear hj
        have ow3 := (HO1.out.below HBo.out).own.below HB3.out
        dsimp only at ow3
        have s0 := ow3.cell srow.len hk (j := 0) (v := .int .i64 s.pl) rfl
        rw [Nat.add_zero] at s0
        have s1 := ow3.cell srow.len hk (j := 1) (v := .int .i64 s.si) rfl
        have s2 := ow3.cell srow.len hk (j := 2) (v := .slice s.x1 s.n1 s.c1) rfl
        have s3 := ow3.cell srow.len hk (j := 3) (v := .slice s.x2 s.n2 s.c2) rfl
        have s4 := ow3.cell srow.len hk (j := 4) (v := .slice s.x3 s.n3 s.c3) rfl
        have fk1 := fr_heap HGo3.out 1
        have fk2 := fr_heap HGo3.out 2
        have fk3 := fr_heap HGo3.out 3
        have fk4 := fr_heap HGo3.out 4
        have fk5 := fr_heap HGo3.out 5
        have fk6 := fr_heap HGo3.out 6
        have HK := hid hk
        have HOw3 := hid ow3
        clear H3 hkS eN hkn hks hkl hne hle hcm hgl hsm hk ow3 e2
        obtain ⟨tl, ts, t1, j1, l1, tI, t2, j2, l2, tE, t3, j3, l3, tU⟩ := s
        dsimp only at s0 s1 s2 s3 s4
        go_upto_region 8 with (fail)
        have e5 : ((((w3.setCell ⟨p, 1, none⟩ (.int .i64 tl)).setCell ⟨p, 2, none⟩ (.int .i64 ts)).setCell ⟨p, 3, none⟩ (.slice t1 j1 l1)).setCell ⟨p, 4, none⟩ (.slice t2 j2 l2)).setCell ⟨p, 5, none⟩ (.slice t3 j3 l3) = put5 w3 p 1 ⟨tl, ts, t1, j1, l1, tI, t2, j2, l2, tE, t3, j3, l3, tU⟩ := by simp only [put5]
        rw [e5]
        have go := heap_set (heap_set (heap_set (heap_set (heap_set HGo3.out (j := 1) (.int .i64 tl)) (j := 2) (.int .i64 ts)) (j := 3) (.slice t1 j1 l1)) (j := 4) (.slice t2 j2 l2)) (j := 5) (.slice t3 j3 l3)
        rw [e5] at go
        simp only [List.setIfInBounds_toArray, List.set_cons_zero, List.set_cons_succ] at go
        have t5 := turns_put5 w3 p 1 ⟨tl, ts, t1, j1, l1, tI, t2, j2, l2, tE, t3, j3, l3, tU⟩
        have gb := (t5.block (w.heap.size + 1) (lt_heap HGb3.out) (by have := HPp.out; have := HB1.out.size; have := HSz.out; omega)).trans HGb3.out
        have npg := box_ne HOw3.out HGo3.out (by decide) (g := g) rfl
        have nbg := box_ne HOw3.out HGb3.out (by decide) (g := g) rfl
        have ow5 := HOw3.out.turns t5 (fun q hq e => by have e2 : g = q := (by simpa [Value.ownBlock] using hq); omega)
        generalize put5 w3 p 1 ⟨tl, ts, t1, j1, l1, tI, t2, j2, l2, tE, t3, j3, l3, tU⟩ = wP at *
        have HT5 := hid t5
        have hD := deleteS_any (i := 0) (j := j) ow5 hj0 hjn
        have e0 : ((0 : Nat) : Int) = 0 := rfl
        rw [e0] at hD
        simp only [Nat.zero_add, List.take_zero, List.nil_append] at hD
        have HGo5 := hid go
        have HGb5 := hid gb
        have HNe := hid (And.intro npg nbg)
        replace k0 := cell_heap go (j := 0) rfl
        replace k1 := cell_heap go (j := 1) rfl
        replace k2 := cell_heap go (j := 2) rfl
        replace k3 := cell_heap go (j := 3) rfl
        replace k4 := cell_heap go (j := 4) rfl
        replace k5 := cell_heap go (j := 5) rfl
        replace k6 := cell_heap go (j := 6) rfl
        (try simp at k0 k1 k2 k3 k4 k5 k6)
        clear e5 go gb t5 npg nbg ow5 s0 s1 s2 s3 s4 a0 a1 a2 a3 a4 a5 a6 b0 b1 b2 b3 b4 b5 b6 fb0 fb1 fb2 fb3 fb4 fb5 fb6 fk1 fk2 fk3 fk4 fk5 fk6
        go_upto_region 9 with (go_at_call 58; refine hD.mono ?_; rintro e w5 ⟨rfl, H5⟩; have go := (H5.out.2.block p (lt_heap HGo5.out) HNe.out.1).trans HGo5.out; have k6 := cell_heap go (j := 6) rfl; have fk6 := fr_heap go 6; have HGo6 := hid go; have HH5 := hid H5.out; clear hD go H5)
        have go := heap_set HGo6.out (j := 6) (.slice (some ⟨g, 0, none⟩) (zn - j) zc)
        simp only [List.setIfInBounds_toArray, List.set_cons_zero, List.set_cons_succ] at go
        have gb := (put_block (w := w5) (g := p) (k := 6) (v := .slice (some ⟨g, 0, none⟩) (zn - j) zc) (b := w.heap.size + 1) (by have := lt_heap HGb5.out; have := HH5.out.2.size; omega) (by have := HPp.out; have := HB1.out.size; have := HSz.out; omega)).trans ((HH5.out.2.block _ (lt_heap HGb5.out) HNe.out.2).trans HGb5.out)
        have t6 := turns_put (a := p) (Turns.refl _ w5) 6 (.slice (some ⟨g, 0, none⟩) (zn - j) zc)
        generalize w5.setCell ⟨p, 6, none⟩ (.slice (some ⟨g, 0, none⟩) (zn - j) zc) = wT at *
        have HT6 := hid t6
        replace k0 := cell_heap go (j := 0) rfl
        have b0 := cell_heap gb (j := 0) rfl
        have fb0 := fr_heap gb 0
        replace k1 := cell_heap go (j := 1) rfl
        have b1 := cell_heap gb (j := 1) rfl
        have fb1 := fr_heap gb 1
        replace k2 := cell_heap go (j := 2) rfl
        have b2 := cell_heap gb (j := 2) rfl
        have fb2 := fr_heap gb 2
        replace k3 := cell_heap go (j := 3) rfl
        have b3 := cell_heap gb (j := 3) rfl
        have fb3 := fr_heap gb 3
        replace k4 := cell_heap go (j := 4) rfl
        have b4 := cell_heap gb (j := 4) rfl
        have fb4 := fr_heap gb 4
        replace k5 := cell_heap go (j := 5) rfl
        have b5 := cell_heap gb (j := 5) rfl
        have fb5 := fr_heap gb 5
        replace k6 := cell_heap go (j := 6) rfl
        have b6 := cell_heap gb (j := 6) rfl
        have fb6 := fr_heap gb 6
        (try simp at k0 k1 k2 k3 k4 k5 k6)
        clear go gb t6 fk6
        go_wp2_with fail
        refine bodyPost_ret (v := .tuple #[vH ⟨fe', ⟨tl, ts, t1, j1, l1, tI, t2, j2, l2, tE, t3, j3, l3, tU⟩, some ⟨g, 0, none⟩, zn - j, zc, sN.drop j⟩, .int .i64 0]) ?_ rfl ?_
        · rw [results_cell2 rfl]
          unfold vH
          go_simp
        · have hpn : ∀ i q, GN i q → q ≠ p ∧ q ≠ g := fun i q hq => ⟨by have := (HQ1.out q (.inr (.inr ⟨i, hq⟩))).2; have := HPp.out; omega, fun e => (HO1.out.d1 i q hq).2 (HO1.out.gl q (by rw [e]; rfl))⟩
          have hge := (HQ1.out g (.inr (.inl (HO1.out.gl g rfl)))).1
          have hpe : w1.heap.size ≤ p := by have := HPp.out; have := HB1.out.size; omega
          have hkp : Keeps (fun q => ∃ i, GN i q) w2 wT := ((Keeps.below HB3.out).trans (Keeps.turns HT5.out fun q ⟨i, hq⟩ => (hpn i q hq).1)).trans ((Keeps.turns HH5.out.2 fun q ⟨i, hq⟩ => (hpn i q hq).2).trans (Keeps.turns HT6.out fun q ⟨i, hq⟩ => (hpn i q hq).1))
          have hB3 := on HB1.out (on HBo.out HB3.out)
          have hs3 := hB3.size
          have hbT : Below w1.heap.size w1 wT := ((hB3.trans (HT5.out.below (fun q hq => by omega) (by omega))).trans (HH5.out.2.below (fun q hq => by rw [hq]; exact hge) (by have := HT5.out.size; omega))).trans (HT6.out.below (fun q hq => by omega) (by have := HT5.out.size; have := HH5.out.2.size; omega))
          have hoT := HH5.out.1.turns HT6.out (fun q hq e => by have e2 : g = q := (by simpa [Value.ownBlock] using hq); have := HNe.out.1; omega)
          have hN := OwH.next (HO1.out.below HBo.out) rfl HK.out hkp (by rw [← HJ.out]; exact hoT)
          rw [← HJ.out] at hN
          refine HFin.out wT _ (GN k) Gl (fun i => GN (i + j)) ⟨fe', ⟨tl, ts, t1, j1, l1, tI, t2, j2, l2, tE, t3, j3, l3, tU⟩, some ⟨g, 0, none⟩, zn - j, zc, sN.drop j⟩ _ 0 hbT hN (by unfold pH; rw [List.map_drop, HJ.out]) (fun q hq => ?_) ?_ HPP.out
          · have hq2 : AllG G0 Gl GN q := by
              rcases hq with hq | hq | ⟨i, hq⟩
              · exact .inr (.inr ⟨k, hq⟩)
              · exact .inr (.inl hq)
              · exact .inr (.inr ⟨_, hq⟩)
            have := HQ1.out q hq2
            exact ⟨this.1, by have := this.2; have := HBo.out.size; have := HB3.out.size; have := HT5.out.size; have := HH5.out.2.size; have := HT6.out.size; omega⟩
          · repeat (first | (with_reducible refine Turns.two ?_ (by first | exact .inl rfl | exact .inr rfl) _) | with_reducible exact Turns.refl _ _)
  · have hzn : (z != 0) = true := by simp [hz0]
    have HPP := hid (HPx.out hz0)
    have HZ := hid hzz
    clear hz0 hzz
    go_wp2_with fail
    refine bodyPost_ret (v := .tuple #[vH ⟨fe', ⟨pl', si', z1, m1, d1, sI, z2, m2, d2, sE, z3, m3, d3, sU⟩, zx, zn, zc, sN⟩, .int .i64 z]) ?_ rfl ?_
    · rw [results_cell2 rfl]
      unfold vH
      go_simp
    · refine HFin.out w2 _ G0 Gl GN ⟨fe', ⟨pl', si', z1, m1, d1, sI, z2, m2, d2, sE, z3, m3, d3, sU⟩, zx, zn, zc, sN⟩ _ z (on HB1.out HBo.out) (HO1.out.below HBo.out) HE1.out (fun q hq => (HQ1.out q hq).mono HBo.out.size) ?_ (by rw [HPP.out]; exact Prod.ext rfl HZ.out)
      repeat (first | (with_reducible refine Turns.two ?_ (by first | exact .inl rfl | exact .inr rfl) _) | with_reducible exact Turns.refl _ _)

end Go.Proofs.Ytnfflmndejbepaa.Sh

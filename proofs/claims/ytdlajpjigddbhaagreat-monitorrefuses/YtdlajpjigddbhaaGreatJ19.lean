/-
  Package atlas: advance.
  Conditions: the map is one's own, its epoch is one that may be.
-/
import Derived.Test.YtdlajpjigddbhaaGreatJ17
import Derived.Test.YtdlajpjigddbhaaGreatJ18
namespace Go.Proofs.YtdlajpjigddbhaaGreat.At
open Go.RowKit By Fl
set_option linter.unusedVariables false
set_option linter.unusedSimpArgs false
set_option maxRecDepth 100000

def Moved (w w' : World) (B p : Nat) (R : Value) (m : Mp) : Prop := ∃ R', MapAt w' B p m R' ∧ Turns (fun k => k = p ∨ R.ownBlock = some k) w w' ∧ ∀ g, R'.ownBlock = some g → R.ownBlock = some g ∨ w.heap.size ≤ g

theorem Moved.not {w w' : World} {B p : Nat} {m : Mp} {R : Value} (h : MapAt w B p m R) (b : Below w.heap.size w w') : Moved w w' B p R m := ⟨R, h.below b, Turns.of_below b, fun g hg => .inl hg⟩

theorem Turned.from {w w1 w' : World} {B p : Nat} {m : Mp} {R : Value} {L : List Osd} (b : Below w.heap.size w w1) (h : Turned w1 w' B p m R L) : Moved w w' B p R ⟨m.ep, m.pool, L⟩ := by
  obtain ⟨R', h1, h2, h3⟩ := h
  exact ⟨R', h1, (Turns.of_below b).trans h2, fun g hg => (h3 g hg).imp (fun h => h) (fun h => Nat.le_trans b.size h)⟩

theorem Moved.up {w w' : World} {B p : Nat} {m : Mp} {R : Value} (h : Moved w w' B p R m) (e : Int) : Moved w (w'.setCell ⟨p, 0, none⟩ (.int .i64 e)) B p R ⟨e, m.pool, m.osds⟩ := by
  obtain ⟨R', h1, h2, h3⟩ := h
  exact ⟨R', ⟨heap_set h1.blk _, h1.own.turns (turns_put (Turns.refl _ _) _ _) (fun g hg => h1.apart hg), h1.small⟩, h2.setCell (p := ⟨p, 0, none⟩) (.inl (.inl rfl)) _, h3⟩

theorem advP_no {m : Mp} {c : Ch} (h : mayC c = false ∨ m.ep = 1048576) : advP m c = (1, m) := by unfold advP; rw [if_pos h]
theorem advP_err {m : Mp} {c : Ch} {r : Int × List Osd} (h : mayC c = true) (h2 : m.ep ≠ 1048576) (hr : doP c.kind m.osds c.osd = r) (h3 : r.1 ≠ 0) : advP m c = (r.1, m) := by unfold advP; rw [if_neg (by simp [h, h2]), hr, if_neg h3]
theorem advP_ok {m : Mp} {c : Ch} {r : Int × List Osd} (h : mayC c = true) (h2 : m.ep ≠ 1048576) (hr : doP c.kind m.osds c.osd = r) (h3 : r.1 = 0) : advP m c = (0, ⟨m.ep + 1, m.pool, r.2⟩) := by unfold advP; rw [if_neg (by simp [h, h2]), hr, if_pos h3]

theorem turnP_err {L : List Osd} {id : Int} {f : Osd → Osd} (h : (turnP L id f).1 ≠ 0) : (turnP L id f).2 = L := by
  unfold turnP at *
  split
  · rfl
  · split
    · rfl
    · split
      · rfl
      · rename_i k hk _ x hx hn
        simp [hk, hx, hn] at h

theorem addP_err {L : List Osd} {o : Osd} (h : (addP L o).1 ≠ 0) : (addP L o).2 = L := by
  unfold addP at *
  split
  · rfl
  · split
    · rfl
    · split
      · rfl
      · rename_i h1 h2 h3
        simp [h1, h2, h3] at h

theorem advance_no {w : World} {B p : Nat} {m : Mp} {R : Value} (c : Ch) (h : MapAt w B p m R) (hno : mayC c = false ∨ m.ep = 1048576) :
    Calls Tryz.prog 69 #[.pointer (some ⟨p, 0, none⟩), vC c] w fun e w' => e = .returned (.int .i64 (advP m c).1) ∧ Hid (Moved w w' B p R (advP m c).2) := by
  have hC := fun W => checkChange_any c W
  have HM := hid h
  have HN := hid (advP_no hno)
  have p0 : w.cell? ⟨p, 0, none⟩ = some (.int .i64 m.ep) := cell_heap h.blk (j := 0) rfl
  have hpl := h.lt
  clear h
  obtain ⟨k, i, up, inn, wt, life, boot, host, rack⟩ := c
  cases ht : mayC ⟨k, i, up, inn, wt, life, boot, host, rack⟩ with
  | false =>
    rw [ht] at hC
    clear hno ht
    unfold vC errB at *
    dsimp only at hC ⊢
    go_enter Tryz.func69, Tryz.ntmps69
    go_wp2_with (go_at_call 54; refine (hC _).mono ?_; rintro e w1 ⟨rfl, hb1⟩; clear hC)
    go_ret
    rw [HN.out]
    exact ⟨rfl, Moved.not HM.out (on (al _ _) hb1)⟩
  | true =>
    have he : m.ep = 1048576 := by
      rcases hno with h | h
      · rw [ht] at h; cases h
      · exact h
    rw [ht] at hC
    rw [he] at p0
    clear hno ht he
    unfold vC errB at *
    dsimp only at hC ⊢
    have q0 := keep (al w (.cells #[.int .i64 k, .int .i64 i, .bool up, .bool inn, .int .i64 wt, .int .i64 life, .int .i64 boot, .int .i64 host, .int .i64 rack] 37)) p0
    go_enter Tryz.func69, Tryz.ntmps69
    go_wp2_with (go_at_call 54; refine (hC _).mono ?_; rintro e w1 ⟨rfl, hb1⟩; clear hC; have r0 := keep hb1 q0)
    go_ret
    rw [HN.out]
    exact ⟨rfl, Moved.not HM.out (on (al _ _) hb1)⟩

set_option maxHeartbeats 1600000 in
theorem advance_1 {w : World} {B p : Nat} {m : Mp} {R : Value} (o : Osd) (h : MapAt w B p m R) (hB : B ≤ w.heap.size) (hm : mayC ⟨1, o⟩ = true) (h0 : 0 ≤ m.ep) (h1 : m.ep < 1048576) :
    Calls Tryz.prog 69 #[.pointer (some ⟨p, 0, none⟩), vC ⟨1, o⟩] w fun e w' => e = .returned (.int .i64 (advP m ⟨1, o⟩).1) ∧ Hid (Moved w w' B p R (advP m ⟨1, o⟩).2) := by
  have hC := fun W => checkChange_any ⟨1, o⟩ W
  rw [hm] at hC
  unfold errB at hC
  have HM := hid h
  have hD : doP 1 m.osds o = addP m.osds o := rfl
  have HER : Hid ((addP m.osds o).1 ≠ 0 → (addP m.osds o).2 = m.osds) := addP_err
  have hDo := fun W (hb : Below w.heap.size w W) => add_any o (HM.out.below hb) (Nat.le_trans hB hb.size)
  obtain ⟨r, hr⟩ : ∃ r, r = addP m.osds o := ⟨_, rfl⟩
  rw [← hr] at hD hDo HER
  have HA := hid (fun (h3 : r.1 ≠ 0) => advP_err (c := ⟨1, o⟩) hm (by omega) hD h3)
  have HA2 := hid (fun (h3 : r.1 = 0) => advP_ok (c := ⟨1, o⟩) hm (by omega) hD h3)
  have hKi := fun W => kinds_any W
  have hI : ∀ W : World, (Instr.index 128 (.agg kindsV) (.int .i64 1)).run Tryz.prog W = .ok (.agg #[fn 96, fn 97]) W := fun _ => by kernel_rfl
  have hF : ∀ W : World, (Instr.field 127 (.agg #[fn 96, fn 97]) 1).run Tryz.prog W = .ok (fn 97) W := fun _ => by kernel_rfl
  unfold kindsV fn at hKi hI
  unfold fn at hF
  have p0 : w.cell? ⟨p, 0, none⟩ = some (.int .i64 m.ep) := cell_heap h.blk (j := 0) rfl
  have hpl := h.lt
  obtain ⟨ep, hep⟩ : ∃ e, e = m.ep := ⟨_, rfl⟩
  rw [← hep] at p0 h0 h1
  have HE := hid hep
  obtain ⟨i, up, inn, wt, life, boot, host, rack⟩ := o
  unfold vC vO at *
  dsimp only at hC hDo ⊢
  have b0 := al w (.cells #[.int .i64 1, .int .i64 i, .bool up, .bool inn, .int .i64 wt, .int .i64 life, .int .i64 boot, .int .i64 host, .int .i64 rack] 37)
  have q0 := keep b0 p0
  have hne : ¬ ep = 1048576 := by omega
  have hrow : ∀ g, R.ownBlock = some g → g < w.heap.size ∧ g ≠ p := fun g hg => ⟨(World.ownsRow.lt h.own g hg).2, h.apart hg⟩
  have HR := hid hrow
  have HB := hid b0
  obtain ⟨w0, hw0⟩ : ∃ w0, w0 = w.alloc (.cells #[.int .i64 1, .int .i64 i, .bool up, .bool inn, .int .i64 wt, .int .i64 life, .int .i64 boot, .int .i64 host, .int .i64 rack] 37) := ⟨_, rfl⟩
  have c0 : w0.cell? ⟨w.heap.size, 0, none⟩ = some (.int .i64 1) := by rw [hw0]; go_simp
  have c1 : w0.cell? ⟨w.heap.size, 1, none⟩ = some (.int .i64 i) := by rw [hw0]; go_simp
  have c2 : w0.cell? ⟨w.heap.size, 2, none⟩ = some (.bool up) := by rw [hw0]; go_simp
  have c3 : w0.cell? ⟨w.heap.size, 3, none⟩ = some (.bool inn) := by rw [hw0]; go_simp
  have c4 : w0.cell? ⟨w.heap.size, 4, none⟩ = some (.int .i64 wt) := by rw [hw0]; go_simp
  have c5 : w0.cell? ⟨w.heap.size, 5, none⟩ = some (.int .i64 life) := by rw [hw0]; go_simp
  have c6 : w0.cell? ⟨w.heap.size, 6, none⟩ = some (.int .i64 boot) := by rw [hw0]; go_simp
  have c7 : w0.cell? ⟨w.heap.size, 7, none⟩ = some (.int .i64 host) := by rw [hw0]; go_simp
  have c8 : w0.cell? ⟨w.heap.size, 8, none⟩ = some (.int .i64 rack) := by rw [hw0]; go_simp
  rw [← hw0] at b0 q0 HB
  have HW := hid hw0
  clear h hm hD hr hep hrow hw0 hB
  go_enter Tryz.func69, Tryz.ntmps69
  go_wp2_with (go_at_call 54; rw [← HW.out]; refine (hC _).mono ?_; rintro e w1 ⟨rfl, hb1⟩; clear hC; have r0 := keep hb1 q0; have d0 := keep hb1 c0; have d1 := keep hb1 c1; have d2 := keep hb1 c2; have d3 := keep hb1 c3; have d4 := keep hb1 c4; have d5 := keep hb1 c5; have d6 := keep hb1 c6; have d7 := keep hb1 c7; have d8 := keep hb1 c8; clear c0 c1 c2 c3 c4 c5 c6 c7 c8 q0)
  have B1 : Below w.heap.size w w1.drew := (on HB.out hb1).drew
  have HB1 := hid B1
  replace d0 := keep (Below.refl _ w1).drew d0
  replace d1 := keep (Below.refl _ w1).drew d1
  replace d2 := keep (Below.refl _ w1).drew d2
  replace d3 := keep (Below.refl _ w1).drew d3
  replace d4 := keep (Below.refl _ w1).drew d4
  replace d5 := keep (Below.refl _ w1).drew d5
  replace d6 := keep (Below.refl _ w1).drew d6
  replace d7 := keep (Below.refl _ w1).drew d7
  replace d8 := keep (Below.refl _ w1).drew d8
  generalize hwD : w1.drew = wD at *
  have HWD := hid hwD
  clear hwD hb1 r0
  refine wp_region_held_drew (S := fun v => v.cell? ⟨w.heap.size, 0, none⟩ = some (.int .i64 1) ∧ v.cell? ⟨w.heap.size, 1, none⟩ = some (.int .i64 i) ∧ v.cell? ⟨w.heap.size, 2, none⟩ = some (.bool up) ∧ v.cell? ⟨w.heap.size, 3, none⟩ = some (.bool inn) ∧ v.cell? ⟨w.heap.size, 4, none⟩ = some (.int .i64 wt) ∧ v.cell? ⟨w.heap.size, 5, none⟩ = some (.int .i64 life) ∧ v.cell? ⟨w.heap.size, 6, none⟩ = some (.int .i64 boot) ∧ v.cell? ⟨w.heap.size, 7, none⟩ = some (.int .i64 host) ∧ v.cell? ⟨w.heap.size, 8, none⟩ = some (.int .i64 rack)) (by kernel_rfl) (by rw [HWD.out]; exact ⟨d0, d1, d2, d3, d4, d5, d6, d7, d8⟩) (fun hHeld => ?_)
  rw [HWD.out] at hHeld ⊢
  refine wpAnyH_take (i := 1) (v := ?_) rfl (by kernel_rfl) (by kernel_rfl) (by kernel_rfl) (fun _ _ _ h => h) (Or.inl ⟨by rfl, ?_⟩) (by assumption) ?_
  case refine_2 => (intro w hSw; (try dsimp only at hSw); go_simp; (try with_reducible rfl))
  (try simp only [Act.put, List.getElem_toArray, List.getElem_cons_succ, List.getElem_cons_zero, List.setIfInBounds_toArray, List.set_cons_zero, List.set_cons_succ])
  refine wpAnyH_take (i := 2) (v := ?_) rfl (by kernel_rfl) (by kernel_rfl) (by kernel_rfl) (fun _ _ _ h => h) (Or.inl ⟨by rfl, ?_⟩) (by assumption) ?_
  case refine_2 => (intro w hSw; (try dsimp only at hSw); go_simp; (try with_reducible rfl))
  (try simp only [Act.put, List.getElem_toArray, List.getElem_cons_succ, List.getElem_cons_zero, List.setIfInBounds_toArray, List.set_cons_zero, List.set_cons_succ])
  refine wpAnyH_take (i := 5) (v := ?_) rfl (by kernel_rfl) (by kernel_rfl) (by kernel_rfl) (fun _ _ _ h => h) (Or.inl ⟨by rfl, ?_⟩) (by assumption) ?_
  case refine_2 => (intro w hSw; (try dsimp only at hSw); go_simp; (try with_reducible rfl))
  (try simp only [Act.put, List.getElem_toArray, List.getElem_cons_succ, List.getElem_cons_zero, List.setIfInBounds_toArray, List.set_cons_zero, List.set_cons_succ])
  refine wpAnyH_take (i := 6) (v := ?_) rfl (by kernel_rfl) (by kernel_rfl) (by kernel_rfl) (fun _ _ _ h => h) (Or.inl ⟨by rfl, ?_⟩) (by assumption) ?_
  case refine_2 => (intro w hSw; (try dsimp only at hSw); go_simp; (try with_reducible rfl))
  (try simp only [Act.put, List.getElem_toArray, List.getElem_cons_succ, List.getElem_cons_zero, List.setIfInBounds_toArray, List.set_cons_zero, List.set_cons_succ])
  refine wpAnyH_take (i := 7) (v := ?_) rfl (by kernel_rfl) (by kernel_rfl) (by kernel_rfl) (fun _ _ _ h => h) (Or.inl ⟨by rfl, ?_⟩) (by assumption) ?_
  case refine_2 => (intro w hSw; (try dsimp only at hSw); go_simp; (try with_reducible rfl))
  (try simp only [Act.put, List.getElem_toArray, List.getElem_cons_succ, List.getElem_cons_zero, List.setIfInBounds_toArray, List.set_cons_zero, List.set_cons_succ])
  refine wpAnyH_ready (rs := [0]) (by kernel_rfl) (by simp) ?_
  refine AllReadyH.cons rfl (fun K hK => ?_) AllReadyH.nil
  go_simp
  refine (hKi _).mono ?_
  rintro e w2 ⟨rfl, hb2⟩
  refine hK.out _ _ ⟨keep hb2 d0, keep hb2 d1, keep hb2 d2, keep hb2 d3, keep hb2 d4, keep hb2 d5, keep hb2 d6, keep hb2 d7, keep hb2 d8⟩ (fun hHeld => ?_)
  clear hK K
  refine wpAnyH_take (i := 3) (v := ?_) rfl (by kernel_rfl) (by kernel_rfl) (by kernel_rfl) (fun _ _ _ h => h) (Or.inl ⟨by rfl, ?_⟩) (by assumption) ?_
  case refine_2 => (intro w hSw; (try dsimp only at hSw); go_simp; (try with_reducible rfl))
  (try simp only [Act.put, List.getElem_toArray, List.getElem_cons_succ, List.getElem_cons_zero, List.setIfInBounds_toArray, List.set_cons_zero, List.set_cons_succ])
  refine wpAnyH_take (i := 4) (v := ?_) rfl (by kernel_rfl) (by kernel_rfl) (by kernel_rfl) (fun _ _ _ h => h) (Or.inl ⟨by rfl, ?_⟩) (by assumption) ?_
  case refine_2 => (intro w hSw; (try dsimp only at hSw); go_simp; (try with_reducible rfl))
  (try simp only [Act.put, List.getElem_toArray, List.getElem_cons_succ, List.getElem_cons_zero, List.setIfInBounds_toArray, List.set_cons_zero, List.set_cons_succ])
  refine wpAnyH_ready (rs := [8]) (by kernel_rfl) (by simp) ?_
  refine AllReadyH.cons rfl (fun K hK => ?_) AllReadyH.nil
  go_simp
  refine (hDo _ (on B1 hb2)).mono ?_
  rintro e w3 ⟨rfl, H3⟩
  obtain ⟨R3, M3, T3, N3⟩ := Turned.from (on B1 hb2) H3.out
  have HM3 : Hid (Moved w w3 B p R ⟨m.ep, m.pool, r.2⟩) := ⟨R3, M3, T3, N3⟩
  have hbx : ∀ (q : Nat) (v : Value), w2.cell? ⟨w.heap.size, q, none⟩ = some v → w3.cell? ⟨w.heap.size, q, none⟩ = some v := fun q v hv => by
    obtain ⟨R4, M4, T4, N4⟩ := H3.out
    exact (World.cell?_of_block (a := ⟨w.heap.size, q, none⟩) (T4.block w.heap.size (cell_lt' hv) (fun e => by rcases e with e | e; exact absurd e (by omega); have := (HR.out _ e).1; omega))).trans hv
  have e0 : w3.cell? ⟨p, 0, none⟩ = some (.int .i64 ep) := by rw [HE.out]; exact cell_heap M3.blk (j := 0) rfl
  have f0 : w3.frozen? ⟨p, 0, none⟩ = false := fr_heap M3.blk 0
  refine hK.out _ _ ⟨hbx _ _ (keep hb2 d0), hbx _ _ (keep hb2 d1), hbx _ _ (keep hb2 d2), hbx _ _ (keep hb2 d3), hbx _ _ (keep hb2 d4), hbx _ _ (keep hb2 d5), hbx _ _ (keep hb2 d6), hbx _ _ (keep hb2 d7), hbx _ _ (keep hb2 d8)⟩ (fun hHeld => ?_)
  clear hK K
  refine wpAnyH_take (i := 9) (v := ?_) rfl (by kernel_rfl) (by kernel_rfl) (by kernel_rfl) (fun _ _ _ h => h) (Or.inl ⟨by rfl, ?_⟩) (by assumption) ?_
  case refine_2 => (intro w hSw; (try dsimp only at hSw); go_simp; (try with_reducible rfl))
  (try simp only [Act.put, List.getElem_toArray, List.getElem_cons_succ, List.getElem_cons_zero, List.setIfInBounds_toArray, List.set_cons_zero, List.set_cons_succ])
  refine wpAnyH_done (by kernel_rfl) ?_ _
  clear hHeld d0 d1 d2 d3 d4 d5 d6 d7 d8 hbx hDo hKi hI hF M3 T3 N3 H3 B1 hb2
  obtain ⟨r1, r2⟩ := r
  dsimp only at HA HA2 HER HM3 ⊢
  by_cases hz : r1 = 0
  · subst hz
    go_wp2_with fail
    go_ret
    rw [HA2.out trivial]
    refine ⟨rfl, ?_⟩
    rw [← HE.out]
    exact HM3.out.up (ep + 1)
  · have HZ : Hid (r1 ≠ 0) := hz
    go_wp2_with fail
    go_ret
    rw [HA.out HZ.out]
    refine ⟨rfl, ?_⟩
    have := HM3.out
    rw [HER.out HZ.out] at this
    exact this

set_option maxHeartbeats 1600000 in
theorem advance_2 {w : World} {B p : Nat} {m : Mp} {R : Value} (o : Osd) (h : MapAt w B p m R) (hB : B ≤ w.heap.size) (hm : mayC ⟨2, o⟩ = true) (h0 : 0 ≤ m.ep) (h1 : m.ep < 1048576) :
    Calls Tryz.prog 69 #[.pointer (some ⟨p, 0, none⟩), vC ⟨2, o⟩] w fun e w' => e = .returned (.int .i64 (advP m ⟨2, o⟩).1) ∧ Hid (Moved w w' B p R (advP m ⟨2, o⟩).2) := by
  have hC := fun W => checkChange_any ⟨2, o⟩ W
  rw [hm] at hC
  unfold errB at hC
  have HM := hid h
  have hD : doP 2 m.osds o = turnP m.osds o.id (setUp o) := rfl
  have HER : Hid ((turnP m.osds o.id (setUp o)).1 ≠ 0 → (turnP m.osds o.id (setUp o)).2 = m.osds) := turnP_err
  have hDo := fun W (hb : Below w.heap.size w W) => setUp_any o (HM.out.below hb) (Nat.le_trans hB hb.size)
  obtain ⟨r, hr⟩ : ∃ r, r = turnP m.osds o.id (setUp o) := ⟨_, rfl⟩
  rw [← hr] at hD hDo HER
  have HA := hid (fun (h3 : r.1 ≠ 0) => advP_err (c := ⟨2, o⟩) hm (by omega) hD h3)
  have HA2 := hid (fun (h3 : r.1 = 0) => advP_ok (c := ⟨2, o⟩) hm (by omega) hD h3)
  have hKi := fun W => kinds_any W
  have hI : ∀ W : World, (Instr.index 128 (.agg kindsV) (.int .i64 2)).run Tryz.prog W = .ok (.agg #[fn 98, fn 99]) W := fun _ => by kernel_rfl
  have hF : ∀ W : World, (Instr.field 127 (.agg #[fn 98, fn 99]) 1).run Tryz.prog W = .ok (fn 99) W := fun _ => by kernel_rfl
  unfold kindsV fn at hKi hI
  unfold fn at hF
  have p0 : w.cell? ⟨p, 0, none⟩ = some (.int .i64 m.ep) := cell_heap h.blk (j := 0) rfl
  have hpl := h.lt
  obtain ⟨ep, hep⟩ : ∃ e, e = m.ep := ⟨_, rfl⟩
  rw [← hep] at p0 h0 h1
  have HE := hid hep
  obtain ⟨i, up, inn, wt, life, boot, host, rack⟩ := o
  unfold vC vO at *
  dsimp only at hC hDo ⊢
  have b0 := al w (.cells #[.int .i64 2, .int .i64 i, .bool up, .bool inn, .int .i64 wt, .int .i64 life, .int .i64 boot, .int .i64 host, .int .i64 rack] 37)
  have q0 := keep b0 p0
  have hne : ¬ ep = 1048576 := by omega
  have hrow : ∀ g, R.ownBlock = some g → g < w.heap.size ∧ g ≠ p := fun g hg => ⟨(World.ownsRow.lt h.own g hg).2, h.apart hg⟩
  have HR := hid hrow
  have HB := hid b0
  obtain ⟨w0, hw0⟩ : ∃ w0, w0 = w.alloc (.cells #[.int .i64 2, .int .i64 i, .bool up, .bool inn, .int .i64 wt, .int .i64 life, .int .i64 boot, .int .i64 host, .int .i64 rack] 37) := ⟨_, rfl⟩
  have c0 : w0.cell? ⟨w.heap.size, 0, none⟩ = some (.int .i64 2) := by rw [hw0]; go_simp
  have c1 : w0.cell? ⟨w.heap.size, 1, none⟩ = some (.int .i64 i) := by rw [hw0]; go_simp
  have c2 : w0.cell? ⟨w.heap.size, 2, none⟩ = some (.bool up) := by rw [hw0]; go_simp
  have c3 : w0.cell? ⟨w.heap.size, 3, none⟩ = some (.bool inn) := by rw [hw0]; go_simp
  have c4 : w0.cell? ⟨w.heap.size, 4, none⟩ = some (.int .i64 wt) := by rw [hw0]; go_simp
  have c5 : w0.cell? ⟨w.heap.size, 5, none⟩ = some (.int .i64 life) := by rw [hw0]; go_simp
  have c6 : w0.cell? ⟨w.heap.size, 6, none⟩ = some (.int .i64 boot) := by rw [hw0]; go_simp
  have c7 : w0.cell? ⟨w.heap.size, 7, none⟩ = some (.int .i64 host) := by rw [hw0]; go_simp
  have c8 : w0.cell? ⟨w.heap.size, 8, none⟩ = some (.int .i64 rack) := by rw [hw0]; go_simp
  rw [← hw0] at b0 q0 HB
  have HW := hid hw0
  clear h hm hD hr hep hrow hw0 hB
  go_enter Tryz.func69, Tryz.ntmps69
  go_wp2_with (go_at_call 54; rw [← HW.out]; refine (hC _).mono ?_; rintro e w1 ⟨rfl, hb1⟩; clear hC; have r0 := keep hb1 q0; have d0 := keep hb1 c0; have d1 := keep hb1 c1; have d2 := keep hb1 c2; have d3 := keep hb1 c3; have d4 := keep hb1 c4; have d5 := keep hb1 c5; have d6 := keep hb1 c6; have d7 := keep hb1 c7; have d8 := keep hb1 c8; clear c0 c1 c2 c3 c4 c5 c6 c7 c8 q0)
  have B1 : Below w.heap.size w w1.drew := (on HB.out hb1).drew
  have HB1 := hid B1
  replace d0 := keep (Below.refl _ w1).drew d0
  replace d1 := keep (Below.refl _ w1).drew d1
  replace d2 := keep (Below.refl _ w1).drew d2
  replace d3 := keep (Below.refl _ w1).drew d3
  replace d4 := keep (Below.refl _ w1).drew d4
  replace d5 := keep (Below.refl _ w1).drew d5
  replace d6 := keep (Below.refl _ w1).drew d6
  replace d7 := keep (Below.refl _ w1).drew d7
  replace d8 := keep (Below.refl _ w1).drew d8
  generalize hwD : w1.drew = wD at *
  have HWD := hid hwD
  clear hwD hb1 r0
  refine wp_region_held_drew (S := fun v => v.cell? ⟨w.heap.size, 0, none⟩ = some (.int .i64 2) ∧ v.cell? ⟨w.heap.size, 1, none⟩ = some (.int .i64 i) ∧ v.cell? ⟨w.heap.size, 2, none⟩ = some (.bool up) ∧ v.cell? ⟨w.heap.size, 3, none⟩ = some (.bool inn) ∧ v.cell? ⟨w.heap.size, 4, none⟩ = some (.int .i64 wt) ∧ v.cell? ⟨w.heap.size, 5, none⟩ = some (.int .i64 life) ∧ v.cell? ⟨w.heap.size, 6, none⟩ = some (.int .i64 boot) ∧ v.cell? ⟨w.heap.size, 7, none⟩ = some (.int .i64 host) ∧ v.cell? ⟨w.heap.size, 8, none⟩ = some (.int .i64 rack)) (by kernel_rfl) (by rw [HWD.out]; exact ⟨d0, d1, d2, d3, d4, d5, d6, d7, d8⟩) (fun hHeld => ?_)
  rw [HWD.out] at hHeld ⊢
  refine wpAnyH_take (i := 1) (v := ?_) rfl (by kernel_rfl) (by kernel_rfl) (by kernel_rfl) (fun _ _ _ h => h) (Or.inl ⟨by rfl, ?_⟩) (by assumption) ?_
  case refine_2 => (intro w hSw; (try dsimp only at hSw); go_simp; (try with_reducible rfl))
  (try simp only [Act.put, List.getElem_toArray, List.getElem_cons_succ, List.getElem_cons_zero, List.setIfInBounds_toArray, List.set_cons_zero, List.set_cons_succ])
  refine wpAnyH_take (i := 2) (v := ?_) rfl (by kernel_rfl) (by kernel_rfl) (by kernel_rfl) (fun _ _ _ h => h) (Or.inl ⟨by rfl, ?_⟩) (by assumption) ?_
  case refine_2 => (intro w hSw; (try dsimp only at hSw); go_simp; (try with_reducible rfl))
  (try simp only [Act.put, List.getElem_toArray, List.getElem_cons_succ, List.getElem_cons_zero, List.setIfInBounds_toArray, List.set_cons_zero, List.set_cons_succ])
  refine wpAnyH_take (i := 5) (v := ?_) rfl (by kernel_rfl) (by kernel_rfl) (by kernel_rfl) (fun _ _ _ h => h) (Or.inl ⟨by rfl, ?_⟩) (by assumption) ?_
  case refine_2 => (intro w hSw; (try dsimp only at hSw); go_simp; (try with_reducible rfl))
  (try simp only [Act.put, List.getElem_toArray, List.getElem_cons_succ, List.getElem_cons_zero, List.setIfInBounds_toArray, List.set_cons_zero, List.set_cons_succ])
  refine wpAnyH_take (i := 6) (v := ?_) rfl (by kernel_rfl) (by kernel_rfl) (by kernel_rfl) (fun _ _ _ h => h) (Or.inl ⟨by rfl, ?_⟩) (by assumption) ?_
  case refine_2 => (intro w hSw; (try dsimp only at hSw); go_simp; (try with_reducible rfl))
  (try simp only [Act.put, List.getElem_toArray, List.getElem_cons_succ, List.getElem_cons_zero, List.setIfInBounds_toArray, List.set_cons_zero, List.set_cons_succ])
  refine wpAnyH_take (i := 7) (v := ?_) rfl (by kernel_rfl) (by kernel_rfl) (by kernel_rfl) (fun _ _ _ h => h) (Or.inl ⟨by rfl, ?_⟩) (by assumption) ?_
  case refine_2 => (intro w hSw; (try dsimp only at hSw); go_simp; (try with_reducible rfl))
  (try simp only [Act.put, List.getElem_toArray, List.getElem_cons_succ, List.getElem_cons_zero, List.setIfInBounds_toArray, List.set_cons_zero, List.set_cons_succ])
  refine wpAnyH_ready (rs := [0]) (by kernel_rfl) (by simp) ?_
  refine AllReadyH.cons rfl (fun K hK => ?_) AllReadyH.nil
  go_simp
  refine (hKi _).mono ?_
  rintro e w2 ⟨rfl, hb2⟩
  refine hK.out _ _ ⟨keep hb2 d0, keep hb2 d1, keep hb2 d2, keep hb2 d3, keep hb2 d4, keep hb2 d5, keep hb2 d6, keep hb2 d7, keep hb2 d8⟩ (fun hHeld => ?_)
  clear hK K
  refine wpAnyH_take (i := 3) (v := ?_) rfl (by kernel_rfl) (by kernel_rfl) (by kernel_rfl) (fun _ _ _ h => h) (Or.inl ⟨by rfl, ?_⟩) (by assumption) ?_
  case refine_2 => (intro w hSw; (try dsimp only at hSw); go_simp; (try with_reducible rfl))
  (try simp only [Act.put, List.getElem_toArray, List.getElem_cons_succ, List.getElem_cons_zero, List.setIfInBounds_toArray, List.set_cons_zero, List.set_cons_succ])
  refine wpAnyH_take (i := 4) (v := ?_) rfl (by kernel_rfl) (by kernel_rfl) (by kernel_rfl) (fun _ _ _ h => h) (Or.inl ⟨by rfl, ?_⟩) (by assumption) ?_
  case refine_2 => (intro w hSw; (try dsimp only at hSw); go_simp; (try with_reducible rfl))
  (try simp only [Act.put, List.getElem_toArray, List.getElem_cons_succ, List.getElem_cons_zero, List.setIfInBounds_toArray, List.set_cons_zero, List.set_cons_succ])
  refine wpAnyH_ready (rs := [8]) (by kernel_rfl) (by simp) ?_
  refine AllReadyH.cons rfl (fun K hK => ?_) AllReadyH.nil
  go_simp
  refine (hDo _ (on B1 hb2)).mono ?_
  rintro e w3 ⟨rfl, H3⟩
  obtain ⟨R3, M3, T3, N3⟩ := Turned.from (on B1 hb2) H3.out
  have HM3 : Hid (Moved w w3 B p R ⟨m.ep, m.pool, r.2⟩) := ⟨R3, M3, T3, N3⟩
  have hbx : ∀ (q : Nat) (v : Value), w2.cell? ⟨w.heap.size, q, none⟩ = some v → w3.cell? ⟨w.heap.size, q, none⟩ = some v := fun q v hv => by
    obtain ⟨R4, M4, T4, N4⟩ := H3.out
    exact (World.cell?_of_block (a := ⟨w.heap.size, q, none⟩) (T4.block w.heap.size (cell_lt' hv) (fun e => by rcases e with e | e; exact absurd e (by omega); have := (HR.out _ e).1; omega))).trans hv
  have e0 : w3.cell? ⟨p, 0, none⟩ = some (.int .i64 ep) := by rw [HE.out]; exact cell_heap M3.blk (j := 0) rfl
  have f0 : w3.frozen? ⟨p, 0, none⟩ = false := fr_heap M3.blk 0
  refine hK.out _ _ ⟨hbx _ _ (keep hb2 d0), hbx _ _ (keep hb2 d1), hbx _ _ (keep hb2 d2), hbx _ _ (keep hb2 d3), hbx _ _ (keep hb2 d4), hbx _ _ (keep hb2 d5), hbx _ _ (keep hb2 d6), hbx _ _ (keep hb2 d7), hbx _ _ (keep hb2 d8)⟩ (fun hHeld => ?_)
  clear hK K
  refine wpAnyH_take (i := 9) (v := ?_) rfl (by kernel_rfl) (by kernel_rfl) (by kernel_rfl) (fun _ _ _ h => h) (Or.inl ⟨by rfl, ?_⟩) (by assumption) ?_
  case refine_2 => (intro w hSw; (try dsimp only at hSw); go_simp; (try with_reducible rfl))
  (try simp only [Act.put, List.getElem_toArray, List.getElem_cons_succ, List.getElem_cons_zero, List.setIfInBounds_toArray, List.set_cons_zero, List.set_cons_succ])
  refine wpAnyH_done (by kernel_rfl) ?_ _
  clear hHeld d0 d1 d2 d3 d4 d5 d6 d7 d8 hbx hDo hKi hI hF M3 T3 N3 H3 B1 hb2
  obtain ⟨r1, r2⟩ := r
  dsimp only at HA HA2 HER HM3 ⊢
  by_cases hz : r1 = 0
  · subst hz
    go_wp2_with fail
    go_ret
    rw [HA2.out trivial]
    refine ⟨rfl, ?_⟩
    rw [← HE.out]
    exact HM3.out.up (ep + 1)
  · have HZ : Hid (r1 ≠ 0) := hz
    go_wp2_with fail
    go_ret
    rw [HA.out HZ.out]
    refine ⟨rfl, ?_⟩
    have := HM3.out
    rw [HER.out HZ.out] at this
    exact this

set_option maxHeartbeats 1600000 in
theorem advance_3 {w : World} {B p : Nat} {m : Mp} {R : Value} (o : Osd) (h : MapAt w B p m R) (hB : B ≤ w.heap.size) (hm : mayC ⟨3, o⟩ = true) (h0 : 0 ≤ m.ep) (h1 : m.ep < 1048576) :
    Calls Tryz.prog 69 #[.pointer (some ⟨p, 0, none⟩), vC ⟨3, o⟩] w fun e w' => e = .returned (.int .i64 (advP m ⟨3, o⟩).1) ∧ Hid (Moved w w' B p R (advP m ⟨3, o⟩).2) := by
  have hC := fun W => checkChange_any ⟨3, o⟩ W
  rw [hm] at hC
  unfold errB at hC
  have HM := hid h
  have hD : doP 3 m.osds o = turnP m.osds o.id (setDown o) := rfl
  have HER : Hid ((turnP m.osds o.id (setDown o)).1 ≠ 0 → (turnP m.osds o.id (setDown o)).2 = m.osds) := turnP_err
  have hDo := fun W (hb : Below w.heap.size w W) => setDown_any o (HM.out.below hb) (Nat.le_trans hB hb.size)
  obtain ⟨r, hr⟩ : ∃ r, r = turnP m.osds o.id (setDown o) := ⟨_, rfl⟩
  rw [← hr] at hD hDo HER
  have HA := hid (fun (h3 : r.1 ≠ 0) => advP_err (c := ⟨3, o⟩) hm (by omega) hD h3)
  have HA2 := hid (fun (h3 : r.1 = 0) => advP_ok (c := ⟨3, o⟩) hm (by omega) hD h3)
  have hKi := fun W => kinds_any W
  have hI : ∀ W : World, (Instr.index 128 (.agg kindsV) (.int .i64 3)).run Tryz.prog W = .ok (.agg #[fn 100, fn 101]) W := fun _ => by kernel_rfl
  have hF : ∀ W : World, (Instr.field 127 (.agg #[fn 100, fn 101]) 1).run Tryz.prog W = .ok (fn 101) W := fun _ => by kernel_rfl
  unfold kindsV fn at hKi hI
  unfold fn at hF
  have p0 : w.cell? ⟨p, 0, none⟩ = some (.int .i64 m.ep) := cell_heap h.blk (j := 0) rfl
  have hpl := h.lt
  obtain ⟨ep, hep⟩ : ∃ e, e = m.ep := ⟨_, rfl⟩
  rw [← hep] at p0 h0 h1
  have HE := hid hep
  obtain ⟨i, up, inn, wt, life, boot, host, rack⟩ := o
  unfold vC vO at *
  dsimp only at hC hDo ⊢
  have b0 := al w (.cells #[.int .i64 3, .int .i64 i, .bool up, .bool inn, .int .i64 wt, .int .i64 life, .int .i64 boot, .int .i64 host, .int .i64 rack] 37)
  have q0 := keep b0 p0
  have hne : ¬ ep = 1048576 := by omega
  have hrow : ∀ g, R.ownBlock = some g → g < w.heap.size ∧ g ≠ p := fun g hg => ⟨(World.ownsRow.lt h.own g hg).2, h.apart hg⟩
  have HR := hid hrow
  have HB := hid b0
  obtain ⟨w0, hw0⟩ : ∃ w0, w0 = w.alloc (.cells #[.int .i64 3, .int .i64 i, .bool up, .bool inn, .int .i64 wt, .int .i64 life, .int .i64 boot, .int .i64 host, .int .i64 rack] 37) := ⟨_, rfl⟩
  have c0 : w0.cell? ⟨w.heap.size, 0, none⟩ = some (.int .i64 3) := by rw [hw0]; go_simp
  have c1 : w0.cell? ⟨w.heap.size, 1, none⟩ = some (.int .i64 i) := by rw [hw0]; go_simp
  have c2 : w0.cell? ⟨w.heap.size, 2, none⟩ = some (.bool up) := by rw [hw0]; go_simp
  have c3 : w0.cell? ⟨w.heap.size, 3, none⟩ = some (.bool inn) := by rw [hw0]; go_simp
  have c4 : w0.cell? ⟨w.heap.size, 4, none⟩ = some (.int .i64 wt) := by rw [hw0]; go_simp
  have c5 : w0.cell? ⟨w.heap.size, 5, none⟩ = some (.int .i64 life) := by rw [hw0]; go_simp
  have c6 : w0.cell? ⟨w.heap.size, 6, none⟩ = some (.int .i64 boot) := by rw [hw0]; go_simp
  have c7 : w0.cell? ⟨w.heap.size, 7, none⟩ = some (.int .i64 host) := by rw [hw0]; go_simp
  have c8 : w0.cell? ⟨w.heap.size, 8, none⟩ = some (.int .i64 rack) := by rw [hw0]; go_simp
  rw [← hw0] at b0 q0 HB
  have HW := hid hw0
  clear h hm hD hr hep hrow hw0 hB
  go_enter Tryz.func69, Tryz.ntmps69
  go_wp2_with (go_at_call 54; rw [← HW.out]; refine (hC _).mono ?_; rintro e w1 ⟨rfl, hb1⟩; clear hC; have r0 := keep hb1 q0; have d0 := keep hb1 c0; have d1 := keep hb1 c1; have d2 := keep hb1 c2; have d3 := keep hb1 c3; have d4 := keep hb1 c4; have d5 := keep hb1 c5; have d6 := keep hb1 c6; have d7 := keep hb1 c7; have d8 := keep hb1 c8; clear c0 c1 c2 c3 c4 c5 c6 c7 c8 q0)
  have B1 : Below w.heap.size w w1.drew := (on HB.out hb1).drew
  have HB1 := hid B1
  replace d0 := keep (Below.refl _ w1).drew d0
  replace d1 := keep (Below.refl _ w1).drew d1
  replace d2 := keep (Below.refl _ w1).drew d2
  replace d3 := keep (Below.refl _ w1).drew d3
  replace d4 := keep (Below.refl _ w1).drew d4
  replace d5 := keep (Below.refl _ w1).drew d5
  replace d6 := keep (Below.refl _ w1).drew d6
  replace d7 := keep (Below.refl _ w1).drew d7
  replace d8 := keep (Below.refl _ w1).drew d8
  generalize hwD : w1.drew = wD at *
  have HWD := hid hwD
  clear hwD hb1 r0
  refine wp_region_held_drew (S := fun v => v.cell? ⟨w.heap.size, 0, none⟩ = some (.int .i64 3) ∧ v.cell? ⟨w.heap.size, 1, none⟩ = some (.int .i64 i) ∧ v.cell? ⟨w.heap.size, 2, none⟩ = some (.bool up) ∧ v.cell? ⟨w.heap.size, 3, none⟩ = some (.bool inn) ∧ v.cell? ⟨w.heap.size, 4, none⟩ = some (.int .i64 wt) ∧ v.cell? ⟨w.heap.size, 5, none⟩ = some (.int .i64 life) ∧ v.cell? ⟨w.heap.size, 6, none⟩ = some (.int .i64 boot) ∧ v.cell? ⟨w.heap.size, 7, none⟩ = some (.int .i64 host) ∧ v.cell? ⟨w.heap.size, 8, none⟩ = some (.int .i64 rack)) (by kernel_rfl) (by rw [HWD.out]; exact ⟨d0, d1, d2, d3, d4, d5, d6, d7, d8⟩) (fun hHeld => ?_)
  rw [HWD.out] at hHeld ⊢
  refine wpAnyH_take (i := 1) (v := ?_) rfl (by kernel_rfl) (by kernel_rfl) (by kernel_rfl) (fun _ _ _ h => h) (Or.inl ⟨by rfl, ?_⟩) (by assumption) ?_
  case refine_2 => (intro w hSw; (try dsimp only at hSw); go_simp; (try with_reducible rfl))
  (try simp only [Act.put, List.getElem_toArray, List.getElem_cons_succ, List.getElem_cons_zero, List.setIfInBounds_toArray, List.set_cons_zero, List.set_cons_succ])
  refine wpAnyH_take (i := 2) (v := ?_) rfl (by kernel_rfl) (by kernel_rfl) (by kernel_rfl) (fun _ _ _ h => h) (Or.inl ⟨by rfl, ?_⟩) (by assumption) ?_
  case refine_2 => (intro w hSw; (try dsimp only at hSw); go_simp; (try with_reducible rfl))
  (try simp only [Act.put, List.getElem_toArray, List.getElem_cons_succ, List.getElem_cons_zero, List.setIfInBounds_toArray, List.set_cons_zero, List.set_cons_succ])
  refine wpAnyH_take (i := 5) (v := ?_) rfl (by kernel_rfl) (by kernel_rfl) (by kernel_rfl) (fun _ _ _ h => h) (Or.inl ⟨by rfl, ?_⟩) (by assumption) ?_
  case refine_2 => (intro w hSw; (try dsimp only at hSw); go_simp; (try with_reducible rfl))
  (try simp only [Act.put, List.getElem_toArray, List.getElem_cons_succ, List.getElem_cons_zero, List.setIfInBounds_toArray, List.set_cons_zero, List.set_cons_succ])
  refine wpAnyH_take (i := 6) (v := ?_) rfl (by kernel_rfl) (by kernel_rfl) (by kernel_rfl) (fun _ _ _ h => h) (Or.inl ⟨by rfl, ?_⟩) (by assumption) ?_
  case refine_2 => (intro w hSw; (try dsimp only at hSw); go_simp; (try with_reducible rfl))
  (try simp only [Act.put, List.getElem_toArray, List.getElem_cons_succ, List.getElem_cons_zero, List.setIfInBounds_toArray, List.set_cons_zero, List.set_cons_succ])
  refine wpAnyH_take (i := 7) (v := ?_) rfl (by kernel_rfl) (by kernel_rfl) (by kernel_rfl) (fun _ _ _ h => h) (Or.inl ⟨by rfl, ?_⟩) (by assumption) ?_
  case refine_2 => (intro w hSw; (try dsimp only at hSw); go_simp; (try with_reducible rfl))
  (try simp only [Act.put, List.getElem_toArray, List.getElem_cons_succ, List.getElem_cons_zero, List.setIfInBounds_toArray, List.set_cons_zero, List.set_cons_succ])
  refine wpAnyH_ready (rs := [0]) (by kernel_rfl) (by simp) ?_
  refine AllReadyH.cons rfl (fun K hK => ?_) AllReadyH.nil
  go_simp
  refine (hKi _).mono ?_
  rintro e w2 ⟨rfl, hb2⟩
  refine hK.out _ _ ⟨keep hb2 d0, keep hb2 d1, keep hb2 d2, keep hb2 d3, keep hb2 d4, keep hb2 d5, keep hb2 d6, keep hb2 d7, keep hb2 d8⟩ (fun hHeld => ?_)
  clear hK K
  refine wpAnyH_take (i := 3) (v := ?_) rfl (by kernel_rfl) (by kernel_rfl) (by kernel_rfl) (fun _ _ _ h => h) (Or.inl ⟨by rfl, ?_⟩) (by assumption) ?_
  case refine_2 => (intro w hSw; (try dsimp only at hSw); go_simp; (try with_reducible rfl))
  (try simp only [Act.put, List.getElem_toArray, List.getElem_cons_succ, List.getElem_cons_zero, List.setIfInBounds_toArray, List.set_cons_zero, List.set_cons_succ])
  refine wpAnyH_take (i := 4) (v := ?_) rfl (by kernel_rfl) (by kernel_rfl) (by kernel_rfl) (fun _ _ _ h => h) (Or.inl ⟨by rfl, ?_⟩) (by assumption) ?_
  case refine_2 => (intro w hSw; (try dsimp only at hSw); go_simp; (try with_reducible rfl))
  (try simp only [Act.put, List.getElem_toArray, List.getElem_cons_succ, List.getElem_cons_zero, List.setIfInBounds_toArray, List.set_cons_zero, List.set_cons_succ])
  refine wpAnyH_ready (rs := [8]) (by kernel_rfl) (by simp) ?_
  refine AllReadyH.cons rfl (fun K hK => ?_) AllReadyH.nil
  go_simp
  refine (hDo _ (on B1 hb2)).mono ?_
  rintro e w3 ⟨rfl, H3⟩
  obtain ⟨R3, M3, T3, N3⟩ := Turned.from (on B1 hb2) H3.out
  have HM3 : Hid (Moved w w3 B p R ⟨m.ep, m.pool, r.2⟩) := ⟨R3, M3, T3, N3⟩
  have hbx : ∀ (q : Nat) (v : Value), w2.cell? ⟨w.heap.size, q, none⟩ = some v → w3.cell? ⟨w.heap.size, q, none⟩ = some v := fun q v hv => by
    obtain ⟨R4, M4, T4, N4⟩ := H3.out
    exact (World.cell?_of_block (a := ⟨w.heap.size, q, none⟩) (T4.block w.heap.size (cell_lt' hv) (fun e => by rcases e with e | e; exact absurd e (by omega); have := (HR.out _ e).1; omega))).trans hv
  have e0 : w3.cell? ⟨p, 0, none⟩ = some (.int .i64 ep) := by rw [HE.out]; exact cell_heap M3.blk (j := 0) rfl
  have f0 : w3.frozen? ⟨p, 0, none⟩ = false := fr_heap M3.blk 0
  refine hK.out _ _ ⟨hbx _ _ (keep hb2 d0), hbx _ _ (keep hb2 d1), hbx _ _ (keep hb2 d2), hbx _ _ (keep hb2 d3), hbx _ _ (keep hb2 d4), hbx _ _ (keep hb2 d5), hbx _ _ (keep hb2 d6), hbx _ _ (keep hb2 d7), hbx _ _ (keep hb2 d8)⟩ (fun hHeld => ?_)
  clear hK K
  refine wpAnyH_take (i := 9) (v := ?_) rfl (by kernel_rfl) (by kernel_rfl) (by kernel_rfl) (fun _ _ _ h => h) (Or.inl ⟨by rfl, ?_⟩) (by assumption) ?_
  case refine_2 => (intro w hSw; (try dsimp only at hSw); go_simp; (try with_reducible rfl))
  (try simp only [Act.put, List.getElem_toArray, List.getElem_cons_succ, List.getElem_cons_zero, List.setIfInBounds_toArray, List.set_cons_zero, List.set_cons_succ])
  refine wpAnyH_done (by kernel_rfl) ?_ _
  clear hHeld d0 d1 d2 d3 d4 d5 d6 d7 d8 hbx hDo hKi hI hF M3 T3 N3 H3 B1 hb2
  obtain ⟨r1, r2⟩ := r
  dsimp only at HA HA2 HER HM3 ⊢
  by_cases hz : r1 = 0
  · subst hz
    go_wp2_with fail
    go_ret
    rw [HA2.out trivial]
    refine ⟨rfl, ?_⟩
    rw [← HE.out]
    exact HM3.out.up (ep + 1)
  · have HZ : Hid (r1 ≠ 0) := hz
    go_wp2_with fail
    go_ret
    rw [HA.out HZ.out]
    refine ⟨rfl, ?_⟩
    have := HM3.out
    rw [HER.out HZ.out] at this
    exact this

set_option maxHeartbeats 1600000 in
theorem advance_4 {w : World} {B p : Nat} {m : Mp} {R : Value} (o : Osd) (h : MapAt w B p m R) (hB : B ≤ w.heap.size) (hm : mayC ⟨4, o⟩ = true) (h0 : 0 ≤ m.ep) (h1 : m.ep < 1048576) :
    Calls Tryz.prog 69 #[.pointer (some ⟨p, 0, none⟩), vC ⟨4, o⟩] w fun e w' => e = .returned (.int .i64 (advP m ⟨4, o⟩).1) ∧ Hid (Moved w w' B p R (advP m ⟨4, o⟩).2) := by
  have hC := fun W => checkChange_any ⟨4, o⟩ W
  rw [hm] at hC
  unfold errB at hC
  have HM := hid h
  have hD : doP 4 m.osds o = turnP m.osds o.id (setIn o) := rfl
  have HER : Hid ((turnP m.osds o.id (setIn o)).1 ≠ 0 → (turnP m.osds o.id (setIn o)).2 = m.osds) := turnP_err
  have hDo := fun W (hb : Below w.heap.size w W) => setIn_any o (HM.out.below hb) (Nat.le_trans hB hb.size)
  obtain ⟨r, hr⟩ : ∃ r, r = turnP m.osds o.id (setIn o) := ⟨_, rfl⟩
  rw [← hr] at hD hDo HER
  have HA := hid (fun (h3 : r.1 ≠ 0) => advP_err (c := ⟨4, o⟩) hm (by omega) hD h3)
  have HA2 := hid (fun (h3 : r.1 = 0) => advP_ok (c := ⟨4, o⟩) hm (by omega) hD h3)
  have hKi := fun W => kinds_any W
  have hI : ∀ W : World, (Instr.index 128 (.agg kindsV) (.int .i64 4)).run Tryz.prog W = .ok (.agg #[fn 100, fn 102]) W := fun _ => by kernel_rfl
  have hF : ∀ W : World, (Instr.field 127 (.agg #[fn 100, fn 102]) 1).run Tryz.prog W = .ok (fn 102) W := fun _ => by kernel_rfl
  unfold kindsV fn at hKi hI
  unfold fn at hF
  have p0 : w.cell? ⟨p, 0, none⟩ = some (.int .i64 m.ep) := cell_heap h.blk (j := 0) rfl
  have hpl := h.lt
  obtain ⟨ep, hep⟩ : ∃ e, e = m.ep := ⟨_, rfl⟩
  rw [← hep] at p0 h0 h1
  have HE := hid hep
  obtain ⟨i, up, inn, wt, life, boot, host, rack⟩ := o
  unfold vC vO at *
  dsimp only at hC hDo ⊢
  have b0 := al w (.cells #[.int .i64 4, .int .i64 i, .bool up, .bool inn, .int .i64 wt, .int .i64 life, .int .i64 boot, .int .i64 host, .int .i64 rack] 37)
  have q0 := keep b0 p0
  have hne : ¬ ep = 1048576 := by omega
  have hrow : ∀ g, R.ownBlock = some g → g < w.heap.size ∧ g ≠ p := fun g hg => ⟨(World.ownsRow.lt h.own g hg).2, h.apart hg⟩
  have HR := hid hrow
  have HB := hid b0
  obtain ⟨w0, hw0⟩ : ∃ w0, w0 = w.alloc (.cells #[.int .i64 4, .int .i64 i, .bool up, .bool inn, .int .i64 wt, .int .i64 life, .int .i64 boot, .int .i64 host, .int .i64 rack] 37) := ⟨_, rfl⟩
  have c0 : w0.cell? ⟨w.heap.size, 0, none⟩ = some (.int .i64 4) := by rw [hw0]; go_simp
  have c1 : w0.cell? ⟨w.heap.size, 1, none⟩ = some (.int .i64 i) := by rw [hw0]; go_simp
  have c2 : w0.cell? ⟨w.heap.size, 2, none⟩ = some (.bool up) := by rw [hw0]; go_simp
  have c3 : w0.cell? ⟨w.heap.size, 3, none⟩ = some (.bool inn) := by rw [hw0]; go_simp
  have c4 : w0.cell? ⟨w.heap.size, 4, none⟩ = some (.int .i64 wt) := by rw [hw0]; go_simp
  have c5 : w0.cell? ⟨w.heap.size, 5, none⟩ = some (.int .i64 life) := by rw [hw0]; go_simp
  have c6 : w0.cell? ⟨w.heap.size, 6, none⟩ = some (.int .i64 boot) := by rw [hw0]; go_simp
  have c7 : w0.cell? ⟨w.heap.size, 7, none⟩ = some (.int .i64 host) := by rw [hw0]; go_simp
  have c8 : w0.cell? ⟨w.heap.size, 8, none⟩ = some (.int .i64 rack) := by rw [hw0]; go_simp
  rw [← hw0] at b0 q0 HB
  have HW := hid hw0
  clear h hm hD hr hep hrow hw0 hB
  go_enter Tryz.func69, Tryz.ntmps69
  go_wp2_with (go_at_call 54; rw [← HW.out]; refine (hC _).mono ?_; rintro e w1 ⟨rfl, hb1⟩; clear hC; have r0 := keep hb1 q0; have d0 := keep hb1 c0; have d1 := keep hb1 c1; have d2 := keep hb1 c2; have d3 := keep hb1 c3; have d4 := keep hb1 c4; have d5 := keep hb1 c5; have d6 := keep hb1 c6; have d7 := keep hb1 c7; have d8 := keep hb1 c8; clear c0 c1 c2 c3 c4 c5 c6 c7 c8 q0)
  have B1 : Below w.heap.size w w1.drew := (on HB.out hb1).drew
  have HB1 := hid B1
  replace d0 := keep (Below.refl _ w1).drew d0
  replace d1 := keep (Below.refl _ w1).drew d1
  replace d2 := keep (Below.refl _ w1).drew d2
  replace d3 := keep (Below.refl _ w1).drew d3
  replace d4 := keep (Below.refl _ w1).drew d4
  replace d5 := keep (Below.refl _ w1).drew d5
  replace d6 := keep (Below.refl _ w1).drew d6
  replace d7 := keep (Below.refl _ w1).drew d7
  replace d8 := keep (Below.refl _ w1).drew d8
  generalize hwD : w1.drew = wD at *
  have HWD := hid hwD
  clear hwD hb1 r0
  refine wp_region_held_drew (S := fun v => v.cell? ⟨w.heap.size, 0, none⟩ = some (.int .i64 4) ∧ v.cell? ⟨w.heap.size, 1, none⟩ = some (.int .i64 i) ∧ v.cell? ⟨w.heap.size, 2, none⟩ = some (.bool up) ∧ v.cell? ⟨w.heap.size, 3, none⟩ = some (.bool inn) ∧ v.cell? ⟨w.heap.size, 4, none⟩ = some (.int .i64 wt) ∧ v.cell? ⟨w.heap.size, 5, none⟩ = some (.int .i64 life) ∧ v.cell? ⟨w.heap.size, 6, none⟩ = some (.int .i64 boot) ∧ v.cell? ⟨w.heap.size, 7, none⟩ = some (.int .i64 host) ∧ v.cell? ⟨w.heap.size, 8, none⟩ = some (.int .i64 rack)) (by kernel_rfl) (by rw [HWD.out]; exact ⟨d0, d1, d2, d3, d4, d5, d6, d7, d8⟩) (fun hHeld => ?_)
  rw [HWD.out] at hHeld ⊢
  refine wpAnyH_take (i := 1) (v := ?_) rfl (by kernel_rfl) (by kernel_rfl) (by kernel_rfl) (fun _ _ _ h => h) (Or.inl ⟨by rfl, ?_⟩) (by assumption) ?_
  case refine_2 => (intro w hSw; (try dsimp only at hSw); go_simp; (try with_reducible rfl))
  (try simp only [Act.put, List.getElem_toArray, List.getElem_cons_succ, List.getElem_cons_zero, List.setIfInBounds_toArray, List.set_cons_zero, List.set_cons_succ])
  refine wpAnyH_take (i := 2) (v := ?_) rfl (by kernel_rfl) (by kernel_rfl) (by kernel_rfl) (fun _ _ _ h => h) (Or.inl ⟨by rfl, ?_⟩) (by assumption) ?_
  case refine_2 => (intro w hSw; (try dsimp only at hSw); go_simp; (try with_reducible rfl))
  (try simp only [Act.put, List.getElem_toArray, List.getElem_cons_succ, List.getElem_cons_zero, List.setIfInBounds_toArray, List.set_cons_zero, List.set_cons_succ])
  refine wpAnyH_take (i := 5) (v := ?_) rfl (by kernel_rfl) (by kernel_rfl) (by kernel_rfl) (fun _ _ _ h => h) (Or.inl ⟨by rfl, ?_⟩) (by assumption) ?_
  case refine_2 => (intro w hSw; (try dsimp only at hSw); go_simp; (try with_reducible rfl))
  (try simp only [Act.put, List.getElem_toArray, List.getElem_cons_succ, List.getElem_cons_zero, List.setIfInBounds_toArray, List.set_cons_zero, List.set_cons_succ])
  refine wpAnyH_take (i := 6) (v := ?_) rfl (by kernel_rfl) (by kernel_rfl) (by kernel_rfl) (fun _ _ _ h => h) (Or.inl ⟨by rfl, ?_⟩) (by assumption) ?_
  case refine_2 => (intro w hSw; (try dsimp only at hSw); go_simp; (try with_reducible rfl))
  (try simp only [Act.put, List.getElem_toArray, List.getElem_cons_succ, List.getElem_cons_zero, List.setIfInBounds_toArray, List.set_cons_zero, List.set_cons_succ])
  refine wpAnyH_take (i := 7) (v := ?_) rfl (by kernel_rfl) (by kernel_rfl) (by kernel_rfl) (fun _ _ _ h => h) (Or.inl ⟨by rfl, ?_⟩) (by assumption) ?_
  case refine_2 => (intro w hSw; (try dsimp only at hSw); go_simp; (try with_reducible rfl))
  (try simp only [Act.put, List.getElem_toArray, List.getElem_cons_succ, List.getElem_cons_zero, List.setIfInBounds_toArray, List.set_cons_zero, List.set_cons_succ])
  refine wpAnyH_ready (rs := [0]) (by kernel_rfl) (by simp) ?_
  refine AllReadyH.cons rfl (fun K hK => ?_) AllReadyH.nil
  go_simp
  refine (hKi _).mono ?_
  rintro e w2 ⟨rfl, hb2⟩
  refine hK.out _ _ ⟨keep hb2 d0, keep hb2 d1, keep hb2 d2, keep hb2 d3, keep hb2 d4, keep hb2 d5, keep hb2 d6, keep hb2 d7, keep hb2 d8⟩ (fun hHeld => ?_)
  clear hK K
  refine wpAnyH_take (i := 3) (v := ?_) rfl (by kernel_rfl) (by kernel_rfl) (by kernel_rfl) (fun _ _ _ h => h) (Or.inl ⟨by rfl, ?_⟩) (by assumption) ?_
  case refine_2 => (intro w hSw; (try dsimp only at hSw); go_simp; (try with_reducible rfl))
  (try simp only [Act.put, List.getElem_toArray, List.getElem_cons_succ, List.getElem_cons_zero, List.setIfInBounds_toArray, List.set_cons_zero, List.set_cons_succ])
  refine wpAnyH_take (i := 4) (v := ?_) rfl (by kernel_rfl) (by kernel_rfl) (by kernel_rfl) (fun _ _ _ h => h) (Or.inl ⟨by rfl, ?_⟩) (by assumption) ?_
  case refine_2 => (intro w hSw; (try dsimp only at hSw); go_simp; (try with_reducible rfl))
  (try simp only [Act.put, List.getElem_toArray, List.getElem_cons_succ, List.getElem_cons_zero, List.setIfInBounds_toArray, List.set_cons_zero, List.set_cons_succ])
  refine wpAnyH_ready (rs := [8]) (by kernel_rfl) (by simp) ?_
  refine AllReadyH.cons rfl (fun K hK => ?_) AllReadyH.nil
  go_simp
  refine (hDo _ (on B1 hb2)).mono ?_
  rintro e w3 ⟨rfl, H3⟩
  obtain ⟨R3, M3, T3, N3⟩ := Turned.from (on B1 hb2) H3.out
  have HM3 : Hid (Moved w w3 B p R ⟨m.ep, m.pool, r.2⟩) := ⟨R3, M3, T3, N3⟩
  have hbx : ∀ (q : Nat) (v : Value), w2.cell? ⟨w.heap.size, q, none⟩ = some v → w3.cell? ⟨w.heap.size, q, none⟩ = some v := fun q v hv => by
    obtain ⟨R4, M4, T4, N4⟩ := H3.out
    exact (World.cell?_of_block (a := ⟨w.heap.size, q, none⟩) (T4.block w.heap.size (cell_lt' hv) (fun e => by rcases e with e | e; exact absurd e (by omega); have := (HR.out _ e).1; omega))).trans hv
  have e0 : w3.cell? ⟨p, 0, none⟩ = some (.int .i64 ep) := by rw [HE.out]; exact cell_heap M3.blk (j := 0) rfl
  have f0 : w3.frozen? ⟨p, 0, none⟩ = false := fr_heap M3.blk 0
  refine hK.out _ _ ⟨hbx _ _ (keep hb2 d0), hbx _ _ (keep hb2 d1), hbx _ _ (keep hb2 d2), hbx _ _ (keep hb2 d3), hbx _ _ (keep hb2 d4), hbx _ _ (keep hb2 d5), hbx _ _ (keep hb2 d6), hbx _ _ (keep hb2 d7), hbx _ _ (keep hb2 d8)⟩ (fun hHeld => ?_)
  clear hK K
  refine wpAnyH_take (i := 9) (v := ?_) rfl (by kernel_rfl) (by kernel_rfl) (by kernel_rfl) (fun _ _ _ h => h) (Or.inl ⟨by rfl, ?_⟩) (by assumption) ?_
  case refine_2 => (intro w hSw; (try dsimp only at hSw); go_simp; (try with_reducible rfl))
  (try simp only [Act.put, List.getElem_toArray, List.getElem_cons_succ, List.getElem_cons_zero, List.setIfInBounds_toArray, List.set_cons_zero, List.set_cons_succ])
  refine wpAnyH_done (by kernel_rfl) ?_ _
  clear hHeld d0 d1 d2 d3 d4 d5 d6 d7 d8 hbx hDo hKi hI hF M3 T3 N3 H3 B1 hb2
  obtain ⟨r1, r2⟩ := r
  dsimp only at HA HA2 HER HM3 ⊢
  by_cases hz : r1 = 0
  · subst hz
    go_wp2_with fail
    go_ret
    rw [HA2.out trivial]
    refine ⟨rfl, ?_⟩
    rw [← HE.out]
    exact HM3.out.up (ep + 1)
  · have HZ : Hid (r1 ≠ 0) := hz
    go_wp2_with fail
    go_ret
    rw [HA.out HZ.out]
    refine ⟨rfl, ?_⟩
    have := HM3.out
    rw [HER.out HZ.out] at this
    exact this

set_option maxHeartbeats 1600000 in
theorem advance_5 {w : World} {B p : Nat} {m : Mp} {R : Value} (o : Osd) (h : MapAt w B p m R) (hB : B ≤ w.heap.size) (hm : mayC ⟨5, o⟩ = true) (h0 : 0 ≤ m.ep) (h1 : m.ep < 1048576) :
    Calls Tryz.prog 69 #[.pointer (some ⟨p, 0, none⟩), vC ⟨5, o⟩] w fun e w' => e = .returned (.int .i64 (advP m ⟨5, o⟩).1) ∧ Hid (Moved w w' B p R (advP m ⟨5, o⟩).2) := by
  have hC := fun W => checkChange_any ⟨5, o⟩ W
  rw [hm] at hC
  unfold errB at hC
  have HM := hid h
  have hD : doP 5 m.osds o = turnP m.osds o.id (setOut o) := rfl
  have HER : Hid ((turnP m.osds o.id (setOut o)).1 ≠ 0 → (turnP m.osds o.id (setOut o)).2 = m.osds) := turnP_err
  have hDo := fun W (hb : Below w.heap.size w W) => setOut_any o (HM.out.below hb) (Nat.le_trans hB hb.size)
  obtain ⟨r, hr⟩ : ∃ r, r = turnP m.osds o.id (setOut o) := ⟨_, rfl⟩
  rw [← hr] at hD hDo HER
  have HA := hid (fun (h3 : r.1 ≠ 0) => advP_err (c := ⟨5, o⟩) hm (by omega) hD h3)
  have HA2 := hid (fun (h3 : r.1 = 0) => advP_ok (c := ⟨5, o⟩) hm (by omega) hD h3)
  have hKi := fun W => kinds_any W
  have hI : ∀ W : World, (Instr.index 128 (.agg kindsV) (.int .i64 5)).run Tryz.prog W = .ok (.agg #[fn 100, fn 103]) W := fun _ => by kernel_rfl
  have hF : ∀ W : World, (Instr.field 127 (.agg #[fn 100, fn 103]) 1).run Tryz.prog W = .ok (fn 103) W := fun _ => by kernel_rfl
  unfold kindsV fn at hKi hI
  unfold fn at hF
  have p0 : w.cell? ⟨p, 0, none⟩ = some (.int .i64 m.ep) := cell_heap h.blk (j := 0) rfl
  have hpl := h.lt
  obtain ⟨ep, hep⟩ : ∃ e, e = m.ep := ⟨_, rfl⟩
  rw [← hep] at p0 h0 h1
  have HE := hid hep
  obtain ⟨i, up, inn, wt, life, boot, host, rack⟩ := o
  unfold vC vO at *
  dsimp only at hC hDo ⊢
  have b0 := al w (.cells #[.int .i64 5, .int .i64 i, .bool up, .bool inn, .int .i64 wt, .int .i64 life, .int .i64 boot, .int .i64 host, .int .i64 rack] 37)
  have q0 := keep b0 p0
  have hne : ¬ ep = 1048576 := by omega
  have hrow : ∀ g, R.ownBlock = some g → g < w.heap.size ∧ g ≠ p := fun g hg => ⟨(World.ownsRow.lt h.own g hg).2, h.apart hg⟩
  have HR := hid hrow
  have HB := hid b0
  obtain ⟨w0, hw0⟩ : ∃ w0, w0 = w.alloc (.cells #[.int .i64 5, .int .i64 i, .bool up, .bool inn, .int .i64 wt, .int .i64 life, .int .i64 boot, .int .i64 host, .int .i64 rack] 37) := ⟨_, rfl⟩
  have c0 : w0.cell? ⟨w.heap.size, 0, none⟩ = some (.int .i64 5) := by rw [hw0]; go_simp
  have c1 : w0.cell? ⟨w.heap.size, 1, none⟩ = some (.int .i64 i) := by rw [hw0]; go_simp
  have c2 : w0.cell? ⟨w.heap.size, 2, none⟩ = some (.bool up) := by rw [hw0]; go_simp
  have c3 : w0.cell? ⟨w.heap.size, 3, none⟩ = some (.bool inn) := by rw [hw0]; go_simp
  have c4 : w0.cell? ⟨w.heap.size, 4, none⟩ = some (.int .i64 wt) := by rw [hw0]; go_simp
  have c5 : w0.cell? ⟨w.heap.size, 5, none⟩ = some (.int .i64 life) := by rw [hw0]; go_simp
  have c6 : w0.cell? ⟨w.heap.size, 6, none⟩ = some (.int .i64 boot) := by rw [hw0]; go_simp
  have c7 : w0.cell? ⟨w.heap.size, 7, none⟩ = some (.int .i64 host) := by rw [hw0]; go_simp
  have c8 : w0.cell? ⟨w.heap.size, 8, none⟩ = some (.int .i64 rack) := by rw [hw0]; go_simp
  rw [← hw0] at b0 q0 HB
  have HW := hid hw0
  clear h hm hD hr hep hrow hw0 hB
  go_enter Tryz.func69, Tryz.ntmps69
  go_wp2_with (go_at_call 54; rw [← HW.out]; refine (hC _).mono ?_; rintro e w1 ⟨rfl, hb1⟩; clear hC; have r0 := keep hb1 q0; have d0 := keep hb1 c0; have d1 := keep hb1 c1; have d2 := keep hb1 c2; have d3 := keep hb1 c3; have d4 := keep hb1 c4; have d5 := keep hb1 c5; have d6 := keep hb1 c6; have d7 := keep hb1 c7; have d8 := keep hb1 c8; clear c0 c1 c2 c3 c4 c5 c6 c7 c8 q0)
  have B1 : Below w.heap.size w w1.drew := (on HB.out hb1).drew
  have HB1 := hid B1
  replace d0 := keep (Below.refl _ w1).drew d0
  replace d1 := keep (Below.refl _ w1).drew d1
  replace d2 := keep (Below.refl _ w1).drew d2
  replace d3 := keep (Below.refl _ w1).drew d3
  replace d4 := keep (Below.refl _ w1).drew d4
  replace d5 := keep (Below.refl _ w1).drew d5
  replace d6 := keep (Below.refl _ w1).drew d6
  replace d7 := keep (Below.refl _ w1).drew d7
  replace d8 := keep (Below.refl _ w1).drew d8
  generalize hwD : w1.drew = wD at *
  have HWD := hid hwD
  clear hwD hb1 r0
  refine wp_region_held_drew (S := fun v => v.cell? ⟨w.heap.size, 0, none⟩ = some (.int .i64 5) ∧ v.cell? ⟨w.heap.size, 1, none⟩ = some (.int .i64 i) ∧ v.cell? ⟨w.heap.size, 2, none⟩ = some (.bool up) ∧ v.cell? ⟨w.heap.size, 3, none⟩ = some (.bool inn) ∧ v.cell? ⟨w.heap.size, 4, none⟩ = some (.int .i64 wt) ∧ v.cell? ⟨w.heap.size, 5, none⟩ = some (.int .i64 life) ∧ v.cell? ⟨w.heap.size, 6, none⟩ = some (.int .i64 boot) ∧ v.cell? ⟨w.heap.size, 7, none⟩ = some (.int .i64 host) ∧ v.cell? ⟨w.heap.size, 8, none⟩ = some (.int .i64 rack)) (by kernel_rfl) (by rw [HWD.out]; exact ⟨d0, d1, d2, d3, d4, d5, d6, d7, d8⟩) (fun hHeld => ?_)
  rw [HWD.out] at hHeld ⊢
  refine wpAnyH_take (i := 1) (v := ?_) rfl (by kernel_rfl) (by kernel_rfl) (by kernel_rfl) (fun _ _ _ h => h) (Or.inl ⟨by rfl, ?_⟩) (by assumption) ?_
  case refine_2 => (intro w hSw; (try dsimp only at hSw); go_simp; (try with_reducible rfl))
  (try simp only [Act.put, List.getElem_toArray, List.getElem_cons_succ, List.getElem_cons_zero, List.setIfInBounds_toArray, List.set_cons_zero, List.set_cons_succ])
  refine wpAnyH_take (i := 2) (v := ?_) rfl (by kernel_rfl) (by kernel_rfl) (by kernel_rfl) (fun _ _ _ h => h) (Or.inl ⟨by rfl, ?_⟩) (by assumption) ?_
  case refine_2 => (intro w hSw; (try dsimp only at hSw); go_simp; (try with_reducible rfl))
  (try simp only [Act.put, List.getElem_toArray, List.getElem_cons_succ, List.getElem_cons_zero, List.setIfInBounds_toArray, List.set_cons_zero, List.set_cons_succ])
  refine wpAnyH_take (i := 5) (v := ?_) rfl (by kernel_rfl) (by kernel_rfl) (by kernel_rfl) (fun _ _ _ h => h) (Or.inl ⟨by rfl, ?_⟩) (by assumption) ?_
  case refine_2 => (intro w hSw; (try dsimp only at hSw); go_simp; (try with_reducible rfl))
  (try simp only [Act.put, List.getElem_toArray, List.getElem_cons_succ, List.getElem_cons_zero, List.setIfInBounds_toArray, List.set_cons_zero, List.set_cons_succ])
  refine wpAnyH_take (i := 6) (v := ?_) rfl (by kernel_rfl) (by kernel_rfl) (by kernel_rfl) (fun _ _ _ h => h) (Or.inl ⟨by rfl, ?_⟩) (by assumption) ?_
  case refine_2 => (intro w hSw; (try dsimp only at hSw); go_simp; (try with_reducible rfl))
  (try simp only [Act.put, List.getElem_toArray, List.getElem_cons_succ, List.getElem_cons_zero, List.setIfInBounds_toArray, List.set_cons_zero, List.set_cons_succ])
  refine wpAnyH_take (i := 7) (v := ?_) rfl (by kernel_rfl) (by kernel_rfl) (by kernel_rfl) (fun _ _ _ h => h) (Or.inl ⟨by rfl, ?_⟩) (by assumption) ?_
  case refine_2 => (intro w hSw; (try dsimp only at hSw); go_simp; (try with_reducible rfl))
  (try simp only [Act.put, List.getElem_toArray, List.getElem_cons_succ, List.getElem_cons_zero, List.setIfInBounds_toArray, List.set_cons_zero, List.set_cons_succ])
  refine wpAnyH_ready (rs := [0]) (by kernel_rfl) (by simp) ?_
  refine AllReadyH.cons rfl (fun K hK => ?_) AllReadyH.nil
  go_simp
  refine (hKi _).mono ?_
  rintro e w2 ⟨rfl, hb2⟩
  refine hK.out _ _ ⟨keep hb2 d0, keep hb2 d1, keep hb2 d2, keep hb2 d3, keep hb2 d4, keep hb2 d5, keep hb2 d6, keep hb2 d7, keep hb2 d8⟩ (fun hHeld => ?_)
  clear hK K
  refine wpAnyH_take (i := 3) (v := ?_) rfl (by kernel_rfl) (by kernel_rfl) (by kernel_rfl) (fun _ _ _ h => h) (Or.inl ⟨by rfl, ?_⟩) (by assumption) ?_
  case refine_2 => (intro w hSw; (try dsimp only at hSw); go_simp; (try with_reducible rfl))
  (try simp only [Act.put, List.getElem_toArray, List.getElem_cons_succ, List.getElem_cons_zero, List.setIfInBounds_toArray, List.set_cons_zero, List.set_cons_succ])
  refine wpAnyH_take (i := 4) (v := ?_) rfl (by kernel_rfl) (by kernel_rfl) (by kernel_rfl) (fun _ _ _ h => h) (Or.inl ⟨by rfl, ?_⟩) (by assumption) ?_
  case refine_2 => (intro w hSw; (try dsimp only at hSw); go_simp; (try with_reducible rfl))
  (try simp only [Act.put, List.getElem_toArray, List.getElem_cons_succ, List.getElem_cons_zero, List.setIfInBounds_toArray, List.set_cons_zero, List.set_cons_succ])
  refine wpAnyH_ready (rs := [8]) (by kernel_rfl) (by simp) ?_
  refine AllReadyH.cons rfl (fun K hK => ?_) AllReadyH.nil
  go_simp
  refine (hDo _ (on B1 hb2)).mono ?_
  rintro e w3 ⟨rfl, H3⟩
  obtain ⟨R3, M3, T3, N3⟩ := Turned.from (on B1 hb2) H3.out
  have HM3 : Hid (Moved w w3 B p R ⟨m.ep, m.pool, r.2⟩) := ⟨R3, M3, T3, N3⟩
  have hbx : ∀ (q : Nat) (v : Value), w2.cell? ⟨w.heap.size, q, none⟩ = some v → w3.cell? ⟨w.heap.size, q, none⟩ = some v := fun q v hv => by
    obtain ⟨R4, M4, T4, N4⟩ := H3.out
    exact (World.cell?_of_block (a := ⟨w.heap.size, q, none⟩) (T4.block w.heap.size (cell_lt' hv) (fun e => by rcases e with e | e; exact absurd e (by omega); have := (HR.out _ e).1; omega))).trans hv
  have e0 : w3.cell? ⟨p, 0, none⟩ = some (.int .i64 ep) := by rw [HE.out]; exact cell_heap M3.blk (j := 0) rfl
  have f0 : w3.frozen? ⟨p, 0, none⟩ = false := fr_heap M3.blk 0
  refine hK.out _ _ ⟨hbx _ _ (keep hb2 d0), hbx _ _ (keep hb2 d1), hbx _ _ (keep hb2 d2), hbx _ _ (keep hb2 d3), hbx _ _ (keep hb2 d4), hbx _ _ (keep hb2 d5), hbx _ _ (keep hb2 d6), hbx _ _ (keep hb2 d7), hbx _ _ (keep hb2 d8)⟩ (fun hHeld => ?_)
  clear hK K
  refine wpAnyH_take (i := 9) (v := ?_) rfl (by kernel_rfl) (by kernel_rfl) (by kernel_rfl) (fun _ _ _ h => h) (Or.inl ⟨by rfl, ?_⟩) (by assumption) ?_
  case refine_2 => (intro w hSw; (try dsimp only at hSw); go_simp; (try with_reducible rfl))
  (try simp only [Act.put, List.getElem_toArray, List.getElem_cons_succ, List.getElem_cons_zero, List.setIfInBounds_toArray, List.set_cons_zero, List.set_cons_succ])
  refine wpAnyH_done (by kernel_rfl) ?_ _
  clear hHeld d0 d1 d2 d3 d4 d5 d6 d7 d8 hbx hDo hKi hI hF M3 T3 N3 H3 B1 hb2
  obtain ⟨r1, r2⟩ := r
  dsimp only at HA HA2 HER HM3 ⊢
  by_cases hz : r1 = 0
  · subst hz
    go_wp2_with fail
    go_ret
    rw [HA2.out trivial]
    refine ⟨rfl, ?_⟩
    rw [← HE.out]
    exact HM3.out.up (ep + 1)
  · have HZ : Hid (r1 ≠ 0) := hz
    go_wp2_with fail
    go_ret
    rw [HA.out HZ.out]
    refine ⟨rfl, ?_⟩
    have := HM3.out
    rw [HER.out HZ.out] at this
    exact this

set_option maxHeartbeats 1600000 in
theorem advance_6 {w : World} {B p : Nat} {m : Mp} {R : Value} (o : Osd) (h : MapAt w B p m R) (hB : B ≤ w.heap.size) (hm : mayC ⟨6, o⟩ = true) (h0 : 0 ≤ m.ep) (h1 : m.ep < 1048576) :
    Calls Tryz.prog 69 #[.pointer (some ⟨p, 0, none⟩), vC ⟨6, o⟩] w fun e w' => e = .returned (.int .i64 (advP m ⟨6, o⟩).1) ∧ Hid (Moved w w' B p R (advP m ⟨6, o⟩).2) := by
  have hC := fun W => checkChange_any ⟨6, o⟩ W
  rw [hm] at hC
  unfold errB at hC
  have HM := hid h
  have hD : doP 6 m.osds o = turnP m.osds o.id (setWt o) := rfl
  have HER : Hid ((turnP m.osds o.id (setWt o)).1 ≠ 0 → (turnP m.osds o.id (setWt o)).2 = m.osds) := turnP_err
  have hDo := fun W (hb : Below w.heap.size w W) => setWeight_any o (HM.out.below hb) (Nat.le_trans hB hb.size)
  obtain ⟨r, hr⟩ : ∃ r, r = turnP m.osds o.id (setWt o) := ⟨_, rfl⟩
  rw [← hr] at hD hDo HER
  have HA := hid (fun (h3 : r.1 ≠ 0) => advP_err (c := ⟨6, o⟩) hm (by omega) hD h3)
  have HA2 := hid (fun (h3 : r.1 = 0) => advP_ok (c := ⟨6, o⟩) hm (by omega) hD h3)
  have hKi := fun W => kinds_any W
  have hI : ∀ W : World, (Instr.index 128 (.agg kindsV) (.int .i64 6)).run Tryz.prog W = .ok (.agg #[fn 104, fn 105]) W := fun _ => by kernel_rfl
  have hF : ∀ W : World, (Instr.field 127 (.agg #[fn 104, fn 105]) 1).run Tryz.prog W = .ok (fn 105) W := fun _ => by kernel_rfl
  unfold kindsV fn at hKi hI
  unfold fn at hF
  have p0 : w.cell? ⟨p, 0, none⟩ = some (.int .i64 m.ep) := cell_heap h.blk (j := 0) rfl
  have hpl := h.lt
  obtain ⟨ep, hep⟩ : ∃ e, e = m.ep := ⟨_, rfl⟩
  rw [← hep] at p0 h0 h1
  have HE := hid hep
  obtain ⟨i, up, inn, wt, life, boot, host, rack⟩ := o
  unfold vC vO at *
  dsimp only at hC hDo ⊢
  have b0 := al w (.cells #[.int .i64 6, .int .i64 i, .bool up, .bool inn, .int .i64 wt, .int .i64 life, .int .i64 boot, .int .i64 host, .int .i64 rack] 37)
  have q0 := keep b0 p0
  have hne : ¬ ep = 1048576 := by omega
  have hrow : ∀ g, R.ownBlock = some g → g < w.heap.size ∧ g ≠ p := fun g hg => ⟨(World.ownsRow.lt h.own g hg).2, h.apart hg⟩
  have HR := hid hrow
  have HB := hid b0
  obtain ⟨w0, hw0⟩ : ∃ w0, w0 = w.alloc (.cells #[.int .i64 6, .int .i64 i, .bool up, .bool inn, .int .i64 wt, .int .i64 life, .int .i64 boot, .int .i64 host, .int .i64 rack] 37) := ⟨_, rfl⟩
  have c0 : w0.cell? ⟨w.heap.size, 0, none⟩ = some (.int .i64 6) := by rw [hw0]; go_simp
  have c1 : w0.cell? ⟨w.heap.size, 1, none⟩ = some (.int .i64 i) := by rw [hw0]; go_simp
  have c2 : w0.cell? ⟨w.heap.size, 2, none⟩ = some (.bool up) := by rw [hw0]; go_simp
  have c3 : w0.cell? ⟨w.heap.size, 3, none⟩ = some (.bool inn) := by rw [hw0]; go_simp
  have c4 : w0.cell? ⟨w.heap.size, 4, none⟩ = some (.int .i64 wt) := by rw [hw0]; go_simp
  have c5 : w0.cell? ⟨w.heap.size, 5, none⟩ = some (.int .i64 life) := by rw [hw0]; go_simp
  have c6 : w0.cell? ⟨w.heap.size, 6, none⟩ = some (.int .i64 boot) := by rw [hw0]; go_simp
  have c7 : w0.cell? ⟨w.heap.size, 7, none⟩ = some (.int .i64 host) := by rw [hw0]; go_simp
  have c8 : w0.cell? ⟨w.heap.size, 8, none⟩ = some (.int .i64 rack) := by rw [hw0]; go_simp
  rw [← hw0] at b0 q0 HB
  have HW := hid hw0
  clear h hm hD hr hep hrow hw0 hB
  go_enter Tryz.func69, Tryz.ntmps69
  go_wp2_with (go_at_call 54; rw [← HW.out]; refine (hC _).mono ?_; rintro e w1 ⟨rfl, hb1⟩; clear hC; have r0 := keep hb1 q0; have d0 := keep hb1 c0; have d1 := keep hb1 c1; have d2 := keep hb1 c2; have d3 := keep hb1 c3; have d4 := keep hb1 c4; have d5 := keep hb1 c5; have d6 := keep hb1 c6; have d7 := keep hb1 c7; have d8 := keep hb1 c8; clear c0 c1 c2 c3 c4 c5 c6 c7 c8 q0)
  have B1 : Below w.heap.size w w1.drew := (on HB.out hb1).drew
  have HB1 := hid B1
  replace d0 := keep (Below.refl _ w1).drew d0
  replace d1 := keep (Below.refl _ w1).drew d1
  replace d2 := keep (Below.refl _ w1).drew d2
  replace d3 := keep (Below.refl _ w1).drew d3
  replace d4 := keep (Below.refl _ w1).drew d4
  replace d5 := keep (Below.refl _ w1).drew d5
  replace d6 := keep (Below.refl _ w1).drew d6
  replace d7 := keep (Below.refl _ w1).drew d7
  replace d8 := keep (Below.refl _ w1).drew d8
  generalize hwD : w1.drew = wD at *
  have HWD := hid hwD
  clear hwD hb1 r0
  refine wp_region_held_drew (S := fun v => v.cell? ⟨w.heap.size, 0, none⟩ = some (.int .i64 6) ∧ v.cell? ⟨w.heap.size, 1, none⟩ = some (.int .i64 i) ∧ v.cell? ⟨w.heap.size, 2, none⟩ = some (.bool up) ∧ v.cell? ⟨w.heap.size, 3, none⟩ = some (.bool inn) ∧ v.cell? ⟨w.heap.size, 4, none⟩ = some (.int .i64 wt) ∧ v.cell? ⟨w.heap.size, 5, none⟩ = some (.int .i64 life) ∧ v.cell? ⟨w.heap.size, 6, none⟩ = some (.int .i64 boot) ∧ v.cell? ⟨w.heap.size, 7, none⟩ = some (.int .i64 host) ∧ v.cell? ⟨w.heap.size, 8, none⟩ = some (.int .i64 rack)) (by kernel_rfl) (by rw [HWD.out]; exact ⟨d0, d1, d2, d3, d4, d5, d6, d7, d8⟩) (fun hHeld => ?_)
  rw [HWD.out] at hHeld ⊢
  refine wpAnyH_take (i := 1) (v := ?_) rfl (by kernel_rfl) (by kernel_rfl) (by kernel_rfl) (fun _ _ _ h => h) (Or.inl ⟨by rfl, ?_⟩) (by assumption) ?_
  case refine_2 => (intro w hSw; (try dsimp only at hSw); go_simp; (try with_reducible rfl))
  (try simp only [Act.put, List.getElem_toArray, List.getElem_cons_succ, List.getElem_cons_zero, List.setIfInBounds_toArray, List.set_cons_zero, List.set_cons_succ])
  refine wpAnyH_take (i := 2) (v := ?_) rfl (by kernel_rfl) (by kernel_rfl) (by kernel_rfl) (fun _ _ _ h => h) (Or.inl ⟨by rfl, ?_⟩) (by assumption) ?_
  case refine_2 => (intro w hSw; (try dsimp only at hSw); go_simp; (try with_reducible rfl))
  (try simp only [Act.put, List.getElem_toArray, List.getElem_cons_succ, List.getElem_cons_zero, List.setIfInBounds_toArray, List.set_cons_zero, List.set_cons_succ])
  refine wpAnyH_take (i := 5) (v := ?_) rfl (by kernel_rfl) (by kernel_rfl) (by kernel_rfl) (fun _ _ _ h => h) (Or.inl ⟨by rfl, ?_⟩) (by assumption) ?_
  case refine_2 => (intro w hSw; (try dsimp only at hSw); go_simp; (try with_reducible rfl))
  (try simp only [Act.put, List.getElem_toArray, List.getElem_cons_succ, List.getElem_cons_zero, List.setIfInBounds_toArray, List.set_cons_zero, List.set_cons_succ])
  refine wpAnyH_take (i := 6) (v := ?_) rfl (by kernel_rfl) (by kernel_rfl) (by kernel_rfl) (fun _ _ _ h => h) (Or.inl ⟨by rfl, ?_⟩) (by assumption) ?_
  case refine_2 => (intro w hSw; (try dsimp only at hSw); go_simp; (try with_reducible rfl))
  (try simp only [Act.put, List.getElem_toArray, List.getElem_cons_succ, List.getElem_cons_zero, List.setIfInBounds_toArray, List.set_cons_zero, List.set_cons_succ])
  refine wpAnyH_take (i := 7) (v := ?_) rfl (by kernel_rfl) (by kernel_rfl) (by kernel_rfl) (fun _ _ _ h => h) (Or.inl ⟨by rfl, ?_⟩) (by assumption) ?_
  case refine_2 => (intro w hSw; (try dsimp only at hSw); go_simp; (try with_reducible rfl))
  (try simp only [Act.put, List.getElem_toArray, List.getElem_cons_succ, List.getElem_cons_zero, List.setIfInBounds_toArray, List.set_cons_zero, List.set_cons_succ])
  refine wpAnyH_ready (rs := [0]) (by kernel_rfl) (by simp) ?_
  refine AllReadyH.cons rfl (fun K hK => ?_) AllReadyH.nil
  go_simp
  refine (hKi _).mono ?_
  rintro e w2 ⟨rfl, hb2⟩
  refine hK.out _ _ ⟨keep hb2 d0, keep hb2 d1, keep hb2 d2, keep hb2 d3, keep hb2 d4, keep hb2 d5, keep hb2 d6, keep hb2 d7, keep hb2 d8⟩ (fun hHeld => ?_)
  clear hK K
  refine wpAnyH_take (i := 3) (v := ?_) rfl (by kernel_rfl) (by kernel_rfl) (by kernel_rfl) (fun _ _ _ h => h) (Or.inl ⟨by rfl, ?_⟩) (by assumption) ?_
  case refine_2 => (intro w hSw; (try dsimp only at hSw); go_simp; (try with_reducible rfl))
  (try simp only [Act.put, List.getElem_toArray, List.getElem_cons_succ, List.getElem_cons_zero, List.setIfInBounds_toArray, List.set_cons_zero, List.set_cons_succ])
  refine wpAnyH_take (i := 4) (v := ?_) rfl (by kernel_rfl) (by kernel_rfl) (by kernel_rfl) (fun _ _ _ h => h) (Or.inl ⟨by rfl, ?_⟩) (by assumption) ?_
  case refine_2 => (intro w hSw; (try dsimp only at hSw); go_simp; (try with_reducible rfl))
  (try simp only [Act.put, List.getElem_toArray, List.getElem_cons_succ, List.getElem_cons_zero, List.setIfInBounds_toArray, List.set_cons_zero, List.set_cons_succ])
  refine wpAnyH_ready (rs := [8]) (by kernel_rfl) (by simp) ?_
  refine AllReadyH.cons rfl (fun K hK => ?_) AllReadyH.nil
  go_simp
  refine (hDo _ (on B1 hb2)).mono ?_
  rintro e w3 ⟨rfl, H3⟩
  obtain ⟨R3, M3, T3, N3⟩ := Turned.from (on B1 hb2) H3.out
  have HM3 : Hid (Moved w w3 B p R ⟨m.ep, m.pool, r.2⟩) := ⟨R3, M3, T3, N3⟩
  have hbx : ∀ (q : Nat) (v : Value), w2.cell? ⟨w.heap.size, q, none⟩ = some v → w3.cell? ⟨w.heap.size, q, none⟩ = some v := fun q v hv => by
    obtain ⟨R4, M4, T4, N4⟩ := H3.out
    exact (World.cell?_of_block (a := ⟨w.heap.size, q, none⟩) (T4.block w.heap.size (cell_lt' hv) (fun e => by rcases e with e | e; exact absurd e (by omega); have := (HR.out _ e).1; omega))).trans hv
  have e0 : w3.cell? ⟨p, 0, none⟩ = some (.int .i64 ep) := by rw [HE.out]; exact cell_heap M3.blk (j := 0) rfl
  have f0 : w3.frozen? ⟨p, 0, none⟩ = false := fr_heap M3.blk 0
  refine hK.out _ _ ⟨hbx _ _ (keep hb2 d0), hbx _ _ (keep hb2 d1), hbx _ _ (keep hb2 d2), hbx _ _ (keep hb2 d3), hbx _ _ (keep hb2 d4), hbx _ _ (keep hb2 d5), hbx _ _ (keep hb2 d6), hbx _ _ (keep hb2 d7), hbx _ _ (keep hb2 d8)⟩ (fun hHeld => ?_)
  clear hK K
  refine wpAnyH_take (i := 9) (v := ?_) rfl (by kernel_rfl) (by kernel_rfl) (by kernel_rfl) (fun _ _ _ h => h) (Or.inl ⟨by rfl, ?_⟩) (by assumption) ?_
  case refine_2 => (intro w hSw; (try dsimp only at hSw); go_simp; (try with_reducible rfl))
  (try simp only [Act.put, List.getElem_toArray, List.getElem_cons_succ, List.getElem_cons_zero, List.setIfInBounds_toArray, List.set_cons_zero, List.set_cons_succ])
  refine wpAnyH_done (by kernel_rfl) ?_ _
  clear hHeld d0 d1 d2 d3 d4 d5 d6 d7 d8 hbx hDo hKi hI hF M3 T3 N3 H3 B1 hb2
  obtain ⟨r1, r2⟩ := r
  dsimp only at HA HA2 HER HM3 ⊢
  by_cases hz : r1 = 0
  · subst hz
    go_wp2_with fail
    go_ret
    rw [HA2.out trivial]
    refine ⟨rfl, ?_⟩
    rw [← HE.out]
    exact HM3.out.up (ep + 1)
  · have HZ : Hid (r1 ≠ 0) := hz
    go_wp2_with fail
    go_ret
    rw [HA.out HZ.out]
    refine ⟨rfl, ?_⟩
    have := HM3.out
    rw [HER.out HZ.out] at this
    exact this

theorem advance_any {w : World} {B p : Nat} {m : Mp} {R : Value} (c : Ch) (h : MapAt w B p m R) (hB : B ≤ w.heap.size) (h0 : 0 ≤ m.ep) (h1 : m.ep ≤ 1048576) :
    Calls Tryz.prog 69 #[.pointer (some ⟨p, 0, none⟩), vC c] w fun e w' => e = .returned (.int .i64 (advP m c).1) ∧ Hid (Moved w w' B p R (advP m c).2) := by
  by_cases hno : mayC c = false ∨ m.ep = 1048576
  · exact advance_no c h hno
  · have hm : mayC c = true := by
      cases hq : mayC c with
      | true => rfl
      | false => exact absurd (.inl hq) hno
    have he : m.ep < 1048576 := by
      have : m.ep ≠ 1048576 := fun e => hno (.inr e)
      omega
    obtain ⟨k, o⟩ := c
    have hw : wi k 1 6 = true := by
      unfold mayC at hm
      simp only [Bool.and_eq_true] at hm
      exact hm.1
    rcases kind_cases hw with rfl | rfl | rfl | rfl | rfl | rfl
    · exact advance_1 o h hB hm h0 he
    · exact advance_2 o h hB hm h0 he
    · exact advance_3 o h hB hm h0 he
    · exact advance_4 o h hB hm h0 he
    · exact advance_5 o h hB hm h0 he
    · exact advance_6 o h hB hm h0 he

end Go.Proofs.YtdlajpjigddbhaaGreat.At

/-
  3 texts of this proof, one behind the other: PxGreet2, PxPick2, PxChosen.
-/
import Derived.Test.YtfgfjfemaniaiaaJ01
import Derived.Test.YtfgfjfemaniaiaaJ18
import Derived.Test.YtfgfjfemaniaiaaJ05
import Derived.Test.YtfgfjfemaniaiaaJ09
/-
  Package paxos: greet, at any state.
  Conditions: the monitor is one that New gave ('NdAt').
-/
namespace Go.Proofs.Ytfgfjfemaniaiaa.Px
open Go.RowKit Wi By Fl Ba
set_option linter.unusedVariables false
set_option linter.unusedSimpArgs false
set_option maxRecDepth 100000

def turned (st : Nd) (t : Nat) : Nd := { st with turn := t }

theorem tmod_nat (a b : Nat) : ((a : Int).tmod (b : Int)) = ((a % b : Nat) : Int) := by
  rw [Int.tmod_eq_emod_of_nonneg (by omega)]
  rfl

section
variable {w : World} {B : Nat} {g : Ln} {st : Nd} {n : Nat} {said : ByteArray → Prop} {G : Gh}

theorem NodeOk.turned (k : NodeOk n said G st) (t : Nat) : NodeOk n said G (turned st t) := ⟨k.sn, k.sid, k.dec, k.acc, k.may, k.bid, k.wait⟩
theorem NB.turned (k : NB n st) (t : Nat) : NB n (turned st t) := ⟨k.acc, k.bid⟩

theorem NdAt.turned (h : NdAt w B g st) (t : Nat) : NdAt (w.setCell ⟨g.p, 7, none⟩ (.int .i64 (t : Int))) B g (turned st t) ∧ Turns (atB g.p) w (w.setCell ⟨g.p, 7, none⟩ (.int .i64 (t : Int))) :=
  h.put 7 (.int .i64 (t : Int)) (Px.turned st t) (fun j hj => by
    match j, hj with
    | 0, _ => rfl
    | 1, _ => rfl
    | 2, _ => rfl
    | 3, _ => rfl
    | 4, _ => rfl
    | 5, _ => rfl
    | 6, _ => rfl
    | 7, _ => rfl) rfl rfl rfl rfl

set_option maxHeartbeats 1600000 in
theorem greet_any (h : NdAt w B g st) (k : NodeOk n said G st) (q : GI n said G) (nb : NB n st) (hn : n ≤ 7) (ht : st.turn < 1000000) :
    Calls Try.prog 27 #[.pointer (some ⟨g.p, 0, none⟩)] w fun e w' => ∃ R, e = .returned R ∧ Hid (∃ t, t < 1000000 ∧ Step n said G w w' B g st (turned st t) R 1) := by
  have c0 := h.c0
  have c1 := h.c1
  have c7 := h.c7
  have f7 := h.fz 7
  have hsid := k.sid
  rw [k.sn] at c1
  by_cases h1 : n = 1
  · have HK := hid (And.intro h (And.intro k (And.intro q nb)))
    clear h k q nb c0 f7
    rw [h1] at c1
    have i1 : ((1 : Nat) : Int) = 1 := rfl
    rw [i1] at c1
    go_enter Try.func27, Try.ntmps27
    go_wp2_with fail
    go_ret
    obtain ⟨p1, p2, p3, p4⟩ := HK.out
    exact ⟨_, rfl, st.turn, ht, Step.same p1 (Below.refl _ _) p3 p2 p4 ((MlsK.nil _ _ _ _ _).mono (by omega) (fun _ h => h))⟩
  · have i1 : ¬ (n : Int) = 1 := by omega
    obtain ⟨T0, hT0⟩ : ∃ T0, T0 = st.turn % (n - 1) := ⟨_, rfl⟩
    have hT1 : T0 < n - 1 := by rw [hT0]; exact Nat.mod_lt _ (by omega)
    have hmod : (st.turn : Int).tmod ((n : Int) - 1) = (T0 : Int) := by
      have e : (n : Int) - 1 = ((n - 1 : Nat) : Int) := by omega
      rw [e, tmod_nat, ← hT0]
    have w1 : IntKind.i64.wrap ((n : Int) - 1) = (n : Int) - 1 := wrap_i64 (by omega) (by omega)
    have w2 : IntKind.i64.wrap ((T0 : Int) + 1) = (T0 : Int) + 1 := wrap_i64 (by omega) (by omega)
    have nz : ¬ (n : Int) - 1 = 0 := by omega
    have w3 : IntKind.i64.wrap (T0 : Int) = (T0 : Int) := wrap_i64 (by omega) (by omega)
    obtain ⟨k2, t2⟩ := h.turned (T0 + 1)
    have eT : ((T0 + 1 : Nat) : Int) = (T0 : Int) + 1 := by omega
    rw [eT] at k2 t2
    obtain ⟨D, hD⟩ : ∃ D, D = (st.id + (T0 + 1)) % n := ⟨_, rfl⟩
    have hD1 : D < n := by rw [hD]; exact Nat.mod_lt _ (by omega)
    have hD2 : D ≠ st.id := fun e => by
      have e2 := Nat.div_add_mod (st.id + (T0 + 1)) n
      rw [← hD, e] at e2
      have e3 : n * ((st.id + (T0 + 1)) / n) = T0 + 1 := by omega
      rcases Nat.eq_zero_or_pos ((st.id + (T0 + 1)) / n) with z | z
      · rw [z] at e3; omega
      · have := Nat.mul_le_mul_left n z
        omega
    have hmo2 : ((st.id : Int) + ((T0 : Int) + 1)).tmod (n : Int) = (D : Int) := by
      have e : (st.id : Int) + ((T0 : Int) + 1) = ((st.id + (T0 + 1) : Nat) : Int) := by omega
      rw [e, tmod_nat, ← hD]
    have nz2 : ¬ (n : Int) = 0 := by omega
    have nz3 : ¬ n = 0 := by omega
    have w4 : IntKind.i64.wrap ((st.id : Int) + ((T0 : Int) + 1)) = (st.id : Int) + ((T0 : Int) + 1) := wrap_i64 (by omega) (by omega)
    have w5 : IntKind.i64.wrap (D : Int) = (D : Int) := wrap_i64 (by omega) (by omega)
    have HK := hid (And.intro h (And.intro k (And.intro q nb)))
    have hdl := h.dl
    have hi7 : st.id < 7 := by omega
    have Hdl := hid (And.intro hdl (And.intro hD1 hD2))
    have bD : Below w.heap.size w w.drew := (Below.refl _ _).drew
    have e1 := keep bD c1
    have e7 := keep bD c7
    have ef := h.below bD |>.fz 7
    obtain ⟨k3, t3⟩ := (h.below bD).turned (T0 + 1)
    rw [eT] at k3 t3
    have HT3 := hid (And.intro k3 ((Turns.of_below (F := atB g.p) bD).trans t3))
    clear h k q nb k2 t2 k3 t3 hT0 hD eT hdl hD2
    go_enter Try.func27, Try.ntmps27
    go_wp2_with fail
    refine wp_region_last (fun v => v.cell? ⟨g.p, 1, none⟩ = some (.int .i64 (n : Int)) ∧ v.cell? ⟨g.p, 7, none⟩ = some (.int .i64 (st.turn : Int))) 14 (by kernel_rfl) ⟨e1, e7⟩ (fun hS => ?_)
    generalize w.drew = wD at *
    refine By.lk 0 ?_
    refine By.lk 1 ?_
    refine By.lk 2 ?_
    refine By.lk 3 ?_
    refine By.lk 4 ?_
    refine By.lk 5 ?_
    refine By.lk 6 ?_
    refine By.lk 7 ?_
    refine By.lk 8 ?_
    refine By.lk 9 ?_
    refine By.lk 10 ?_
    refine By.lk 11 ?_
    refine wpAnyL_one (i := 12) (by kernel_rfl) rfl (fun K hK => ?_)
    go_simp
    refine hK.out _ _ (fun _ => ⟨e1, e7⟩) ?_
    clear hK K
    refine wpAnyL_one (i := 13) (by kernel_rfl) rfl (fun K hK => ?_)
    go_simp
    refine hK.out _ _ (fun _ => ⟨e1, e7⟩) ?_
    clear hK K
    refine wpAnyL_one (i := 14) (by kernel_rfl) rfl (fun K hK => ?_)
    go_simp
    refine hK.out _ _ (fun h => absurd rfl h) ?_
    clear hK K
    refine wpAnyL_done (by kernel_rfl) ?_ _
    have hS2 := say_any HT3.out.1 hi7 (D : Int)
    obtain ⟨wS, hwS⟩ : ∃ wS, wS = wD.setCell ⟨g.p, 7, none⟩ (.int .i64 ((T0 : Int) + 1)) := ⟨_, rfl⟩
    rw [← hwS] at HT3 hS2 ⊢
    clear hwS e1 e7 ef hS2
    have bE : Below wS.heap.size wS wS.drew := (Below.refl _ _).drew
    have kE := HT3.out.1.below bE
    have a0 : wS.drew.cell? ⟨g.p, 0, none⟩ = some (.int .i64 (st.id : Int)) := kE.c0
    have a1 : wS.drew.cell? ⟨g.p, 1, none⟩ = some (.int .i64 (n : Int)) := by
      have q := kE.c1
      have q2 : ((turned st (T0 + 1)).n : Int) = (n : Int) := (by show (st.n : Int) = _; rw [HK.out.2.1.sn])
      rw [q2] at q
      exact q
    have a7 : wS.drew.cell? ⟨g.p, 7, none⟩ = some (.int .i64 ((T0 : Int) + 1)) := by
      have q := kE.c7
      have q2 : ((turned st (T0 + 1)).turn : Int) = (T0 : Int) + 1 := (by show ((T0 + 1 : Nat) : Int) = _; omega)
      rw [q2] at q
      exact q
    have hS2 := say_any kE hi7 (D : Int)
    have HBE := hid bE
    clear bE kE c0 c1 c7 f7 bD
    go_wp2_with fail
    refine wp_region_held_drew (S := fun v => v.cell? ⟨g.p, 0, none⟩ = some (.int .i64 (st.id : Int)) ∧ v.cell? ⟨g.p, 1, none⟩ = some (.int .i64 (n : Int)) ∧ v.cell? ⟨g.p, 7, none⟩ = some (.int .i64 ((T0 : Int) + 1))) (by kernel_rfl) ⟨a0, a1, a7⟩ (fun hHeld => ?_)
    generalize wS.drew = wE at *
    refine By.hk 0 ?_
    refine By.hk 1 ?_
    refine By.hk 2 ?_
    refine By.hk 3 ?_
    refine By.hk 4 ?_
    refine By.hk 5 ?_
    refine By.hk 6 ?_
    refine By.hk 7 ?_
    refine By.hk 8 ?_
    refine By.hk 9 ?_
    refine By.hk 10 ?_
    refine By.hk 11 ?_
    refine By.hk 12 ?_
    refine By.hk 13 ?_
    refine By.hk 14 ?_
    refine wpAnyH_ready (rs := [15]) (by kernel_rfl) (by simp) ?_
    refine AllReadyH.cons rfl (fun K hK => ?_) AllReadyH.nil
    go_simp
    refine hS2.mono ?_
    rintro e w9 ⟨z, l, cz, rfl, H9⟩
    have b9 := H9.out.2.1
    refine hK.out _ _ ⟨keep b9 a0, keep b9 a1, keep b9 a7⟩ (fun hHeld => ?_)
    clear hK K
    refine wpAnyH_ready (rs := [16]) (by kernel_rfl) (by simp) ?_
    refine AllReadyH.cons rfl (fun K hK => ?_) AllReadyH.nil
    go_simp
    refine hK.out _ _ ⟨keep (al _ _) (keep b9 a0), keep (al _ _) (keep b9 a1), keep (al _ _) (keep b9 a7)⟩ (fun hHeld => ?_)
    clear hK K
    refine By.hk 17 ?_
    refine wpAnyH_done (by kernel_rfl) ?_ _
    clear hHeld
    go_wp2_with fail
    go_ret
    obtain ⟨p1, p2, p3, p4⟩ := HK.out
    have hT : Turns (atB g.p) w w9 := (HT3.out.2.trans (Turns.of_below HBE.out)).trans (Turns.of_below b9)
    have bM := al w9 (.cells #[.int .i64 (D : Int), .slice z l cz] 70)
    have kF := ((HT3.out.1.below HBE.out).below b9).below bM
    refine ⟨_, rfl, T0 + 1, by omega, G, ⟨g, rfl, kF, ((hT.weak (fun k hk => .inl hk)).trans (Turns.of_below bM)), by omega, fun k hk => .inl hk⟩, p3, GExt.refl _ _, p2.turned _, p4.turned _, mls_one hT.size (D : Int) z l cz ⟨4, st.dec.length, noAc, 0, []⟩ ⟨by omega, by have := Hdl.out.2.1; omega, by have := Hdl.out.2.2; omega⟩ ⟨sent_say p2.sid (by have := Hdl.out.1; omega), MsgOk.say _ _⟩ (bm_of_vl H9.out.2 H9.out.1)⟩

end

end Go.Proofs.Ytfgfjfemaniaiaa.Px

/-
  A value is picked and accepted, at any state: pick.
  Conditions: the monitor is one that New gave ('NdAt'), with a bid.
-/
namespace Go.Proofs.Ytfgfjfemaniaiaa.Px
open Go.RowKit Wi By Fl Ba
set_option linter.unusedVariables false
set_option linter.unusedSimpArgs false
set_option maxRecDepth 100000

def pickedG (st : Nd) (b : Bd) (dd : List Nat) : Nd := { st with acc := upA st.acc b.num ⟨b.bal, b.bal, dd⟩, bid := some { b with val := dd } }
def valued (st : Nd) (b : Bd) (dd : List Nat) : Nd := { st with bid := some { b with val := dd } }

section
variable {w : World} {B : Nat} {g : Ln} {st : Nd}

set_option maxHeartbeats 3200000 in
theorem pick_yes (h : NdAt w B g st) (b : Bd) (hb : st.bid = some b) (hn1 : st.n ≤ 7) (hid0 : st.id < st.n) (d : Dc) (ws : List Dc) (hw : st.wait = d :: ws) (x : Option Addr) (m c : Nat) (V : Nat → AccV) (hA : Accs w x m V) (hz : ∀ i, i < m → (V i).n ≤ 5000)
    (hacc : BOk b.bal) (hfr : freeb (st.acc b.num).p (st.acc b.num).a (st.acc b.num).d.length b.bal = true) (hnum : b.num < 4294967296) (hgn : gnb g < 1000000000000000000) :
    Calls Try.prog 74 #[.pointer (some ⟨g.p, 0, none⟩), .slice x m c] w fun e w' => ∃ R dd, e = .returned R ∧ Hid (PkS V m (dbytes d) dd ∧ Goes w w' B g (pickedG st b dd) 1 ∧ MlsK w' w.heap.size R st.n st.id 7 (fun u => u = reqM { b with val := dd })) := by
  rcases h.bid with ⟨_, q⟩ | ⟨l, b', q1, q2, q3, q4⟩
  · rw [hb] at q
    cases q
  rw [hb] at q2
  injection q2 with q2
  subst q2
  have hpl := h.obj.lt
  have hbl := q3.obj.lt
  have c5 := h.c5
  have c6 : w.cell? ⟨g.p, 6, none⟩ = some (.pointer (some ⟨l.bp, 0, none⟩)) := by rw [h.c6, q1]; rfl
  have hd : st.wait[0]? = some d := by rw [hw]; rfl
  obtain ⟨gw, cw, e, hnc, hcm, _, hgw⟩ := h.wait.there (by rw [hw]; simp)
  have ho := h.wait
  rw [e] at c5 ho
  have w0 := ho.cell drow.len hd (j := 0) (v := .int .i64 d.mon) rfl
  have w1 := ho.cell drow.len hd (j := 1) (v := .int .i64 d.ser) rfl
  have w2 := ho.cell drow.len hd (j := 2) (v := .string d.val) rfl
  rw [Nat.zero_mul, Nat.zero_add] at w0 w1 w2
  have hwl : (0 : Int) < (st.wait.length : Int) := by rw [hw]; simp
  have hwl2 : st.wait.length ≤ 80000 := h.wl
  have hdok : DOk d := h.wok d (by rw [hw]; simp)
  have hBy := fun W => dbytes_any d hdok W
  have HH : Hid (NdAt w B g st ∧ g.b = some l ∧ BdAt w l b ∧ Accs w x m V ∧ (∀ i, i < m → (V i).n ≤ 5000) ∧ st.n ≤ 7 ∧ st.id < st.n ∧ BOk b.bal ∧ freeb (st.acc b.num).p (st.acc b.num).a (st.acc b.num).d.length b.bal = true ∧ b.num < 4294967296 ∧ gnb g < 1000000000000000000 ∧ st.bid = some b) := ⟨h, q1, q3, hA, hz, hn1, hid0, hacc, hfr, hnum, hgn, hb⟩
  clear h q1 q3 q4 hA hz hn1 hid0 hacc hfr hnum hgn hb hw hd ho e hdok hnc hcm
  dsimp only [dv] at hBy
  generalize st.wait.length = wl at *
  go_enter Try.func74, Try.ntmps74
  go_wp2_with (first
    | (
       go_at_call 86; refine (hBy _).mono ?_; rintro e w3 ⟨y3, m3, c3, rfl, H3⟩; clear hBy
       have hPk := pickS x m c V y3 m3 c3 (dbytes d) w3 (HH.out.2.2.2.1.below H3.out.2.1) H3.out.2.2.1 (by have := H3.out.1; omega))
    | (
       go_at_call 91; refine hPk.mono ?_; rintro e w4 ⟨y4, m4, c4, dd, rfl, H4⟩; clear hPk
       have bE : Below w.heap.size w w4 := on H3.out.2.1 H4.out.1.1
       have k4 := HH.out.1.below bE
       have hm4 : m4 ≤ 5000 := by
         have a1 := H4.out.1.2.1.len
         have a2 := H3.out.2.2.1.len
         have a3 := H3.out.1
         rcases H4.out.2.2 with ⟨_, q⟩ | ⟨i, hi, q, _⟩
         · rw [q] at a1
           omega
         · have a4 := (HH.out.2.2.2.1.val i hi).1.len
           have a5 := HH.out.2.2.2.2.1 i hi
           rw [q] at a1
           omega
       have HPk := hid H4.out.2.2
       have hSv : Sv w4 y4 m4 c4 dd := vl_sv H4.out.1 hm4
       have o3 : w4.cell? ⟨l.bp, 3, none⟩ = some (.slice l.x l.n l.c) := keep bE (HH.out.2.2.1.obj.cell (k := 3) (by omega))
       have f3 : w4.frozen? ⟨l.bp, 3, none⟩ = false := keepf bE HH.out.2.2.1.obj.lt (HH.out.2.2.1.obj.frozen 3)
       obtain ⟨k5, t5⟩ := k4.setVal l b HH.out.2.1 HH.out.2.2.2.2.2.2.2.2.2.2.2 y4 m4 c4 (dd) hSv
       have HK : Hid (Below w.heap.size w w4 ∧ NdAt (w4.setCell ⟨l.bp, 3, none⟩ (.slice y4 m4 c4)) B { g with b := some { l with x := y4, n := m4, c := c4 } } { st with bid := some { b with val := dd } } ∧ Turns (atB l.bp) w4 (w4.setCell ⟨l.bp, 3, none⟩ (.slice y4 m4 c4))) := ⟨bE, k5, t5⟩
       clear H3 H4 hm4 hSv k4 k5 t5 bE w0 w1 w2 c5 c6))
  obtain ⟨bE, k5, t5⟩ := HK.out
  have bD : Below (w4.setCell ⟨l.bp, 3, none⟩ (.slice y4 m4 c4)).heap.size (w4.setCell ⟨l.bp, 3, none⟩ (.slice y4 m4 c4)) (w4.setCell ⟨l.bp, 3, none⟩ (.slice y4 m4 c4)).drew := (Below.refl _ _).drew
  have k6 := k5.below bD
  have hnb : b.num < 4294967296 := HH.out.2.2.2.2.2.2.2.2.2.1
  obtain ⟨v, v1, v2, v3⟩ := k6.acc.lookAll b.num hnb
  have hav : freeb v.p v.a v.n b.bal = true := by
    have q := HH.out.2.2.2.2.2.2.2.2.1
    rw [v2] at q
    have q2 : (acOf v).d.length = v.n := v1.sv.sl.len
    rw [q2] at q
    exact q
  have hBd : BdAt (w4.setCell ⟨l.bp, 3, none⟩ (.slice y4 m4 c4)).drew { l with x := y4, n := m4, c := c4 } { b with val := dd } := by
    rcases k6.bid with ⟨q, _⟩ | ⟨l2, b2, a1, a2, a3, _⟩
    · cases q
    · injection a1 with a1
      injection a2 with a2
      subst a1
      subst a2
      exact a3
  have hAc := fun (W : World) (bb : Below (w4.setCell ⟨l.bp, 3, none⟩ (.slice y4 m4 c4)).drew.heap.size (w4.setCell ⟨l.bp, 3, none⟩ (.slice y4 m4 c4)).drew W) => accept_yes v.p v.a v.x v.n v.c b.bal y4 m4 c4 dd W (hBd.val.sl.below bb) (by have := hBd.val.sm; dsimp only at this; omega) hav
  have hlk := v3 _ rfl
  have s3 : (w4.setCell ⟨l.bp, 3, none⟩ (.slice y4 m4 c4)).drew.cell? ⟨g.p, 3, none⟩ = some (.map (some g.mb)) := k6.c3
  have d0 : (w4.setCell ⟨l.bp, 3, none⟩ (.slice y4 m4 c4)).drew.cell? ⟨l.bp, 0, none⟩ = some (.int .i64 b.num) := hBd.obj.cell (k := 0) (by omega)
  have d1 : (w4.setCell ⟨l.bp, 3, none⟩ (.slice y4 m4 c4)).drew.cell? ⟨l.bp, 1, none⟩ = some (.int .i64 b.bal.1) := hBd.obj.cell (k := 1) (by omega)
  have d2 : (w4.setCell ⟨l.bp, 3, none⟩ (.slice y4 m4 c4)).drew.cell? ⟨l.bp, 2, none⟩ = some (.int .i64 b.bal.2) := hBd.obj.cell (k := 2) (by omega)
  have d3 : (w4.setCell ⟨l.bp, 3, none⟩ (.slice y4 m4 c4)).drew.cell? ⟨l.bp, 3, none⟩ = some (.slice y4 m4 c4) := hBd.obj.cell (k := 3) (by omega)
  have HV : Hid (st.acc b.num = acOf v ∧ v.n ≤ 5000 ∧ bwf v.p ∧ bwf v.a) := ⟨v2, v1.sv.sm, v1.p, v1.a⟩
  have HE : Hid (Below w.heap.size w w4 ∧ Turns (atB l.bp) w4 (w4.setCell ⟨l.bp, 3, none⟩ (.slice y4 m4 c4)).drew ∧ NdAt (w4.setCell ⟨l.bp, 3, none⟩ (.slice y4 m4 c4)).drew B { g with b := some { l with x := y4, n := m4, c := c4 } } { st with bid := some { b with val := dd } } ∧ bwf b.bal ∧ (dd).length = m4 ∧ m4 ≤ 5000) := ⟨bE, t5.trans (Turns.of_below bD), k6, hBd.wf, hBd.val.sl.len, hBd.val.sm⟩
  dsimp only [av, ac, bt] at hAc hlk
  clear hav v1 v2 v3 bE k5 t5 bD k6 hBd HK
  obtain ⟨⟨vp1, vp2⟩, ⟨va1, va2⟩, vx, vn, vc, vd⟩ := v
  dsimp only at hAc hlk HV
  go_wp2_with fail
  refine wp_region_held_drew (S := fun q => q.cell? ⟨g.p, 3, none⟩ = some (.map (some g.mb)) ∧ q.cell? ⟨l.bp, 0, none⟩ = some (.int .i64 b.num) ∧ q.cell? ⟨l.bp, 1, none⟩ = some (.int .i64 b.bal.1) ∧ q.cell? ⟨l.bp, 2, none⟩ = some (.int .i64 b.bal.2) ∧ q.cell? ⟨l.bp, 3, none⟩ = some (.slice y4 m4 c4)) (by kernel_rfl) ⟨s3, d0, d1, d2, d3⟩ (fun hHeld => ?_)
  generalize (w4.setCell ⟨l.bp, 3, none⟩ (.slice y4 m4 c4)).drew = wE at *
  refine By.hk 0 ?_
  refine By.hk 1 ?_
  refine By.hk 2 ?_
  refine By.hk 3 ?_
  refine By.hk 4 ?_
  refine By.hk 5 ?_
  refine By.hk 6 ?_
  refine By.hk 7 ?_
  refine By.hk 8 ?_
  refine By.hk 9 ?_
  refine By.hk 10 ?_
  refine By.hk 11 ?_
  refine By.hk 12 ?_
  refine By.hk 13 ?_
  refine By.hk 14 ?_
  refine By.hk 15 ?_
  refine By.hk 17 ?_
  refine By.hk 18 ?_
  refine By.hk 19 ?_
  refine By.hk 20 ?_
  refine By.hk 21 ?_
  refine By.hk 22 ?_
  refine By.hk 23 ?_
  refine By.hk 24 ?_
  refine wpAnyH_ready (rs := [16]) (by kernel_rfl) (by simp) ?_
  refine AllReadyH.cons rfl (fun K hK => ?_) AllReadyH.nil
  refine st_lookup rfl _ _ 60 false rfl _ _ _ rfl rfl hlk ?_
  (try simp only [Act.put, List.getElem_toArray, List.getElem_cons_succ, List.getElem_cons_zero, List.setIfInBounds_toArray, List.set_cons_zero, List.set_cons_succ])
  refine hK.out _ _ ⟨s3, d0, d1, d2, d3⟩ (fun hHeld => ?_)
  clear hK K
  refine wpAnyH_ready (rs := [25]) (by kernel_rfl) (by simp) ?_
  refine AllReadyH.cons rfl (fun K hK => ?_) AllReadyH.nil
  go_simp
  refine (hAc _ (Below.refl _ _)).mono ?_
  rintro e w6 ⟨y6, cy6, rfl, H6⟩
  have k7 := HE.out.2.2.1.below H6.out.1
  obtain ⟨w7, D7, hput, H7⟩ := k7.acc.put b.num hnb (by have := HH.out.2.2.2.2.2.2.2.2.2.2.1; unfold gnb at this; show g.nb < _; omega) ⟨b.bal, b.bal, y6, m4, cy6, dd⟩ ⟨vl_sv H6.out HE.out.2.2.2.2.2, HE.out.2.2.2.1, HE.out.2.2.2.1⟩
  have hput : (Instr.mapUpdate 60 (.map (some g.mb)) (.int .i64 (b.num : Int)) (.agg #[.int .i64 b.bal.1, .int .i64 b.bal.2, .int .i64 b.bal.1, .int .i64 b.bal.2, .slice y6 m4 cy6])).run Try.prog w6 = .ok () w7 := hput
  have k8 := k7.setA H7.out.1 H7.out.2
  have hbm : ¬ atB g.mb l.bp := fun e => by
    have e' : l.bp = g.mb := e
    have q3 := HH.out.2.2.1
    exact q3.obj.tb.not_map (e' ▸ HH.out.1.acc.isM)
  have s3' := keep H6.out.1 s3
  have d0' := keep H6.out.1 d0
  have d1' := keep H6.out.1 d1
  have d2' := keep H6.out.1 d2
  have d3' := keep H6.out.1 d3
  have s3'' : w7.cell? ⟨g.p, 3, none⟩ = some (.map (some g.mb)) := k8.c3
  have d0'' := keept H7.out.2 hbm d0'
  have d1'' := keept H7.out.2 hbm d1'
  have d2'' := keept H7.out.2 hbm d2'
  have d3'' := keept H7.out.2 hbm d3'
  have hAsk := ask_any k8 { b with val := dd } rfl HH.out.2.2.2.2.2.1 HH.out.2.2.2.2.2.2.1 hnb HH.out.2.2.2.2.2.2.2.1
  have hlow : w.heap.size ≤ w7.heap.size := Nat.le_trans HE.out.1.size (Nat.le_trans HE.out.2.1.size (Nat.le_trans H6.out.1.size H7.out.2.size))
  have HF : Hid (Goes w w7 B g (pickedG st b dd) 1) := by
    have hT : Turns (fp g) w w7 := (((Turns.of_below HE.out.1).trans (HE.out.2.1.weak fun k hk => .inr (.inr (.inr (.inr ⟨l, HH.out.2.1, .inl hk⟩))))).trans (Turns.of_below H6.out.1)).trans (H7.out.2.weak fun k hk => .inr (.inl hk))
    have k9 : NdAt w7 B _ (pickedG st b dd) := k8
    refine ⟨_, ?_, k9, hT, ?_, fun k hk => ?_⟩
    · rfl
    · show g.nb + 1 + l.tn ≤ gnb g + 1
      unfold gnb
      rw [HH.out.2.1]
      dsimp only
      omega
    · left
      rcases hk with q | q | q | q | ⟨l2, q, r⟩
      · exact .inl q
      · exact .inr (.inl q)
      · exact .inr (.inr (.inl q))
      · exact .inr (.inr (.inr (.inl q)))
      · injection q with q
        subst q
        exact .inr (.inr (.inr (.inr ⟨l, HH.out.2.1, r⟩)))
  refine hK.out _ _ ⟨s3', d0', d1', d2', d3'⟩ (fun hHeld => ?_)
  clear hK K
  refine By.hk 26 ?_
  refine By.hk 27 ?_
  refine By.hk 28 ?_
  refine wpAnyH_ready (rs := [29]) (by kernel_rfl) (by simp) ?_
  refine AllReadyH.cons rfl (fun K hK => ?_) AllReadyH.nil
  refine st_mapupdate rfl _ _ _ 60 rfl _ _ _ rfl rfl rfl hput ?_
  (try simp only [Act.put, List.getElem_toArray, List.getElem_cons_succ, List.getElem_cons_zero, List.setIfInBounds_toArray, List.set_cons_zero, List.set_cons_succ])
  refine hK.out _ _ ⟨s3'', d0'', d1'', d2'', d3''⟩ (fun hHeld => ?_)
  clear hK K
  refine wpAnyH_done (by kernel_rfl) ?_ _
  dsimp only at hAsk
  clear k7 k8 hput hHeld H7 HE hlk s3 d0 d1 d2 d3 s3' d0' d1' d2' d3' hAc hbm
  go_wp2_with (first
    | (
       go_at_call 36; refine hAsk.mono ?_; rintro e w9 ⟨R9, rfl, H9⟩; clear hAsk))
  go_ret
  exact ⟨R9, dd, rfl, HPk.out, HF.out.then H9.out.1, H9.out.2.base hlow⟩

set_option maxHeartbeats 3200000 in
theorem pick_no (h : NdAt w B g st) (b : Bd) (hb : st.bid = some b) (hn1 : st.n ≤ 7) (hid0 : st.id < st.n) (d : Dc) (ws : List Dc) (hw : st.wait = d :: ws) (x : Option Addr) (m c : Nat) (V : Nat → AccV) (hA : Accs w x m V) (hz : ∀ i, i < m → (V i).n ≤ 5000)
    (hacc : BOk b.bal) (hfr : freeb (st.acc b.num).p (st.acc b.num).a (st.acc b.num).d.length b.bal = false) (hnum : b.num < 4294967296) (hgn : gnb g < 1000000000000000000) :
    Calls Try.prog 74 #[.pointer (some ⟨g.p, 0, none⟩), .slice x m c] w fun e w' => ∃ R dd, e = .returned R ∧ Hid (PkS V m (dbytes d) dd ∧ Goes w w' B g (valued st b dd) 1 ∧ MlsK w' w.heap.size R st.n st.id 7 (fun u => u = reqM { b with val := dd })) := by
  rcases h.bid with ⟨_, q⟩ | ⟨l, b', q1, q2, q3, q4⟩
  · rw [hb] at q
    cases q
  rw [hb] at q2
  injection q2 with q2
  subst q2
  have hpl := h.obj.lt
  have hbl := q3.obj.lt
  have c5 := h.c5
  have c6 : w.cell? ⟨g.p, 6, none⟩ = some (.pointer (some ⟨l.bp, 0, none⟩)) := by rw [h.c6, q1]; rfl
  have hd : st.wait[0]? = some d := by rw [hw]; rfl
  obtain ⟨gw, cw, e, hnc, hcm, _, hgw⟩ := h.wait.there (by rw [hw]; simp)
  have ho := h.wait
  rw [e] at c5 ho
  have w0 := ho.cell drow.len hd (j := 0) (v := .int .i64 d.mon) rfl
  have w1 := ho.cell drow.len hd (j := 1) (v := .int .i64 d.ser) rfl
  have w2 := ho.cell drow.len hd (j := 2) (v := .string d.val) rfl
  rw [Nat.zero_mul, Nat.zero_add] at w0 w1 w2
  have hwl : (0 : Int) < (st.wait.length : Int) := by rw [hw]; simp
  have hwl2 : st.wait.length ≤ 80000 := h.wl
  have hdok : DOk d := h.wok d (by rw [hw]; simp)
  have hBy := fun W => dbytes_any d hdok W
  have HH : Hid (NdAt w B g st ∧ g.b = some l ∧ BdAt w l b ∧ Accs w x m V ∧ (∀ i, i < m → (V i).n ≤ 5000) ∧ st.n ≤ 7 ∧ st.id < st.n ∧ BOk b.bal ∧ freeb (st.acc b.num).p (st.acc b.num).a (st.acc b.num).d.length b.bal = false ∧ b.num < 4294967296 ∧ gnb g < 1000000000000000000 ∧ st.bid = some b) := ⟨h, q1, q3, hA, hz, hn1, hid0, hacc, hfr, hnum, hgn, hb⟩
  clear h q1 q3 q4 hA hz hn1 hid0 hacc hfr hnum hgn hb hw hd ho e hdok hnc hcm
  dsimp only [dv] at hBy
  generalize st.wait.length = wl at *
  go_enter Try.func74, Try.ntmps74
  go_wp2_with (first
    | (
       go_at_call 86; refine (hBy _).mono ?_; rintro e w3 ⟨y3, m3, c3, rfl, H3⟩; clear hBy
       have hPk := pickS x m c V y3 m3 c3 (dbytes d) w3 (HH.out.2.2.2.1.below H3.out.2.1) H3.out.2.2.1 (by have := H3.out.1; omega))
    | (
       go_at_call 91; refine hPk.mono ?_; rintro e w4 ⟨y4, m4, c4, dd, rfl, H4⟩; clear hPk
       have bE : Below w.heap.size w w4 := on H3.out.2.1 H4.out.1.1
       have k4 := HH.out.1.below bE
       have hm4 : m4 ≤ 5000 := by
         have a1 := H4.out.1.2.1.len
         have a2 := H3.out.2.2.1.len
         have a3 := H3.out.1
         rcases H4.out.2.2 with ⟨_, q⟩ | ⟨i, hi, q, _⟩
         · rw [q] at a1
           omega
         · have a4 := (HH.out.2.2.2.1.val i hi).1.len
           have a5 := HH.out.2.2.2.2.1 i hi
           rw [q] at a1
           omega
       have HPk := hid H4.out.2.2
       have hSv : Sv w4 y4 m4 c4 dd := vl_sv H4.out.1 hm4
       have o3 : w4.cell? ⟨l.bp, 3, none⟩ = some (.slice l.x l.n l.c) := keep bE (HH.out.2.2.1.obj.cell (k := 3) (by omega))
       have f3 : w4.frozen? ⟨l.bp, 3, none⟩ = false := keepf bE HH.out.2.2.1.obj.lt (HH.out.2.2.1.obj.frozen 3)
       obtain ⟨k5, t5⟩ := k4.setVal l b HH.out.2.1 HH.out.2.2.2.2.2.2.2.2.2.2.2 y4 m4 c4 (dd) hSv
       have HK : Hid (Below w.heap.size w w4 ∧ NdAt (w4.setCell ⟨l.bp, 3, none⟩ (.slice y4 m4 c4)) B { g with b := some { l with x := y4, n := m4, c := c4 } } { st with bid := some { b with val := dd } } ∧ Turns (atB l.bp) w4 (w4.setCell ⟨l.bp, 3, none⟩ (.slice y4 m4 c4))) := ⟨bE, k5, t5⟩
       clear H3 H4 hm4 hSv k4 k5 t5 bE w0 w1 w2 c5 c6))
  obtain ⟨bE, k5, t5⟩ := HK.out
  have bD : Below (w4.setCell ⟨l.bp, 3, none⟩ (.slice y4 m4 c4)).heap.size (w4.setCell ⟨l.bp, 3, none⟩ (.slice y4 m4 c4)) (w4.setCell ⟨l.bp, 3, none⟩ (.slice y4 m4 c4)).drew := (Below.refl _ _).drew
  have k6 := k5.below bD
  have hnb : b.num < 4294967296 := HH.out.2.2.2.2.2.2.2.2.2.1
  obtain ⟨v, v1, v2, v3⟩ := k6.acc.lookAll b.num hnb
  have hav : freeb v.p v.a v.n b.bal = false := by
    have q := HH.out.2.2.2.2.2.2.2.2.1
    rw [v2] at q
    have q2 : (acOf v).d.length = v.n := v1.sv.sl.len
    rw [q2] at q
    exact q
  have hBd : BdAt (w4.setCell ⟨l.bp, 3, none⟩ (.slice y4 m4 c4)).drew { l with x := y4, n := m4, c := c4 } { b with val := dd } := by
    rcases k6.bid with ⟨q, _⟩ | ⟨l2, b2, a1, a2, a3, _⟩
    · cases q
    · injection a1 with a1
      injection a2 with a2
      subst a1
      subst a2
      exact a3
  have hAc := fun (W : World) (bb : Below (w4.setCell ⟨l.bp, 3, none⟩ (.slice y4 m4 c4)).drew.heap.size (w4.setCell ⟨l.bp, 3, none⟩ (.slice y4 m4 c4)).drew W) => accept_no v.p v.a v.x v.n v.c v.d b.bal y4 m4 c4 W (v1.sv.sl.below bb) (by have := v1.sv.sm; omega) hav
  have hlk := v3 _ rfl
  have s3 : (w4.setCell ⟨l.bp, 3, none⟩ (.slice y4 m4 c4)).drew.cell? ⟨g.p, 3, none⟩ = some (.map (some g.mb)) := k6.c3
  have d0 : (w4.setCell ⟨l.bp, 3, none⟩ (.slice y4 m4 c4)).drew.cell? ⟨l.bp, 0, none⟩ = some (.int .i64 b.num) := hBd.obj.cell (k := 0) (by omega)
  have d1 : (w4.setCell ⟨l.bp, 3, none⟩ (.slice y4 m4 c4)).drew.cell? ⟨l.bp, 1, none⟩ = some (.int .i64 b.bal.1) := hBd.obj.cell (k := 1) (by omega)
  have d2 : (w4.setCell ⟨l.bp, 3, none⟩ (.slice y4 m4 c4)).drew.cell? ⟨l.bp, 2, none⟩ = some (.int .i64 b.bal.2) := hBd.obj.cell (k := 2) (by omega)
  have d3 : (w4.setCell ⟨l.bp, 3, none⟩ (.slice y4 m4 c4)).drew.cell? ⟨l.bp, 3, none⟩ = some (.slice y4 m4 c4) := hBd.obj.cell (k := 3) (by omega)
  have HV : Hid (st.acc b.num = acOf v ∧ v.n ≤ 5000 ∧ bwf v.p ∧ bwf v.a) := ⟨v2, v1.sv.sm, v1.p, v1.a⟩
  have HE : Hid (Below w.heap.size w w4 ∧ Turns (atB l.bp) w4 (w4.setCell ⟨l.bp, 3, none⟩ (.slice y4 m4 c4)).drew ∧ NdAt (w4.setCell ⟨l.bp, 3, none⟩ (.slice y4 m4 c4)).drew B { g with b := some { l with x := y4, n := m4, c := c4 } } { st with bid := some { b with val := dd } } ∧ bwf b.bal ∧ (dd).length = m4 ∧ m4 ≤ 5000) := ⟨bE, t5.trans (Turns.of_below bD), k6, hBd.wf, hBd.val.sl.len, hBd.val.sm⟩
  dsimp only [av, ac, bt] at hAc hlk
  clear hav v1 v2 v3 bE k5 t5 bD k6 hBd HK
  obtain ⟨⟨vp1, vp2⟩, ⟨va1, va2⟩, vx, vn, vc, vd⟩ := v
  dsimp only at hAc hlk HV
  go_wp2_with fail
  refine wp_region_held_drew (S := fun q => q.cell? ⟨g.p, 3, none⟩ = some (.map (some g.mb)) ∧ q.cell? ⟨l.bp, 0, none⟩ = some (.int .i64 b.num) ∧ q.cell? ⟨l.bp, 1, none⟩ = some (.int .i64 b.bal.1) ∧ q.cell? ⟨l.bp, 2, none⟩ = some (.int .i64 b.bal.2) ∧ q.cell? ⟨l.bp, 3, none⟩ = some (.slice y4 m4 c4)) (by kernel_rfl) ⟨s3, d0, d1, d2, d3⟩ (fun hHeld => ?_)
  generalize (w4.setCell ⟨l.bp, 3, none⟩ (.slice y4 m4 c4)).drew = wE at *
  refine By.hk 0 ?_
  refine By.hk 1 ?_
  refine By.hk 2 ?_
  refine By.hk 3 ?_
  refine By.hk 4 ?_
  refine By.hk 5 ?_
  refine By.hk 6 ?_
  refine By.hk 7 ?_
  refine By.hk 8 ?_
  refine By.hk 9 ?_
  refine By.hk 10 ?_
  refine By.hk 11 ?_
  refine By.hk 12 ?_
  refine By.hk 13 ?_
  refine By.hk 14 ?_
  refine By.hk 15 ?_
  refine By.hk 17 ?_
  refine By.hk 18 ?_
  refine By.hk 19 ?_
  refine By.hk 20 ?_
  refine By.hk 21 ?_
  refine By.hk 22 ?_
  refine By.hk 23 ?_
  refine By.hk 24 ?_
  refine wpAnyH_ready (rs := [16]) (by kernel_rfl) (by simp) ?_
  refine AllReadyH.cons rfl (fun K hK => ?_) AllReadyH.nil
  refine st_lookup rfl _ _ 60 false rfl _ _ _ rfl rfl hlk ?_
  (try simp only [Act.put, List.getElem_toArray, List.getElem_cons_succ, List.getElem_cons_zero, List.setIfInBounds_toArray, List.set_cons_zero, List.set_cons_succ])
  refine hK.out _ _ ⟨s3, d0, d1, d2, d3⟩ (fun hHeld => ?_)
  clear hK K
  refine wpAnyH_ready (rs := [25]) (by kernel_rfl) (by simp) ?_
  refine AllReadyH.cons rfl (fun K hK => ?_) AllReadyH.nil
  go_simp
  refine (hAc _ (Below.refl _ _)).mono ?_
  rintro e w6 ⟨y6, cy6, rfl, H6⟩
  have k7 := HE.out.2.2.1.below H6.out.1
  obtain ⟨w7, D7, hput, H7⟩ := k7.acc.put b.num hnb (by have := HH.out.2.2.2.2.2.2.2.2.2.2.1; unfold gnb at this; show g.nb < _; omega) ⟨(vp1, vp2), (va1, va2), y6, vn, cy6, vd⟩ ⟨vl_sv H6.out HV.out.2.1, HV.out.2.2.1, HV.out.2.2.2⟩
  have hput : (Instr.mapUpdate 60 (.map (some g.mb)) (.int .i64 (b.num : Int)) (.agg #[.int .i64 vp1, .int .i64 vp2, .int .i64 va1, .int .i64 va2, .slice y6 vn cy6])).run Try.prog w6 = .ok () w7 := hput
  have k8 := k7.setA H7.out.1 H7.out.2
  have hbm : ¬ atB g.mb l.bp := fun e => by
    have e' : l.bp = g.mb := e
    have q3 := HH.out.2.2.1
    exact q3.obj.tb.not_map (e' ▸ HH.out.1.acc.isM)
  have s3' := keep H6.out.1 s3
  have d0' := keep H6.out.1 d0
  have d1' := keep H6.out.1 d1
  have d2' := keep H6.out.1 d2
  have d3' := keep H6.out.1 d3
  have s3'' : w7.cell? ⟨g.p, 3, none⟩ = some (.map (some g.mb)) := k8.c3
  have d0'' := keept H7.out.2 hbm d0'
  have d1'' := keept H7.out.2 hbm d1'
  have d2'' := keept H7.out.2 hbm d2'
  have d3'' := keept H7.out.2 hbm d3'
  have hAsk := ask_any k8 { b with val := dd } rfl HH.out.2.2.2.2.2.1 HH.out.2.2.2.2.2.2.1 hnb HH.out.2.2.2.2.2.2.2.1
  have hlow : w.heap.size ≤ w7.heap.size := Nat.le_trans HE.out.1.size (Nat.le_trans HE.out.2.1.size (Nat.le_trans H6.out.1.size H7.out.2.size))
  have HF : Hid (Goes w w7 B g (valued st b dd) 1) := by
    have hT : Turns (fp g) w w7 := (((Turns.of_below HE.out.1).trans (HE.out.2.1.weak fun k hk => .inr (.inr (.inr (.inr ⟨l, HH.out.2.1, .inl hk⟩))))).trans (Turns.of_below H6.out.1)).trans (H7.out.2.weak fun k hk => .inr (.inl hk))
    have e9 : upA st.acc b.num (acOf ⟨(vp1, vp2), (va1, va2), y6, vn, cy6, vd⟩) = st.acc := by
      funext i
      by_cases e : i = b.num
      · subst e
        rw [upA_same]
        exact HV.out.1.symm
      · exact upA_other _ _ e
    dsimp only at k8
    rw [e9] at k8
    have k9 : NdAt w7 B _ (valued st b dd) := k8
    refine ⟨_, ?_, k9, hT, ?_, fun k hk => ?_⟩
    · rfl
    · show g.nb + 1 + l.tn ≤ gnb g + 1
      unfold gnb
      rw [HH.out.2.1]
      dsimp only
      omega
    · left
      rcases hk with q | q | q | q | ⟨l2, q, r⟩
      · exact .inl q
      · exact .inr (.inl q)
      · exact .inr (.inr (.inl q))
      · exact .inr (.inr (.inr (.inl q)))
      · injection q with q
        subst q
        exact .inr (.inr (.inr (.inr ⟨l, HH.out.2.1, r⟩)))
  refine hK.out _ _ ⟨s3', d0', d1', d2', d3'⟩ (fun hHeld => ?_)
  clear hK K
  refine By.hk 26 ?_
  refine By.hk 27 ?_
  refine By.hk 28 ?_
  refine wpAnyH_ready (rs := [29]) (by kernel_rfl) (by simp) ?_
  refine AllReadyH.cons rfl (fun K hK => ?_) AllReadyH.nil
  refine st_mapupdate rfl _ _ _ 60 rfl _ _ _ rfl rfl rfl hput ?_
  (try simp only [Act.put, List.getElem_toArray, List.getElem_cons_succ, List.getElem_cons_zero, List.setIfInBounds_toArray, List.set_cons_zero, List.set_cons_succ])
  refine hK.out _ _ ⟨s3'', d0'', d1'', d2'', d3''⟩ (fun hHeld => ?_)
  clear hK K
  refine wpAnyH_done (by kernel_rfl) ?_ _
  dsimp only at hAsk
  clear k7 k8 hput hHeld H7 HE hlk s3 d0 d1 d2 d3 s3' d0' d1' d2' d3' hAc hbm
  go_wp2_with (first
    | (
       go_at_call 36; refine hAsk.mono ?_; rintro e w9 ⟨R9, rfl, H9⟩; clear hAsk))
  go_ret
  exact ⟨R9, dd, rfl, HPk.out, HF.out.then H9.out.1, H9.out.2.base hlow⟩

end

end Go.Proofs.Ytfgfjfemaniaiaa.Px

/-
  Which value is chosen: Chosen.
  Conditions: the list lies in memory.
-/
namespace Go.Proofs.Ytfgfjfemaniaiaa.Px
open Go.RowKit By Fl Ba
set_option linter.unusedVariables false
set_option linter.unusedSimpArgs false
set_option maxRecDepth 100000

theorem below2c {B : Nat} {a w : World} (h : Below B a w) (g : Nat) (hg : B ≤ g) (u0 u1 : Value) : Below B a ((w.setCell ⟨g, 0, none⟩ u0).setCell ⟨g, 1, none⟩ u1) :=
  (h.setCell (p := ⟨g, 0, none⟩) hg _).setCell (p := ⟨g, 1, none⟩) hg _

theorem results_cell3 {fn : Func} {p q r : Tmp} {ty : TypeId} (h : fn.results = #[.cell p ty, .tmp q, .tmp r]) (tmps : Array Value) (P : Program) (w : World) :
    (results fn tmps).run P w = ((asAddr (tmps.getD p undef)).run P w).andThen fun a w₁ => ((loadVar ty a).run P w₁).andThen fun v w₂ => .ok (.tuple #[v, tmps.getD q undef, tmps.getD r undef]) w₂ := by
  simp only [results, h]
  simp [Sem.run_bind, Result.andThen]

def Cho (V : Nat → AccV) (n : Nat) (b : Bt) (k : Nat) : Prop := b ≠ z0 ∧ Maj n (fun i => (V i).a = b) ∧ k < n ∧ (V k).a = b

theorem cho_of {V : Nat → AccV} {n : Nat} {b : Bt} {c : Int} (hc : c = cntA V n b) (hm : (n : Int) < 2 * c) : b ≠ z0 ∧ Maj n (fun i => (V i).a = b) ∧ ∃ j, j < n ∧ (V j).a = b := by
  subst hc
  unfold cntA at hm
  by_cases hz : b = z0
  · rw [if_pos hz] at hm
    omega
  · rw [if_neg hz] at hm
    refine ⟨hz, ⟨fun i => decide ((V i).a = b), by omega, fun k hk e => by simpa using e⟩, ?_⟩
    obtain ⟨k, hk, e⟩ := cnt_pos (q := fun i => decide ((V i).a = b)) (n := n) (by omega)
    exact ⟨k, hk, by simpa using e⟩

def NoMaj (V : Nat → AccV) (n : Nat) : Prop := ∀ b : Bt, bwf b → ¬ ((n : Int) < 2 * cntA V n b)
def JLeft (V : Nat → AccV) (n : Nat) (left : Lit → Bool) : Prop := ∀ b : Bt, bwf b → (n : Int) < 2 * cntA V n b → left (blit b) = true

theorem turns_grown {a w w' : World} {g : Nat} (t : Turns (atB g) a w) (h : w.grownBy w' (some g)) : Turns (atB g) a w' := t.grown h (fun k hk => .inl (by cases hk; rfl))

set_option maxHeartbeats 4000000 in
theorem chosen_any (x : Option Addr) (n c0 : Nat) (V : Nat → AccV) (w : World) (h : Accs w x n V) :
    Calls Try.prog 70 #[.slice x n c0] w fun e w' => (e = .returned (.tuple #[bt z0, .slice none 0 0, .bool false]) ∧ Hid (Below w.heap.size w w' ∧ NoMaj V n)) ∨
      ∃ (b : Bt) (k : Nat) (y : Option Addr) (cy : Nat), e = .returned (.tuple #[bt b, .slice y (V k).n cy, .bool true]) ∧ Hid (Cho V n b k ∧ Vl w w' y (V k).n cy (V k).d) := by
  have hC := count_any x n c0 V (w.alloc (.cells #[.int .i64 0, .int .i64 0] 72)) (h.below (al _ _))
  have HA : Hid (Accs w x n V) := h
  have hnz : (n : Int) ≤ 1000 := by have := h.small; omega
  clear h
  go_enter Try.func70, Try.ntmps70
  go_wp2_with (first
    | (
       go_at_call 89; refine hC.mono ?_; rintro e w1 ⟨mb, nb, D, rfl, H1⟩; clear hC
       have k0 := keep H1.out.1 (b := w.heap.size) (o := 0) (x := .int .i64 0) (by first | assumption | go_simp)
       have k1 := keep H1.out.1 (b := w.heap.size) (o := 1) (x := .int .i64 0) (by first | assumption | go_simp)
       have f0 := keepf H1.out.1 (b := w.heap.size) (o := 0) (by first | (simp <;> omega) | exact cell_lt' (a := ⟨w.heap.size, 0, none⟩) (by assumption) | (simp; exact cell_lt' (a := ⟨w.heap.size, 0, none⟩) (by assumption))) (by first | assumption | go_simp)
       have f1 := keepf H1.out.1 (b := w.heap.size) (o := 1) (by first | (simp <;> omega) | exact cell_lt' (a := ⟨w.heap.size, 1, none⟩) (by assumption) | (simp; exact cell_lt' (a := ⟨w.heap.size, 1, none⟩) (by assumption))) (by first | assumption | go_simp)
       have hmap := H1.out.2.1.map
       have B1 := on (al _ _) H1.out.1
       have l0 : w.heap.size < w1.heap.size := cell_lt' k0
       have HD : Hid (∀ b, bwf b → D.atKey (blit b) (.lit (.int .i64 0)) = .lit (.int .i64 (cntA V n b))) := H1.out.2.1.cnt
       have l1 : w.heap.size + 1 ≤ mb := by have := H1.out.2.1.bl; simpa using this
       clear H1)
    | (at_range; refine wpList_range_own _ rfl _ 134 rfl 72 3 blaw Try.underlying134 (plainElem Try.prog 3) mb nb D rfl hmap ?_; intro w0 hrg0 hg0 hs0))
  go_frame
  have T0 : Hid (Turns (atB w1.heap.size) w1 w0) := (Turns.refl (atB w1.heap.size) w1).grown hg0 (fun k hk => by cases hk)
  clear hg0 hs0 hmap
  go_loopw [5, 6] (fun _ _ wr => ∃ (left : Lit → Bool) (cnt : Nat), wr.ranges Try.prog 72 (plainElem Try.prog 3) mb w1.heap.size nb D left cnt ∧ Hid (Turns (atB w1.heap.size) w1 wr ∧ JLeft V n left)) (fun _ _ wr => wr.rangeLeft mb w1.heap.size)
  case atStart =>
    refine ⟨_, _, hrg0, T0.out, fun b hb h => ?_⟩
    cases hh : Maps.has D (blit b) with
    | true => rfl
    | false =>
      have e1 := HD.out b hb
      rw [Maps.atKey_of_not_has hh] at e1
      injection e1 with e1
      injection e1 with _ e1
      omega
  case round =>
    clear T0 hrg0
    obtain ⟨left, cnt, hrg, HT⟩ := hrel
    have HW : Hid (wr.rangeLeft mb w1.heap.size = cnt) := hrg.left_eq
    go_wp2_with (first
      | (at_next; refine wpList_next_ranges _ rfl _ rfl 72 blaw (plainElem Try.prog 3) (fun b : Bt => Value.agg #[.int .i64 b.1, .int .i64 b.2]) (fun z : Int => Value.int .i64 z) (fun key kl hk => by obtain ⟨s, rfl, _⟩ := bk_inv hk; exact ⟨s, rfl⟩) (fun v y hv' => by obtain ⟨a, rfl, _⟩ := plainElem_int_inv Try.underlying3 hv'; exact ⟨a, rfl⟩) mb w1.heap.size nb D left cnt rfl hrg ?_ ?_
         (intro hc0 hl0
          have T9 := HT.out.1
          have HJ : Hid (NoMaj V n) := fun b hb h => by
            have q := HT.out.2 b hb h
            rw [hl0] at q
            cases q
          have k0 := keepn T9 (b := w.heap.size) (by omega) k0
          have k1 := keepn T9 (b := w.heap.size) (by omega) k1
          have f0 := keepnf T9 (b := w.heap.size) (by omega) (by omega) f0
          have f1 := keepnf T9 (b := w.heap.size) (by omega) (by omega) f1
          clear HT hrg)
         rotate_left 1
         (intro b c kl y w2 cnt2 hkey hlk hvv hat hrg2 hlt hg2 hs2 hen
          obtain ⟨b', eb, hwf, rfl⟩ := bk_inv hkey
          have eb2 : b = b' := by
            simp only [bt, Value.agg.injEq] at eb
            simp at eb
            exact bt_ext eb.1 eb.2
          subst eb2
          obtain ⟨c', ec, ey, _⟩ := plainElem_int_inv Try.underlying3 hvv
          injection ec with _ ec
          subst ec
          have hcc : Hid (c = cntA V n b) := by
            have e1 := HD.out b hwf
            rw [hat, ey] at e1
            injection e1 with e1
            injection e1
          have T2 := turns_grown HT.out.1 hg2
          have HJ2 := hid HT.out.2
          have hb2 := hen
          clear hkey eb hvv hat ey HT hrg hg2 hs2 hlk
          have HB : Hid (bwf b ∧ c = cntA V n b) := ⟨hwf, hcc.out⟩
          clear hwf hcc hb2
          obtain ⟨b1, b2⟩ := b
          dsimp only at hen
          have l2 : w1.heap.size < w2.heap.size := hrg2.lt
          )
         rotate_right 1))
    · have B2 : Below w.heap.size w wr := B1.trans (T9.below (fun k hk => by have e2 : k = w1.heap.size := hk; omega) B1.size)
      refine bodyPost_ret (v := .tuple #[.agg #[.int .i64 0, .int .i64 0], .slice none 0 0, .bool false]) ?_ rfl (.inl ⟨rfl, below2c B2 w.heap.size (Nat.le_refl _) _ _, HJ.out⟩)
      rw [results_cell3 rfl]
      go_simp
    · rename_i hm K0 a0 ke
      have B2 : Below w.heap.size w w2 := B1.trans (T2.below (fun k hk => by have e2 : k = w1.heap.size := hk; omega) B1.size)
      have k0 := keepn T2 (b := w.heap.size) (by omega) k0
      have k1 := keepn T2 (b := w.heap.size) (by omega) k1
      have f0 := keepnf T2 (b := w.heap.size) (by omega) (by omega) f0
      have f1 := keepnf T2 (b := w.heap.size) (by omega) (by omega) f1
      have l3 : w.heap.size < w2.heap.size := by omega
      obtain ⟨hz, hmaj, hex⟩ := cho_of (b := (b1, b2)) HB.out.2 (by omega)
      have HM : Hid ((b1, b2) ≠ z0 ∧ Maj n (fun i => (V i).a = (b1, b2))) := ⟨hz, hmaj⟩
      have bD : Below (w2.alloc (.cells #[.int .i64 b1, .int .i64 b2] 72)).heap.size (w2.alloc (.cells #[.int .i64 b1, .int .i64 b2] 72)) (w2.alloc (.cells #[.int .i64 b1, .int .i64 b2] 72)).drew := (Below.refl _ _).drew
      have k0 := keep bD (b := w.heap.size) (o := 0) (x := .int .i64 0) (by first | assumption | go_simp)
      have k1 := keep bD (b := w.heap.size) (o := 1) (x := .int .i64 0) (by first | assumption | go_simp)
      have f0 := keepf bD (b := w.heap.size) (o := 0) (by first | (simp <;> omega) | exact cell_lt' (a := ⟨w.heap.size, 0, none⟩) (by assumption) | (simp; exact cell_lt' (a := ⟨w.heap.size, 0, none⟩) (by assumption))) (by first | assumption | go_simp)
      have f1 := keepf bD (b := w.heap.size) (o := 1) (by first | (simp <;> omega) | exact cell_lt' (a := ⟨w.heap.size, 1, none⟩) (by assumption) | (simp; exact cell_lt' (a := ⟨w.heap.size, 1, none⟩) (by assumption))) (by first | assumption | go_simp)
      have j0 := keep bD (b := w2.heap.size) (o := 0) (x := .int .i64 b1) (by first | assumption | go_simp)
      have j1 := keep bD (b := w2.heap.size) (o := 1) (x := .int .i64 b2) (by first | assumption | go_simp)
      have B3 := on (on B2 (al _ _)) bD
      have hV := valueOf_any x n c0 V (b1, b2) _ (HA.out.below B3) hex
      clear bD B2 hz hmaj hex hen hrg2 HB T2 HD l2 hlt B1 hm
      refine wp_region_held_drew (S := fun v => v.cell? ⟨w2.heap.size, 0, none⟩ = some (.int .i64 b1) ∧ v.cell? ⟨w2.heap.size, 1, none⟩ = some (.int .i64 b2)) (by kernel_rfl) ⟨j0, j1⟩ (fun hHeld => ?_)
      generalize (w2.alloc (.cells #[.int .i64 b1, .int .i64 b2] 72)).drew = wD at *
      have l5 : w.heap.size < wD.heap.size := cell_lt' k0
      dsimp only [bt] at hV
      refine By.hk 0 ?_
      refine By.hk 1 ?_
      refine By.hk 2 ?_
      refine wpAnyH_ready (rs := [3]) (by kernel_rfl) (by simp) ?_
      refine AllReadyH.cons rfl (fun K hK => ?_) AllReadyH.nil
      go_simp
      refine hV.mono ?_
      rintro e w3 ⟨k, y, cy, rfl, H3⟩
      have k0 := keep H3.out.2.2.1 (b := w.heap.size) (o := 0) (x := .int .i64 0) (by first | assumption | go_simp)
      have k1 := keep H3.out.2.2.1 (b := w.heap.size) (o := 1) (x := .int .i64 0) (by first | assumption | go_simp)
      have f0 := keepf H3.out.2.2.1 (b := w.heap.size) (o := 0) (by first | (simp <;> omega) | exact cell_lt' (a := ⟨w.heap.size, 0, none⟩) (by assumption) | (simp; exact cell_lt' (a := ⟨w.heap.size, 0, none⟩) (by assumption))) (by first | assumption | go_simp)
      have f1 := keepf H3.out.2.2.1 (b := w.heap.size) (o := 1) (by first | (simp <;> omega) | exact cell_lt' (a := ⟨w.heap.size, 1, none⟩) (by assumption) | (simp; exact cell_lt' (a := ⟨w.heap.size, 1, none⟩) (by assumption))) (by first | assumption | go_simp)
      have j0 := keep H3.out.2.2.1 (b := w2.heap.size) (o := 0) (x := .int .i64 b1) (by first | assumption | go_simp)
      have j1 := keep H3.out.2.2.1 (b := w2.heap.size) (o := 1) (x := .int .i64 b2) (by first | assumption | go_simp)
      refine hK.out _ _ ⟨j0, j1⟩ (fun hHeld => ?_)
      clear hK K
      refine wpAnyH_ready (rs := [4]) (by kernel_rfl) (by simp) ?_
      refine AllReadyH.cons rfl (fun K hK => ?_) AllReadyH.nil
      go_simp
      refine hK.out _ _ ⟨by go_simp, by go_simp⟩ (fun hHeld => ?_)
      clear hK K
      refine By.hk 5 ?_
      refine By.hk 6 ?_
      refine wpAnyH_done (by kernel_rfl) ?_ _
      go_wp2_with fail
      refine bodyPost_ret (v := .tuple #[.agg #[.int .i64 b1, .int .i64 b2], .slice y (V k).n cy, .bool true]) ?_ rfl (.inr ⟨(b1, b2), k, y, cy, rfl, ⟨HM.out.1, HM.out.2, H3.out.1, H3.out.2.1⟩, Vl.turns B3 H3.out.2.2 ?_⟩)
      · rw [results_cell3 rfl]
        go_simp
      · exact (Turns.refl (fun k => w.heap.size ≤ k ∧ k < wD.heap.size) w3).set2 w.heap.size ⟨Nat.le_refl _, l5⟩ _ _
    · have hnm : ¬ ((n : Int) < 2 * c) := by omega
      have HK : Hid (JLeft V n (fun z => left z && !z.sameKey (blit (b1, b2)))) := fun b hb h => by
        show (left (blit b) && !(blit b).sameKey (blit (b1, b2))) = true
        rw [HJ2.out b hb h, Bool.true_and]
        have hne : blit b ≠ blit (b1, b2) := fun e => by
          have e2 := bk_inj hb HB.out.1 e
          rw [e2, ← HB.out.2] at h
          exact hnm h
        rw [Maps.sameKey_ne hne]
        rfl
      refine ⟨⟨_, _, hrg2.alloc _, T2.alloc _, HK.out⟩, ?_⟩
      rw [(hrg2.alloc _).left_eq, HW.out]
      exact hlt

end Go.Proofs.Ytfgfjfemaniaiaa.Px

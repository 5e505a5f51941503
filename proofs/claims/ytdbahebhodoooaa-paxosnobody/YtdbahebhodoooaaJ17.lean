/-
  3 texts of this proof, one behind the other: PxPick1, PxSettle1, PxChosen.
-/
import Derived.Test.YtdbahebhodoooaaJ15
import Derived.Test.YtdbahebhodoooaaJ16
import Derived.Test.YtdbahebhodoooaaJ14
import Derived.Test.YtdbahebhodoooaaJ08
/-
  A value is picked and accepted where a monitor is alone.
  Conditions: the monitor is one that New gave ('NdAt'), with a bid.
-/
namespace Go.Proofs.Ytdbahebhodoooaa.Px
open Go.RowKit Wi By Fl Ba
set_option linter.unusedVariables false
set_option linter.unusedSimpArgs false
set_option maxRecDepth 100000

section
variable {w : World} {B : Nat} {g : Ln} {st : Nd}

theorem NdAt.setVal (h : NdAt w B g st) (l : Lb) (b : Bd) (hl : g.b = some l) (hb : st.bid = some b) (y : Option Addr) (n c : Nat) (v : List Nat) (hv : Sv w y n c v) :
    NdAt (w.setCell ⟨l.bp, 3, none⟩ (.slice y n c)) B { g with b := some { l with x := y, n := n, c := c } } { st with bid := some { b with val := v } } ∧ Turns (atB l.bp) w (w.setCell ⟨l.bp, 3, none⟩ (.slice y n c)) := by
  have t : Turns (atB l.bp) w (w.setCell ⟨l.bp, 3, none⟩ (.slice y n c)) := turns_put (Turns.refl _ _) 3 _
  rcases h.bid with ⟨q, _⟩ | ⟨l', b', q1, q2, q3, q4⟩
  · rw [hl] at q
    cases q
  rw [hl] at q1
  injection q1 with q1
  subst q1
  rw [hb] at q2
  injection q2 with q2
  subst q2
  have hu : ∀ k, atB l.bp k → ¬ Tb w k 5 := fun k hk => by
    have e : k = l.bp := hk
    subst e
    exact (h.u8 _ (.inr (.inr (.inr (.inr ⟨l, hl, .inl rfl⟩))))).2
  have hpb : g.p ≠ l.bp := fun e => by
    have := q3.obj.tb.same (e ▸ h.obj.tb)
    revert this
    decide
  refine ⟨⟨?_, ?_, ?_, h.ne, ?_, .inr ⟨_, _, rfl, rfl, ⟨?_, hv.turns t hu, ?_, q3.wf⟩, q4⟩, fun k hk => h.low k ?_, h.dl, h.wl, h.dok, h.wok⟩, t⟩
  · have q := t.blk h.obj (fun e => hpb e)
    refine q.congr (fun j hj => ?_)
    rcases j with _ | _ | _ | _ | _ | _ | _ | _ | j <;> first | rfl | (unfold obj8; simp only [hl]; rfl) | omega
  · exact h.dec.turns t (fun q hq e => by
      have e' : q = l.bp := e
      subst e'
      have := (h.dec.tb hq).2.same q3.obj.tb
      revert this
      decide)
  · exact h.wait.turns t (fun q hq e => by
      have e' : q = l.bp := e
      subst e'
      have := (h.wait.tb hq).2.same q3.obj.tb
      revert this
      decide)
  · exact h.acc.turns t (fun e => by
      have e' : g.mb = l.bp := e
      exact q3.obj.tb.not_map (e' ▸ h.acc.isM)) hu
  · exact (q3.obj.set 3 _).congr (fun j hj => by rcases j with _ | _ | _ | _ | _ | j <;> first | rfl | omega)
  · exact q3.told.turns t (fun e => by
      have e' : l.tb = l.bp := e
      exact q3.obj.tb.not_map (e' ▸ q3.told.isM)) hu
  · rcases hk with q | q | q | q | ⟨l2, q, r⟩
    · exact .inl q
    · exact .inr (.inl q)
    · exact .inr (.inr (.inl q))
    · exact .inr (.inr (.inr (.inl q)))
    · injection q with q
      subst q
      exact .inr (.inr (.inr (.inr ⟨l, hl, r⟩)))

def picked (st : Nd) (b : Bd) (d : Dc) : Nd := { st with acc := upA st.acc b.num ⟨b.bal, b.bal, dbytes d⟩, bid := some { b with val := dbytes d } }

set_option maxHeartbeats 3200000 in
theorem pick_one (h : NdAt w B g st) (b : Bd) (hb : st.bid = some b) (hn1 : st.n = 1) (hid0 : st.id = 0) (d : Dc) (ws : List Dc) (hw : st.wait = d :: ws) (x : Option Addr) (m c : Nat) (V : Nat → AccV) (hA : Accs w x m V) (hz : ∀ i, i < m → (V i).a = z0)
    (hacc : st.acc b.num = ⟨b.bal, z0, []⟩) (hfr : freeb b.bal z0 0 b.bal = true) (hnum : b.num < 4294967296) (hgn : gnb g < 1000000000000000000) :
    Calls Try.prog 74 #[.pointer (some ⟨g.p, 0, none⟩), .slice x m c] w fun e w' => e = .returned (.slice none 0 0) ∧ Hid (Goes w w' B g (picked st b d) 1) := by
  rcases h.bid with ⟨_, q⟩ | ⟨l, b', q1, q2, q3, q4⟩
  · rw [hb] at q
    cases q
  rw [hb] at q2
  injection q2 with q2
  subst q2
  have hpl := h.obj.lt
  have hbl := q3.obj.lt
  have c5 := h.c5
  have c6 : w.cell? ⟨g.p, 6, none⟩ = some (.pointer (some ⟨l.bp, 0, none⟩)) := by rw [h.c6, q1]; rfl
  have hd : st.wait[0]? = some d := by rw [hw]; rfl
  obtain ⟨gw, cw, e, hnc, hcm, _, hgw⟩ := h.wait.there (by rw [hw]; simp)
  have ho := h.wait
  rw [e] at c5 ho
  have w0 := ho.cell drow.len hd (j := 0) (v := .int .i64 d.mon) rfl
  have w1 := ho.cell drow.len hd (j := 1) (v := .int .i64 d.ser) rfl
  have w2 := ho.cell drow.len hd (j := 2) (v := .string d.val) rfl
  rw [Nat.zero_mul, Nat.zero_add] at w0 w1 w2
  have hwl : (0 : Int) < (st.wait.length : Int) := by rw [hw]; simp
  have hwl2 : st.wait.length ≤ 80000 := h.wl
  have hdok : DOk d := h.wok d (by rw [hw]; simp)
  have hBy := fun W => dbytes_any d hdok W
  have HH : Hid (NdAt w B g st ∧ g.b = some l ∧ BdAt w l b ∧ Accs w x m V ∧ (∀ i, i < m → (V i).a = z0) ∧ st.n = 1 ∧ st.id = 0 ∧ st.acc b.num = ⟨b.bal, z0, []⟩ ∧ freeb b.bal z0 0 b.bal = true ∧ b.num < 4294967296 ∧ gnb g < 1000000000000000000 ∧ st.bid = some b) := ⟨h, q1, q3, hA, hz, hn1, hid0, hacc, hfr, hnum, hgn, hb⟩
  clear h q1 q3 q4 hA hz hn1 hid0 hacc hfr hnum hgn hb hw hd ho e hdok hnc hcm
  dsimp only [dv] at hBy
  generalize st.wait.length = wl at *
  go_enter Try.func74, Try.ntmps74
  go_wp2_with (first
    | (
       go_at_call 86; refine (hBy _).mono ?_; rintro e w3 ⟨y3, m3, c3, rfl, H3⟩; clear hBy
       have hPk := pickS x m c V y3 m3 c3 (dbytes d) w3 (HH.out.2.2.2.1.below H3.out.2.1) H3.out.2.2.1 (by have := H3.out.1; omega))
    | (
       go_at_call 91; refine hPk.mono ?_; rintro e w4 ⟨y4, m4, c4, dd, rfl, H4⟩; clear hPk
       have bE : Below w.heap.size w w4 := on H3.out.2.1 H4.out.1.1
       have k4 := HH.out.1.below bE
       have hdd : dd = dbytes d := by
         rcases H4.out.2.2 with ⟨_, q⟩ | ⟨i, hi, _, q⟩
         · exact q
         · exact absurd (HH.out.2.2.2.2.1 i hi) q.1
       have hm4 : m4 ≤ 5000 := by
         have a1 := H4.out.1.2.1.len
         have a2 := H3.out.2.2.1.len
         have a3 := H3.out.1
         rw [hdd] at a1
         omega
       have hSv : Sv w4 y4 m4 c4 (dbytes d) := vl_sv (hdd ▸ H4.out.1) hm4
       have o3 : w4.cell? ⟨l.bp, 3, none⟩ = some (.slice l.x l.n l.c) := keep bE (HH.out.2.2.1.obj.cell (k := 3) (by omega))
       have f3 : w4.frozen? ⟨l.bp, 3, none⟩ = false := keepf bE HH.out.2.2.1.obj.lt (HH.out.2.2.1.obj.frozen 3)
       obtain ⟨k5, t5⟩ := k4.setVal l b HH.out.2.1 HH.out.2.2.2.2.2.2.2.2.2.2.2 y4 m4 c4 (dbytes d) hSv
       have HK : Hid (Below w.heap.size w w4 ∧ NdAt (w4.setCell ⟨l.bp, 3, none⟩ (.slice y4 m4 c4)) B { g with b := some { l with x := y4, n := m4, c := c4 } } { st with bid := some { b with val := dbytes d } } ∧ Turns (atB l.bp) w4 (w4.setCell ⟨l.bp, 3, none⟩ (.slice y4 m4 c4))) := ⟨bE, k5, t5⟩
       clear H3 H4 hdd hm4 hSv k4 k5 t5 bE w0 w1 w2 c5 c6))
  obtain ⟨bE, k5, t5⟩ := HK.out
  have bD : Below (w4.setCell ⟨l.bp, 3, none⟩ (.slice y4 m4 c4)).heap.size (w4.setCell ⟨l.bp, 3, none⟩ (.slice y4 m4 c4)) (w4.setCell ⟨l.bp, 3, none⟩ (.slice y4 m4 c4)).drew := (Below.refl _ _).drew
  have k6 := k5.below bD
  have hnb : b.num < 4294967296 := HH.out.2.2.2.2.2.2.2.2.2.1
  obtain ⟨v, v1, v2, v3⟩ := k6.acc.lookAll b.num hnb
  have hav : v.p = b.bal ∧ v.a = z0 ∧ v.d = [] := by
    have q := HH.out.2.2.2.2.2.2.2.1
    rw [q] at v2
    injection v2 with a1 a2 a3
    exact ⟨a1.symm, a2.symm, a3.symm⟩
  have hvn : v.n = 0 := by rw [← v1.sv.sl.len, hav.2.2]; rfl
  have hBd : BdAt (w4.setCell ⟨l.bp, 3, none⟩ (.slice y4 m4 c4)).drew { l with x := y4, n := m4, c := c4 } { b with val := dbytes d } := by
    rcases k6.bid with ⟨q, _⟩ | ⟨l2, b2, a1, a2, a3, _⟩
    · cases q
    · injection a1 with a1
      injection a2 with a2
      subst a1
      subst a2
      exact a3
  have hAc := fun (W : World) (bb : Below (w4.setCell ⟨l.bp, 3, none⟩ (.slice y4 m4 c4)).drew.heap.size (w4.setCell ⟨l.bp, 3, none⟩ (.slice y4 m4 c4)).drew W) => accept_yes v.p v.a v.x v.n v.c b.bal y4 m4 c4 (dbytes d) W (hBd.val.sl.below bb) (by have := hBd.val.sm; dsimp only at this; omega) (by rw [hav.1, hav.2.1, hvn]; exact HH.out.2.2.2.2.2.2.2.2.1)
  have hlk := v3 _ rfl
  have s3 : (w4.setCell ⟨l.bp, 3, none⟩ (.slice y4 m4 c4)).drew.cell? ⟨g.p, 3, none⟩ = some (.map (some g.mb)) := k6.c3
  have d0 : (w4.setCell ⟨l.bp, 3, none⟩ (.slice y4 m4 c4)).drew.cell? ⟨l.bp, 0, none⟩ = some (.int .i64 b.num) := hBd.obj.cell (k := 0) (by omega)
  have d1 : (w4.setCell ⟨l.bp, 3, none⟩ (.slice y4 m4 c4)).drew.cell? ⟨l.bp, 1, none⟩ = some (.int .i64 b.bal.1) := hBd.obj.cell (k := 1) (by omega)
  have d2 : (w4.setCell ⟨l.bp, 3, none⟩ (.slice y4 m4 c4)).drew.cell? ⟨l.bp, 2, none⟩ = some (.int .i64 b.bal.2) := hBd.obj.cell (k := 2) (by omega)
  have d3 : (w4.setCell ⟨l.bp, 3, none⟩ (.slice y4 m4 c4)).drew.cell? ⟨l.bp, 3, none⟩ = some (.slice y4 m4 c4) := hBd.obj.cell (k := 3) (by omega)
  have HV : Hid (v.p = b.bal ∧ v.a = z0 ∧ v.d = [] ∧ v.n = 0) := ⟨hav.1, hav.2.1, hav.2.2, hvn⟩
  have HE : Hid (Below w.heap.size w w4 ∧ Turns (atB l.bp) w4 (w4.setCell ⟨l.bp, 3, none⟩ (.slice y4 m4 c4)).drew ∧ NdAt (w4.setCell ⟨l.bp, 3, none⟩ (.slice y4 m4 c4)).drew B { g with b := some { l with x := y4, n := m4, c := c4 } } { st with bid := some { b with val := dbytes d } } ∧ bwf b.bal ∧ (dbytes d).length = m4 ∧ m4 ≤ 5000) := ⟨bE, t5.trans (Turns.of_below bD), k6, hBd.wf, hBd.val.sl.len, hBd.val.sm⟩
  dsimp only [av, ac, bt] at hAc hlk
  clear hav hvn v1 v2 v3 bE k5 t5 bD k6 hBd HK
  obtain ⟨⟨vp1, vp2⟩, ⟨va1, va2⟩, vx, vn, vc, vd⟩ := v
  dsimp only at hAc hlk HV
  go_wp2_with fail
  refine wp_region_held_drew (S := fun q => q.cell? ⟨g.p, 3, none⟩ = some (.map (some g.mb)) ∧ q.cell? ⟨l.bp, 0, none⟩ = some (.int .i64 b.num) ∧ q.cell? ⟨l.bp, 1, none⟩ = some (.int .i64 b.bal.1) ∧ q.cell? ⟨l.bp, 2, none⟩ = some (.int .i64 b.bal.2) ∧ q.cell? ⟨l.bp, 3, none⟩ = some (.slice y4 m4 c4)) (by kernel_rfl) ⟨s3, d0, d1, d2, d3⟩ (fun hHeld => ?_)
  generalize (w4.setCell ⟨l.bp, 3, none⟩ (.slice y4 m4 c4)).drew = wE at *
  refine wpAnyH_take (i := 0) (v := ?_) rfl (by kernel_rfl) (by kernel_rfl) (by kernel_rfl) (fun _ _ _ h => h) (Or.inl ⟨by rfl, ?_⟩) (by assumption) ?_
  case refine_2 => (intro w hSw; (try dsimp only at hSw); go_simp; (try with_reducible rfl))
  (try simp only [Act.put, List.getElem_toArray, List.getElem_cons_succ, List.getElem_cons_zero, List.setIfInBounds_toArray, List.set_cons_zero, List.set_cons_succ])
  refine wpAnyH_take (i := 1) (v := ?_) rfl (by kernel_rfl) (by kernel_rfl) (by kernel_rfl) (fun _ _ _ h => h) (Or.inl ⟨by rfl, ?_⟩) (by assumption) ?_
  case refine_2 => (intro w hSw; (try dsimp only at hSw); go_simp; (try with_reducible rfl))
  (try simp only [Act.put, List.getElem_toArray, List.getElem_cons_succ, List.getElem_cons_zero, List.setIfInBounds_toArray, List.set_cons_zero, List.set_cons_succ])
  refine wpAnyH_take (i := 2) (v := ?_) rfl (by kernel_rfl) (by kernel_rfl) (by kernel_rfl) (fun _ _ _ h => h) (Or.inl ⟨by rfl, ?_⟩) (by assumption) ?_
  case refine_2 => (intro w hSw; (try dsimp only at hSw); go_simp; (try with_reducible rfl))
  (try simp only [Act.put, List.getElem_toArray, List.getElem_cons_succ, List.getElem_cons_zero, List.setIfInBounds_toArray, List.set_cons_zero, List.set_cons_succ])
  refine wpAnyH_take (i := 3) (v := ?_) rfl (by kernel_rfl) (by kernel_rfl) (by kernel_rfl) (fun _ _ _ h => h) (Or.inl ⟨by rfl, ?_⟩) (by assumption) ?_
  case refine_2 => (intro w hSw; (try dsimp only at hSw); go_simp; (try with_reducible rfl))
  (try simp only [Act.put, List.getElem_toArray, List.getElem_cons_succ, List.getElem_cons_zero, List.setIfInBounds_toArray, List.set_cons_zero, List.set_cons_succ])
  refine wpAnyH_take (i := 4) (v := ?_) rfl (by kernel_rfl) (by kernel_rfl) (by kernel_rfl) (fun _ _ _ h => h) (Or.inl ⟨by rfl, ?_⟩) (by assumption) ?_
  case refine_2 => (intro w hSw; (try dsimp only at hSw); go_simp; (try with_reducible rfl))
  (try simp only [Act.put, List.getElem_toArray, List.getElem_cons_succ, List.getElem_cons_zero, List.setIfInBounds_toArray, List.set_cons_zero, List.set_cons_succ])
  refine wpAnyH_take (i := 5) (v := ?_) rfl (by kernel_rfl) (by kernel_rfl) (by kernel_rfl) (fun _ _ _ h => h) (Or.inl ⟨by rfl, ?_⟩) (by assumption) ?_
  case refine_2 => (intro w hSw; (try dsimp only at hSw); go_simp; (try with_reducible rfl))
  (try simp only [Act.put, List.getElem_toArray, List.getElem_cons_succ, List.getElem_cons_zero, List.setIfInBounds_toArray, List.set_cons_zero, List.set_cons_succ])
  refine wpAnyH_take (i := 6) (v := ?_) rfl (by kernel_rfl) (by kernel_rfl) (by kernel_rfl) (fun _ _ _ h => h) (Or.inl ⟨by rfl, ?_⟩) (by assumption) ?_
  case refine_2 => (intro w hSw; (try dsimp only at hSw); go_simp; (try with_reducible rfl))
  (try simp only [Act.put, List.getElem_toArray, List.getElem_cons_succ, List.getElem_cons_zero, List.setIfInBounds_toArray, List.set_cons_zero, List.set_cons_succ])
  refine wpAnyH_take (i := 7) (v := ?_) rfl (by kernel_rfl) (by kernel_rfl) (by kernel_rfl) (fun _ _ _ h => h) (Or.inl ⟨by rfl, ?_⟩) (by assumption) ?_
  case refine_2 => (intro w hSw; (try dsimp only at hSw); go_simp; (try with_reducible rfl))
  (try simp only [Act.put, List.getElem_toArray, List.getElem_cons_succ, List.getElem_cons_zero, List.setIfInBounds_toArray, List.set_cons_zero, List.set_cons_succ])
  refine wpAnyH_take (i := 8) (v := ?_) rfl (by kernel_rfl) (by kernel_rfl) (by kernel_rfl) (fun _ _ _ h => h) (Or.inl ⟨by rfl, ?_⟩) (by assumption) ?_
  case refine_2 => (intro w hSw; (try dsimp only at hSw); go_simp; (try with_reducible rfl))
  (try simp only [Act.put, List.getElem_toArray, List.getElem_cons_succ, List.getElem_cons_zero, List.setIfInBounds_toArray, List.set_cons_zero, List.set_cons_succ])
  refine wpAnyH_take (i := 9) (v := ?_) rfl (by kernel_rfl) (by kernel_rfl) (by kernel_rfl) (fun _ _ _ h => h) (Or.inl ⟨by rfl, ?_⟩) (by assumption) ?_
  case refine_2 => (intro w hSw; (try dsimp only at hSw); go_simp; (try with_reducible rfl))
  (try simp only [Act.put, List.getElem_toArray, List.getElem_cons_succ, List.getElem_cons_zero, List.setIfInBounds_toArray, List.set_cons_zero, List.set_cons_succ])
  refine wpAnyH_take (i := 10) (v := ?_) rfl (by kernel_rfl) (by kernel_rfl) (by kernel_rfl) (fun _ _ _ h => h) (Or.inl ⟨by rfl, ?_⟩) (by assumption) ?_
  case refine_2 => (intro w hSw; (try dsimp only at hSw); go_simp; (try with_reducible rfl))
  (try simp only [Act.put, List.getElem_toArray, List.getElem_cons_succ, List.getElem_cons_zero, List.setIfInBounds_toArray, List.set_cons_zero, List.set_cons_succ])
  refine wpAnyH_take (i := 11) (v := ?_) rfl (by kernel_rfl) (by kernel_rfl) (by kernel_rfl) (fun _ _ _ h => h) (Or.inl ⟨by rfl, ?_⟩) (by assumption) ?_
  case refine_2 => (intro w hSw; (try dsimp only at hSw); go_simp; (try with_reducible rfl))
  (try simp only [Act.put, List.getElem_toArray, List.getElem_cons_succ, List.getElem_cons_zero, List.setIfInBounds_toArray, List.set_cons_zero, List.set_cons_succ])
  refine wpAnyH_take (i := 12) (v := ?_) rfl (by kernel_rfl) (by kernel_rfl) (by kernel_rfl) (fun _ _ _ h => h) (Or.inl ⟨by rfl, ?_⟩) (by assumption) ?_
  case refine_2 => (intro w hSw; (try dsimp only at hSw); go_simp; (try with_reducible rfl))
  (try simp only [Act.put, List.getElem_toArray, List.getElem_cons_succ, List.getElem_cons_zero, List.setIfInBounds_toArray, List.set_cons_zero, List.set_cons_succ])
  refine wpAnyH_take (i := 13) (v := ?_) rfl (by kernel_rfl) (by kernel_rfl) (by kernel_rfl) (fun _ _ _ h => h) (Or.inl ⟨by rfl, ?_⟩) (by assumption) ?_
  case refine_2 => (intro w hSw; (try dsimp only at hSw); go_simp; (try with_reducible rfl))
  (try simp only [Act.put, List.getElem_toArray, List.getElem_cons_succ, List.getElem_cons_zero, List.setIfInBounds_toArray, List.set_cons_zero, List.set_cons_succ])
  refine wpAnyH_take (i := 14) (v := ?_) rfl (by kernel_rfl) (by kernel_rfl) (by kernel_rfl) (fun _ _ _ h => h) (Or.inl ⟨by rfl, ?_⟩) (by assumption) ?_
  case refine_2 => (intro w hSw; (try dsimp only at hSw); go_simp; (try with_reducible rfl))
  (try simp only [Act.put, List.getElem_toArray, List.getElem_cons_succ, List.getElem_cons_zero, List.setIfInBounds_toArray, List.set_cons_zero, List.set_cons_succ])
  refine wpAnyH_take (i := 15) (v := ?_) rfl (by kernel_rfl) (by kernel_rfl) (by kernel_rfl) (fun _ _ _ h => h) (Or.inl ⟨by rfl, ?_⟩) (by assumption) ?_
  case refine_2 => (intro w hSw; (try dsimp only at hSw); go_simp; (try with_reducible rfl))
  (try simp only [Act.put, List.getElem_toArray, List.getElem_cons_succ, List.getElem_cons_zero, List.setIfInBounds_toArray, List.set_cons_zero, List.set_cons_succ])
  refine wpAnyH_take (i := 17) (v := ?_) rfl (by kernel_rfl) (by kernel_rfl) (by kernel_rfl) (fun _ _ _ h => h) (Or.inl ⟨by rfl, ?_⟩) (by assumption) ?_
  case refine_2 => (intro w hSw; (try dsimp only at hSw); go_simp; (try with_reducible rfl))
  (try simp only [Act.put, List.getElem_toArray, List.getElem_cons_succ, List.getElem_cons_zero, List.setIfInBounds_toArray, List.set_cons_zero, List.set_cons_succ])
  refine wpAnyH_take (i := 18) (v := ?_) rfl (by kernel_rfl) (by kernel_rfl) (by kernel_rfl) (fun _ _ _ h => h) (Or.inl ⟨by rfl, ?_⟩) (by assumption) ?_
  case refine_2 => (intro w hSw; (try dsimp only at hSw); go_simp; (try with_reducible rfl))
  (try simp only [Act.put, List.getElem_toArray, List.getElem_cons_succ, List.getElem_cons_zero, List.setIfInBounds_toArray, List.set_cons_zero, List.set_cons_succ])
  refine wpAnyH_take (i := 19) (v := ?_) rfl (by kernel_rfl) (by kernel_rfl) (by kernel_rfl) (fun _ _ _ h => h) (Or.inl ⟨by rfl, ?_⟩) (by assumption) ?_
  case refine_2 => (intro w hSw; (try dsimp only at hSw); go_simp; (try with_reducible rfl))
  (try simp only [Act.put, List.getElem_toArray, List.getElem_cons_succ, List.getElem_cons_zero, List.setIfInBounds_toArray, List.set_cons_zero, List.set_cons_succ])
  refine wpAnyH_take (i := 20) (v := ?_) rfl (by kernel_rfl) (by kernel_rfl) (by kernel_rfl) (fun _ _ _ h => h) (Or.inl ⟨by rfl, ?_⟩) (by assumption) ?_
  case refine_2 => (intro w hSw; (try dsimp only at hSw); go_simp; (try with_reducible rfl))
  (try simp only [Act.put, List.getElem_toArray, List.getElem_cons_succ, List.getElem_cons_zero, List.setIfInBounds_toArray, List.set_cons_zero, List.set_cons_succ])
  refine wpAnyH_take (i := 21) (v := ?_) rfl (by kernel_rfl) (by kernel_rfl) (by kernel_rfl) (fun _ _ _ h => h) (Or.inl ⟨by rfl, ?_⟩) (by assumption) ?_
  case refine_2 => (intro w hSw; (try dsimp only at hSw); go_simp; (try with_reducible rfl))
  (try simp only [Act.put, List.getElem_toArray, List.getElem_cons_succ, List.getElem_cons_zero, List.setIfInBounds_toArray, List.set_cons_zero, List.set_cons_succ])
  refine wpAnyH_take (i := 22) (v := ?_) rfl (by kernel_rfl) (by kernel_rfl) (by kernel_rfl) (fun _ _ _ h => h) (Or.inl ⟨by rfl, ?_⟩) (by assumption) ?_
  case refine_2 => (intro w hSw; (try dsimp only at hSw); go_simp; (try with_reducible rfl))
  (try simp only [Act.put, List.getElem_toArray, List.getElem_cons_succ, List.getElem_cons_zero, List.setIfInBounds_toArray, List.set_cons_zero, List.set_cons_succ])
  refine wpAnyH_take (i := 23) (v := ?_) rfl (by kernel_rfl) (by kernel_rfl) (by kernel_rfl) (fun _ _ _ h => h) (Or.inl ⟨by rfl, ?_⟩) (by assumption) ?_
  case refine_2 => (intro w hSw; (try dsimp only at hSw); go_simp; (try with_reducible rfl))
  (try simp only [Act.put, List.getElem_toArray, List.getElem_cons_succ, List.getElem_cons_zero, List.setIfInBounds_toArray, List.set_cons_zero, List.set_cons_succ])
  refine wpAnyH_take (i := 24) (v := ?_) rfl (by kernel_rfl) (by kernel_rfl) (by kernel_rfl) (fun _ _ _ h => h) (Or.inl ⟨by rfl, ?_⟩) (by assumption) ?_
  case refine_2 => (intro w hSw; (try dsimp only at hSw); go_simp; (try with_reducible rfl))
  (try simp only [Act.put, List.getElem_toArray, List.getElem_cons_succ, List.getElem_cons_zero, List.setIfInBounds_toArray, List.set_cons_zero, List.set_cons_succ])
  refine wpAnyH_ready (rs := [16]) (by kernel_rfl) (by simp) ?_
  refine AllReadyH.cons rfl (fun K hK => ?_) AllReadyH.nil
  refine st_lookup rfl _ _ 60 false rfl _ _ _ rfl rfl hlk ?_
  (try simp only [Act.put, List.getElem_toArray, List.getElem_cons_succ, List.getElem_cons_zero, List.setIfInBounds_toArray, List.set_cons_zero, List.set_cons_succ])
  refine hK.out _ _ ⟨s3, d0, d1, d2, d3⟩ (fun hHeld => ?_)
  clear hK K
  refine wpAnyH_ready (rs := [25]) (by kernel_rfl) (by simp) ?_
  refine AllReadyH.cons rfl (fun K hK => ?_) AllReadyH.nil
  go_simp
  refine (hAc _ (Below.refl _ _)).mono ?_
  rintro e w6 ⟨y6, cy6, rfl, H6⟩
  have k7 := HE.out.2.2.1.below H6.out.1
  obtain ⟨w7, D7, hput, H7⟩ := k7.acc.put b.num hnb (by have := HH.out.2.2.2.2.2.2.2.2.2.2.1; unfold gnb at this; show g.nb < _; omega) ⟨b.bal, b.bal, y6, m4, cy6, dbytes d⟩ ⟨vl_sv H6.out HE.out.2.2.2.2.2, HE.out.2.2.2.1, HE.out.2.2.2.1⟩
  have hput : (Instr.mapUpdate 60 (.map (some g.mb)) (.int .i64 (b.num : Int)) (.agg #[.int .i64 b.bal.1, .int .i64 b.bal.2, .int .i64 b.bal.1, .int .i64 b.bal.2, .slice y6 m4 cy6])).run Try.prog w6 = .ok () w7 := hput
  have k8 := k7.setA H7.out.1 H7.out.2
  have hbm : ¬ atB g.mb l.bp := fun e => by
    have e' : l.bp = g.mb := e
    have q3 := HH.out.2.2.1
    exact q3.obj.tb.not_map (e' ▸ HH.out.1.acc.isM)
  have s3' := keep H6.out.1 s3
  have d0' := keep H6.out.1 d0
  have d1' := keep H6.out.1 d1
  have d2' := keep H6.out.1 d2
  have d3' := keep H6.out.1 d3
  have s3'' : w7.cell? ⟨g.p, 3, none⟩ = some (.map (some g.mb)) := k8.c3
  have d0'' := keept H7.out.2 hbm d0'
  have d1'' := keept H7.out.2 hbm d1'
  have d2'' := keept H7.out.2 hbm d2'
  have d3'' := keept H7.out.2 hbm d3'
  have hAsk := ask_one k8 HH.out.2.2.2.2.2.1 HH.out.2.2.2.2.2.2.1
  have HF : Hid (Goes w w7 B g (picked st b d) 1) := by
    have hT : Turns (fp g) w w7 := (((Turns.of_below HE.out.1).trans (HE.out.2.1.weak fun k hk => .inr (.inr (.inr (.inr ⟨l, HH.out.2.1, .inl hk⟩))))).trans (Turns.of_below H6.out.1)).trans (H7.out.2.weak fun k hk => .inr (.inl hk))
    refine ⟨_, ?_, k8, hT, ?_, fun k hk => ?_⟩
    · rfl
    · show g.nb + 1 + l.tn ≤ gnb g + 1
      unfold gnb
      rw [HH.out.2.1]
      dsimp only
      omega
    · left
      rcases hk with q | q | q | q | ⟨l2, q, r⟩
      · exact .inl q
      · exact .inr (.inl q)
      · exact .inr (.inr (.inl q))
      · exact .inr (.inr (.inr (.inl q)))
      · injection q with q
        subst q
        exact .inr (.inr (.inr (.inr ⟨l, HH.out.2.1, r⟩)))
  refine hK.out _ _ ⟨s3', d0', d1', d2', d3'⟩ (fun hHeld => ?_)
  clear hK K
  refine wpAnyH_take (i := 26) (v := ?_) rfl (by kernel_rfl) (by kernel_rfl) (by kernel_rfl) (fun _ _ _ h => h) (Or.inl ⟨by rfl, ?_⟩) (by assumption) ?_
  case refine_2 => (intro w hSw; (try dsimp only at hSw); go_simp; (try with_reducible rfl))
  (try simp only [Act.put, List.getElem_toArray, List.getElem_cons_succ, List.getElem_cons_zero, List.setIfInBounds_toArray, List.set_cons_zero, List.set_cons_succ])
  refine wpAnyH_take (i := 27) (v := ?_) rfl (by kernel_rfl) (by kernel_rfl) (by kernel_rfl) (fun _ _ _ h => h) (Or.inl ⟨by rfl, ?_⟩) (by assumption) ?_
  case refine_2 => (intro w hSw; (try dsimp only at hSw); go_simp; (try with_reducible rfl))
  (try simp only [Act.put, List.getElem_toArray, List.getElem_cons_succ, List.getElem_cons_zero, List.setIfInBounds_toArray, List.set_cons_zero, List.set_cons_succ])
  refine wpAnyH_take (i := 28) (v := ?_) rfl (by kernel_rfl) (by kernel_rfl) (by kernel_rfl) (fun _ _ _ h => h) (Or.inl ⟨by rfl, ?_⟩) (by assumption) ?_
  case refine_2 => (intro w hSw; (try dsimp only at hSw); go_simp; (try with_reducible rfl))
  (try simp only [Act.put, List.getElem_toArray, List.getElem_cons_succ, List.getElem_cons_zero, List.setIfInBounds_toArray, List.set_cons_zero, List.set_cons_succ])
  refine wpAnyH_ready (rs := [29]) (by kernel_rfl) (by simp) ?_
  refine AllReadyH.cons rfl (fun K hK => ?_) AllReadyH.nil
  refine st_mapupdate rfl _ _ _ 60 rfl _ _ _ rfl rfl rfl hput ?_
  (try simp only [Act.put, List.getElem_toArray, List.getElem_cons_succ, List.getElem_cons_zero, List.setIfInBounds_toArray, List.set_cons_zero, List.set_cons_succ])
  refine hK.out _ _ ⟨s3'', d0'', d1'', d2'', d3''⟩ (fun hHeld => ?_)
  clear hK K
  refine wpAnyH_done (by kernel_rfl) ?_ _
  dsimp only at hAsk
  clear k7 k8 hput hHeld H7 HE hlk s3 d0 d1 d2 d3 s3' d0' d1' d2' d3' hAc hbm
  go_wp2_with (first
    | (
       go_at_call 36; refine hAsk.mono ?_; rintro e w9 ⟨rfl, hw9⟩; subst w9; clear hAsk))
  go_ret
  exact ⟨rfl, HF.out⟩

end

end Go.Proofs.Ytdbahebhodoooaa.Px

/-
  A chosen value is settled where a monitor is alone and nothing more waits.
  Conditions: the monitor is one that New gave ('NdAt').
-/
namespace Go.Proofs.Ytdbahebhodoooaa.Px
open Go.RowKit Wi By Fl Ba
set_option linter.unusedVariables false
set_option linter.unusedSimpArgs false
set_option maxRecDepth 100000

theorem app_nil (w : World) : (Builtin.append_ #[49, 49] 49 #[.slice none 0 0, .slice none 0 0]).run Try.prog w = .ok (.slice none 0 0) w := by
  simp [Builtin.append_, run_underlying Try.underlying49, Builtin.lenOf, Builtin.firstCells]

section
variable {w : World} {B : Nat} {g : Ln} {st : Nd}

set_option maxHeartbeats 3200000 in
theorem settle_one (h : NdAt w B g st) (hn1 : st.n = 1) (hid0 : st.id = 0) (d : Dc) (x : Option Addr) (n c : Nat) (l : List Nat) (hl : Fl.Sl w x n c l) (hn : n ≤ 5000) (hdo : dOf 1 l = some d) (hdok : DOk d) (hdl : st.dec.length < 70000) (hwl : left d st.wait = []) :
    Calls Try.prog 72 #[.pointer (some ⟨g.p, 0, none⟩), .slice x n c] w fun e w' => e = .returned (.slice none 0 0) ∧ Hid (Goes w w' B g (learned st d) 0) := by
  have hD := fun (W : World) (b : Below w.heap.size w W) => dof_any x n c l 1 (by omega) W (hl.below b) (by omega)
  rw [hdo] at hD
  dsimp only [Option.getD, Option.isSome, dv] at hD
  have hL := fun (W : World) (b : Below w.heap.size w W) => learn_any (h.below b) d hdok hdl
  dsimp only [dv] at hL
  have c1 := h.c1
  rw [hn1] at c1
  have hpl := h.obj.lt
  have HX : Hid (st.n = 1 ∧ st.id = 0 ∧ left d st.wait = []) := ⟨hn1, hid0, hwl⟩
  have hap := app_nil
  clear h hl hn1 hid0 hdo hdok hdl hwl hn
  obtain ⟨mon, ser, s⟩ := d
  dsimp only at hD hL
  go_enter Try.func72, Try.ntmps72
  go_wp2_with (first
    | (
       go_at_call 82; refine (hD _ (Below.refl _ _)).mono ?_; rintro e w1 ⟨rfl, H1⟩; clear hD
       have B1 : Below w.heap.size w (w1.alloc (.cells #[.int .i64 mon, .int .i64 ser, .string s] 68)) := on H1.out (al _ _)
       have hL1 := hL _ B1
       clear hL)
    | (
       go_at_call 53; refine hL1.mono ?_; rintro e w2 ⟨rfl, H2⟩; clear hL1
       obtain ⟨g2, e2, k2, t2, n2, f2⟩ := H2.out
       have c0 : w2.cell? ⟨g.p, 0, none⟩ = some (.int .i64 0) := by rw [← e2, k2.c0]; show some (Value.int .i64 ((st.id : Nat) : Int)) = _; rw [HX.out.2.1]; rfl
       have c1' : w2.cell? ⟨g.p, 1, none⟩ = some (.int .i64 1) := by rw [← e2, k2.c1]; show some (Value.int .i64 ((st.n : Nat) : Int)) = _; rw [HX.out.1]; rfl
       have hB0 := begin_idle k2 rfl HX.out.2.2
       rw [e2] at hB0
       have HG : Hid (∀ wF, Below w2.heap.size w2 wF → Goes w wF B g (learned st ⟨mon, ser, s⟩) 0) := fun wF bF =>
         Goes.trans (k1 := 0) (k2 := 0) e2 ((Turns.of_below B1).trans t2) n2 (fun k hk => (f2 k hk).imp id (fun q => Nat.le_trans B1.size q)) (Goes.same k2 bF)
       clear H2 k2 t2 n2 f2))
  go_loopw [7, 8, 25] (fun out _ i wr => ∃ k : Nat, k ≤ 1 ∧ i = .int .i64 k ∧ out = .slice none 0 0 ∧ wr = w2) (fun _ _ i _ => 1 - (intOf i).toNat)
  case atStart => exact ⟨0, by omega, rfl, rfl, rfl⟩
  case round =>
    obtain ⟨k, hk, rfl, rfl, hw⟩ := hrel
    subst hw
    by_cases hk0 : k = 0
    · subst hk0
      go_wp2_with fail
      go_roundw
      case rel => exact ⟨1, by omega, by go_num, by first | trivial | rfl, by first | trivial | rfl⟩
      case measure => simp [intOf]
    · obtain rfl : k = 1 := by omega
      go_wp2_with (first
        | (
           go_at_call 57; refine hB0.mono ?_; rintro e w3 ⟨rfl, H3⟩; clear hB0)
        | (
           at_builtin; refine wpList_append_run rfl _ _ 49 rfl _ _ rfl rfl (hap _) ?_))
      go_ret
      exact ⟨rfl, HG.out _ H3.out⟩

end

end Go.Proofs.Ytdbahebhodoooaa.Px

/-
  Which value is chosen: Chosen.
  Conditions: the list lies in memory.
-/
namespace Go.Proofs.Ytdbahebhodoooaa.Px
open Go.RowKit By Fl Ba
set_option linter.unusedVariables false
set_option linter.unusedSimpArgs false
set_option maxRecDepth 100000

theorem below2 {B : Nat} {a w : World} (h : Below B a w) (g : Nat) (hg : B ≤ g) (u0 u1 : Value) : Below B a ((w.setCell ⟨g, 0, none⟩ u0).setCell ⟨g, 1, none⟩ u1) :=
  (h.setCell (p := ⟨g, 0, none⟩) hg _).setCell (p := ⟨g, 1, none⟩) hg _

theorem results_cell3 {fn : Func} {p q r : Tmp} {ty : TypeId} (h : fn.results = #[.cell p ty, .tmp q, .tmp r]) (tmps : Array Value) (P : Program) (w : World) :
    (results fn tmps).run P w = ((asAddr (tmps.getD p undef)).run P w).andThen fun a w₁ => ((loadVar ty a).run P w₁).andThen fun v w₂ => .ok (.tuple #[v, tmps.getD q undef, tmps.getD r undef]) w₂ := by
  simp only [results, h]
  simp [Sem.run_bind, Result.andThen]

def Cho (V : Nat → AccV) (n : Nat) (b : Bt) (k : Nat) : Prop := b ≠ z0 ∧ Maj n (fun i => (V i).a = b) ∧ k < n ∧ (V k).a = b

theorem cho_of {V : Nat → AccV} {n : Nat} {b : Bt} {c : Int} (hc : c = cntA V n b) (hm : (n : Int) < 2 * c) : b ≠ z0 ∧ Maj n (fun i => (V i).a = b) ∧ ∃ j, j < n ∧ (V j).a = b := by
  subst hc
  unfold cntA at hm
  by_cases hz : b = z0
  · rw [if_pos hz] at hm
    omega
  · rw [if_neg hz] at hm
    refine ⟨hz, ⟨fun i => decide ((V i).a = b), by omega, fun k hk e => by simpa using e⟩, ?_⟩
    obtain ⟨k, hk, e⟩ := cnt_pos (q := fun i => decide ((V i).a = b)) (n := n) (by omega)
    exact ⟨k, hk, by simpa using e⟩

def NoMaj (V : Nat → AccV) (n : Nat) : Prop := ∀ b : Bt, bwf b → ¬ ((n : Int) < 2 * cntA V n b)
def JLeft (V : Nat → AccV) (n : Nat) (left : Lit → Bool) : Prop := ∀ b : Bt, bwf b → (n : Int) < 2 * cntA V n b → left (blit b) = true

theorem turns_grown {a w w' : World} {g : Nat} (t : Turns (atB g) a w) (h : w.grownBy w' (some g)) : Turns (atB g) a w' := t.grown h (fun k hk => .inl (by cases hk; rfl))

set_option maxHeartbeats 4000000 in
theorem chosen_any (x : Option Addr) (n c0 : Nat) (V : Nat → AccV) (w : World) (h : Accs w x n V) :
    Calls Try.prog 70 #[.slice x n c0] w fun e w' => (e = .returned (.tuple #[bt z0, .slice none 0 0, .bool false]) ∧ Hid (Below w.heap.size w w' ∧ NoMaj V n)) ∨
      ∃ (b : Bt) (k : Nat) (y : Option Addr) (cy : Nat), e = .returned (.tuple #[bt b, .slice y (V k).n cy, .bool true]) ∧ Hid (Cho V n b k ∧ Vl w w' y (V k).n cy (V k).d) := by
  have hC := count_any x n c0 V (w.alloc (.cells #[.int .i64 0, .int .i64 0] 72)) (h.below (al _ _))
  have HA : Hid (Accs w x n V) := h
  have hnz : (n : Int) ≤ 1000 := by have := h.small; omega
  clear h
  go_enter Try.func70, Try.ntmps70
  go_wp2_with (first
    | (
       go_at_call 89; refine hC.mono ?_; rintro e w1 ⟨mb, nb, D, rfl, H1⟩; clear hC
       have k0 := keep H1.out.1 (b := w.heap.size) (o := 0) (x := .int .i64 0) (by first | assumption | go_simp)
       have k1 := keep H1.out.1 (b := w.heap.size) (o := 1) (x := .int .i64 0) (by first | assumption | go_simp)
       have f0 := keepf H1.out.1 (b := w.heap.size) (o := 0) (by first | (simp <;> omega) | exact cell_lt' (a := ⟨w.heap.size, 0, none⟩) (by assumption) | (simp; exact cell_lt' (a := ⟨w.heap.size, 0, none⟩) (by assumption))) (by first | assumption | go_simp)
       have f1 := keepf H1.out.1 (b := w.heap.size) (o := 1) (by first | (simp <;> omega) | exact cell_lt' (a := ⟨w.heap.size, 1, none⟩) (by assumption) | (simp; exact cell_lt' (a := ⟨w.heap.size, 1, none⟩) (by assumption))) (by first | assumption | go_simp)
       have hmap := H1.out.2.1.map
       have B1 := on (al _ _) H1.out.1
       have l0 : w.heap.size < w1.heap.size := cell_lt' k0
       have HD : Hid (∀ b, bwf b → D.atKey (blit b) (.lit (.int .i64 0)) = .lit (.int .i64 (cntA V n b))) := H1.out.2.1.cnt
       have l1 : w.heap.size + 1 ≤ mb := by have := H1.out.2.1.bl; simpa using this
       clear H1)
    | (at_range; refine wpList_range_own _ rfl _ 134 rfl 72 3 blaw Try.underlying134 (plainElem Try.prog 3) mb nb D rfl hmap ?_; intro w0 hrg0 hg0 hs0))
  go_frame
  have T0 : Hid (Turns (atB w1.heap.size) w1 w0) := (Turns.refl (atB w1.heap.size) w1).grown hg0 (fun k hk => by cases hk)
  clear hg0 hs0 hmap
  go_loopw [5, 6] (fun _ _ wr => ∃ (left : Lit → Bool) (cnt : Nat), wr.ranges Try.prog 72 (plainElem Try.prog 3) mb w1.heap.size nb D left cnt ∧ Hid (Turns (atB w1.heap.size) w1 wr ∧ JLeft V n left)) (fun _ _ wr => wr.rangeLeft mb w1.heap.size)
  case atStart =>
    refine ⟨_, _, hrg0, T0.out, fun b hb h => ?_⟩
    cases hh : Maps.has D (blit b) with
    | true => rfl
    | false =>
      have e1 := HD.out b hb
      rw [Maps.atKey_of_not_has hh] at e1
      injection e1 with e1
      injection e1 with _ e1
      omega
  case round =>
    clear T0 hrg0
    obtain ⟨left, cnt, hrg, HT⟩ := hrel
    have HW : Hid (wr.rangeLeft mb w1.heap.size = cnt) := hrg.left_eq
    go_wp2_with (first
      | (at_next; refine wpList_next_ranges _ rfl _ rfl 72 blaw (plainElem Try.prog 3) (fun b : Bt => Value.agg #[.int .i64 b.1, .int .i64 b.2]) (fun z : Int => Value.int .i64 z) (fun key kl hk => by obtain ⟨s, rfl, _⟩ := bk_inv hk; exact ⟨s, rfl⟩) (fun v y hv' => by obtain ⟨a, rfl, _⟩ := plainElem_int_inv Try.underlying3 hv'; exact ⟨a, rfl⟩) mb w1.heap.size nb D left cnt rfl hrg ?_ ?_
         (intro hc0 hl0
          have T9 := HT.out.1
          have HJ : Hid (NoMaj V n) := fun b hb h => by
            have q := HT.out.2 b hb h
            rw [hl0] at q
            cases q
          have k0 := keepn T9 (b := w.heap.size) (by omega) k0
          have k1 := keepn T9 (b := w.heap.size) (by omega) k1
          have f0 := keepnf T9 (b := w.heap.size) (by omega) (by omega) f0
          have f1 := keepnf T9 (b := w.heap.size) (by omega) (by omega) f1
          clear HT hrg)
         rotate_left 1
         (intro b c kl y w2 cnt2 hkey hlk hvv hat hrg2 hlt hg2 hs2 hen
          obtain ⟨b', eb, hwf, rfl⟩ := bk_inv hkey
          have eb2 : b = b' := by
            simp only [bt, Value.agg.injEq] at eb
            simp at eb
            exact bt_ext eb.1 eb.2
          subst eb2
          obtain ⟨c', ec, ey, _⟩ := plainElem_int_inv Try.underlying3 hvv
          injection ec with _ ec
          subst ec
          have hcc : Hid (c = cntA V n b) := by
            have e1 := HD.out b hwf
            rw [hat, ey] at e1
            injection e1 with e1
            injection e1
          have T2 := turns_grown HT.out.1 hg2
          have HJ2 := hid HT.out.2
          have hb2 := hen
          clear hkey eb hvv hat ey HT hrg hg2 hs2 hlk
          have HB : Hid (bwf b ∧ c = cntA V n b) := ⟨hwf, hcc.out⟩
          clear hwf hcc hb2
          obtain ⟨b1, b2⟩ := b
          dsimp only at hen
          have l2 : w1.heap.size < w2.heap.size := hrg2.lt
          )
         rotate_right 1))
    · have B2 : Below w.heap.size w wr := B1.trans (T9.below (fun k hk => by have e2 : k = w1.heap.size := hk; omega) B1.size)
      refine bodyPost_ret (v := .tuple #[.agg #[.int .i64 0, .int .i64 0], .slice none 0 0, .bool false]) ?_ rfl (.inl ⟨rfl, below2 B2 w.heap.size (Nat.le_refl _) _ _, HJ.out⟩)
      rw [results_cell3 rfl]
      go_simp
    · rename_i hm K0 a0 ke
      have B2 : Below w.heap.size w w2 := B1.trans (T2.below (fun k hk => by have e2 : k = w1.heap.size := hk; omega) B1.size)
      have k0 := keepn T2 (b := w.heap.size) (by omega) k0
      have k1 := keepn T2 (b := w.heap.size) (by omega) k1
      have f0 := keepnf T2 (b := w.heap.size) (by omega) (by omega) f0
      have f1 := keepnf T2 (b := w.heap.size) (by omega) (by omega) f1
      have l3 : w.heap.size < w2.heap.size := by omega
      obtain ⟨hz, hmaj, hex⟩ := cho_of (b := (b1, b2)) HB.out.2 (by omega)
      have HM : Hid ((b1, b2) ≠ z0 ∧ Maj n (fun i => (V i).a = (b1, b2))) := ⟨hz, hmaj⟩
      have bD : Below (w2.alloc (.cells #[.int .i64 b1, .int .i64 b2] 72)).heap.size (w2.alloc (.cells #[.int .i64 b1, .int .i64 b2] 72)) (w2.alloc (.cells #[.int .i64 b1, .int .i64 b2] 72)).drew := (Below.refl _ _).drew
      have k0 := keep bD (b := w.heap.size) (o := 0) (x := .int .i64 0) (by first | assumption | go_simp)
      have k1 := keep bD (b := w.heap.size) (o := 1) (x := .int .i64 0) (by first | assumption | go_simp)
      have f0 := keepf bD (b := w.heap.size) (o := 0) (by first | (simp <;> omega) | exact cell_lt' (a := ⟨w.heap.size, 0, none⟩) (by assumption) | (simp; exact cell_lt' (a := ⟨w.heap.size, 0, none⟩) (by assumption))) (by first | assumption | go_simp)
      have f1 := keepf bD (b := w.heap.size) (o := 1) (by first | (simp <;> omega) | exact cell_lt' (a := ⟨w.heap.size, 1, none⟩) (by assumption) | (simp; exact cell_lt' (a := ⟨w.heap.size, 1, none⟩) (by assumption))) (by first | assumption | go_simp)
      have j0 := keep bD (b := w2.heap.size) (o := 0) (x := .int .i64 b1) (by first | assumption | go_simp)
      have j1 := keep bD (b := w2.heap.size) (o := 1) (x := .int .i64 b2) (by first | assumption | go_simp)
      have B3 := on (on B2 (al _ _)) bD
      have hV := valueOf_any x n c0 V (b1, b2) _ (HA.out.below B3) hex
      clear bD B2 hz hmaj hex hen hrg2 HB T2 HD l2 hlt B1 hm
      refine wp_region_held_drew (S := fun v => v.cell? ⟨w2.heap.size, 0, none⟩ = some (.int .i64 b1) ∧ v.cell? ⟨w2.heap.size, 1, none⟩ = some (.int .i64 b2)) (by kernel_rfl) ⟨j0, j1⟩ (fun hHeld => ?_)
      generalize (w2.alloc (.cells #[.int .i64 b1, .int .i64 b2] 72)).drew = wD at *
      have l5 : w.heap.size < wD.heap.size := cell_lt' k0
      dsimp only [bt] at hV
      refine wpAnyH_take (i := 0) (v := ?_) rfl (by kernel_rfl) (by kernel_rfl) (by kernel_rfl) (fun _ _ _ h => h) (Or.inl ⟨by rfl, ?_⟩) (by assumption) ?_
      case refine_2 => (intro w hSw; (try dsimp only at hSw); go_simp; (try with_reducible rfl))
      (try simp only [Act.put, List.getElem_toArray, List.getElem_cons_succ, List.getElem_cons_zero, List.setIfInBounds_toArray, List.set_cons_zero, List.set_cons_succ])
      refine wpAnyH_take (i := 1) (v := ?_) rfl (by kernel_rfl) (by kernel_rfl) (by kernel_rfl) (fun _ _ _ h => h) (Or.inl ⟨by rfl, ?_⟩) (by assumption) ?_
      case refine_2 => (intro w hSw; (try dsimp only at hSw); go_simp; (try with_reducible rfl))
      (try simp only [Act.put, List.getElem_toArray, List.getElem_cons_succ, List.getElem_cons_zero, List.setIfInBounds_toArray, List.set_cons_zero, List.set_cons_succ])
      refine wpAnyH_take (i := 2) (v := ?_) rfl (by kernel_rfl) (by kernel_rfl) (by kernel_rfl) (fun _ _ _ h => h) (Or.inl ⟨by rfl, ?_⟩) (by assumption) ?_
      case refine_2 => (intro w hSw; (try dsimp only at hSw); go_simp; (try with_reducible rfl))
      (try simp only [Act.put, List.getElem_toArray, List.getElem_cons_succ, List.getElem_cons_zero, List.setIfInBounds_toArray, List.set_cons_zero, List.set_cons_succ])
      refine wpAnyH_ready (rs := [3]) (by kernel_rfl) (by simp) ?_
      refine AllReadyH.cons rfl (fun K hK => ?_) AllReadyH.nil
      go_simp
      refine hV.mono ?_
      rintro e w3 ⟨k, y, cy, rfl, H3⟩
      have k0 := keep H3.out.2.2.1 (b := w.heap.size) (o := 0) (x := .int .i64 0) (by first | assumption | go_simp)
      have k1 := keep H3.out.2.2.1 (b := w.heap.size) (o := 1) (x := .int .i64 0) (by first | assumption | go_simp)
      have f0 := keepf H3.out.2.2.1 (b := w.heap.size) (o := 0) (by first | (simp <;> omega) | exact cell_lt' (a := ⟨w.heap.size, 0, none⟩) (by assumption) | (simp; exact cell_lt' (a := ⟨w.heap.size, 0, none⟩) (by assumption))) (by first | assumption | go_simp)
      have f1 := keepf H3.out.2.2.1 (b := w.heap.size) (o := 1) (by first | (simp <;> omega) | exact cell_lt' (a := ⟨w.heap.size, 1, none⟩) (by assumption) | (simp; exact cell_lt' (a := ⟨w.heap.size, 1, none⟩) (by assumption))) (by first | assumption | go_simp)
      have j0 := keep H3.out.2.2.1 (b := w2.heap.size) (o := 0) (x := .int .i64 b1) (by first | assumption | go_simp)
      have j1 := keep H3.out.2.2.1 (b := w2.heap.size) (o := 1) (x := .int .i64 b2) (by first | assumption | go_simp)
      refine hK.out _ _ ⟨j0, j1⟩ (fun hHeld => ?_)
      clear hK K
      refine wpAnyH_ready (rs := [4]) (by kernel_rfl) (by simp) ?_
      refine AllReadyH.cons rfl (fun K hK => ?_) AllReadyH.nil
      go_simp
      refine hK.out _ _ ⟨by go_simp, by go_simp⟩ (fun hHeld => ?_)
      clear hK K
      refine wpAnyH_take (i := 5) (v := ?_) rfl (by kernel_rfl) (by kernel_rfl) (by kernel_rfl) (fun _ _ _ h => h) (Or.inl ⟨by rfl, ?_⟩) (by assumption) ?_
      case refine_2 => (intro w hSw; (try dsimp only at hSw); go_simp; (try with_reducible rfl))
      (try simp only [Act.put, List.getElem_toArray, List.getElem_cons_succ, List.getElem_cons_zero, List.setIfInBounds_toArray, List.set_cons_zero, List.set_cons_succ])
      refine wpAnyH_take (i := 6) (v := ?_) rfl (by kernel_rfl) (by kernel_rfl) (by kernel_rfl) (fun _ _ _ h => h) (Or.inl ⟨by rfl, ?_⟩) (by assumption) ?_
      case refine_2 => (intro w hSw; (try dsimp only at hSw); go_simp; (try with_reducible rfl))
      (try simp only [Act.put, List.getElem_toArray, List.getElem_cons_succ, List.getElem_cons_zero, List.setIfInBounds_toArray, List.set_cons_zero, List.set_cons_succ])
      refine wpAnyH_done (by kernel_rfl) ?_ _
      go_wp2_with fail
      refine bodyPost_ret (v := .tuple #[.agg #[.int .i64 b1, .int .i64 b2], .slice y (V k).n cy, .bool true]) ?_ rfl (.inr ⟨(b1, b2), k, y, cy, rfl, ⟨HM.out.1, HM.out.2, H3.out.1, H3.out.2.1⟩, Vl.turns B3 H3.out.2.2 ?_⟩)
      · rw [results_cell3 rfl]
        go_simp
      · exact (Turns.refl (fun k => w.heap.size ≤ k ∧ k < wD.heap.size) w3).set2 w.heap.size ⟨Nat.le_refl _, l5⟩ _ _
    · have hnm : ¬ ((n : Int) < 2 * c) := by omega
      have HK : Hid (JLeft V n (fun z => left z && !z.sameKey (blit (b1, b2)))) := fun b hb h => by
        show (left (blit b) && !(blit b).sameKey (blit (b1, b2))) = true
        rw [HJ2.out b hb h, Bool.true_and]
        have hne : blit b ≠ blit (b1, b2) := fun e => by
          have e2 := bk_inj hb HB.out.1 e
          rw [e2, ← HB.out.2] at h
          exact hnm h
        rw [Maps.sameKey_ne hne]
        rfl
      refine ⟨⟨_, _, hrg2.alloc _, T2.alloc _, HK.out⟩, ?_⟩
      rw [(hrg2.alloc _).left_eq, HW.out]
      exact hlt

end Go.Proofs.Ytdbahebhodoooaa.Px

/-
  2 texts of this proof, one behind the other: PlRefUp, PlRefAct.
-/
import Derived.Test.YthlfmbijagpggaaGreatByHk
import Derived.Test.YthlfmbijagpggaaGreatJPlUp
import Derived.Test.YthlfmbijagpggaaGreatJPlLives
/-
  The document's Up.
  Conditions: the map lies in memory.
-/
namespace Go.Proofs.YthlfmbijagpggaaGreat.Pl
open Go.RowKit By Fl At Cr
set_option linter.unusedVariables false
set_option linter.unusedSimpArgs false
set_option maxRecDepth 100000

set_option maxHeartbeats 1600000 in
theorem rup_no {w : World} {x : Option Addr} {n c : Nat} (m : Mp) (h : At.Os w x n c m.osds) (pg : Int) (hn : ¬ (mayM m = true ∧ 0 ≤ pg ∧ pg < m.pool.pgs)) :
    Calls Tryz.prog 33 #[vM m.ep m.pool x n c, .int .i64 pg] w fun e w' => e = .returned (.tuple #[.slice none 0 0, .int .i64 1]) ∧ Below w.heap.size w w' := by
  obtain ⟨w0, hw0⟩ : ∃ w0, w0 = w.alloc (.cells #[.int .i64 m.ep, .int .i64 m.pool.k, .int .i64 m.pool.m, .int .i64 m.pool.pgs, .int .i64 m.pool.dom, .slice x n c] 49) := ⟨_, rfl⟩
  have b0 : Below w.heap.size w w0 := by rw [hw0]; exact al _ _
  have q3 : w0.cell? ⟨w.heap.size, 3, none⟩ = some (.int .i64 m.pool.pgs) := by rw [hw0]; go_simp
  have cM := rmay_any m (h.below b0)
  have HB := hid b0
  have HW := hid hw0
  rw [hw0] at cM
  unfold vM at cM ⊢
  clear h b0 hw0
  cases hm : mayM m with
  | false =>
    rw [hm] at cM
    clear hm hn
    go_enter Tryz.func33, Tryz.ntmps33
    go_wp2_with (go_at_call 24; refine cM.mono ?_; rintro e w1 ⟨rfl, hb1⟩; clear cM; rw [← HW.out] at hb1; have p3 := keep hb1 q3)
    go_ret2
    exact ⟨rfl, on HB.out hb1⟩
  | true =>
    rw [hm] at cM
    by_cases h0 : pg < 0
    · clear hm hn
      go_enter Tryz.func33, Tryz.ntmps33
      go_wp2_with (go_at_call 24; refine cM.mono ?_; rintro e w1 ⟨rfl, hb1⟩; clear cM; rw [← HW.out] at hb1; have p3 := keep hb1 q3)
      go_ret2
      exact ⟨rfl, on HB.out hb1⟩
    · have h1 : m.pool.pgs ≤ pg := by
        by_cases h1 : pg < m.pool.pgs
        · exact absurd ⟨hm, by omega, h1⟩ hn
        · omega
      clear hm hn
      go_enter Tryz.func33, Tryz.ntmps33
      go_wp2_with (go_at_call 24; refine cM.mono ?_; rintro e w1 ⟨rfl, hb1⟩; clear cM; rw [← HW.out] at hb1; have p3 := keep hb1 q3)
      go_ret2
      exact ⟨rfl, on HB.out hb1⟩

set_option maxHeartbeats 3200000 in
theorem rup_yes {w : World} {x : Option Addr} {n c : Nat} (m : Mp) (h : At.Os w x n c m.osds) (pg : Int) (hm : mayM m = true) (h0 : ¬ pg < 0) (h1 : ¬ m.pool.pgs ≤ pg) :
    Calls Tryz.prog 33 #[vM m.ep m.pool x n c, .int .i64 pg] w fun e w' => ∃ (x' : Option Addr) (n' c' : Nat), e = .returned (.tuple #[.slice x' n' c', .int .i64 (chE m m.pool.dom (kmW m))]) ∧ Hid (Below w.heap.size w w' ∧ Own w' w.heap.size 3 1 enI (.slice x' n' c') (chL m m.pool.dom (kmW m) (Mi.h2 (pgN pg) 1886351212))) := by
  have hkm : IntKind.i64.wrap (m.pool.k + m.pool.m) = kmW m := rfl
  have hpg : IntKind.u32.wrap pg = (pgN pg : Int) := by unfold pgN; rw [IntKind.wrap_u32]; omega
  have hlt := pgN_lt pg
  have cH := fun W => Mi.rhash2_any (pgN pg) 1886351212 W hlt (by omega)
  have hH := Mi.h2_lt (pgN pg) 1886351212
  have HC : Hid (∀ W, Below w.heap.size w W → Calls Tryz.prog 43 #[vM m.ep m.pool x n c, .agg #[.int .i64 m.pool.dom, .int .i64 (kmW m)], .int .u32 (Mi.h2 (pgN pg) 1886351212 : Nat)] W fun e w' => ∃ (x' : Option Addr) (n' c' : Nat), e = .returned (.tuple #[.slice x' n' c', .int .i64 (chE m m.pool.dom (kmW m))]) ∧ Hid (Below W.heap.size W w' ∧ Own w' W.heap.size 3 1 enI (.slice x' n' c') (chL m m.pool.dom (kmW m) (Mi.h2 (pgN pg) 1886351212)))) := fun W hb => rcchoose_own m (h.below hb) m.pool.dom (kmW m) _ hH
  generalize chE m m.pool.dom (kmW m) = EE at *
  generalize chL m m.pool.dom (kmW m) (Mi.h2 (pgN pg) 1886351212) = LL at *
  generalize Mi.h2 (pgN pg) 1886351212 = HH at *
  generalize kmW m = KM at *
  generalize pgN pg = PG at *
  obtain ⟨w0, hw0⟩ : ∃ w0, w0 = w.alloc (.cells #[.int .i64 m.ep, .int .i64 m.pool.k, .int .i64 m.pool.m, .int .i64 m.pool.pgs, .int .i64 m.pool.dom, .slice x n c] 49) := ⟨_, rfl⟩
  have b0 : Below w.heap.size w w0 := by rw [hw0]; exact al _ _
  have q0 : w0.cell? ⟨w.heap.size, 0, none⟩ = some (.int .i64 m.ep) := by rw [hw0]; go_simp
  have q1 : w0.cell? ⟨w.heap.size, 1, none⟩ = some (.int .i64 m.pool.k) := by rw [hw0]; go_simp
  have q2 : w0.cell? ⟨w.heap.size, 2, none⟩ = some (.int .i64 m.pool.m) := by rw [hw0]; go_simp
  have q3 : w0.cell? ⟨w.heap.size, 3, none⟩ = some (.int .i64 m.pool.pgs) := by rw [hw0]; go_simp
  have q4 : w0.cell? ⟨w.heap.size, 4, none⟩ = some (.int .i64 m.pool.dom) := by rw [hw0]; go_simp
  have q5 : w0.cell? ⟨w.heap.size, 5, none⟩ = some (.slice x n c) := by rw [hw0]; go_simp
  have HQ : Hid (∀ W, Below w0.heap.size w0 W → W.cell? ⟨w.heap.size, 0, none⟩ = some (.int .i64 m.ep) ∧ W.cell? ⟨w.heap.size, 1, none⟩ = some (.int .i64 m.pool.k) ∧ W.cell? ⟨w.heap.size, 2, none⟩ = some (.int .i64 m.pool.m) ∧ W.cell? ⟨w.heap.size, 3, none⟩ = some (.int .i64 m.pool.pgs) ∧ W.cell? ⟨w.heap.size, 4, none⟩ = some (.int .i64 m.pool.dom) ∧ W.cell? ⟨w.heap.size, 5, none⟩ = some (.slice x n c)) := fun W hb => ⟨keep hb q0, keep hb q1, keep hb q2, keep hb q3, keep hb q4, keep hb q5⟩
  have cM := rmay_any m (h.below b0)
  have HB := hid b0
  have HW := hid hw0
  rw [hw0, hm] at cM
  unfold vM at cM HC ⊢
  clear h b0 hw0 q0 q1 q2 q4 q5 hm
  go_enter Tryz.func33, Tryz.ntmps33
  go_wp2_with (go_at_call 24; refine cM.mono ?_; rintro e w1 ⟨rfl, hb1⟩; clear cM; rw [← HW.out] at hb1; have p3 := keep hb1 q3)
  have bD : Below w1.heap.size w1 w1.drew := (Below.refl _ _).drew
  have s0 := HQ.out _ (on hb1 bD)
  have cC := HC.out w1.drew (on HB.out (on hb1 bD))
  have HD := hid (on hb1 bD)
  clear bD q3 p3 HC
  refine wp_region_held_drew (S := fun v => v.cell? ⟨w.heap.size, 0, none⟩ = some (.int .i64 m.ep) ∧ v.cell? ⟨w.heap.size, 1, none⟩ = some (.int .i64 m.pool.k) ∧ v.cell? ⟨w.heap.size, 2, none⟩ = some (.int .i64 m.pool.m) ∧ v.cell? ⟨w.heap.size, 3, none⟩ = some (.int .i64 m.pool.pgs) ∧ v.cell? ⟨w.heap.size, 4, none⟩ = some (.int .i64 m.pool.dom) ∧ v.cell? ⟨w.heap.size, 5, none⟩ = some (.slice x n c)) (by kernel_rfl) s0 (fun hHeld => ?_)
  generalize w1.drew = wD at *
  refine By.hk 0 ?_
  refine By.hk 1 ?_
  refine By.hk 2 ?_
  refine By.hk 3 ?_
  refine By.hk 4 ?_
  refine By.hk 5 ?_
  refine By.hk 6 ?_
  refine By.hk 7 ?_
  refine By.hk 8 ?_
  refine By.hk 9 ?_
  refine By.hk 10 ?_
  refine By.hk 11 ?_
  refine By.hk 12 ?_
  refine By.hk 13 ?_
  refine wpAnyH_ready (rs := [14]) (by kernel_rfl) (by simp) ?_
  refine AllReadyH.cons rfl (fun K hK => ?_) AllReadyH.nil
  go_simp
  refine (cH _).mono ?_
  rintro e w4 ⟨rfl, hw4⟩
  subst w4
  refine hK.out _ _ s0 (fun hHeld => ?_)
  clear hK K
  refine wpAnyH_ready (rs := [15]) (by kernel_rfl) (by simp) ?_
  refine AllReadyH.cons rfl (fun K hK => ?_) AllReadyH.nil
  go_simp
  refine cC.mono ?_
  rintro e w5 ⟨x5, n5, c5, rfl, H5⟩
  clear cC
  refine hK.out _ _ (HQ.out _ (on HD.out H5.out.1)) (fun hHeld => ?_)
  clear hK K
  refine By.hk 16 ?_
  refine By.hk 17 ?_
  refine By.hk 18 ?_
  refine By.hk 19 ?_
  refine wpAnyH_done (by kernel_rfl) ?_ _
  clear s0 hHeld
  go_wp2_with fail
  go_ret2
  have BB := on HB.out HD.out
  exact ⟨_, _, _, rfl, on BB H5.out.1, own_low H5.out.2 BB.size⟩

theorem rup_any {w : World} {x : Option Addr} {n c : Nat} (m : Mp) (h : At.Os w x n c m.osds) (pg : Int) :
    Calls Tryz.prog 33 #[vM m.ep m.pool x n c, .int .i64 pg] w fun e w' => UpSays w m pg (upL m pg) e w' := by
  unfold UpSays
  by_cases hf : mayM m = true ∧ 0 ≤ pg ∧ pg < m.pool.pgs
  · unfold upL upE inB
    rw [show (decide (0 ≤ pg) && decide (pg < m.pool.pgs)) = true by simp; omega]
    exact rup_yes m h pg hf.1 (by omega) (by omega)
  · obtain ⟨e1, e2⟩ := not_fine hf
    rw [e1, e2]
    exact (rup_no m h pg hf).mono fun e w' ⟨he, hb⟩ => ⟨none, 0, 0, he, hb, Own.nil _ _ _ _ _⟩

end Go.Proofs.YthlfmbijagpggaaGreat.Pl

/-
  The document's Acting: who keeps a placement group, their lives and boots, who is first.
  Conditions: the map lies in memory.
-/
namespace Go.Proofs.YthlfmbijagpggaaGreat.Pl
open Go.RowKit By Fl At Cr
set_option linter.unusedVariables false
set_option linter.unusedSimpArgs false
set_option maxRecDepth 100000

theorem results_tmp5 {fn : Func} {t0 t1 t2 t3 t4 : Tmp} (h : fn.results = #[.tmp t0, .tmp t1, .tmp t2, .tmp t3, .tmp t4]) (tmps : Array Value) (P : Program) (w : World) :
    (results fn tmps).run P w = .ok (.tuple #[tmps.getD t0 undef, tmps.getD t1 undef, tmps.getD t2 undef, tmps.getD t3 undef, tmps.getD t4 undef]) w := by
  simp [results, h]

/- Three lists of one's own, apart. -/
structure Tri (w0 wr : World) (R1 R2 R3 : Value) (l1 l2 l3 : List Int) : Prop where
  bel : Below w0.heap.size w0 wr
  o1 : Own wr w0.heap.size 3 1 enI R1 l1
  o2 : Own wr w0.heap.size 3 1 enI R2 l2
  o3 : Own wr w0.heap.size 3 1 enI R3 l3
  n12 : ∀ g, R1.ownBlock = some g → R2.ownBlock ≠ some g
  n13 : ∀ g, R1.ownBlock = some g → R3.ownBlock ≠ some g
  n23 : ∀ g, R2.ownBlock = some g → R3.ownBlock ≠ some g

section
variable {w0 wr w' : World} {R1 R2 R3 : Value} {l1 l2 l3 : List Int}

theorem Tri.below (h : Tri w0 wr R1 R2 R3 l1 l2 l3) (hb : Below wr.heap.size wr w') : Tri w0 w' R1 R2 R3 l1 l2 l3 := ⟨on h.bel hb, h.o1.below hb, h.o2.below hb, h.o3.below hb, h.n12, h.n13, h.n23⟩

/- What lies above all that there was is turned. -/
theorem Tri.up {b j : Nat} {v : Value} (h : Tri w0 wr R1 R2 R3 l1 l2 l3) {B : Nat} (hB : ∀ g, (R1.ownBlock = some g ∨ R2.ownBlock = some g ∨ R3.ownBlock = some g) → g < B) (hb : B ≤ b) (h0 : w0.heap.size ≤ B) : Tri w0 (wr.setCell ⟨b, j, none⟩ v) R1 R2 R3 l1 l2 l3 := by
  have t : Turns (fun k => k = b) wr (wr.setCell ⟨b, j, none⟩ v) := turns_put (Turns.refl _ wr) j v
  refine ⟨h.bel.trans (t.below (fun k e => by omega) h.bel.size), h.o1.turns t (fun g hg e => ?_), h.o2.turns t (fun g hg e => ?_), h.o3.turns t (fun g hg e => ?_), h.n12, h.n13, h.n23⟩
  · have := hB g (.inl hg); omega
  · have := hB g (.inr (.inl hg)); omega
  · have := hB g (.inr (.inr hg)); omega

theorem Tri.set {g n c : Nat} (h : Tri w0 wr (.slice (some ⟨g, 0, none⟩) n c) R2 R3 l1 l2 l3) (k : Nat) (z : Int) : Tri w0 (wr.setCell ⟨g, k, none⟩ (.int .i64 z)) (.slice (some ⟨g, 0, none⟩) n c) R2 R3 (l1.set k z) l2 l3 := by
  have t : Turns (fun k => k = g) wr (wr.setCell ⟨g, k, none⟩ (.int .i64 z)) := turns_put (Turns.refl _ wr) k _
  have hg := (h.o1.tb (g := g) rfl).1
  refine ⟨h.bel.trans (t.below (fun k e => by omega) h.bel.size), own_setI h.o1 k z, h.o2.turns t (fun j hj e => ?_), h.o3.turns t (fun j hj e => ?_), h.n12, h.n13, h.n23⟩
  · subst e; exact h.n12 j rfl hj
  · subst e; exact h.n13 j rfl hj

theorem Tri.push2 (h : Tri w0 wr R1 R2 R3 l1 l2 l3) (z : Int) (hl : l2.length ≤ 1000) :
    ∃ x' c' w3, (Builtin.append_ #[34, 34] 34 #[R2, .slice (some ⟨wr.heap.size, 0, none⟩) 1 1]).run Tryz.prog (wr.alloc (.cells #[.int .i64 z] 3)) = .ok (.slice x' (l2.length + 1) c') w3 ∧ Hid (Tri w0 w3 R1 (.slice x' (l2.length + 1) c') R3 l1 (l2 ++ [z]) l3 ∧ Turns (fun j => R2.ownBlock = some j) wr w3) := by
  obtain ⟨x', c', w3, hap, H⟩ := push_z h.o2 z hl h.bel.size
  obtain ⟨p1, p2, p3⟩ := H.out
  refine ⟨x', c', w3, hap, ⟨h.bel.trans (p2.below (fun j e => (h.o2.tb e).1) h.bel.size), h.o1.turns p2 (fun g hg e => h.n12 g hg e), p1, h.o3.turns p2 (fun g hg e => h.n23 g e hg), fun g hg e => ?_, h.n13, fun g hg e => ?_⟩, p2⟩
  · rcases p3 g e with q | q
    · exact h.n12 g hg q
    · have := (h.o1.tb hg).2.lt; omega
  · rcases p3 g hg with q | q
    · exact h.n23 g q e
    · have := (h.o3.tb e).2.lt; omega

theorem Tri.push3 (h : Tri w0 wr R1 R2 R3 l1 l2 l3) (z : Int) (hl : l3.length ≤ 1000) :
    ∃ x' c' w3, (Builtin.append_ #[34, 34] 34 #[R3, .slice (some ⟨wr.heap.size, 0, none⟩) 1 1]).run Tryz.prog (wr.alloc (.cells #[.int .i64 z] 3)) = .ok (.slice x' (l3.length + 1) c') w3 ∧ Hid (Tri w0 w3 R1 R2 (.slice x' (l3.length + 1) c') l1 l2 (l3 ++ [z]) ∧ Turns (fun j => R3.ownBlock = some j) wr w3) := by
  obtain ⟨x', c', w3, hap, H⟩ := push_z h.o3 z hl h.bel.size
  obtain ⟨p1, p2, p3⟩ := H.out
  refine ⟨x', c', w3, hap, ⟨h.bel.trans (p2.below (fun j e => (h.o3.tb e).1) h.bel.size), h.o1.turns p2 (fun g hg e => h.n13 g hg e), h.o2.turns p2 (fun g hg e => h.n23 g hg e), p1, h.n12, fun g hg e => ?_, fun g hg e => ?_⟩, p2⟩
  · rcases p3 g e with q | q
    · exact h.n13 g hg q
    · have := (h.o1.tb hg).2.lt; omega
  · rcases p3 g e with q | q
    · exact h.n23 g hg q
    · have := (h.o2.tb hg).2.lt; omega

end

def kps (L : List Osd) (l : List Int) (k : Nat) : List Int := (l.take k).map (kp L)
theorem kps_succ (L : List Osd) {l : List Int} {k : Nat} {z : Int} (h : l[k]? = some z) : kps L l (k + 1) = kps L l k ++ [kp L z] := by
  unfold kps
  rw [List.take_add_one, h]
  simp
theorem kps_len (L : List Osd) (l : List Int) {k : Nat} (h : k ≤ l.length) : (kps L l k).length = k := by unfold kps; simp; omega

theorem own_new {w : World} {B n c : Nat} {x : Option Addr} {l : List Int} (h : Own w B 3 1 enI (.slice x n c) l) {a : Addr} (ha : x = some a) : B ≤ a.block := by
  obtain ⟨x', c', e, _, _, h3⟩ := h.form
  injection e with e1 e2 e3
  obtain ⟨g, rfl, hB, _⟩ := h3 a (by rw [← e1]; exact ha)
  exact hB

def RaSays (w : World) (m : Mp) (pg : Int) (e : Ending) (w' : World) : Prop :=
  ∃ (x0 : Option Addr) (n0 c0 : Nat) (x1 : Option Addr) (n1 c1 : Nat) (x2 : Option Addr) (n2 c2 : Nat), e = .returned (.tuple #[.slice x0 n0 c0, .slice x1 n1 c1, .slice x2 n2 c2, .int .i64 (prm (actL m pg)), .int .i64 (upE m pg)]) ∧ Hid (Below w.heap.size w w' ∧ Nu w' x0 n0 c0 (actL m pg) ∧ Nu w' x1 n1 c1 ((actL m pg).map (lf m.osds)) ∧ Nu w' x2 n2 c2 ((actL m pg).map (bo m.osds)))

set_option maxHeartbeats 1600000 in
theorem racting_no {w : World} {x : Option Addr} {n c : Nat} (m : Mp) (h : At.Os w x n c m.osds) (pg : Int) (h1 : upE m pg = 1) :
    Calls Tryz.prog 22 #[vM m.ep m.pool x n c, .int .i64 pg] w fun e w' => e = .returned (.tuple #[.slice none 0 0, .slice none 0 0, .slice none 0 0, .int .i64 (-1), .int .i64 1]) ∧ Below w.heap.size w w' := by
  obtain ⟨w0, hw0⟩ : ∃ w0, w0 = w.alloc (.cells #[.int .i64 m.ep, .int .i64 m.pool.k, .int .i64 m.pool.m, .int .i64 m.pool.pgs, .int .i64 m.pool.dom, .slice x n c] 49) := ⟨_, rfl⟩
  have b0 : Below w.heap.size w w0 := by rw [hw0]; exact al _ _
  have cA := rup_any m (h.below b0) pg
  unfold UpSays at cA
  rw [h1] at cA
  have HB := hid b0
  have HW := hid hw0
  rw [hw0] at cA
  unfold vM at cA ⊢
  clear h b0 hw0 h1
  go_enter Tryz.func22, Tryz.ntmps22
  go_wp2_with (go_at_call 33; refine cA.mono ?_; rintro e w1 ⟨x1, n1, c1, rfl, H1⟩; clear cA; rw [← HW.out] at H1)
  (try simp only [Exit.inBlock, Exit.then])
  refine bodyPost_ret (results_tmp5 rfl _ _ _) rfl ?_
  exact ⟨rfl, on HB.out H1.out.1⟩

set_option maxHeartbeats 12800000 in
theorem racting_yes {w : World} {x : Option Addr} {n c : Nat} (m : Mp) (h : At.Os w x n c m.osds) (pg : Int) (hf : Fine m pg) :
    Calls Tryz.prog 22 #[vM m.ep m.pool x n c, .int .i64 pg] w fun e w' => ∃ (x0 : Option Addr) (n0 c0 : Nat) (x1 : Option Addr) (n1 c1 : Nat) (x2 : Option Addr) (n2 c2 : Nat), e = .returned (.tuple #[.slice x0 n0 c0, .slice x1 n1 c1, .slice x2 n2 c2, .int .i64 (prm (actL m pg)), .int .i64 0]) ∧ Hid (Below w.heap.size w w' ∧ Nu w' x0 n0 c0 (actL m pg) ∧ Nu w' x1 n1 c1 ((actL m pg).map (lf m.osds)) ∧ Nu w' x2 n2 c2 ((actL m pg).map (bo m.osds)) ∧ (∀ a, x0 = some a → w.heap.size ≤ a.block) ∧ (∀ a, x1 = some a → w.heap.size ≤ a.block) ∧ (∀ a, x2 = some a → w.heap.size ≤ a.block)) := by
  obtain ⟨w0, hw0⟩ : ∃ w0, w0 = w.alloc (.cells #[.int .i64 m.ep, .int .i64 m.pool.k, .int .i64 m.pool.m, .int .i64 m.pool.pgs, .int .i64 m.pool.dom, .slice x n c] 49) := ⟨_, rfl⟩
  have b0 : Below w.heap.size w w0 := by rw [hw0]; exact al _ _
  have q0 : w0.cell? ⟨w.heap.size, 0, none⟩ = some (.int .i64 m.ep) := by rw [hw0]; go_simp
  have q1 : w0.cell? ⟨w.heap.size, 1, none⟩ = some (.int .i64 m.pool.k) := by rw [hw0]; go_simp
  have q2 : w0.cell? ⟨w.heap.size, 2, none⟩ = some (.int .i64 m.pool.m) := by rw [hw0]; go_simp
  have q3 : w0.cell? ⟨w.heap.size, 3, none⟩ = some (.int .i64 m.pool.pgs) := by rw [hw0]; go_simp
  have q4 : w0.cell? ⟨w.heap.size, 4, none⟩ = some (.int .i64 m.pool.dom) := by rw [hw0]; go_simp
  have q5 : w0.cell? ⟨w.heap.size, 5, none⟩ = some (.slice x n c) := by rw [hw0]; go_simp
  have HQ : Hid (∀ W, Below w0.heap.size w0 W → W.cell? ⟨w.heap.size, 0, none⟩ = some (.int .i64 m.ep) ∧ W.cell? ⟨w.heap.size, 1, none⟩ = some (.int .i64 m.pool.k) ∧ W.cell? ⟨w.heap.size, 2, none⟩ = some (.int .i64 m.pool.m) ∧ W.cell? ⟨w.heap.size, 3, none⟩ = some (.int .i64 m.pool.pgs) ∧ W.cell? ⟨w.heap.size, 4, none⟩ = some (.int .i64 m.pool.dom) ∧ W.cell? ⟨w.heap.size, 5, none⟩ = some (.slice x n c)) := fun W hb => ⟨keep hb q0, keep hb q1, keep hb q2, keep hb q3, keep hb q4, keep hb q5⟩
  have cU := rup_any m (h.below b0) pg
  have HF : Hid (∀ (id : Int) (W : World), Below w0.heap.size w0 W → Calls Tryz.prog 34 #[vM m.ep m.pool x n c, .int .i64 id] W fun e w' => e = .returned (.tuple #[vO (findP m.osds id).1, .bool (findP m.osds id).2]) ∧ Below W.heap.size W w') := fun id W hb => rfind_any m id (h.below (on b0 hb))
  have HB := hid b0
  have HW := hid hw0
  have hln := upL_len m pg
  have HG := hid hf.good
  unfold UpSays at cU
  rw [hw0, hf.err] at cU
  unfold vM at cU HF ⊢
  clear h b0 hw0 q0 q1 q2 q3 q4 q5 hf
  have hact : actL m pg = kps m.osds (upL m pg) (upL m pg).length := by unfold actL kps; rw [List.take_length]
  rw [hact]
  clear hact
  generalize upL m pg = LL at *
  generalize hLd : m.osds = L at *
  clear hLd
  go_enter Tryz.func22, Tryz.ntmps22
  go_wp2_with (go_at_call 33; refine cU.mono ?_; rintro e w1 ⟨x1, n1, c1, rfl, H1⟩; clear cU; rw [← HW.out] at H1)
  have hn1 := form_slice H1.out.2
  have hn32 : n1 ≤ 32 := by omega
  have HLn := hid hn1
  have H0 : Hid (Tri w0 w1 (.slice x1 n1 c1) (.slice none 0 0) (.slice none 0 0) (mid L LL 0) ((kps L LL 0).map (lf L)) ((kps L LL 0).map (bo L))) := by
    rw [mid_zero]
    exact ⟨H1.out.1, H1.out.2, Own.nil _ _ _ _ _, Own.nil _ _ _ _ _, fun g _ e => by simp [Value.ownBlock] at e, fun g _ e => by simp [Value.ownBlock] at e, fun g _ e => by simp [Value.ownBlock] at e⟩
  clear hn1 hln H1
  go_loopw [9, 5, 6, 7] (fun i s5 s6 s7 wr => ∃ (k : Nat) (x5 : Option Addr) (c5 : Nat) (x6 : Option Addr) (c6 : Nat) (P : Int), k ≤ n1 ∧ i = .int .i64 k ∧ s5 = .slice x5 k c5 ∧ s6 = .slice x6 k c6 ∧ s7 = .int .i64 P ∧ Hid (Tri w0 wr (.slice x1 n1 c1) (.slice x5 k c5) (.slice x6 k c6) (mid L LL k) ((kps L LL k).map (lf L)) ((kps L LL k).map (bo L)) ∧ P = prm (kps L LL k))) (fun i _ _ _ _ => n1 - (intOf i).toNat)
  case atStart => exact ⟨0, none, 0, none, 0, -1, by omega, rfl, rfl, rfl, rfl, H0.out, rfl⟩
  case round =>
    clear H0
    obtain ⟨k, x5, c5, x6, c6, P, hk, rfl, rfl, rfl, rfl, HR⟩ := hrel
    by_cases hlt : k < n1
    · have hkn : (k : Int) < (n1 : Int) := by omega
      obtain ⟨z, hz⟩ : ∃ z, LL[k]? = some z := ⟨LL[k]'(by have := HLn.out; omega), List.getElem?_eq_getElem (by have := HLn.out; omega)⟩
      obtain ⟨T0, hP⟩ := HR.out
      have hgm := mid_get L hz
      obtain ⟨g, cx, e6, _, _, hg1, hg2⟩ := T0.o1.there (fun e => by rw [e] at hgm; simp at hgm)
      injection e6 with e61 e62 e63
      subst e61
      have gl := cell_own T0.o1 hgm
      have lf0 := T0.o1.frozen (k := k)
      obtain ⟨g0, g1, g2, g3, g4, g5⟩ := HQ.out wr T0.bel
      obtain ⟨ok, hok⟩ : ∃ ok, (findP L z).2 = ok := ⟨_, rfl⟩
      obtain ⟨o, ho⟩ : ∃ o, (findP L z).1 = o := ⟨_, rfl⟩
      have CF : ∀ W, Below wr.heap.size wr W → ∀ V, Below W.heap.size W V → Calls Tryz.prog 34 #[.agg #[.int .i64 m.ep, .int .i64 m.pool.k, .int .i64 m.pool.m, .int .i64 m.pool.pgs, .int .i64 m.pool.dom, .slice x n c], .int .i64 z] V fun e w' => e = .returned (.tuple #[vO o, .bool ok]) ∧ Below V.heap.size V w' := fun W hb V hb2 => by
        have := HF.out z V (on T0.bel (on hb hb2))
        rw [hok, ho] at this
        exact this
      have HK : Hid (mid L LL (k + 1) = (if (ok && o.up) = true then mid L LL k else (mid L LL k).set k (-1)) ∧ kps L LL (k + 1) = kps L LL k ++ [if (ok && o.up) = true then z else -1] ∧ lf L (if (ok && o.up) = true then z else -1) = (if (ok && o.up) = true then o.life else 0) ∧ bo L (if (ok && o.up) = true then z else -1) = (if (ok && o.up) = true then o.boot else 0)) := by
        have hu : upF L z = (ok && o.up) := by unfold upF; rw [hok, ho]
        have hkp : kp L z = (if (ok && o.up) = true then z else -1) := by unfold kp; rw [hu]
        refine ⟨?_, by rw [kps_succ L hz, hkp], ?_, ?_⟩
        · cases hc : (ok && o.up) with
          | true => exact mid_up hz (by rw [hu]; exact hc)
          | false => exact mid_no hz (by rw [hu]; exact hc)
        · have := lf_kp HG.out z
          rw [hu, ho, hkp] at this
          exact this
        · have := bo_kp HG.out z
          rw [hu, ho, hkp] at this
          exact this
      have hZk : (mid L LL k)[k]? = some z := hgm
      have HZ := hid hgm
      have HT0 := hid (And.intro T0 (And.intro hP (kps_len L LL (show k ≤ LL.length by have := HLn.out; omega))))
      clear T0 hP hz hgm hok ho e62 e63 HR hg1 hg2 hZk
      obtain ⟨m0, m1, m2, m3, m4, m5, m6, m7⟩ := o
      unfold vO at CF
      dsimp only at CF HK
      go_wp2_with fail
      go_cut [10, 11] (fun s10 s11 wc => ∃ gb : Nat, s10 = .pointer (some ⟨gb, 0, none⟩) ∧ s11 = .bool ok ∧ Hid (Below wr.heap.size wr wc ∧ wr.heap.size ≤ gb ∧ wc.heap[gb]? = some (.cells #[.int .i64 m0, .bool m1, .bool m2, .int .i64 m3, .int .i64 m4, .int .i64 m5, .int .i64 m6, .int .i64 m7] 53 (0, 0))))
      case first =>
        have bD : Below wr.heap.size wr wr.drew := (Below.refl _ _).drew
        have HV : Hid (∀ V, Below wr.drew.heap.size wr.drew V → V.cell? ⟨w.heap.size, 0, none⟩ = some (.int .i64 m.ep) ∧ V.cell? ⟨w.heap.size, 1, none⟩ = some (.int .i64 m.pool.k) ∧ V.cell? ⟨w.heap.size, 2, none⟩ = some (.int .i64 m.pool.m) ∧ V.cell? ⟨w.heap.size, 3, none⟩ = some (.int .i64 m.pool.pgs) ∧ V.cell? ⟨w.heap.size, 4, none⟩ = some (.int .i64 m.pool.dom) ∧ V.cell? ⟨w.heap.size, 5, none⟩ = some (.slice x n c) ∧ V.cell? ⟨g, k, none⟩ = some (.int .i64 z)) := fun V hb => ⟨keep (on bD hb) g0, keep (on bD hb) g1, keep (on bD hb) g2, keep (on bD hb) g3, keep (on bD hb) g4, keep (on bD hb) g5, keep (on bD hb) gl⟩
        have v0 := HV.out _ (Below.refl _ _)
        have cF2 := CF _ bD
        have HBD := hid bD
        clear bD
        refine wp_region_held_drew (S := fun v => v.cell? ⟨w.heap.size, 0, none⟩ = some (.int .i64 m.ep) ∧ v.cell? ⟨w.heap.size, 1, none⟩ = some (.int .i64 m.pool.k) ∧ v.cell? ⟨w.heap.size, 2, none⟩ = some (.int .i64 m.pool.m) ∧ v.cell? ⟨w.heap.size, 3, none⟩ = some (.int .i64 m.pool.pgs) ∧ v.cell? ⟨w.heap.size, 4, none⟩ = some (.int .i64 m.pool.dom) ∧ v.cell? ⟨w.heap.size, 5, none⟩ = some (.slice x n c) ∧ v.cell? ⟨g, k, none⟩ = some (.int .i64 z)) (by kernel_rfl) v0 (fun hHeld => ?_)
        generalize wr.drew = wD at *
        refine By.hk 0 ?_
        refine By.hk 1 ?_
        refine By.hk 2 ?_
        refine By.hk 3 ?_
        refine By.hk 4 ?_
        refine wpAnyH_ready (rs := [5, 9]) (by kernel_rfl) (by simp) ?_
        refine AllReadyH.cons rfl (fun K hK => ?_) (AllReadyH.cons rfl (fun K hK => ?_) AllReadyH.nil)
        · go_simp
          refine (cF2 wD (Below.refl _ _)).mono ?_
          rintro e w5 ⟨rfl, hb5⟩
          refine hK.out _ _ (HV.out _ hb5) (fun hHeld => ?_)
          clear hK K
          refine By.hk 6 ?_
          refine By.hk 7 ?_
          refine By.hk 8 ?_
          refine wpAnyH_ready (rs := [9]) (by kernel_rfl) (by simp) ?_
          refine AllReadyH.cons rfl (fun K hK => ?_) AllReadyH.nil
          go_simp
          refine hK.out _ _ (HV.out _ (on hb5 (al _ _))) (fun hHeld => ?_)
          clear hK K
          refine wpAnyH_ready (rs := [10]) (by kernel_rfl) (by simp) ?_
          refine AllReadyH.cons rfl (fun K hK => ?_) AllReadyH.nil
          go_simp
          have b6 := on hb5 (al w5 (.cells #[.int .i64 m0, .bool m1, .bool m2, .int .i64 m3, .int .i64 m4, .int .i64 m5, .int .i64 m6, .int .i64 m7] 53))
          refine hK.out _ _ (HV.out _ b6) (fun hHeld => ?_)
          clear hK K
          refine By.hk 11 ?_
          refine wpAnyH_done (by kernel_rfl) ?_ _
          go_wp2_with fail
          go_meet
          case rel => exact ⟨w5.heap.size, rfl, rfl, on HBD.out b6, Nat.le_trans HBD.out.size hb5.size, heap_alloc_new w5 _⟩
        · go_simp
          have bA := al wD (.cells #[.int .i64 0, .bool false, .bool false, .int .i64 0, .int .i64 0, .int .i64 0, .int .i64 0, .int .i64 0] 53)
          have lA : (wD.alloc (.cells #[.int .i64 0, .bool false, .bool false, .int .i64 0, .int .i64 0, .int .i64 0, .int .i64 0, .int .i64 0] 53)).heap[wD.heap.size]? = some (.cells #[.int .i64 0, .bool false, .bool false, .int .i64 0, .int .i64 0, .int .i64 0, .int .i64 0, .int .i64 0] 53 (0, 0)) := heap_alloc_new wD _
          have hsA : (wD.alloc (.cells #[.int .i64 0, .bool false, .bool false, .int .i64 0, .int .i64 0, .int .i64 0, .int .i64 0, .int .i64 0] 53)).heap.size = wD.heap.size + 1 := by simp
          have cF3 := cF2 _ bA
          refine hK.out _ _ (HV.out _ bA) (fun hHeld => ?_)
          clear hK K
          refine wpAnyH_ready (rs := [5]) (by kernel_rfl) (by simp) ?_
          refine AllReadyH.cons rfl (fun K hK => ?_) AllReadyH.nil
          go_simp
          refine cF3.mono ?_
          rintro e w5 ⟨rfl, hb5⟩
          have l5 := (hb5.block _ (by omega)).trans lA
          have s0 := cell_heap (j := 0) l5 rfl
          have f0 := fr_heap l5 0
          have s1 := cell_heap (j := 1) l5 rfl
          have f1 := fr_heap l5 1
          have s2 := cell_heap (j := 2) l5 rfl
          have f2 := fr_heap l5 2
          have s3 := cell_heap (j := 3) l5 rfl
          have f3 := fr_heap l5 3
          have s4 := cell_heap (j := 4) l5 rfl
          have f4 := fr_heap l5 4
          have s5 := cell_heap (j := 5) l5 rfl
          have f5 := fr_heap l5 5
          have s6 := cell_heap (j := 6) l5 rfl
          have f6 := fr_heap l5 6
          have s7 := cell_heap (j := 7) l5 rfl
          have f7 := fr_heap l5 7
          have z5 := hb5.size
          have b5 := on bA hb5
          have t6 : Turns (fun j => j = wD.heap.size) w5 (put8 w5 wD.heap.size 0 ⟨m0, m1, m2, m3, m4, m5, m6, m7⟩) := turns_put8
          have b6 := b5.trans (t6.below (B := wD.heap.size) (fun j e => by omega) (by omega))
          have l6 := put8_heap l5 ⟨m0, m1, m2, m3, m4, m5, m6, m7⟩
          have H6 := hid (And.intro b6 l6)
          have v6 := HV.out _ b6
          clear l5 lA t6 b6 l6
          unfold put8 at H6 v6
          dsimp only at H6 v6
          refine hK.out _ _ (HV.out _ b5) (fun hHeld => ?_)
          clear hK K
          refine By.hk 6 ?_
          refine By.hk 7 ?_
          refine By.hk 8 ?_
          refine wpAnyH_ready (rs := [10]) (by kernel_rfl) (by simp) ?_
          refine AllReadyH.cons rfl (fun K hK => ?_) AllReadyH.nil
          go_simp
          refine hK.out _ _ v6 (fun hHeld => ?_)
          clear hK K
          refine By.hk 11 ?_
          refine wpAnyH_done (by kernel_rfl) ?_ _
          go_wp2_with fail
          go_meet
          case rel => exact ⟨wD.heap.size, rfl, rfl, on HBD.out H6.out.1, HBD.out.size, H6.out.2⟩
      case rest =>
        obtain ⟨gb, rfl, rfl, HC⟩ := hcut
        obtain ⟨bc, hgb, hcb⟩ := HC.out
        have gl2 := keep bc gl
        have glt : g < wr.heap.size := cell_lt' gl
        have lf2 := keepf bc glt lf0
        have hng : gb ≠ g := by omega
        have r1 := cell_heap (j := 1) hcb rfl
        have r4 := cell_heap (j := 4) hcb rfl
        have r5 := cell_heap (j := 5) hcb rfl
        have f4 := fr_heap hcb 4
        have f5 := fr_heap hcb 5
        have HTC := hid (HT0.out.1.below bc)
        have hown : ∀ j, ((Value.slice (some ⟨g, 0, none⟩) n1 c1).ownBlock = some j ∨ (Value.slice x5 k c5).ownBlock = some j ∨ (Value.slice x6 k c6).ownBlock = some j) → j < wr.heap.size := fun j hj => by
          rcases hj with e | e | e
          · exact (HT0.out.1.o1.tb e).2.lt
          · exact (HT0.out.1.o2.tb e).2.lt
          · exact (HT0.out.1.o3.tb e).2.lt
        have HOwn := hid hown
        have HGb := hid (And.intro hgb hcb)
        clear g0 g1 g2 g3 g4 g5 gl lf0 CF HC bc hown hgb hcb
        obtain ⟨ZZ, hZZ⟩ : ∃ ZZ, ZZ = (if (ok && m1) = true then z else -1) := ⟨_, rfl⟩
        obtain ⟨LF, hLF⟩ : ∃ LF, LF = (if (ok && m1) = true then m4 else 0) := ⟨_, rfl⟩
        obtain ⟨BO, hBO⟩ : ∃ BO, BO = (if (ok && m1) = true then m5 else 0) := ⟨_, rfl⟩
        rw [← hZZ, ← hLF, ← hBO] at HK
        have HEq := hid (And.intro hZZ (And.intro hLF hBO))
        clear hZZ hLF hBO
        cases ok with
        | false =>
          obtain ⟨e1, e2, e3⟩ := HEq.out
          have k1 := HK.out.1
          simp only [Bool.false_and, Bool.and_false, Bool.true_and, Bool.false_eq_true, if_false] at e1 e2 e3 k1
          have HE3 := hid (And.intro e1 (And.intro e2 (And.intro e3 k1)))
          clear e1 e2 e3 k1
          go_upto_if 42 with (fail)
          obtain ⟨w4, hw4⟩ : ∃ w4, w4 = wc := ⟨_, rfl⟩
          subst hw4
          go_cut [9] (fun s9 wX => s9 = .int .i64 (k : Nat) ∧ Hid (Tri w0 wX (.slice (some ⟨g, 0, none⟩) n1 c1) (.slice x5 k c5) (.slice x6 k c6) ((mid L LL k).set k (-1)) ((kps L LL k).map (lf L)) ((kps L LL k).map (bo L)) ∧ wX.heap[gb]? = some (.cells #[.int .i64 m0, .bool m1, .bool m2, .int .i64 m3, .int .i64 0, .int .i64 0, .int .i64 m6, .int .i64 m7] 53 (0, 0))))
          case first =>
            obtain ⟨wX, hwX⟩ : ∃ wX, wX = ((w4.setCell ⟨g, k, none⟩ (.int .i64 (-1))).setCell ⟨gb, 4, none⟩ (.int .i64 0)).setCell ⟨gb, 5, none⟩ (.int .i64 0) := ⟨_, rfl⟩
            have hc1 : (w4.setCell ⟨g, k, none⟩ (.int .i64 (-1))).heap[gb]? = some (.cells #[.int .i64 m0, .bool m1, .bool m2, .int .i64 m3, .int .i64 m4, .int .i64 m5, .int .i64 m6, .int .i64 m7] 53 (0, 0)) := (put_block (Array.getElem?_eq_some_iff.1 HGb.out.2).1 hng).trans HGb.out.2
            have hc2 : ((w4.setCell ⟨g, k, none⟩ (.int .i64 (-1))).setCell ⟨gb, 4, none⟩ (.int .i64 0)).heap[gb]? = some (.cells #[.int .i64 m0, .bool m1, .bool m2, .int .i64 m3, .int .i64 0, .int .i64 m5, .int .i64 m6, .int .i64 m7] 53 (0, 0)) := (heap_set (j := 4) hc1 (.int .i64 0)).trans (by simp)
            have hc3 : wX.heap[gb]? = some (.cells #[.int .i64 m0, .bool m1, .bool m2, .int .i64 m3, .int .i64 0, .int .i64 0, .int .i64 m6, .int .i64 m7] 53 (0, 0)) := by rw [hwX]; exact (heap_set (j := 5) hc2 (.int .i64 0)).trans (by simp)
            have TX : Tri w0 wX (.slice (some ⟨g, 0, none⟩) n1 c1) (.slice x5 k c5) (.slice x6 k c6) ((mid L LL k).set k (-1)) ((kps L LL k).map (lf L)) ((kps L LL k).map (bo L)) := by
              rw [hwX]
              exact ((HTC.out.set k (-1)).up HOwn.out HGb.out.1 HT0.out.1.bel.size).up HOwn.out HGb.out.1 HT0.out.1.bel.size
            have u1 := cell_heap (j := 4) hc1 rfl
            have u3 := fr_heap hc1 4
            have y5 := cell_heap (j := 5) hc2 rfl
            have y6 := fr_heap hc2 5
            have HR3 := hid (And.intro hwX (And.intro hc3 TX))
            clear hc1 hc2 hc3 TX hwX r1 r4 r5 f4 f5
            go_wp2_with fail
            rw [← HR3.out.1]
            go_meet
            case rel => exact ⟨rfl, HR3.out.2.2, HR3.out.2.1⟩
          case rest =>
            obtain ⟨rfl, HX⟩ := hcut
            clear gl2 lf2 r1 r4 r5 f4 f5 HTC
            have TX : Tri w0 wc (.slice (some ⟨g, 0, none⟩) n1 c1) (.slice x5 k c5) (.slice x6 k c6) (mid L LL (k + 1)) ((kps L LL k).map (lf L)) ((kps L LL k).map (bo L)) := by rw [HE3.out.2.2.2]; exact HX.out.1
            have hgX : wc.heap[gb]? = some (.cells #[.int .i64 m0, .bool m1, .bool m2, .int .i64 m3, .int .i64 LF, .int .i64 BO, .int .i64 m6, .int .i64 m7] 53 (0, 0)) := by rw [HE3.out.2.1, HE3.out.2.2.1]; exact HX.out.2
            have hzX : (mid L LL (k + 1))[k]? = some ZZ := by rw [HE3.out.2.2.2, HE3.out.1, List.getElem?_set_self (List.getElem?_eq_some_iff.1 HZ.out).1]
            clear HX
            have hLl : ((kps L LL k).map (lf L)).length = k := by rw [List.length_map]; exact HT0.out.2.2
            have hLb : ((kps L LL k).map (bo L)).length = k := by rw [List.length_map]; exact HT0.out.2.2
            have rx4 := cell_heap (j := 4) hgX rfl
            have rx5 := cell_heap (j := 5) hgX rfl
            obtain ⟨xa, ca, wa, hapA, HA⟩ := TX.push2 LF (by rw [hLl]; omega)
            rw [hLl] at hapA HA
            have hra : wa.heap[gb]? = wc.heap[gb]? := HA.out.2.block gb (Array.getElem?_eq_some_iff.1 hgX).1 (fun e => by have := HOwn.out gb (.inr (.inl e)); have := HGb.out.1; omega)
            have ra5 : wa.cell? ⟨gb, 5, none⟩ = some (.int .i64 BO) := (World.cell?_of_block (a := ⟨gb, 5, none⟩) hra).trans rx5
            obtain ⟨xb, cb, wb, hapB, HBB⟩ := HA.out.1.push3 BO (by rw [hLb]; omega)
            rw [hLb] at hapB HBB
            have glb : wb.cell? ⟨g, k, none⟩ = some (.int .i64 ZZ) := cell_own HBB.out.1.o1 hzX
            have HY := hid HBB.out.1
            clear TX hgX hzX HA HBB hra hLl hLb
            by_cases hp1 : P = -1
            · have ep : (P == -1) = true := by simpa using hp1
              go_wp2_with (first
                | (at_builtin; refine Lib.wpList_append_run _ rfl _ _ _ _ rfl _ _ rfl rfl _ _ hapA ?_; clear hapA)
                | (at_builtin; refine Lib.wpList_append_run _ rfl _ _ _ _ rfl _ _ rfl rfl _ _ hapB ?_; clear hapB))
              go_roundw
              case rel =>
                obtain ⟨e1, e2, e3, e4⟩ := HK.out
                refine ⟨k + 1, xa, ca, xb, cb, _, by omega, by go_num, rfl, rfl, rfl, ?_, ?_⟩
                · rw [e2, List.map_append, List.map_append]
                  simp only [List.map_cons, List.map_nil]
                  rw [e3, e4]
                  exact HY.out
                · rw [e2, prm_app, ← HT0.out.2.1]
                  rw [if_pos hp1]
              case measure => simp [intOf]; omega
            · have ep : (P == -1) = false := by simpa using hp1
              go_wp2_with (first
                | (at_builtin; refine Lib.wpList_append_run _ rfl _ _ _ _ rfl _ _ rfl rfl _ _ hapA ?_; clear hapA)
                | (at_builtin; refine Lib.wpList_append_run _ rfl _ _ _ _ rfl _ _ rfl rfl _ _ hapB ?_; clear hapB))
              go_roundw
              case rel =>
                obtain ⟨e1, e2, e3, e4⟩ := HK.out
                refine ⟨k + 1, xa, ca, xb, cb, _, by omega, by go_num, rfl, rfl, rfl, ?_, ?_⟩
                · rw [e2, List.map_append, List.map_append]
                  simp only [List.map_cons, List.map_nil]
                  rw [e3, e4]
                  exact HY.out
                · rw [e2, prm_app, ← HT0.out.2.1]
                  rw [if_neg hp1]
              case measure => simp [intOf]; omega
        | true =>
          cases m1 with
          | false =>
            obtain ⟨e1, e2, e3⟩ := HEq.out
            have k1 := HK.out.1
            simp only [Bool.false_and, Bool.and_false, Bool.true_and, Bool.false_eq_true, if_false] at e1 e2 e3 k1
            have HE3 := hid (And.intro e1 (And.intro e2 (And.intro e3 k1)))
            clear e1 e2 e3 k1
            go_upto_if 42 with (fail)
            obtain ⟨w4, hw4⟩ : ∃ w4, w4 = wc := ⟨_, rfl⟩
            subst hw4
            go_cut [9] (fun s9 wX => s9 = .int .i64 (k : Nat) ∧ Hid (Tri w0 wX (.slice (some ⟨g, 0, none⟩) n1 c1) (.slice x5 k c5) (.slice x6 k c6) ((mid L LL k).set k (-1)) ((kps L LL k).map (lf L)) ((kps L LL k).map (bo L)) ∧ wX.heap[gb]? = some (.cells #[.int .i64 m0, .bool false, .bool m2, .int .i64 m3, .int .i64 0, .int .i64 0, .int .i64 m6, .int .i64 m7] 53 (0, 0))))
            case first =>
              obtain ⟨wX, hwX⟩ : ∃ wX, wX = ((w4.setCell ⟨g, k, none⟩ (.int .i64 (-1))).setCell ⟨gb, 4, none⟩ (.int .i64 0)).setCell ⟨gb, 5, none⟩ (.int .i64 0) := ⟨_, rfl⟩
              have hc1 : (w4.setCell ⟨g, k, none⟩ (.int .i64 (-1))).heap[gb]? = some (.cells #[.int .i64 m0, .bool false, .bool m2, .int .i64 m3, .int .i64 m4, .int .i64 m5, .int .i64 m6, .int .i64 m7] 53 (0, 0)) := (put_block (Array.getElem?_eq_some_iff.1 HGb.out.2).1 hng).trans HGb.out.2
              have hc2 : ((w4.setCell ⟨g, k, none⟩ (.int .i64 (-1))).setCell ⟨gb, 4, none⟩ (.int .i64 0)).heap[gb]? = some (.cells #[.int .i64 m0, .bool false, .bool m2, .int .i64 m3, .int .i64 0, .int .i64 m5, .int .i64 m6, .int .i64 m7] 53 (0, 0)) := (heap_set (j := 4) hc1 (.int .i64 0)).trans (by simp)
              have hc3 : wX.heap[gb]? = some (.cells #[.int .i64 m0, .bool false, .bool m2, .int .i64 m3, .int .i64 0, .int .i64 0, .int .i64 m6, .int .i64 m7] 53 (0, 0)) := by rw [hwX]; exact (heap_set (j := 5) hc2 (.int .i64 0)).trans (by simp)
              have TX : Tri w0 wX (.slice (some ⟨g, 0, none⟩) n1 c1) (.slice x5 k c5) (.slice x6 k c6) ((mid L LL k).set k (-1)) ((kps L LL k).map (lf L)) ((kps L LL k).map (bo L)) := by
                rw [hwX]
                exact ((HTC.out.set k (-1)).up HOwn.out HGb.out.1 HT0.out.1.bel.size).up HOwn.out HGb.out.1 HT0.out.1.bel.size
              have u1 := cell_heap (j := 4) hc1 rfl
              have u3 := fr_heap hc1 4
              have y5 := cell_heap (j := 5) hc2 rfl
              have y6 := fr_heap hc2 5
              have HR3 := hid (And.intro hwX (And.intro hc3 TX))
              clear hc1 hc2 hc3 TX hwX r1 r4 r5 f4 f5
              go_wp2_with fail
              rw [← HR3.out.1]
              go_meet
              case rel => exact ⟨rfl, HR3.out.2.2, HR3.out.2.1⟩
            case rest =>
              obtain ⟨rfl, HX⟩ := hcut
              clear gl2 lf2 r1 r4 r5 f4 f5 HTC
              have TX : Tri w0 wc (.slice (some ⟨g, 0, none⟩) n1 c1) (.slice x5 k c5) (.slice x6 k c6) (mid L LL (k + 1)) ((kps L LL k).map (lf L)) ((kps L LL k).map (bo L)) := by rw [HE3.out.2.2.2]; exact HX.out.1
              have hgX : wc.heap[gb]? = some (.cells #[.int .i64 m0, .bool false, .bool m2, .int .i64 m3, .int .i64 LF, .int .i64 BO, .int .i64 m6, .int .i64 m7] 53 (0, 0)) := by rw [HE3.out.2.1, HE3.out.2.2.1]; exact HX.out.2
              have hzX : (mid L LL (k + 1))[k]? = some ZZ := by rw [HE3.out.2.2.2, HE3.out.1, List.getElem?_set_self (List.getElem?_eq_some_iff.1 HZ.out).1]
              clear HX
              have hLl : ((kps L LL k).map (lf L)).length = k := by rw [List.length_map]; exact HT0.out.2.2
              have hLb : ((kps L LL k).map (bo L)).length = k := by rw [List.length_map]; exact HT0.out.2.2
              have rx4 := cell_heap (j := 4) hgX rfl
              have rx5 := cell_heap (j := 5) hgX rfl
              obtain ⟨xa, ca, wa, hapA, HA⟩ := TX.push2 LF (by rw [hLl]; omega)
              rw [hLl] at hapA HA
              have hra : wa.heap[gb]? = wc.heap[gb]? := HA.out.2.block gb (Array.getElem?_eq_some_iff.1 hgX).1 (fun e => by have := HOwn.out gb (.inr (.inl e)); have := HGb.out.1; omega)
              have ra5 : wa.cell? ⟨gb, 5, none⟩ = some (.int .i64 BO) := (World.cell?_of_block (a := ⟨gb, 5, none⟩) hra).trans rx5
              obtain ⟨xb, cb, wb, hapB, HBB⟩ := HA.out.1.push3 BO (by rw [hLb]; omega)
              rw [hLb] at hapB HBB
              have glb : wb.cell? ⟨g, k, none⟩ = some (.int .i64 ZZ) := cell_own HBB.out.1.o1 hzX
              have HY := hid HBB.out.1
              clear TX hgX hzX HA HBB hra hLl hLb
              by_cases hp1 : P = -1
              · have ep : (P == -1) = true := by simpa using hp1
                go_wp2_with (first
                  | (at_builtin; refine Lib.wpList_append_run _ rfl _ _ _ _ rfl _ _ rfl rfl _ _ hapA ?_; clear hapA)
                  | (at_builtin; refine Lib.wpList_append_run _ rfl _ _ _ _ rfl _ _ rfl rfl _ _ hapB ?_; clear hapB))
                go_roundw
                case rel =>
                  obtain ⟨e1, e2, e3, e4⟩ := HK.out
                  refine ⟨k + 1, xa, ca, xb, cb, _, by omega, by go_num, rfl, rfl, rfl, ?_, ?_⟩
                  · rw [e2, List.map_append, List.map_append]
                    simp only [List.map_cons, List.map_nil]
                    rw [e3, e4]
                    exact HY.out
                  · rw [e2, prm_app, ← HT0.out.2.1]
                    rw [if_pos hp1]
                case measure => simp [intOf]; omega
              · have ep : (P == -1) = false := by simpa using hp1
                go_wp2_with (first
                  | (at_builtin; refine Lib.wpList_append_run _ rfl _ _ _ _ rfl _ _ rfl rfl _ _ hapA ?_; clear hapA)
                  | (at_builtin; refine Lib.wpList_append_run _ rfl _ _ _ _ rfl _ _ rfl rfl _ _ hapB ?_; clear hapB))
                go_roundw
                case rel =>
                  obtain ⟨e1, e2, e3, e4⟩ := HK.out
                  refine ⟨k + 1, xa, ca, xb, cb, _, by omega, by go_num, rfl, rfl, rfl, ?_, ?_⟩
                  · rw [e2, List.map_append, List.map_append]
                    simp only [List.map_cons, List.map_nil]
                    rw [e3, e4]
                    exact HY.out
                  · rw [e2, prm_app, ← HT0.out.2.1]
                    rw [if_neg hp1]
                case measure => simp [intOf]; omega
          | true =>
            obtain ⟨e1, e2, e3⟩ := HEq.out
            have k1 := HK.out.1
            simp only [Bool.and_self, if_true] at e1 e2 e3 k1
            have TX : Tri w0 wc (.slice (some ⟨g, 0, none⟩) n1 c1) (.slice x5 k c5) (.slice x6 k c6) (mid L LL (k + 1)) ((kps L LL k).map (lf L)) ((kps L LL k).map (bo L)) := by rw [k1]; exact HTC.out
            have hgX : wc.heap[gb]? = some (.cells #[.int .i64 m0, .bool true, .bool m2, .int .i64 m3, .int .i64 LF, .int .i64 BO, .int .i64 m6, .int .i64 m7] 53 (0, 0)) := by rw [e2, e3]; exact HGb.out.2
            have hzX : (mid L LL (k + 1))[k]? = some ZZ := by rw [k1, e1]; exact HZ.out
            clear e1 e2 e3 k1 gl2 lf2 r4 r5 f4 f5 HTC
            have hLl : ((kps L LL k).map (lf L)).length = k := by rw [List.length_map]; exact HT0.out.2.2
            have hLb : ((kps L LL k).map (bo L)).length = k := by rw [List.length_map]; exact HT0.out.2.2
            have rx4 := cell_heap (j := 4) hgX rfl
            have rx5 := cell_heap (j := 5) hgX rfl
            obtain ⟨xa, ca, wa, hapA, HA⟩ := TX.push2 LF (by rw [hLl]; omega)
            rw [hLl] at hapA HA
            have hra : wa.heap[gb]? = wc.heap[gb]? := HA.out.2.block gb (Array.getElem?_eq_some_iff.1 hgX).1 (fun e => by have := HOwn.out gb (.inr (.inl e)); have := HGb.out.1; omega)
            have ra5 : wa.cell? ⟨gb, 5, none⟩ = some (.int .i64 BO) := (World.cell?_of_block (a := ⟨gb, 5, none⟩) hra).trans rx5
            obtain ⟨xb, cb, wb, hapB, HBB⟩ := HA.out.1.push3 BO (by rw [hLb]; omega)
            rw [hLb] at hapB HBB
            have glb : wb.cell? ⟨g, k, none⟩ = some (.int .i64 ZZ) := cell_own HBB.out.1.o1 hzX
            have HY := hid HBB.out.1
            clear TX hgX hzX HA HBB hra hLl hLb
            by_cases hp1 : P = -1
            · have ep : (P == -1) = true := by simpa using hp1
              go_wp2_with (first
                | (at_builtin; refine Lib.wpList_append_run _ rfl _ _ _ _ rfl _ _ rfl rfl _ _ hapA ?_; clear hapA)
                | (at_builtin; refine Lib.wpList_append_run _ rfl _ _ _ _ rfl _ _ rfl rfl _ _ hapB ?_; clear hapB))
              go_roundw
              case rel =>
                obtain ⟨e1, e2, e3, e4⟩ := HK.out
                refine ⟨k + 1, xa, ca, xb, cb, _, by omega, by go_num, rfl, rfl, rfl, ?_, ?_⟩
                · rw [e2, List.map_append, List.map_append]
                  simp only [List.map_cons, List.map_nil]
                  rw [e3, e4]
                  exact HY.out
                · rw [e2, prm_app, ← HT0.out.2.1]
                  rw [if_pos hp1]
              case measure => simp [intOf]; omega
            · have ep : (P == -1) = false := by simpa using hp1
              go_wp2_with (first
                | (at_builtin; refine Lib.wpList_append_run _ rfl _ _ _ _ rfl _ _ rfl rfl _ _ hapA ?_; clear hapA)
                | (at_builtin; refine Lib.wpList_append_run _ rfl _ _ _ _ rfl _ _ rfl rfl _ _ hapB ?_; clear hapB))
              go_roundw
              case rel =>
                obtain ⟨e1, e2, e3, e4⟩ := HK.out
                refine ⟨k + 1, xa, ca, xb, cb, _, by omega, by go_num, rfl, rfl, rfl, ?_, ?_⟩
                · rw [e2, List.map_append, List.map_append]
                  simp only [List.map_cons, List.map_nil]
                  rw [e3, e4]
                  exact HY.out
                · rw [e2, prm_app, ← HT0.out.2.1]
                  rw [if_neg hp1]
              case measure => simp [intOf]; omega
    · have hk2 : k = n1 := by omega
      subst hk2
      obtain ⟨T0, hP⟩ := HR.out
      rw [mid_all _ _ (by have := HLn.out; omega)] at T0
      go_wp2_with fail
      (try simp only [Exit.inBlock, Exit.then])
      refine bodyPost_ret (results_tmp5 rfl _ _ _) rfl ?_
      have e9 : kps L LL k = LL.map (kp L) := by unfold kps; rw [List.take_of_length_le (by have := HLn.out; omega)]
      rw [HLn.out]
      refine ⟨_, _, _, _, _, _, _, _, _, by rw [← hP]; rfl, on HB.out T0.bel, ?_, own_nu T0.o2, own_nu T0.o3, fun a ha => Nat.le_trans HB.out.size (own_new T0.o1 ha), fun a ha => Nat.le_trans HB.out.size (own_new T0.o2 ha), fun a ha => Nat.le_trans HB.out.size (own_new T0.o3 ha)⟩
      rw [e9]
      exact own_nu T0.o1

theorem racting_any {w : World} {x : Option Addr} {n c : Nat} (m : Mp) (h : At.Os w x n c m.osds) (pg : Int) :
    Calls Tryz.prog 22 #[vM m.ep m.pool x n c, .int .i64 pg] w fun e w' => RaSays w m pg e w' := by
  unfold RaSays
  rcases fine_or m pg with hf | ⟨h1, h2⟩
  · rw [hf.err]
    exact (racting_yes m h pg hf).mono fun e w' ⟨x0, n0, c0, x1, n1, c1, x2, n2, c2, he, H⟩ => ⟨x0, n0, c0, x1, n1, c1, x2, n2, c2, he, H.out.1, H.out.2.1, H.out.2.2.1, H.out.2.2.2.1⟩
  · rw [h1]
    have e : actL m pg = [] := by unfold actL; rw [h2]; rfl
    rw [e]
    exact (racting_no m h pg h1).mono fun e w' ⟨he, hb⟩ => ⟨none, 0, 0, none, 0, 0, none, 0, 0, he, hb, ⟨rfl, Nat.le_refl _, .inl rfl⟩, ⟨rfl, Nat.le_refl _, .inl rfl⟩, ⟨rfl, Nat.le_refl _, .inl rfl⟩⟩

end Go.Proofs.YthlfmbijagpggaaGreat.Pl

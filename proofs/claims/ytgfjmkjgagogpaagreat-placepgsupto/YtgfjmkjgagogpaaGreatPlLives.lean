/-
  Package place: Lives.
  Conditions: the map lies in memory.
-/
import Derived.Test.YtgfjmkjgagogpaaGreatByHk
import Derived.OwnWalk
import Derived.Deep.DeepCutAuto
import Derived.Test.YtgfjmkjgagogpaaGreatJPlUp
namespace Go.Proofs.YtgfjmkjgagogpaaGreat.Pl
open Go.RowKit By Fl At Cr
set_option linter.unusedVariables false
set_option linter.unusedSimpArgs false
set_option maxRecDepth 100000

theorem flat_I : ∀ l : List Int, flat enI l = l.map (fun z => Value.int .i64 z)
  | [] => rfl
  | z :: l => by rw [flat_cons, flat_I l]; rfl

theorem own_zeros (w : World) {B : Nat} (hB : B ≤ w.heap.size) (n : Nat) (hn : n ≤ 1000) : Own (w.alloc (.cells ((List.replicate n (0 : Int)).map fun v => Value.int .i64 v).toArray 3)) B 3 1 enI (.slice (some ⟨w.heap.size, 0, none⟩) n n) (List.replicate n (0 : Int)) := by
  have e1 : (List.replicate n (0 : Int)).length = n := by simp
  have := Own.of_heap (K := List.replicate n (0 : Int)) (B := B) (sz := 1) (enc := enI) (heap_alloc_new w (.cells ((List.replicate n (0 : Int)).map fun v => Value.int .i64 v).toArray 3)) hB (c := n) (by rw [e1]; exact Nat.le_refl _) (by unfold maxLen; omega) (by simp) irow.len (by rw [flat_I]; simp)
  rw [e1] at this
  exact this

theorem put_block {w : World} {g k b : Nat} {v : Value} (hlt : b < w.heap.size) (hne : b ≠ g) : (w.setCell ⟨g, k, none⟩ v).heap[b]? = w.heap[b]? :=
  (turns_put (a := g) (Turns.refl _ w) k v).block b hlt hne
theorem cell_put {w : World} {g k b o : Nat} {v u : Value} (h : w.cell? ⟨b, o, none⟩ = some u) (hne : b ≠ g) : (w.setCell ⟨g, k, none⟩ v).cell? ⟨b, o, none⟩ = some u :=
  (World.cell?_of_block (a := ⟨b, o, none⟩) (put_block (cell_lt' h) hne)).trans h
theorem frz_put {w : World} {g k b o : Nat} {v : Value} (hlt : b < w.heap.size) (h : w.frozen? ⟨b, o, none⟩ = false) (hne : b ≠ g) : (w.setCell ⟨g, k, none⟩ v).frozen? ⟨b, o, none⟩ = false :=
  (World.frozen?_of_block (a := ⟨b, o, none⟩) (put_block hlt hne)).trans h

theorem two_set {w : World} {B ga gb n c n' c' : Nat} {l1 l2 : List Int} (h1 : Own w B 3 1 enI (.slice (some ⟨ga, 0, none⟩) n c) l1) (h2 : Own w B 3 1 enI (.slice (some ⟨gb, 0, none⟩) n' c') l2) (hne : ga ≠ gb) (k : Nat) (a b : Int) :
    Own ((w.setCell ⟨ga, k, none⟩ (.int .i64 a)).setCell ⟨gb, k, none⟩ (.int .i64 b)) B 3 1 enI (.slice (some ⟨ga, 0, none⟩) n c) (l1.set k a) ∧ Own ((w.setCell ⟨ga, k, none⟩ (.int .i64 a)).setCell ⟨gb, k, none⟩ (.int .i64 b)) B 3 1 enI (.slice (some ⟨gb, 0, none⟩) n' c') (l2.set k b) := by
  have t1 : Turns (fun j => j = ga) w (w.setCell ⟨ga, k, none⟩ (.int .i64 a)) := turns_put (Turns.refl _ w) k _
  have t2 : Turns (fun j => j = gb) (w.setCell ⟨ga, k, none⟩ (.int .i64 a)) ((w.setCell ⟨ga, k, none⟩ (.int .i64 a)).setCell ⟨gb, k, none⟩ (.int .i64 b)) := turns_put (Turns.refl _ _) k _
  refine ⟨(own_setI h1 k a).turns t2 (fun g hg e => ?_), own_setI (h2.turns t1 (fun g hg e => ?_)) k b⟩
  · simp [Value.ownBlock] at hg; omega
  · simp [Value.ownBlock] at hg; omega

/- The first k are told, the others are zero. -/
def fil (f : Int → Int) (l : List Int) (k : Nat) : List Int := (l.take k).map f ++ List.replicate (l.length - k) 0
theorem fil_zero (f : Int → Int) (l : List Int) : fil f l 0 = List.replicate l.length 0 := by simp [fil]
theorem fil_all (f : Int → Int) (l : List Int) : fil f l l.length = l.map f := by simp [fil]
theorem fil_two (f : Int → Int) {l : List Int} {k : Nat} {z : Int} (h : l[k]? = some z) : fil f l k = (l.take k).map f ++ 0 :: List.replicate (l.length - (k + 1)) 0 ∧ fil f l (k + 1) = (l.take k).map f ++ f z :: List.replicate (l.length - (k + 1)) 0 := by
  obtain ⟨hk, hz⟩ := List.getElem?_eq_some_iff.1 h
  refine ⟨?_, ?_⟩
  · unfold fil
    rw [show l.length - k = (l.length - (k + 1)) + 1 by omega, List.replicate_succ]
  · unfold fil
    rw [List.take_add_one, h]
    simp
theorem fil_put {f : Int → Int} {l : List Int} {k : Nat} {z : Int} (h : l[k]? = some z) : fil f l (k + 1) = (fil f l k).set k (f z) := by
  obtain ⟨h1, h2⟩ := fil_two f h
  have hk := (List.getElem?_eq_some_iff.1 h).1
  rw [h1, h2, List.set_append_right _ _ (by simp; omega)]
  simp only [List.length_map, List.length_take]
  rw [show min k l.length = k by omega, Nat.sub_self]
  rfl
theorem fil_no {f : Int → Int} {l : List Int} {k : Nat} {z : Int} (h : l[k]? = some z) (hf : f z = 0) : fil f l (k + 1) = fil f l k := by
  obtain ⟨h1, h2⟩ := fil_two f h
  rw [h1, h2, hf]
theorem fil_get {f : Int → Int} {l : List Int} {k : Nat} {z : Int} (h : l[k]? = some z) : (fil f l k)[k]? = some 0 := by
  obtain ⟨h1, h2⟩ := fil_two f h
  have hk := (List.getElem?_eq_some_iff.1 h).1
  rw [h1, List.getElem?_append_right (by simp; omega)]
  simp only [List.length_map, List.length_take]
  rw [show min k l.length = k by omega, Nat.sub_self]
  rfl

def LvSays (w : World) (m : Mp) (pg : Int) (e : Ending) (w' : World) : Prop :=
  ∃ (x1 : Option Addr) (n1 c1 : Nat) (x2 : Option Addr) (n2 c2 : Nat), e = .returned (.tuple #[.slice x1 n1 c1, .slice x2 n2 c2, .int .i64 (upE m pg)]) ∧ Hid (Below w.heap.size w w' ∧ Nu w' x1 n1 c1 ((actL m pg).map (lf m.osds)) ∧ Nu w' x2 n2 c2 ((actL m pg).map (bo m.osds)))

set_option maxHeartbeats 1600000 in
theorem lives_no {w : World} {x : Option Addr} {n c : Nat} (m : Mp) (h : At.Os w x n c m.osds) (hk : m.pool.k ≤ 9223372036854775807) (pg : Int) (h1 : upE m pg = 1) (h2 : upL m pg = []) :
    Calls Tryz.prog 14 #[vM m.ep m.pool x n c, .int .i64 pg] w fun e w' => e = .returned (.tuple #[.slice none 0 0, .slice none 0 0, .int .i64 1]) ∧ Below w.heap.size w w' := by
  obtain ⟨w0, hw0⟩ : ∃ w0, w0 = w.alloc (.cells #[.int .i64 m.ep, .int .i64 m.pool.k, .int .i64 m.pool.m, .int .i64 m.pool.pgs, .int .i64 m.pool.dom, .slice x n c] 31) := ⟨_, rfl⟩
  have b0 : Below w.heap.size w w0 := by rw [hw0]; exact al _ _
  have cA := acting_any m (h.below b0) hk pg
  unfold UpSays at cA
  rw [h1] at cA
  have HB := hid b0
  have HW := hid hw0
  rw [hw0] at cA
  unfold vM at cA ⊢
  clear h b0 hw0 hk h1 h2
  go_enter Tryz.func14, Tryz.ntmps14
  go_wp2_with (go_at_call 13; refine cA.mono ?_; rintro e w1 ⟨x1, n1, c1, rfl, H1⟩; clear cA; rw [← HW.out] at H1)
  go_ret3
  exact ⟨rfl, on HB.out H1.out.1⟩

set_option maxHeartbeats 6400000 in
theorem lives_yes {w : World} {x : Option Addr} {n c : Nat} (m : Mp) (h : At.Os w x n c m.osds) (hk : m.pool.k ≤ 9223372036854775807) (pg : Int) (h1 : upE m pg = 0) :
    Calls Tryz.prog 14 #[vM m.ep m.pool x n c, .int .i64 pg] w fun e w' => ∃ (x1 : Option Addr) (n1 c1 : Nat) (x2 : Option Addr) (n2 c2 : Nat), e = .returned (.tuple #[.slice x1 n1 c1, .slice x2 n2 c2, .int .i64 0]) ∧ Hid (Below w.heap.size w w' ∧ Nu w' x1 n1 c1 ((actL m pg).map (lf m.osds)) ∧ Nu w' x2 n2 c2 ((actL m pg).map (bo m.osds))) := by
  obtain ⟨w0, hw0⟩ : ∃ w0, w0 = w.alloc (.cells #[.int .i64 m.ep, .int .i64 m.pool.k, .int .i64 m.pool.m, .int .i64 m.pool.pgs, .int .i64 m.pool.dom, .slice x n c] 31) := ⟨_, rfl⟩
  have b0 : Below w.heap.size w w0 := by rw [hw0]; exact al _ _
  have q0 : w0.cell? ⟨w.heap.size, 0, none⟩ = some (.int .i64 m.ep) := by rw [hw0]; go_simp
  have q1 : w0.cell? ⟨w.heap.size, 1, none⟩ = some (.int .i64 m.pool.k) := by rw [hw0]; go_simp
  have q2 : w0.cell? ⟨w.heap.size, 2, none⟩ = some (.int .i64 m.pool.m) := by rw [hw0]; go_simp
  have q3 : w0.cell? ⟨w.heap.size, 3, none⟩ = some (.int .i64 m.pool.pgs) := by rw [hw0]; go_simp
  have q4 : w0.cell? ⟨w.heap.size, 4, none⟩ = some (.int .i64 m.pool.dom) := by rw [hw0]; go_simp
  have q5 : w0.cell? ⟨w.heap.size, 5, none⟩ = some (.slice x n c) := by rw [hw0]; go_simp
  have HQ : Hid (∀ W, Below w0.heap.size w0 W → W.cell? ⟨w.heap.size, 0, none⟩ = some (.int .i64 m.ep) ∧ W.cell? ⟨w.heap.size, 1, none⟩ = some (.int .i64 m.pool.k) ∧ W.cell? ⟨w.heap.size, 2, none⟩ = some (.int .i64 m.pool.m) ∧ W.cell? ⟨w.heap.size, 3, none⟩ = some (.int .i64 m.pool.pgs) ∧ W.cell? ⟨w.heap.size, 4, none⟩ = some (.int .i64 m.pool.dom) ∧ W.cell? ⟨w.heap.size, 5, none⟩ = some (.slice x n c)) := fun W hb => ⟨keep hb q0, keep hb q1, keep hb q2, keep hb q3, keep hb q4, keep hb q5⟩
  have cA := acting_any m (h.below b0) hk pg
  have HF : Hid (∀ (id : Int) (W : World), Below w0.heap.size w0 W → Calls Tryz.prog 30 #[vM m.ep m.pool x n c, .int .i64 id] W fun e w' => e = .returned (.tuple #[vO (findP m.osds id).1, .bool (findP m.osds id).2]) ∧ Below W.heap.size W w') := fun id W hb => find_any m id (h.below (on b0 hb))
  have HB := hid b0
  have HW := hid hw0
  have hln := upL_len m pg
  rw [← actL_len] at hln
  unfold UpSays at cA
  rw [h1, hw0] at cA
  unfold vM at cA HF ⊢
  clear h b0 hw0 q0 q1 q2 q3 q4 q5 hk h1
  generalize actL m pg = LA at *
  go_enter Tryz.func14, Tryz.ntmps14
  go_wp2_with (go_at_call 13; refine cA.mono ?_; rintro e w1 ⟨x1, n1, c1, rfl, H1⟩; clear cA; rw [← HW.out] at H1)
  have hn1 := form_slice H1.out.2
  have hn32 : n1 ≤ 32 := by omega
  have HLn := hid hn1
  clear hn1 hln
  have hmk : ∀ W : World, (Instr.makeSlice 33 (.int .i64 (n1 : Int)) (.int .i64 (n1 : Int))).run Tryz.prog W = .ok (.slice (some ⟨W.heap.size, 0, none⟩) n1 n1) (W.alloc (.cells ((List.replicate n1 (0 : Int)).map fun v => Value.int .i64 v).toArray 3)) := fun W => Cr.run_make_ns W 33 3 Tryz.underlying33 (by kernel_rfl) n1 (by omega)
  obtain ⟨Z, hZ⟩ : ∃ Z : Obj, Z = .cells ((List.replicate n1 (0 : Int)).map fun v => Value.int .i64 v).toArray 3 := ⟨_, rfl⟩
  have HZo : Hid (∀ (W : World) (B : Nat), B ≤ W.heap.size → Own (W.alloc Z) B 3 1 enI (.slice (some ⟨W.heap.size, 0, none⟩) n1 n1) (List.replicate n1 (0 : Int))) := fun W B hB => by rw [hZ]; exact own_zeros W hB n1 (by omega)
  rw [← hZ] at hmk
  clear hZ
  go_cut [4, 5] (fun s4 s5 wc => ∃ ga gb : Nat, s4 = .slice (some ⟨ga, 0, none⟩) n1 n1 ∧ s5 = .slice (some ⟨gb, 0, none⟩) n1 n1 ∧ Hid (Below w1.heap.size w1 wc ∧ Own wc w1.heap.size 3 1 enI (.slice (some ⟨ga, 0, none⟩) n1 n1) (List.replicate n1 (0 : Int)) ∧ Own wc w1.heap.size 3 1 enI (.slice (some ⟨gb, 0, none⟩) n1 n1) (List.replicate n1 (0 : Int)) ∧ ga ≠ gb))
  case first =>
    have bD : Below w1.heap.size w1 w1.drew := (Below.refl _ _).drew
    have HBD := hid bD
    clear bD
    refine wp_region_held_drew (S := fun _ => True) (by kernel_rfl) trivial (fun hHeld => ?_)
    generalize w1.drew = wD at *
    have s1 : (wD.alloc Z).heap.size = wD.heap.size + 1 := by simp
    have HE : Hid (Below w1.heap.size w1 ((wD.alloc Z).alloc Z) ∧ Own ((wD.alloc Z).alloc Z) w1.heap.size 3 1 enI (.slice (some ⟨wD.heap.size, 0, none⟩) n1 n1) (List.replicate n1 (0 : Int)) ∧ Own ((wD.alloc Z).alloc Z) w1.heap.size 3 1 enI (.slice (some ⟨wD.heap.size + 1, 0, none⟩) n1 n1) (List.replicate n1 (0 : Int))) := by
      have z1 := HZo.out wD w1.heap.size HBD.out.size
      have z2 := HZo.out (wD.alloc Z) w1.heap.size (by have := HBD.out.size; omega)
      rw [s1] at z2
      exact ⟨on HBD.out (on (al _ _) (al _ _)), z1.below (al _ _), z2⟩
    refine By.hk 0 ?_
    refine By.hk 1 ?_
    refine By.hk 3 ?_
    refine By.hk 4 ?_
    refine wpAnyH_ready (rs := [2, 5]) (by kernel_rfl) (by simp) ?_
    refine AllReadyH.cons rfl (fun K hK => ?_) (AllReadyH.cons rfl (fun K hK => ?_) AllReadyH.nil)
    · go_simp
      refine hK.out _ _ trivial (fun hHeld => ?_)
      clear hK K
      refine By.hk 6 ?_
      refine wpAnyH_ready (rs := [5]) (by kernel_rfl) (by simp) ?_
      refine AllReadyH.cons rfl (fun K hK => ?_) AllReadyH.nil
      go_simp
      refine hK.out _ _ trivial (fun hHeld => ?_)
      clear hK K
      refine By.hk 7 ?_
      refine wpAnyH_done (by kernel_rfl) ?_ _
      go_wp2_with fail
      go_meet
      case rel => exact ⟨_, _, rfl, rfl, HE.out.1, HE.out.2.1, HE.out.2.2, by omega⟩
    · go_simp
      refine hK.out _ _ trivial (fun hHeld => ?_)
      clear hK K
      refine wpAnyH_ready (rs := [2]) (by kernel_rfl) (by simp) ?_
      refine AllReadyH.cons rfl (fun K hK => ?_) AllReadyH.nil
      go_simp
      refine hK.out _ _ trivial (fun hHeld => ?_)
      clear hK K
      refine By.hk 6 ?_
      refine By.hk 7 ?_
      refine wpAnyH_done (by kernel_rfl) ?_ _
      go_wp2_with fail
      go_meet
      case rel => exact ⟨_, _, rfl, rfl, HE.out.1, HE.out.2.2, HE.out.2.1, by omega⟩
  case rest =>
    obtain ⟨ga, gb, rfl, rfl, HC⟩ := hcut
    clear hmk HZo
    have H0 : Hid (Below w1.heap.size w1 wc ∧ Own wc w1.heap.size 3 1 enI (.slice (some ⟨ga, 0, none⟩) n1 n1) (fil (lf m.osds) LA 0) ∧ Own wc w1.heap.size 3 1 enI (.slice (some ⟨gb, 0, none⟩) n1 n1) (fil (bo m.osds) LA 0)) := by
      rw [fil_zero, fil_zero, HLn.out]
      exact ⟨HC.out.1, HC.out.2.1, HC.out.2.2.1⟩
    have hab := HC.out.2.2.2
    clear HC
    go_wp2_with fail
    go_loopw [30] (fun i wr => ∃ k : Nat, k ≤ n1 ∧ i = .int .i64 k ∧ Hid (Below w1.heap.size w1 wr ∧ Own wr w1.heap.size 3 1 enI (.slice (some ⟨ga, 0, none⟩) n1 n1) (fil (lf m.osds) LA k) ∧ Own wr w1.heap.size 3 1 enI (.slice (some ⟨gb, 0, none⟩) n1 n1) (fil (bo m.osds) LA k))) (fun i _ => n1 - (intOf i).toNat)
    case atStart => exact ⟨0, by omega, rfl, H0.out⟩
    case round =>
      clear H0
      obtain ⟨k, hk, rfl, HR⟩ := hrel
      by_cases hlt : k < n1
      · have hkn : (k : Int) < (n1 : Int) := by omega
        obtain ⟨z, hz⟩ : ∃ z, LA[k]? = some z := ⟨LA[k]'(by have := HLn.out; omega), List.getElem?_eq_getElem (by have := HLn.out; omega)⟩
        obtain ⟨i1, i2, i3⟩ := HR.out
        have o1 := H1.out.2.below i1
        obtain ⟨g, c6, e6, _, _, hg1, hg2⟩ := o1.there (fun e => by rw [e] at hz; simp at hz)
        injection e6 with e61 e62 e63
        subst e61
        have d0 := cell_own o1 hz
        have da := cell_own i2 (fil_get hz)
        have db := cell_own i3 (fil_get hz)
        have fa := i2.frozen (k := k)
        have fb := i3.frozen (k := k)
        have la := cell_lt' da
        have lb := cell_lt' db
        have cF := HF.out z wr (on H1.out.1 i1)
        obtain ⟨p0, p1, p2, p3, p4, p5⟩ := HQ.out wr (on H1.out.1 i1)
        have HZ := hid hz
        have HI := hid (And.intro i1 (And.intro i2 i3))
        clear i1 i2 i3 o1 hz e62 e63 HR hg1 hg2
        obtain ⟨ok, hok⟩ : ∃ ok, (findP m.osds z).2 = ok := ⟨_, rfl⟩
        obtain ⟨o, ho⟩ : ∃ o, (findP m.osds z).1 = o := ⟨_, rfl⟩
        rw [hok, ho] at cF
        have HLF : Hid (lf m.osds z = (if ok = true then o.life else 0) ∧ bo m.osds z = (if ok = true then o.boot else 0)) := by
          unfold lf bo
          rw [hok, ho]
          exact ⟨rfl, rfl⟩
        clear hok ho
        obtain ⟨m0, m1, m2, m3, m4, m5, m6, m7⟩ := o
        unfold vO at cF
        dsimp only at cF HLF
        cases ok with
        | false =>
          go_wp2_with (go_at_call 30; refine cF.mono ?_; rintro e w2 ⟨rfl, hb2⟩; clear cF)
          go_roundw
          case rel =>
            refine ⟨k + 1, by omega, by go_num, ?_⟩
            rw [fil_no HZ.out (HLF.out.1.trans rfl), fil_no HZ.out (HLF.out.2.trans rfl)]
            have b3 := on hb2 (al w2 (.cells #[.int .i64 m0, .bool m1, .bool m2, .int .i64 m3, .int .i64 m4, .int .i64 m5, .int .i64 m6, .int .i64 m7] 44))
            exact ⟨on HI.out.1 b3, HI.out.2.1.below b3, HI.out.2.2.below b3⟩
          case measure => simp [intOf]; omega
        | true =>
          go_wp2_with (go_at_call 30; refine cF.mono ?_; rintro e w2 ⟨rfl, hb2⟩; clear cF)
          obtain ⟨w3, hw3⟩ : ∃ w3, w3 = w2.alloc (.cells #[.int .i64 m0, .bool m1, .bool m2, .int .i64 m3, .int .i64 m4, .int .i64 m5, .int .i64 m6, .int .i64 m7] 44) := ⟨_, rfl⟩
          rw [← hw3]
          have b3 : Below wr.heap.size wr w3 := by rw [hw3]; exact on hb2 (al _ _)
          have u4 : w3.cell? ⟨w2.heap.size, 4, none⟩ = some (.int .i64 m4) := by rw [hw3]; go_simp
          have u5 : w3.cell? ⟨w2.heap.size, 5, none⟩ = some (.int .i64 m5) := by rw [hw3]; go_simp
          have bD : Below w3.heap.size w3 w3.drew := (Below.refl _ _).drew
          have b4 := on b3 bD
          have v4 := keep bD u4
          have v5 := keep bD u5
          have ea := keep b4 da
          have eb := keep b4 db
          have ga2 := keepf b4 la fa
          have gb2 := keepf b4 lb fb
          have z2 := hb2.size
          have na : w2.heap.size ≠ ga := by omega
          have nb : w2.heap.size ≠ gb := by omega
          have nba : gb ≠ ga := fun e => hab e.symm
          have HN : Hid (Below wr.heap.size wr w3.drew) := b4
          clear hw3 u4 u5 bD b3 b4 da db fa fb p0 p1 p2 p3 p4 p5 d0
          refine wp_region_held_drew (S := fun v => v.cell? ⟨w2.heap.size, 4, none⟩ = some (.int .i64 m4) ∧ v.cell? ⟨w2.heap.size, 5, none⟩ = some (.int .i64 m5)) (by kernel_rfl) ⟨v4, v5⟩ (fun hHeld => ?_)
          generalize w3.drew = wD at *
          have s1 : (wD.setCell ⟨ga, k, none⟩ (.int .i64 m4)).cell? ⟨w2.heap.size, 4, none⟩ = some (.int .i64 m4) ∧ (wD.setCell ⟨ga, k, none⟩ (.int .i64 m4)).cell? ⟨w2.heap.size, 5, none⟩ = some (.int .i64 m5) := ⟨cell_put v4 na, cell_put v5 na⟩
          have s2 : ((wD.setCell ⟨ga, k, none⟩ (.int .i64 m4)).setCell ⟨gb, k, none⟩ (.int .i64 m5)).cell? ⟨w2.heap.size, 4, none⟩ = some (.int .i64 m4) ∧ ((wD.setCell ⟨ga, k, none⟩ (.int .i64 m4)).setCell ⟨gb, k, none⟩ (.int .i64 m5)).cell? ⟨w2.heap.size, 5, none⟩ = some (.int .i64 m5) := ⟨cell_put s1.1 nb, cell_put s1.2 nb⟩
          have eb2 := cell_put (g := ga) (k := k) (v := .int .i64 m4) eb nba
          have gb3 := frz_put (g := ga) (k := k) (v := .int .i64 m4) (cell_lt' eb) gb2 nba
          refine By.hk 0 ?_
          refine By.hk 1 ?_
          refine By.hk 2 ?_
          refine By.hk 3 ?_
          refine By.hk 4 ?_
          refine By.hk 5 ?_
          refine By.hk 6 ?_
          refine By.hk 7 ?_
          refine By.hk 8 ?_
          refine wpAnyH_ready (rs := [9]) (by kernel_rfl) (by simp) ?_
          refine AllReadyH.cons rfl (fun K hK => ?_) AllReadyH.nil
          go_simp
          refine hK.out _ _ s1 (fun hHeld => ?_)
          clear hK K
          refine By.hk 10 ?_
          refine wpAnyH_ready (rs := [11]) (by kernel_rfl) (by simp) ?_
          refine AllReadyH.cons rfl (fun K hK => ?_) AllReadyH.nil
          go_simp
          refine hK.out _ _ s2 (fun hHeld => ?_)
          clear hK K
          refine wpAnyH_done (by kernel_rfl) ?_ _
          clear s1 s2 eb2 gb3 hHeld v4 v5 ea eb ga2 gb2
          go_wp2_with fail
          go_roundw
          case rel =>
            refine ⟨k + 1, by omega, by go_num, ?_⟩
            rw [fil_put HZ.out, fil_put HZ.out, HLF.out.1, HLF.out.2]
            have tw := two_set (HI.out.2.1.below HN.out) (HI.out.2.2.below HN.out) hab k m4 m5
            have hA := (HI.out.2.1.tb (g := ga) rfl).1
            have hB := (HI.out.2.2.tb (g := gb) rfl).1
            have bb := on HI.out.1 HN.out
            exact ⟨bb.trans (((turns_put (a := ga) (Turns.refl _ wD) k _).below (fun j e => by omega) bb.size).trans ((turns_put (a := gb) (Turns.refl _ _) k _).below (fun j e => by omega) (by simp; exact bb.size))), tw.1, tw.2⟩
          case measure => simp [intOf]; omega
      · have hk2 : k = n1 := by omega
        subst hk2
        go_wp2_with fail
        go_ret3
        obtain ⟨i1, i2, i3⟩ := HR.out
        rw [← HLn.out, fil_all] at i2 i3
        rw [HLn.out] at i2 i3
        exact ⟨_, _, _, _, _, _, rfl, on HB.out (on H1.out.1 i1), own_nu i2, own_nu i3⟩

theorem lives_any {w : World} {x : Option Addr} {n c : Nat} (m : Mp) (h : At.Os w x n c m.osds) (hk : m.pool.k ≤ 9223372036854775807) (pg : Int) :
    Calls Tryz.prog 14 #[vM m.ep m.pool x n c, .int .i64 pg] w fun e w' => LvSays w m pg e w' := by
  unfold LvSays
  rcases fine_or m pg with hf | ⟨h1, h2⟩
  · rw [hf.err]
    exact lives_yes m h hk pg hf.err
  · rw [h1]
    have e : actL m pg = [] := by unfold actL; rw [h2]; rfl
    rw [e]
    exact (lives_no m h hk pg h1 h2).mono fun e w' ⟨he, hb⟩ => ⟨none, 0, 0, none, 0, 0, he, hb, ⟨rfl, Nat.le_refl _, .inl rfl⟩, ⟨rfl, Nat.le_refl _, .inl rfl⟩⟩

end Go.Proofs.YtgfjmkjgagogpaaGreat.Pl

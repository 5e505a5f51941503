/-
  What a monitor refuses, and that it says why: 'mooringlaw12.PaxosRefuses' returns true and leaves its argument as it was.
  Conditions: none.
-/
import Derived.Test.YtdbahebhodoooaaRows
import Derived.WalkKit
import Derived.ProofKit
import Derived.OpenShut
import Derived.SizedLaws
import Derived.ShutString
import Derived.ChangeOld
import Derived.Below
import Derived.Test.YtdbahebhodoooaaJ01
import Derived.Test.YtdbahebhodoooaaJ20
namespace Go.Proofs.Ytdbahebhodoooaa.paxosRefuses
open Go.ChangeShapes Go.WideShapes Go.ChangeAt Go.RowKit By
open Px Fl Ba
set_option linter.unusedVariables false
set_option linter.unusedSimpArgs false
set_option maxRecDepth 100000

theorem own : ownKnob Try.prog.godebug = none := by kernel_rfl
theorem laidOut : laidOutB Try.prog = true := by kernel_rfl

theorem no_a (id n : Int) (v : Value) (w : World) (hc : n < 1) :
    Calls Try.prog 6 #[.int .i64 id, .int .i64 n, v] w fun e w' => e = .returned (.bool true) ∧ Below w.heap.size w w' := by
  have hN := new_no id n w (.inl hc)
  have hA := Px.awake_any w
  go_enter Try.func6, Try.ntmps6
  go_wp2_with (first
    | (
       go_at_call 21; refine hN.mono ?_; rintro e w1 ⟨rfl, hw⟩; subst w1; clear hN)
    | (
       go_at_call 13; refine hA.mono ?_; rintro e w2 ⟨rfl, hb2⟩; clear hA))
  go_ret
  exact ⟨rfl, hb2⟩

theorem no_b (id n : Int) (v : Value) (w : World) (h0 : ¬ n < 1) (hc : 7 < n) :
    Calls Try.prog 6 #[.int .i64 id, .int .i64 n, v] w fun e w' => e = .returned (.bool true) ∧ Below w.heap.size w w' := by
  have hN := new_no id n w (.inr (.inl hc))
  have hA := Px.awake_any w
  go_enter Try.func6, Try.ntmps6
  go_wp2_with (first
    | (
       go_at_call 21; refine hN.mono ?_; rintro e w1 ⟨rfl, hw⟩; subst w1; clear hN)
    | (
       go_at_call 13; refine hA.mono ?_; rintro e w2 ⟨rfl, hb2⟩; clear hA))
  go_ret
  exact ⟨rfl, hb2⟩

theorem no_c (id n : Int) (v : Value) (w : World) (h0 : ¬ n < 1) (h1 : ¬ 7 < n) (hc : id < 0) :
    Calls Try.prog 6 #[.int .i64 id, .int .i64 n, v] w fun e w' => e = .returned (.bool true) ∧ Below w.heap.size w w' := by
  have hN := new_no id n w (.inr (.inr (.inl hc)))
  have hA := Px.awake_any w
  go_enter Try.func6, Try.ntmps6
  go_wp2_with (first
    | (
       go_at_call 21; refine hN.mono ?_; rintro e w1 ⟨rfl, hw⟩; subst w1; clear hN)
    | (
       go_at_call 13; refine hA.mono ?_; rintro e w2 ⟨rfl, hb2⟩; clear hA))
  go_ret
  exact ⟨rfl, hb2⟩

theorem no_d (id n : Int) (v : Value) (w : World) (h0 : ¬ n < 1) (h1 : ¬ 7 < n) (h2 : ¬ id < 0) (hc : n ≤ id) :
    Calls Try.prog 6 #[.int .i64 id, .int .i64 n, v] w fun e w' => e = .returned (.bool true) ∧ Below w.heap.size w w' := by
  have hN := new_no id n w (.inr (.inr (.inr hc)))
  have hA := Px.awake_any w
  go_enter Try.func6, Try.ntmps6
  go_wp2_with (first
    | (
       go_at_call 21; refine hN.mono ?_; rintro e w1 ⟨rfl, hw⟩; subst w1; clear hN)
    | (
       go_at_call 13; refine hA.mono ?_; rintro e w2 ⟨rfl, hb2⟩; clear hA))
  go_ret
  exact ⟨rfl, hb2⟩

set_option maxHeartbeats 3200000 in
theorem yes_one (id n : Nat) (x : Option Addr) (len cap : Nat) (f : Nat → Nat) (w : World) (h : BytesIn w x len cap f) (h1 : 1 ≤ n) (h2 : n ≤ 7) (h3 : id < n) (hone : n = 1) :
    Calls Try.prog 6 #[.int .i64 id, .int .i64 n, .slice x len cap] w fun e w' => e = .returned (.bool true) ∧ Below w.heap.size w w' := by
  have hN := new_yes id n w h1 h2 h3
  have i1 : ¬ (n : Int) < 1 := by omega
  have i2 : ¬ 7 < (n : Int) := by omega
  have i3 : ¬ (id : Int) < 0 := by omega
  have i4 : ¬ (n : Int) ≤ (id : Int) := by omega
  have i5 : (id : Int) + 1 = ((id + 1 : Nat) : Int) := by omega
  have hT := fun W => at_any (id + 1) n h1 h2 (by omega) W
  have hS := Fl.Sl.of_in h
  have hlen : len ≤ 140737488351232 := Nat.le_trans h.le h.small
  have HS : Hid (Fl.Sl w x len cap ((List.range len).map f) ∧ len ≤ 140737488351232) := ⟨hS, hlen⟩
  have hmA : ∀ W : World, (Instr.makeSlice 35 (.int .i64 4097) (.int .i64 4097)).run Try.prog W = .ok (.slice (some ⟨W.heap.size, 0, none⟩) 4097 4097) (W.alloc (.cells (zeros 4097) 5)) := fun W => make_b 4097 (by omega) W
  have hmB : ∀ W : World, (Instr.makeSlice 35 (.int .i64 4096) (.int .i64 4096)).run Try.prog W = .ok (.slice (some ⟨W.heap.size, 0, none⟩) 4096 4096) (W.alloc (.cells (zeros 4096) 5)) := fun W => make_b 4096 (by omega) W
  obtain ⟨LZ, HmB⟩ : ∃ LZ, Hid (∀ W : World, Fl.Sl (W.alloc (.cells (zeros 4096) 5)) (some ⟨W.heap.size, 0, none⟩) 4096 4096 LZ) := ⟨_, fun W => made_sl 4096 W⟩
  have HI : Hid (1 ≤ n ∧ n ≤ 7 ∧ id < n) := ⟨h1, h2, h3⟩
  have hpne : ∀ (W : World) (b : Nat), (binOp .eql 40 (.pointer (some ⟨b, 0, none⟩)) (.pointer none)).run Try.prog W = .ok (.bool false) W := fun _ _ => by kernel_rfl
  have hn1' : ¬ 1 < (n : Int) := by omega
  have Hone : Hid (n = 1) := hone
  clear hone
  clear h hS hlen
  generalize zeros 4097 = ZA at *
  generalize zeros 4096 = ZB at *
  obtain ⟨q, hq⟩ : ∃ q, q = id + 1 := ⟨_, rfl⟩
  obtain ⟨m, hm⟩ : ∃ m, m = (id + 1) % n := ⟨_, rfl⟩
  rw [← hm] at hT
  rw [← hq] at hT i5
  have Hm : Hid (m = (id + 1) % n) := hm
  clear hm hq
  go_enter Try.func6, Try.ntmps6
  go_wp2_with (first
    | (
       go_at_call 21; refine hN.mono ?_; rintro e w1 ⟨rfl, H1⟩; clear hN
       obtain ⟨g, hgp, hNd, hgn⟩ := H1.out.2
       have R1 := recv_self hNd (id : Int) i3 (by exact i4) (by show ((id : Int) == (id : Int)) = true; simp) (.slice x len cap)
       have R2 := recv_neg hNd (-1) (by omega) (.slice x len cap)
       have R3 := recv_big hNd (n : Int) (by omega) (by exact Int.le_refl _) (.slice x len cap)
       have hmid : m = id := by have := Hm.out; have := HI.out; have := Hone.out; subst this; omega
       have R4 := recv_self hNd (m : Int) (by omega) (by rw [hmid]; exact i4) (by show ((m : Int) == (id : Int)) = true; rw [hmid]; simp) (.slice x len cap)
       clear hmid
       rw [hgp] at R1 R2 R3 R4
       have HN1 : Hid (NdAt w1 w.heap.size g (fresh id n) ∧ g.p = w.heap.size + 1 ∧ gnb g = 0) := ⟨hNd, hgp, hgn⟩
       clear hNd hgp hgn)
    | (
       go_at_call 22; refine R1.mono ?_; rintro e w2 ⟨rfl, hw⟩; subst w2; clear R1)
    | (
       go_at_call 22; refine R2.mono ?_; rintro e w2 ⟨rfl, hw⟩; subst w2; clear R2)
    | (
       go_at_call 22; refine R3.mono ?_; rintro e w2 ⟨rfl, hw⟩; subst w2; clear R3)
    | (
       go_at_call 9; refine (hT _).mono ?_; rintro e w2 ⟨rfl, hw⟩; subst w2; clear hT)
    | (
       go_at_call 22; refine R4.mono ?_; rintro e w2 ⟨rfl, hw⟩; clear R4
       have H2 : Below w1.heap.size w1 w2 := by rw [hw]; exact Below.refl _ _
       clear hw
       have tG : Turns (fp g) w1 w2 := Turns.of_below H2
       have hNd1 := HN1.out.1
       have hN2 := hNd1.below H2
       have hp2 := HN1.out.2.1
       obtain ⟨g2, hg2⟩ : ∃ g2, g2 = g := ⟨_, rfl⟩
       obtain ⟨st2, hst2⟩ : ∃ st2, st2 = fresh id n := ⟨_, rfl⟩
       have hI2 : Idle (fresh id n) st2 := by rw [hst2]; exact ⟨rfl, rfl, rfl, rfl, rfl⟩
       rw [← hg2] at hN2 hp2
       rw [← hst2] at hN2
       clear hg2
       have HB2 : Hid (Below w.heap.size w w2) := H1.out.1.trans (tG.below hNd1.low H1.out.1.size)
       have hL := len_any hN2
       have hP1 := fun (W : World) (bb : Below w2.heap.size w2 W) (y : Option Addr) => prop_long (hN2.below bb) y 4097 4097 (by omega)
       rw [hp2] at hL hP1
       have HN2 : Hid (NdAt w2 w.heap.size g2 st2 ∧ g2.p = w.heap.size + 1 ∧ Idle (fresh id n) st2) := ⟨hN2, hp2, hI2⟩
       have hlz : Hid (st2.dec.length = st2.dec.length) := rfl
       clear hL
       clear hN2 hp2 hI2 tG hNd1)
    | (
       go_at_call 12; refine hL.mono ?_; rintro e w3 ⟨rfl, hw⟩; subst w3; clear hL)
    | (
       go_at_call 16; refine (hP1 _ (al _ _) _).mono ?_; rintro e w3 ⟨rfl, hw⟩; subst w3; clear hP1
       have b3 := al w2 (.cells ZA 5)
       have b4 := on b3 (al (w2.alloc (.cells ZA 5)) (.cells ZB 5))
       have hN4 := HN2.out.1.below b4
       have hP2 := prop_yes hN4 _ 4096 4096 _ (HmB.out (w2.alloc (.cells ZA 5))) (fun _ a ha hf => by
         injection ha with ha
         rw [← ha] at hf
         have := (HN2.out.1.u8 _ hf).1
         have h9 := b3.size
         dsimp only at this
         omega) (by omega) (by rw [HN2.out.2.2.wait]; show 0 < 256; omega) (by rw [HN2.out.2.2.ser]; show 0 < _; omega) (by rw [HN2.out.2.2.id]; show id < 7; have := HI.out; omega)
       rw [HN2.out.2.1] at hP2
       have hsz : (w2.alloc (.cells ZA 5)).heap.size = w2.heap.size + 1 := by simp
       rw [hsz] at hP2
       clear hsz
       have HB4 : Hid (Below w.heap.size w ((w2.alloc (.cells ZA 5)).alloc (.cells ZB 5)) ∧ w.heap.size ≤ ((w2.alloc (.cells ZA 5)).alloc (.cells ZB 5)).heap.size) := ⟨HB2.out.trans (b4.mono HB2.out.size), (HB2.out.trans (b4.mono HB2.out.size)).size⟩
       clear b3 b4 hN4)
    | (
       go_at_call 16; refine hP2.mono ?_; rintro e w5 ⟨rfl, H5⟩; clear hP2
       obtain ⟨g5, p5, n5, t5, _, _⟩ := H5.out
       have hPe := pending_any n5
       have e5 : (proposed st2 (str LZ)).wait.length = 1 := by
         unfold proposed
         simp only [HN2.out.2.2.wait]
         rfl
       rw [e5] at hPe
       rw [p5.trans HN2.out.2.1] at hPe
       have HB5 : Hid (Below w.heap.size w w5) := HB4.out.1.trans (t5.below HN2.out.1.low HB4.out.2)
       clear n5 t5 p5 e5)
    | (
       go_at_call 14; refine hPe.mono ?_; rintro e w6 ⟨rfl, hw⟩; subst w6; clear hPe
       have hA := Px.awake_any w5)
    | (
       go_at_call 13; refine hA.mono ?_; rintro e w7 ⟨rfl, hb7⟩; clear hA))
  go_ret
  exact ⟨rfl, HB5.out.trans (hb7.mono HB5.out.size)⟩

set_option maxHeartbeats 3200000 in
theorem yes_text (id n : Nat) (x : Option Addr) (len cap : Nat) (f : Nat → Nat) (w : World) (h : BytesIn w x len cap f) (h1 : 1 ≤ n) (h2 : n ≤ 7) (h3 : id < n) (hmore : 1 < n) (hd : decM n ((id + 1) % n) ((List.range len).map f) = none) :
    Calls Try.prog 6 #[.int .i64 id, .int .i64 n, .slice x len cap] w fun e w' => e = .returned (.bool true) ∧ Below w.heap.size w w' := by
  have hN := new_yes id n w h1 h2 h3
  have i1 : ¬ (n : Int) < 1 := by omega
  have i2 : ¬ 7 < (n : Int) := by omega
  have i3 : ¬ (id : Int) < 0 := by omega
  have i4 : ¬ (n : Int) ≤ (id : Int) := by omega
  have i5 : (id : Int) + 1 = ((id + 1 : Nat) : Int) := by omega
  have hT := fun W => at_any (id + 1) n h1 h2 (by omega) W
  have hS := Fl.Sl.of_in h
  have hlen : len ≤ 140737488351232 := Nat.le_trans h.le h.small
  have HS : Hid (Fl.Sl w x len cap ((List.range len).map f) ∧ len ≤ 140737488351232) := ⟨hS, hlen⟩
  have hmA : ∀ W : World, (Instr.makeSlice 35 (.int .i64 4097) (.int .i64 4097)).run Try.prog W = .ok (.slice (some ⟨W.heap.size, 0, none⟩) 4097 4097) (W.alloc (.cells (zeros 4097) 5)) := fun W => make_b 4097 (by omega) W
  have hmB : ∀ W : World, (Instr.makeSlice 35 (.int .i64 4096) (.int .i64 4096)).run Try.prog W = .ok (.slice (some ⟨W.heap.size, 0, none⟩) 4096 4096) (W.alloc (.cells (zeros 4096) 5)) := fun W => make_b 4096 (by omega) W
  obtain ⟨LZ, HmB⟩ : ∃ LZ, Hid (∀ W : World, Fl.Sl (W.alloc (.cells (zeros 4096) 5)) (some ⟨W.heap.size, 0, none⟩) 4096 4096 LZ) := ⟨_, fun W => made_sl 4096 W⟩
  have HI : Hid (1 ≤ n ∧ n ≤ 7 ∧ id < n) := ⟨h1, h2, h3⟩
  have hpne : ∀ (W : World) (b : Nat), (binOp .eql 40 (.pointer (some ⟨b, 0, none⟩)) (.pointer none)).run Try.prog W = .ok (.bool false) W := fun _ _ => by kernel_rfl
  have hn1' : 1 < (n : Int) := by omega
  have Hmore : Hid (1 < n) := hmore
  have Hd : Hid (decM n ((id + 1) % n) ((List.range len).map f) = none) := hd
  clear hmore hd
  clear h hS hlen
  generalize zeros 4097 = ZA at *
  generalize zeros 4096 = ZB at *
  obtain ⟨q, hq⟩ : ∃ q, q = id + 1 := ⟨_, rfl⟩
  obtain ⟨m, hm⟩ : ∃ m, m = (id + 1) % n := ⟨_, rfl⟩
  rw [← hm] at hT
  rw [← hq] at hT i5
  have Hm : Hid (m = (id + 1) % n) := hm
  clear hm hq
  go_enter Try.func6, Try.ntmps6
  go_wp2_with (first
    | (
       go_at_call 21; refine hN.mono ?_; rintro e w1 ⟨rfl, H1⟩; clear hN
       obtain ⟨g, hgp, hNd, hgn⟩ := H1.out.2
       have R1 := recv_self hNd (id : Int) i3 (by exact i4) (by show ((id : Int) == (id : Int)) = true; simp) (.slice x len cap)
       have R2 := recv_neg hNd (-1) (by omega) (.slice x len cap)
       have R3 := recv_big hNd (n : Int) (by omega) (by exact Int.le_refl _) (.slice x len cap)
       have hml : m < n := by rw [Hm.out]; exact Nat.mod_lt _ (by have := HI.out; omega)
       have hmi : ((m : Int) == (id : Int)) = false := by
         have e := Hm.out
         have k1 := HI.out
         have k2 := Hmore.out
         simp only [beq_eq_false_iff_ne, ne_eq]
         intro e2
         have e3 : m = id := by omega
         by_cases hw : id + 1 < n
         · rw [Nat.mod_eq_of_lt hw] at e
           omega
         · have : id + 1 = n := by omega
           rw [this, Nat.mod_self] at e
           omega
       have R4 := recv_text hNd m h2 (by omega) (by show ¬ (n : Int) ≤ (m : Int); omega) hmi x len cap _ (HS.out.1.below H1.out.1) HS.out.2 (by rw [Hm.out]; exact Hd.out)
       clear hml hmi
       rw [hgp] at R1 R2 R3 R4
       have HN1 : Hid (NdAt w1 w.heap.size g (fresh id n) ∧ g.p = w.heap.size + 1 ∧ gnb g = 0) := ⟨hNd, hgp, hgn⟩
       clear hNd hgp hgn)
    | (
       go_at_call 22; refine R1.mono ?_; rintro e w2 ⟨rfl, hw⟩; subst w2; clear R1)
    | (
       go_at_call 22; refine R2.mono ?_; rintro e w2 ⟨rfl, hw⟩; subst w2; clear R2)
    | (
       go_at_call 22; refine R3.mono ?_; rintro e w2 ⟨rfl, hw⟩; subst w2; clear R3)
    | (
       go_at_call 9; refine (hT _).mono ?_; rintro e w2 ⟨rfl, hw⟩; subst w2; clear hT)
    | (
       go_at_call 22; refine R4.mono ?_; rintro e w2 ⟨rfl, H2'⟩; clear R4
       have H2 : Below w1.heap.size w1 w2 := H2'.out
       have tG : Turns (fp g) w1 w2 := Turns.of_below H2
       have hNd1 := HN1.out.1
       have hN2 := hNd1.below H2
       have hp2 := HN1.out.2.1
       obtain ⟨g2, hg2⟩ : ∃ g2, g2 = g := ⟨_, rfl⟩
       obtain ⟨st2, hst2⟩ : ∃ st2, st2 = fresh id n := ⟨_, rfl⟩
       have hI2 : Idle (fresh id n) st2 := by rw [hst2]; exact ⟨rfl, rfl, rfl, rfl, rfl⟩
       rw [← hg2] at hN2 hp2
       rw [← hst2] at hN2
       clear hg2
       have HB2 : Hid (Below w.heap.size w w2) := H1.out.1.trans (tG.below hNd1.low H1.out.1.size)
       have hL := len_any hN2
       have hP1 := fun (W : World) (bb : Below w2.heap.size w2 W) (y : Option Addr) => prop_long (hN2.below bb) y 4097 4097 (by omega)
       rw [hp2] at hL hP1
       have HN2 : Hid (NdAt w2 w.heap.size g2 st2 ∧ g2.p = w.heap.size + 1 ∧ Idle (fresh id n) st2) := ⟨hN2, hp2, hI2⟩
       have hlz : Hid (st2.dec.length = st2.dec.length) := rfl
       rw [hst2] at hL; dsimp only [fresh, List.length_nil] at hL
       clear hN2 hp2 hI2 tG hNd1)
    | (
       go_at_call 12; refine hL.mono ?_; rintro e w3 ⟨rfl, hw⟩; subst w3; clear hL)
    | (
       go_at_call 16; refine (hP1 _ (al _ _) _).mono ?_; rintro e w3 ⟨rfl, hw⟩; subst w3; clear hP1
       have b3 := al w2 (.cells ZA 5)
       have b4 := on b3 (al (w2.alloc (.cells ZA 5)) (.cells ZB 5))
       have hN4 := HN2.out.1.below b4
       have hP2 := prop_yes hN4 _ 4096 4096 _ (HmB.out (w2.alloc (.cells ZA 5))) (fun _ a ha hf => by
         injection ha with ha
         rw [← ha] at hf
         have := (HN2.out.1.u8 _ hf).1
         have h9 := b3.size
         dsimp only at this
         omega) (by omega) (by rw [HN2.out.2.2.wait]; show 0 < 256; omega) (by rw [HN2.out.2.2.ser]; show 0 < _; omega) (by rw [HN2.out.2.2.id]; show id < 7; have := HI.out; omega)
       rw [HN2.out.2.1] at hP2
       have hsz : (w2.alloc (.cells ZA 5)).heap.size = w2.heap.size + 1 := by simp
       rw [hsz] at hP2
       clear hsz
       have HB4 : Hid (Below w.heap.size w ((w2.alloc (.cells ZA 5)).alloc (.cells ZB 5)) ∧ w.heap.size ≤ ((w2.alloc (.cells ZA 5)).alloc (.cells ZB 5)).heap.size) := ⟨HB2.out.trans (b4.mono HB2.out.size), (HB2.out.trans (b4.mono HB2.out.size)).size⟩
       clear b3 b4 hN4)
    | (
       go_at_call 16; refine hP2.mono ?_; rintro e w5 ⟨rfl, H5⟩; clear hP2
       obtain ⟨g5, p5, n5, t5, _, _⟩ := H5.out
       have hPe := pending_any n5
       have e5 : (proposed st2 (str LZ)).wait.length = 1 := by
         unfold proposed
         simp only [HN2.out.2.2.wait]
         rfl
       rw [e5] at hPe
       rw [p5.trans HN2.out.2.1] at hPe
       have HB5 : Hid (Below w.heap.size w w5) := HB4.out.1.trans (t5.below HN2.out.1.low HB4.out.2)
       clear n5 t5 p5 e5)
    | (
       go_at_call 14; refine hPe.mono ?_; rintro e w6 ⟨rfl, hw⟩; subst w6; clear hPe
       have hA := Px.awake_any w5)
    | (
       go_at_call 13; refine hA.mono ?_; rintro e w7 ⟨rfl, hb7⟩; clear hA))
  go_ret
  exact ⟨rfl, HB5.out.trans (hb7.mono HB5.out.size)⟩

set_option maxHeartbeats 3200000 in
theorem yes_ok (id n : Nat) (x : Option Addr) (len cap : Nat) (f : Nat → Nat) (w : World) (h : BytesIn w x len cap f) (h1 : 1 ≤ n) (h2 : n ≤ 7) (h3 : id < n) (hmore : 1 < n) (M : Ms) (hd : decM n ((id + 1) % n) ((List.range len).map f) = some M) :
    Calls Try.prog 6 #[.int .i64 id, .int .i64 n, .slice x len cap] w fun e w' => e = .returned (.bool true) ∧ Below w.heap.size w w' := by
  have hN := new_yes id n w h1 h2 h3
  have i1 : ¬ (n : Int) < 1 := by omega
  have i2 : ¬ 7 < (n : Int) := by omega
  have i3 : ¬ (id : Int) < 0 := by omega
  have i4 : ¬ (n : Int) ≤ (id : Int) := by omega
  have i5 : (id : Int) + 1 = ((id + 1 : Nat) : Int) := by omega
  have hT := fun W => at_any (id + 1) n h1 h2 (by omega) W
  have hS := Fl.Sl.of_in h
  have hlen : len ≤ 140737488351232 := Nat.le_trans h.le h.small
  have HS : Hid (Fl.Sl w x len cap ((List.range len).map f) ∧ len ≤ 140737488351232) := ⟨hS, hlen⟩
  have hmA : ∀ W : World, (Instr.makeSlice 35 (.int .i64 4097) (.int .i64 4097)).run Try.prog W = .ok (.slice (some ⟨W.heap.size, 0, none⟩) 4097 4097) (W.alloc (.cells (zeros 4097) 5)) := fun W => make_b 4097 (by omega) W
  have hmB : ∀ W : World, (Instr.makeSlice 35 (.int .i64 4096) (.int .i64 4096)).run Try.prog W = .ok (.slice (some ⟨W.heap.size, 0, none⟩) 4096 4096) (W.alloc (.cells (zeros 4096) 5)) := fun W => make_b 4096 (by omega) W
  obtain ⟨LZ, HmB⟩ : ∃ LZ, Hid (∀ W : World, Fl.Sl (W.alloc (.cells (zeros 4096) 5)) (some ⟨W.heap.size, 0, none⟩) 4096 4096 LZ) := ⟨_, fun W => made_sl 4096 W⟩
  have HI : Hid (1 ≤ n ∧ n ≤ 7 ∧ id < n) := ⟨h1, h2, h3⟩
  have hpne : ∀ (W : World) (b : Nat), (binOp .eql 40 (.pointer (some ⟨b, 0, none⟩)) (.pointer none)).run Try.prog W = .ok (.bool false) W := fun _ _ => by kernel_rfl
  have hn1' : 1 < (n : Int) := by omega
  have Hmore : Hid (1 < n) := hmore
  have Hd : Hid (decM n ((id + 1) % n) ((List.range len).map f) = some M) := hd
  clear hmore hd
  clear h hS hlen
  generalize zeros 4097 = ZA at *
  generalize zeros 4096 = ZB at *
  obtain ⟨q, hq⟩ : ∃ q, q = id + 1 := ⟨_, rfl⟩
  obtain ⟨m, hm⟩ : ∃ m, m = (id + 1) % n := ⟨_, rfl⟩
  rw [← hm] at hT
  rw [← hq] at hT i5
  have Hm : Hid (m = (id + 1) % n) := hm
  clear hm hq
  go_enter Try.func6, Try.ntmps6
  go_wp2_with (first
    | (
       go_at_call 21; refine hN.mono ?_; rintro e w1 ⟨rfl, H1⟩; clear hN
       obtain ⟨g, hgp, hNd, hgn⟩ := H1.out.2
       have R1 := recv_self hNd (id : Int) i3 (by exact i4) (by show ((id : Int) == (id : Int)) = true; simp) (.slice x len cap)
       have R2 := recv_neg hNd (-1) (by omega) (.slice x len cap)
       have R3 := recv_big hNd (n : Int) (by omega) (by exact Int.le_refl _) (.slice x len cap)
       have hml : m < n := by rw [Hm.out]; exact Nat.mod_lt _ (by have := HI.out; omega)
       have hmi : ((m : Int) == (id : Int)) = false := by
         have e := Hm.out
         have k1 := HI.out
         have k2 := Hmore.out
         simp only [beq_eq_false_iff_ne, ne_eq]
         intro e2
         have e3 : m = id := by omega
         by_cases hw : id + 1 < n
         · rw [Nat.mod_eq_of_lt hw] at e
           omega
         · have : id + 1 = n := by omega
           rw [this, Nat.mod_self] at e
           omega
       have R4 : Calls Try.prog 22 #[.pointer (some ⟨g.p, 0, none⟩), .int .i64 m, .slice x len cap] w1 fun e w' => ∃ z m cz, e = .returned (.tuple #[.slice z m cz, .int .i64 0]) ∧ Hid (∃ st', Goes w1 w' w.heap.size g st' 1 ∧ Idle (fresh id n) st') := recv_ok hNd ⟨rfl, fun _ => rfl, by show id < 7; have := HI.out; omega, rfl, rfl, by omega⟩ m h2 (by omega) (by show ¬ (n : Int) ≤ (m : Int); omega) hmi x len cap _ (HS.out.1.below H1.out.1) HS.out.2 M (by rw [Hm.out]; exact Hd.out)
       clear hml hmi
       rw [hgp] at R1 R2 R3 R4
       have HN1 : Hid (NdAt w1 w.heap.size g (fresh id n) ∧ g.p = w.heap.size + 1 ∧ gnb g = 0) := ⟨hNd, hgp, hgn⟩
       clear hNd hgp hgn)
    | (
       go_at_call 22; refine R1.mono ?_; rintro e w2 ⟨rfl, hw⟩; subst w2; clear R1)
    | (
       go_at_call 22; refine R2.mono ?_; rintro e w2 ⟨rfl, hw⟩; subst w2; clear R2)
    | (
       go_at_call 22; refine R3.mono ?_; rintro e w2 ⟨rfl, hw⟩; subst w2; clear R3)
    | (
       go_at_call 9; refine (hT _).mono ?_; rintro e w2 ⟨rfl, hw⟩; subst w2; clear hT)
    | (
       go_at_call 22; refine R4.mono ?_; rintro e w2 ⟨z2, l2, c2, rfl, H2⟩; clear R4
       obtain ⟨st2, ⟨g2, p2, hN2, tG, _, _⟩, hI2⟩ := H2.out
       have hNd1 := HN1.out.1
       have hp2 := p2.trans HN1.out.2.1
       clear p2
       have HB2 : Hid (Below w.heap.size w w2) := H1.out.1.trans (tG.below hNd1.low H1.out.1.size)
       have hL := len_any hN2
       have hP1 := fun (W : World) (bb : Below w2.heap.size w2 W) (y : Option Addr) => prop_long (hN2.below bb) y 4097 4097 (by omega)
       rw [hp2] at hL hP1
       have HN2 : Hid (NdAt w2 w.heap.size g2 st2 ∧ g2.p = w.heap.size + 1 ∧ Idle (fresh id n) st2) := ⟨hN2, hp2, hI2⟩
       have hlz : Hid (st2.dec.length = st2.dec.length) := rfl
       clear hL
       clear hN2 hp2 hI2 tG hNd1)
    | (
       go_at_call 12; refine hL.mono ?_; rintro e w3 ⟨rfl, hw⟩; subst w3; clear hL)
    | (
       go_at_call 16; refine (hP1 _ (al _ _) _).mono ?_; rintro e w3 ⟨rfl, hw⟩; subst w3; clear hP1
       have b3 := al w2 (.cells ZA 5)
       have b4 := on b3 (al (w2.alloc (.cells ZA 5)) (.cells ZB 5))
       have hN4 := HN2.out.1.below b4
       have hP2 := prop_yes hN4 _ 4096 4096 _ (HmB.out (w2.alloc (.cells ZA 5))) (fun _ a ha hf => by
         injection ha with ha
         rw [← ha] at hf
         have := (HN2.out.1.u8 _ hf).1
         have h9 := b3.size
         dsimp only at this
         omega) (by omega) (by rw [HN2.out.2.2.wait]; show 0 < 256; omega) (by rw [HN2.out.2.2.ser]; show 0 < _; omega) (by rw [HN2.out.2.2.id]; show id < 7; have := HI.out; omega)
       rw [HN2.out.2.1] at hP2
       have hsz : (w2.alloc (.cells ZA 5)).heap.size = w2.heap.size + 1 := by simp
       rw [hsz] at hP2
       clear hsz
       have HB4 : Hid (Below w.heap.size w ((w2.alloc (.cells ZA 5)).alloc (.cells ZB 5)) ∧ w.heap.size ≤ ((w2.alloc (.cells ZA 5)).alloc (.cells ZB 5)).heap.size) := ⟨HB2.out.trans (b4.mono HB2.out.size), (HB2.out.trans (b4.mono HB2.out.size)).size⟩
       clear b3 b4 hN4)
    | (
       go_at_call 16; refine hP2.mono ?_; rintro e w5 ⟨rfl, H5⟩; clear hP2
       obtain ⟨g5, p5, n5, t5, _, _⟩ := H5.out
       have hPe := pending_any n5
       have e5 : (proposed st2 (str LZ)).wait.length = 1 := by
         unfold proposed
         simp only [HN2.out.2.2.wait]
         rfl
       rw [e5] at hPe
       rw [p5.trans HN2.out.2.1] at hPe
       have HB5 : Hid (Below w.heap.size w w5) := HB4.out.1.trans (t5.below HN2.out.1.low HB4.out.2)
       clear n5 t5 p5 e5)
    | (
       go_at_call 14; refine hPe.mono ?_; rintro e w6 ⟨rfl, hw⟩; subst w6; clear hPe
       have hA := Px.awake_any w5)
    | (
       go_at_call 13; refine hA.mono ?_; rintro e w7 ⟨rfl, hb7⟩; clear hA))
  go_ret
  exact ⟨rfl, HB5.out.trans (hb7.mono HB5.out.size)⟩

theorem walk (id n : Int) (x : Option Addr) (len cap : Nat) (f : Nat → Nat) (w : World) (hi : (Lit.int .i64 id).wf = true) (hn : (Lit.int .i64 n).wf = true) (h : BytesIn w x len cap f) :
    Calls Try.prog 6 #[.int .i64 id, .int .i64 n, .slice x len cap] w fun e w' => e = .returned (.bool true) ∧ Below w.heap.size w w' := by
  by_cases h0 : n < 1
  · exact no_a id n _ w h0
  · by_cases h1 : 7 < n
    · exact no_b id n _ w h0 h1
    · by_cases h2 : id < 0
      · exact no_c id n _ w h0 h1 h2
      · by_cases h3 : n ≤ id
        · exact no_d id n _ w h0 h1 h2 h3
        · obtain ⟨a, rfl⟩ : ∃ a : Nat, id = (a : Int) := ⟨id.toNat, by omega⟩
          obtain ⟨k, rfl⟩ : ∃ k : Nat, n = (k : Int) := ⟨n.toNat, by omega⟩
          by_cases h4 : k = 1
          · exact yes_one a k x len cap f w h (by omega) (by omega) (by omega) h4
          · cases hd : decM k ((a + 1) % k) ((List.range len).map f) with
            | none => exact yes_text a k x len cap f w h (by omega) (by omega) (by omega) (by omega) hd
            | some M => exact yes_ok a k x len cap f w h (by omega) (by omega) (by omega) (by omega) M hd

set_option maxRecDepth 100000 in
theorem lifted (os : Os) (started : os.Started) (H : Type) (enc : TypeId × Value → H) :
    ReturnsInHanded {} Try.checked os 6 .any (Rows.paxosRefusesSpec.pre6 enc Try.prog Try.f6 Rows.paxosRefusesRow.domain false) (Rows.paxosRefusesSpec.post enc Try.prog Try.f6 false true false false) := by
  refine returnsInHanded_of_change_sized (C := Try.checked) own started (by kernel_rfl) Try.func6
    (ChangeSpec.witness6 (enc := enc) (C := Try.checked) false ⟨#[], #[.int .i64 0, .int .i64 0, .slice none 0 0], []⟩ 8 (by kernel_rfl) (by kernel_rfl) (by kernel_rfl) (by kernel_rfl)) ?_
  intro W base args ds gs before hval0 hW hcnd hsz0 _
  have hsz : (DataW.weightsEach Try.prog (Try.f6.params.toList ++ Rows.paxosRefusesSpec.plain.varTypes Try.prog) (ds ++ gs)).all (· ≤ reachBytes) = true := hsz0
  have hval : ∀ (j : Nat) t v, Try.f6.params[j]? = some t → args[j]? = some v → Value.okWide Try.prog W .any base t v := hval0
  have hW' := hW
  obtain ⟨p, q, hA0, hV, rfl, hfz, hnd⟩ := hW
  have hA : DataW.TrodAll enc Try.prog W 0 (fun _ => true) true Try.f6.params.toList args.toList ds p := hA0
  rw [Try.params6] at hA hval hsz
  obtain ⟨v0, vs0, d0, ds0, p0, q0, hargs, rfl, rfl, h0, r0⟩ := trodAll_cons hA
  obtain ⟨v1, vs1, d1, ds1, p1, q1, rfl, rfl, rfl, h1, r1⟩ := trodAll_cons r0
  obtain ⟨v2, vs2, d2, ds2, p2, q2, rfl, rfl, rfl, h2, r2⟩ := trodAll_cons r1
  obtain ⟨rfl, rfl, rfl⟩ := trodAll_nil r2
  obtain rfl : args = #[v0, v1, v2] := by cases args; simp_all
  obtain ⟨rfl, rfl⟩ := trodVars_none hV
  obtain ⟨a0, rfl, rfl, rfl, w0⟩ := open_int Try.underlying3 (hval 0 3 v0 rfl rfl) h0
  obtain ⟨a1, rfl, rfl, rfl, w1⟩ := open_int Try.underlying3 (hval 1 3 v1 rfl rfl) h1
  have k2 := h2
  have lt2 : ∀ x ∈ p2, x.block < W.heap.size := by obtain ⟨m, hm⟩ := k2; exact DataW.trod_lt m _ _ _ hm
  have s2 : ∀ x ∈ d2.weights Try.prog 35, x ≤ reachBytes := fun x hx => by
    have := List.all_eq_true.1 hsz x (DataW.weights_mem_each (j := 2) rfl rfl x hx)
    simpa using this
  obtain ⟨b2, nn2, cc2, rfl⟩ := okWide_slice Try.underlying35 (hval 2 35 v2 rfl rfl)
  obtain ⟨fu2, hf2⟩ := h2
  obtain ⟨a2, len2, cap2, f2, e2, w2⟩ := bytes_in hf2 s2
  simp [Value.cells] at e2
  obtain ⟨rfl, rfl, rfl⟩ := e2
  clear hA0 hval0
  refine (walk a0 a1 b2 nn2 cc2 f2 W w0 w1 w2).mono fun e W' ⟨he, bel⟩ => ?_
  subst he
  exact ⟨_, rfl, _, _, _, [], _, [], hW', trodAll_mk1 (shut_bool Try.underlying4 _), (trodAll_cons_mk (shut_int Try.underlying3 w0) (trodAll_cons_mk (shut_int Try.underlying3 w1) (trodAll_cons_mk (Below.trod laidOut (by kernel_rfl) (of_decide_eq_true (by kernel_rfl)) k2 bel lt2) trodAll_mk0))), rfl, bel.frame _, fun h => by cases h⟩

theorem over : Rows.paxosRefusesRow.holds Try.pinned (OpenSpec.ofChange Rows.paxosRefusesSpec) :=
  OpenClaim.holds_of_wide 6 Try.f6 rfl rfl rfl rfl rfl rfl rfl ⟨rfl, rfl, rfl, rfl, rfl⟩ rfl rfl rfl rfl rfl (by kernel_rfl) Try.func6 (by kernel_rfl)
    (of_decide_eq_true (by kernel_rfl)) (by unfold Func.isWrapper; first | (rw [if_pos (by decide +kernel)]; kernel_rfl) | (rw [if_neg (by decide +kernel)]; exact ⟨rfl, rfl⟩))
    (fun os started H enc _ => lifted os started H enc)

theorem proved : Rows.PaxosRefusesSaid := over
#print axioms proved
end Go.Proofs.Ytdbahebhodoooaa.paxosRefuses

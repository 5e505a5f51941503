/-
  What Encode and Check of package code do, and the document's Check: contracts over plain numbers.
  Conditions: lists that are looked at lie in memory, and take at most what any slice takes.
-/
import Derived.Test.YtnnnefbnpfahcaaCdInv
namespace Go.Proofs.Ytnnnefbnpfahcaa
open Go.RowKit Gf
set_option linter.unusedVariables false
set_option linter.unusedSimpArgs false

theorem code_nat {a b : Int} (h : CauchyN a b) : ∃ k m : Nat, a = k ∧ b = m ∧ 1 ≤ k ∧ 1 ≤ m ∧ k + m ≤ 255 := by
  unfold CauchyN at h
  exact ⟨a.toNat, b.toNat, by omega, by omega, by omega, by omega, by omega⟩

theorem nat_code {k m : Nat} (h1 : 1 ≤ k) (h2 : 1 ≤ m) (h3 : k + m ≤ 255) : CauchyN k m := by unfold CauchyN; omega

set_option maxHeartbeats 1000000 in
set_option maxRecDepth 100000 in
theorem encode_no (a b : Int) (x : Option Addr) (n c : Nat) (A : Nat → Option Addr) (L C : Nat → Nat) (w : World) (hn : n ≤ 140737488351232) (ht : Tops w x n A L C) (hx : ¬ (CauchyN a b ∧ (n : Int) = a ∧ EqN n L)) :
    Calls Try.prog 10 #[.int .i64 a, .int .i64 b, .slice x n c] w fun e w' => e = .returned (.tuple #[.slice none 0 0, .int .i64 1]) ∧ Below w.heap.size w w' := by
  by_cases h : CauchyN a b
  · obtain ⟨k, m, rfl, rfl, h1, h2, h3⟩ := code_nat h
    have hc := cauchy_yes k m w h1 h2 h3
    by_cases e : n = k
    · subst e
      have hne : ¬ EqN n L := fun q => hx ⟨h, rfl, q⟩
      have hq : ∀ v, Below w.heap.size w v → Calls Try.prog 21 #[.slice x n c] v fun e w' => e = .returned (.bool false) ∧ w' = v := fun v hv => equally_no x n c A L C v hn (ht.below (Nat.le_refl _) hv) hne
      have g0 : ((n : Int) != (n : Int)) = false := by simp
      clear h hx hne ht h1 h2 h3
      go_enter Try.func10, Try.ntmps10
      go_wp2_with (first
        | (go_at_call 20; refine hc.mono ?_; rintro e x1 ⟨hb1, B1, G1, C1, rfl, ho1⟩; clear hc)
        | (go_at_call 21; refine (hq _ hb1).mono ?_; rintro e w' ⟨rfl, rfl⟩))
      go_ret2
      exact ⟨rfl, hb1⟩
    · have g0 : ((n : Int) != (k : Int)) = true := by simp; omega
      clear h hx ht h1 h2 h3 e
      go_enter Try.func10, Try.ntmps10
      go_wp2_with (go_at_call 20; refine hc.mono ?_; rintro e x1 ⟨hb1, B1, G1, C1, rfl, ho1⟩; clear hc)
      go_ret2
      exact ⟨rfl, hb1⟩
  · have hc := cauchy_no a b w h
    clear h hx ht
    go_enter Try.func10, Try.ntmps10
    go_wp2_with (go_at_call 20; refine hc.mono ?_; rintro e w' ⟨rfl, rfl⟩; clear hc)
    go_ret2
    exact ⟨rfl, Below.refl _ _⟩

set_option maxHeartbeats 1000000 in
set_option maxRecDepth 100000 in
theorem encode_yes (k m n db dd c : Nat) (A : Nat → Option Addr) (C : Nat → Nat) (X : Nat → Nat → Nat) (w : World) (h1 : 1 ≤ k) (h2 : 1 ≤ m) (h3 : k + m ≤ 255) (hn : n ≤ 140737488351232) (h : IsGrid w (some ⟨db, dd, none⟩) k A (fun _ => n) C X) :
    Calls Try.prog 10 #[.int .i64 k, .int .i64 m, .slice (some ⟨db, dd, none⟩) k c] w fun e w' => ∃ w1 A1 C1, Below w.heap.size w w1 ∧ e = .returned (.tuple #[.slice (some ⟨w1.heap.size, 0, none⟩) (k + m) (k + m), .int .i64 0]) ∧ Build w1 w' (k + m) (k + m) A1 (fun _ => n) C1 (encF k m X) := by
  have hc := cauchy_yes k m w h1 h2 h3
  have hq : ∀ v, Below w.heap.size w v → Calls Try.prog 21 #[.slice (some ⟨db, dd, none⟩) k c] v fun e w' => e = .returned (.bool true) ∧ w' = v := fun v hv => equally_yes _ k c A (fun _ => n) C v (by omega) (h.1.below (Nat.le_refl _) hv) (fun _ _ => rfl)
  have hm : ∀ v B G1 C1 s, Below w.heap.size w v → s = k + m → Own w.heap.size v B s k G1 C1 (cauchyF k m) → Calls Try.prog 22 #[.slice (some ⟨B, 0, none⟩) s s, .slice (some ⟨db, dd, none⟩) k c] v fun e w' => e = .returned (.slice (some ⟨v.heap.size, 0, none⟩) s s) ∧ ∃ A1 C1, Build v w' s s A1 (fun _ => n) C1 (encF k m X) := fun v B G1 C1 s hv hs ho =>
    combined_any B 0 db dd s k n s c _ A C1 C (cauchyF k m) X v (by omega) h1 (by omega) hn ho.mat.grid (h.below hv)
  obtain ⟨s, hs⟩ : ∃ s, s = k + m := ⟨_, rfl⟩
  rw [← hs] at hc
  rw [← hs]
  have hm := fun v B G1 C1 hv ho => hm v B G1 C1 s hv hs ho
  have g0 : ((k : Int) != (k : Int)) = false := by simp
  clear h h1 h2 h3 hs
  go_enter Try.func10, Try.ntmps10
  go_wp2_with (first
    | (go_at_call 20; refine hc.mono ?_; rintro e x1 ⟨hb1, B1, G1, C1, rfl, ho1⟩; clear hc)
    | (go_at_call 21; refine (hq _ hb1).mono ?_; rintro e w' ⟨rfl, rfl⟩; clear hq)
    | (go_at_call 22; refine (hm _ B1 G1 C1 hb1 ho1).mono ?_; rintro e x2 ⟨rfl, A2, C2, hB2⟩; clear hm))
  go_ret2
  exact ⟨_, A2, C2, hb1, rfl, hB2⟩

/- Check. -/
set_option maxHeartbeats 1000000 in
set_option maxRecDepth 100000 in
theorem ccheck_no (a b : Int) (x : Option Addr) (n c : Nat) (A : Nat → Option Addr) (L C : Nat → Nat) (w : World) (hn : n ≤ 140737488351232) (ht : Tops w x n A L C) (hx : ¬ (CauchyN a b ∧ (n : Int) = a + b ∧ EqN n L)) :
    Calls Try.prog 13 #[.int .i64 a, .int .i64 b, .slice x n c] w fun e w' => e = .returned (.tuple #[.bool false, .int .i64 1]) ∧ Below w.heap.size w w' := by
  by_cases h : CauchyN a b
  · obtain ⟨k, m, rfl, rfl, h1, h2, h3⟩ := code_nat h
    have hc := cauchy_yes k m w h1 h2 h3
    have hq : ∀ v, Below w.heap.size w v → Calls Try.prog 26 #[.int .i64 k, .int .i64 m, .slice x n c] v fun e w' => e = .returned (.bool false) ∧ w' = v := fun v hv => whole_any x k m n c false A L C v hn (by omega) (by omega) (ht.below (Nat.le_refl _) hv) (fun q1 q2 => absurd ⟨h, by omega, q2⟩ hx) (fun _ => rfl)
    clear h hx ht h1 h2 h3
    go_enter Try.func13, Try.ntmps13
    go_wp2_with (first
      | (go_at_call 20; refine hc.mono ?_; rintro e x1 ⟨hb1, B1, G1, C1, rfl, ho1⟩; clear hc)
      | (go_at_call 26; refine (hq _ hb1).mono ?_; rintro e w' ⟨rfl, rfl⟩; clear hq))
    go_ret2
    exact ⟨rfl, hb1⟩
  · have hc := cauchy_no a b w h
    clear h hx ht
    go_enter Try.func13, Try.ntmps13
    go_wp2_with (go_at_call 20; refine hc.mono ?_; rintro e w' ⟨rfl, rfl⟩; clear hc)
    go_ret2
    exact ⟨rfl, Below.refl _ _⟩

theorem cut_to (g o m c d : Nat) (w : World) (h : d ≤ c) :
    (Instr.slice 22 (.slice (some ⟨g, o, none⟩) m c) none (some (.int .i64 (d : Int))) none).run Try.prog w = .ok (.slice (some ⟨g, o, none⟩) d c) w := by
  rw [run_slice_h w 22 _ _ _ elem_top .i64 (d : Int) (by omega) (by omega), elem_top_is, size_top]
  simp only [Result.andThen, sliced, Int.toNat_natCast, Nat.mul_one, Option.map, Nat.sub_zero]
  have hadd : (⟨g, o, none⟩ : Addr).add 0 = ⟨g, o, none⟩ := by unfold Addr.add; split <;> simp_all
  split
  · rfl
  · rw [hadd]

set_option maxHeartbeats 4000000 in
set_option maxRecDepth 100000 in
theorem ccheck_yes (k m n b o c : Nat) (t : Bool) (A : Nat → Option Addr) (C : Nat → Nat) (f : Nat → Nat → Nat) (w : World) (h1 : 1 ≤ k) (h2 : 1 ≤ m) (h3 : k + m ≤ 255) (hn : n ≤ 140737488351232) (hc : k + m ≤ c) (h : IsGrid w (some ⟨b, o, none⟩) (k + m) A (fun _ => n) C f)
    (hy : (∀ r, r < m → ∀ j, j < n → encF k m f (k + r) j = f (k + r) j) → t = true) (hx : ∀ r, r < m → ¬ (∀ j, j < n → encF k m f (k + r) j = f (k + r) j) → t = false) :
    Calls Try.prog 13 #[.int .i64 k, .int .i64 m, .slice (some ⟨b, o, none⟩) (k + m) c] w fun e w' => e = .returned (.tuple #[.bool t, .int .i64 0]) ∧ Below w.heap.size w w' := by
  have hcau := cauchy_yes k m w h1 h2 h3
  have hf := h.2.2
  have hq : ∀ v, Below w.heap.size w v → Calls Try.prog 26 #[.int .i64 k, .int .i64 m, .slice (some ⟨b, o, none⟩) (k + m) c] v fun e w' => e = .returned (.bool true) ∧ w' = v := fun v hv => whole_any _ k m (k + m) c true A (fun _ => n) C v (by omega) (by omega) (by omega) (h.1.below (Nat.le_refl _) hv) (fun _ _ => rfl) (fun q => absurd ⟨rfl, fun _ _ => rfl⟩ q)
  obtain ⟨s, hs⟩ : ∃ s, s = k + m := ⟨_, rfl⟩
  rw [← hs] at hcau h
  simp only [← hs] at hq
  rw [← hs]
  have hm : ∀ v B G1 C1 x1, Below w.heap.size w x1 → Below x1.heap.size x1 v → Own w.heap.size x1 B s k G1 C1 (cauchyF k m) → Calls Try.prog 22 #[.slice (some ⟨B, k, none⟩) m m, .slice (some ⟨b, o, none⟩) k c] v fun e w' => e = .returned (.slice (some ⟨v.heap.size, 0, none⟩) m m) ∧ ∃ A1 C1, Build v w' m m A1 (fun _ => n) C1 (fun r => encF k m f (k + r)) := fun v B G1 C1 x1 hv hv2 ho => by
    have hg := (ho.mat.grid.below hv2).drop (k := k) (by omega)
    rw [Nat.zero_add, show s - k = m by omega] at hg
    exact combined_any B k b o m k n m c _ A _ C _ f v (by omega) h1 (by omega) hn hg ((h.below (hv.trans (hv2.mono hv.size))).take (by omega))
  have hcut1 : ∀ B (v : World), (Instr.slice 22 (.slice (some ⟨B, 0, none⟩) s s) (some (.int .i64 (k : Int))) none none).run Try.prog v = .ok (.slice (some ⟨B, k, none⟩) m m) v := fun B v => by
    have := cut_top B 0 s s k v (by omega) (by omega)
    rwa [Nat.zero_add, show s - k = m by omega] at this
  have hcut2 : ∀ v : World, (Instr.slice 22 (.slice (some ⟨b, o, none⟩) s c) none (some (.int .i64 (k : Int))) none).run Try.prog v = .ok (.slice (some ⟨b, o, none⟩) k c) v := fun v => cut_to b o s c k v (by omega)
  have HG : Hid (IsGrid w (some ⟨b, o, none⟩) s A (fun _ => n) C f) := h
  have HY : Hid ((∀ r, r < m → ∀ j, j < n → encF k m f (k + r) j = f (k + r) j) → t = true) := hy
  have HX : Hid (∀ r, r < m → ¬ (∀ j, j < n → encF k m f (k + r) j = f (k + r) j) → t = false) := hx
  have HS : Hid (s = k + m) := hs
  have HF : Hid (∀ r j, f r j < 256) := hf
  have hs5 : s ≤ 255 := by omega
  have hk5 : k ≤ 255 := by omega
  have hm5 : m ≤ 255 := by omega
  clear h hy hx hs hf h1 h2 h3 hc
  go_enter Try.func13, Try.ntmps13
  go_wp2_with (first
    | (go_at_call 20; refine hcau.mono ?_; rintro e x1 ⟨hb1, B1, G1, C1, rfl, ho1⟩; clear hcau)
    | (go_at_call 26; refine (hq _ hb1).mono ?_; rintro e w' ⟨rfl, rfl⟩; clear hq))
  have hc1 := hcut1 B1
  have hd : Below w'.heap.size w' w'.drew := (Below.refl _ _).drew
  have hcm := hm w'.drew B1 G1 C1 w' hb1 hd ho1
  have HB1 : Hid (Below w.heap.size w w') := hb1
  clear hm ho1 hcut1 hb1
  go_region_held3 (fun _ => True) (first | exact trivial | go_keep) (first | (go_at_call 22; refine hcm.mono ?_; rintro e x2 ⟨rfl, A2, C2, hB2⟩))
  have HB2 : Hid (Build w'.drew x2 m m A2 (fun _ => n) C2 (fun r => encF k m f (k + r))) := hB2
  have HBW : Hid (Below w.heap.size w x2) := HB1.out.trans (Below.mono (⟨hB2.below.os, hB2.below.tape, hB2.below.output, hB2.below.size, hB2.below.block⟩ : Below w'.heap.size w' x2) HB1.out.size)
  have HG2 : Hid (IsGrid x2 (some ⟨b, o, none⟩) s A (fun _ => n) C f) := HG.out.below HBW.out
  clear hB2 hcm hc1 hcut2
  go_wp2_with fail
  go_loopw [35] (fun i wr => ∃ q : Nat, q ≤ m ∧ i = .int .i64 q ∧ wr = x2 ∧ Hid (∀ r, r < q → ∀ j, j < n → encF k m f (k + r) j = f (k + r) j)) (fun i _ => m - (intOf i).toNat)
  case atStart => exact ⟨0, by omega, rfl, rfl, fun r hr => by omega⟩
  case round =>
    obtain ⟨q, hq, rfl, rfl, HA⟩ := hrel
    have hss := HS.out
    by_cases hlt : q < m
    · have hqm : (q : Int) < (m : Int) := by omega
      obtain ⟨p, hp⟩ : ∃ p, p = k + q := ⟨_, rfl⟩
      have hpi : (k : Int) + (q : Int) = (p : Int) := by omega
      have hps : (p : Int) < (s : Int) := by omega
      have t1 : wr.cell? ⟨w'.heap.size, q, none⟩ = some (.slice (A2 q) n (C2 q)) := HB2.out.top q hlt
      have t2 := grid_tops HG2.out (r := p) (by omega)
      by_cases e : ∀ j, j < n → encF k m f (k + q) j = f (k + q) j
      · have hbe := bequal_any (A2 q) (A p) n n (C2 q) (C p) true (encF k m f (k + q)) (f p) wr (encF_lt HF.out (k + q)) (HF.out p) (HB2.out.rowAt hlt) (HG2.out.2.1 p (by omega)) (fun _ _ => rfl) (fun q => absurd ⟨rfl, by rw [hp]; exact e⟩ q)
        have HN : Hid (∀ r, r < q + 1 → ∀ j, j < n → encF k m f (k + r) j = f (k + r) j) := fun r hr => by
          by_cases e2 : r = q
          · subst e2; exact e
          · exact HA.out r (by omega)
        clear HA e hp hss
        go_wp2_with (go_at_call 27; refine hbe.mono ?_; rintro e w5 ⟨rfl, rfl⟩; clear hbe)
        go_roundw
        case rel => exact ⟨q + 1, by omega, by go_num, trivial, HN⟩
        case measure => simp [intOf]; omega
      · have hbe := bequal_any (A2 q) (A p) n n (C2 q) (C p) false (encF k m f (k + q)) (f p) wr (encF_lt HF.out (k + q)) (HF.out p) (HB2.out.rowAt hlt) (HG2.out.2.1 p (by omega)) (fun _ q => absurd (by rw [hp] at q; exact q) e) (fun _ => rfl)
        have HZ : Hid (t = false) := HX.out q hlt e
        clear HA e hp hss
        go_wp2_with (go_at_call 27; refine hbe.mono ?_; rintro e w5 ⟨rfl, rfl⟩; clear hbe)
        go_ret2
        exact ⟨by rw [HZ.out]; rfl, HBW.out⟩
    · obtain rfl : q = m := by omega
      have HZ : Hid (t = true) := HY.out HA.out
      clear HA hss
      go_wp2_with fail
      go_ret2
      exact ⟨by rw [HZ.out]; rfl, HBW.out⟩

/- The document's Check. -/
set_option maxHeartbeats 1000000 in
set_option maxRecDepth 100000 in
theorem rcheck_no (a b : Int) (x : Option Addr) (n c : Nat) (A : Nat → Option Addr) (L C : Nat → Nat) (w : World) (hn : n ≤ 140737488351232) (ht : Tops w x n A L C) (hx : ¬ (CauchyN a b ∧ (n : Int) = a + b ∧ EqN n L)) :
    Calls Try.prog 14 #[.int .i64 a, .int .i64 b, .slice x n c] w fun e w' => e = .returned (.tuple #[.bool false, .int .i64 1]) ∧ Below w.heap.size w w' := by
  by_cases h : CauchyN a b
  · have hcode := rcode_yes a b w h
    obtain ⟨k, m, rfl, rfl, h1, h2, h3⟩ := code_nat h
    obtain ⟨s, hs⟩ : ∃ s, s = k + m := ⟨_, rfl⟩
    have hsi : (k : Int) + (m : Int) = (s : Int) := by omega
    have hs5 : s ≤ 255 := by omega
    have he := even_any x n c (s : Int) false A L C w hn ht (fun q1 q2 => absurd ⟨h, by omega, q2⟩ hx) (fun _ => rfl)
    clear h hx ht h1 h2 h3 hs
    go_enter Try.func14, Try.ntmps14
    go_wp2_with (first
      | (go_at_call 17; refine hcode.mono ?_; rintro e w' ⟨rfl, rfl⟩; clear hcode)
      | (go_at_call 23; refine he.mono ?_; rintro e x0 ⟨rfl, q0, rfl⟩; clear he))
    go_ret2
    exact ⟨rfl, below_drewN' (Below.refl _ _) q0⟩
  · have hcode := rcode_no a b w h
    clear h hx ht
    go_enter Try.func14, Try.ntmps14
    go_wp2_with (go_at_call 17; refine hcode.mono ?_; rintro e w' ⟨rfl, rfl⟩; clear hcode)
    go_ret2
    exact ⟨rfl, Below.refl _ _⟩

theorem below_of_drewN {B m : Nat} {w x : World} (h : Below B (w.drewN m) x) : Below B w x := ⟨h.os, h.tape, h.output, h.size, h.block⟩

set_option maxHeartbeats 4000000 in
set_option maxRecDepth 100000 in
theorem rcheck_yes (k m n b o c : Nat) (t : Bool) (A : Nat → Option Addr) (C : Nat → Nat) (f : Nat → Nat → Nat) (w : World) (h1 : 1 ≤ k) (h2 : 1 ≤ m) (h3 : k + m ≤ 255) (hn : n ≤ 140737488351232) (hc : k + m ≤ c) (h : IsGrid w (some ⟨b, o, none⟩) (k + m) A (fun _ => n) C f)
    (hy : (∀ r, r < m → ∀ j, j < n → encF k m f (k + r) j = f (k + r) j) → t = true) (hx : ∀ r, r < m → ¬ (∀ j, j < n → encF k m f (k + r) j = f (k + r) j) → t = false) :
    Calls Try.prog 14 #[.int .i64 k, .int .i64 m, .slice (some ⟨b, o, none⟩) (k + m) c] w fun e w' => e = .returned (.tuple #[.bool t, .int .i64 0]) ∧ Below w.heap.size w w' := by
  have hcode := rcode_yes (k : Int) (m : Int) w (nat_code h1 h2 h3)
  have hf := h.2.2
  obtain ⟨s, hs⟩ : ∃ s, s = k + m := ⟨_, rfl⟩
  have hsi : (k : Int) + (m : Int) = (s : Int) := by omega
  have hs5 : s ≤ 255 := by omega
  have he := even_any (some ⟨b, o, none⟩) s c (s : Int) true A (fun _ => n) C w (by omega) (by rw [hs]; exact h.1) (fun _ _ => rfl) (fun q => absurd ⟨rfl, fun _ _ => rfl⟩ q)
  have hcut2 : ∀ v : World, (Instr.slice 22 (.slice (some ⟨b, o, none⟩) s c) none (some (.int .i64 (k : Int))) none).run Try.prog v = .ok (.slice (some ⟨b, o, none⟩) k c) v := fun v => cut_to b o s c k v (by omega)
  have henc : ∀ q, Calls Try.prog 11 #[.int .i64 k, .int .i64 m, .slice (some ⟨b, o, none⟩) k c] (w.drewN q) fun e w' => Below w.heap.size w w' ∧
      ∃ B c2 G1 C1, e = .returned (.tuple #[.slice (some ⟨B, 0, none⟩) s c2, .int .i64 0]) ∧ Own w.heap.size w' B s n G1 C1 (encF k m f) := fun q =>
    (rencode_yes k m n b o c A C f (w.drewN q) h1 h2 h3 hn ((h.below (below_drewN' (Below.refl _ _) q)).take (by omega))).mono fun e w' hh => by
      obtain ⟨hb, B, c2, G1, C1, he, ho⟩ := hh
      rw [← hs] at he ho
      exact ⟨below_of_drewN hb, B, c2, G1, C1, he, ho⟩
  have hsame : ∀ v B c2 G1 C1, Below w.heap.size w v → Own w.heap.size v B s n G1 C1 (encF k m f) → Calls Try.prog 12 #[.slice (some ⟨B, 0, none⟩) s c2, .slice (some ⟨b, o, none⟩) s c] v fun e w' => e = .returned (.bool t) ∧ ∃ m, w' = v.drewN m := fun v B c2 G1 C1 hv ho =>
    same_grid _ _ s s c2 c t _ A (fun _ => n) (fun _ => n) C1 C (encF k m f) f v (by omega) ho.mat.grid (by rw [hs]; exact h.below hv)
      (fun q => hy (fun r hr j hj => (q.2 (k + r) (by omega)).2 j hj))
      (fun q => by
        apply Classical.byContradiction
        intro ht
        refine q ⟨rfl, fun r hr => ⟨rfl, fun j hj => ?_⟩⟩
        by_cases e : r < k
        · exact encF_data hf e
        · apply Classical.byContradiction
          intro hne
          exact ht (hx (r - k) (by omega) (fun hall => hne (by have := hall j hj; rwa [show k + (r - k) = r by omega] at this))))
  rw [← hs]
  clear h hy hx hs hf h1 h2 h3 hc
  go_enter Try.func14, Try.ntmps14
  go_wp2_with (first
    | (go_at_call 17; refine hcode.mono ?_; rintro e w' ⟨rfl, rfl⟩; clear hcode)
    | (go_at_call 23; refine he.mono ?_; rintro e x0 ⟨rfl, q0, rfl⟩; clear he)
    | (go_at_call 11; refine (henc _).mono ?_; rintro e x1 ⟨hb1, B1, c1, G1, C1, rfl, ho1⟩; clear henc)
    | (go_at_call 12; refine (hsame _ B1 c1 G1 C1 hb1 ho1).mono ?_; rintro e x3 ⟨rfl, q3, rfl⟩; clear hsame))
  go_ret2
  exact ⟨rfl, below_drewN' hb1 q3⟩

end Go.Proofs.Ytnnnefbnpfahcaa

/-
  What Delta and Apply of package code do: contracts over plain numbers.
  Conditions: lists that are looked at lie in memory, and take at most what any slice takes.
-/
import Derived.Test.YtnnnefbnpfahcaaCdAwake
namespace Go.Proofs.Ytnnnefbnpfahcaa
open Go.RowKit Gf
set_option linter.unusedVariables false
set_option linter.unusedSimpArgs false

theorem delta_no (a b i : Int) (x y : Option Addr) (n p c c' : Nat) (w : World) (h : ¬ (CauchyN a b ∧ 0 ≤ i ∧ i < a)) :
    Calls Try.prog 19 #[.int .i64 a, .int .i64 b, .int .i64 i, .slice x n c, .slice y p c'] w fun e w' => e = .returned (.tuple #[.slice none 0 0, .int .i64 1]) ∧ Below w.heap.size w w' := by
  by_cases hN : CauchyN a b
  · obtain ⟨k, m, rfl, rfl, h1, h2, h3⟩ := code_nat hN
    have hc := cauchy_yes k m w h1 h2 h3
    by_cases hi : i < 0
    · clear h hN h1 h2 h3
      go_enter Try.func19, Try.ntmps19
      go_wp2_with (go_at_call 20; refine hc.mono ?_; rintro e x1 ⟨hb1, B1, G1, C1, rfl, ho1⟩; clear hc)
      go_ret2
      exact ⟨rfl, hb1⟩
    · have hik : (k : Int) ≤ i := by
        apply Classical.byContradiction
        intro q
        exact h ⟨hN, by omega, by omega⟩
      clear h hN h1 h2 h3
      go_enter Try.func19, Try.ntmps19
      go_wp2_with (go_at_call 20; refine hc.mono ?_; rintro e x1 ⟨hb1, B1, G1, C1, rfl, ho1⟩; clear hc)
      go_ret2
      exact ⟨rfl, hb1⟩
  · have hc := cauchy_no a b w hN
    clear h hN
    go_enter Try.func19, Try.ntmps19
    go_wp2_with (go_at_call 20; refine hc.mono ?_; rintro e w' ⟨rfl, rfl⟩; clear hc)
    go_ret2
    exact ⟨rfl, Below.refl _ _⟩

set_option maxHeartbeats 1000000 in
set_option maxRecDepth 100000 in
theorem delta_len (k m i : Nat) (x y : Option Addr) (n p c c' : Nat) (w : World) (h1 : 1 ≤ k) (h2 : 1 ≤ m) (h3 : k + m ≤ 255) (hi : i < k) (hnp : n ≠ p) :
    Calls Try.prog 19 #[.int .i64 k, .int .i64 m, .int .i64 i, .slice x n c, .slice y p c'] w fun e w' => e = .returned (.tuple #[.slice none 0 0, .int .i64 1]) ∧ Below w.heap.size w w' := by
  have hc := cauchy_yes k m w h1 h2 h3
  have ha : ∀ v, Calls Try.prog 32 #[.slice x n c, .slice y p c', .int .u8 1] v fun e w' => e = .returned (.tuple #[.slice none 0 0, .bool false]) ∧ w' = v := fun v => addmul_ne x y n p c c' 1 v hnp
  have g1 : ¬ ((i : Int) < 0) := by omega
  have g2 : ¬ ((k : Int) ≤ (i : Int)) := by omega
  clear h1 h2 h3 hi hnp
  go_enter Try.func19, Try.ntmps19
  go_wp2_with (first | (go_at_call 20; refine hc.mono ?_; rintro e x1 ⟨hb1, B1, G1, C1, rfl, ho1⟩; clear hc) | (go_at_call 32; refine (ha _).mono ?_; rintro e w' ⟨rfl, rfl⟩; clear ha))
  go_ret2
  exact ⟨rfl, hb1⟩

theorem cut_one (g k c i : Nat) (w : World) (h : i < c) :
    (Instr.slice 34 (.slice (some ⟨g, 0, none⟩) k c) (some (.int .i64 (i : Int))) (some (.int .i64 ((i : Int) + 1))) none).run Try.prog w = .ok (.slice (some ⟨g, i, none⟩) 1 (c - i)) w := by
  rw [run_slice_lh w 34 _ _ _ elem_row .i64 .i64 (i : Int) ((i : Int) + 1) (by omega) (by omega) (by omega), elem_is, size_byte]
  simp only [Result.andThen, sliced, Int.toNat_natCast, Nat.mul_one, Option.map]
  have e1 : ((i : Int) + 1).toNat = i + 1 := by omega
  rw [if_neg (by omega), e1, show i + 1 - i = 1 by omega]
  have hadd : (⟨g, 0, none⟩ : Addr).add i = ⟨g, i, none⟩ := by unfold Addr.add; split <;> simp_all
  rw [hadd]

def deltaF (k m i : Nat) (X Y : Nat → Nat) : Nat → Nat → Nat := fun p j => tmul (cauchyF k m (k + p) i) (X j ^^^ Y j)

theorem deltaF_lt {k m i : Nat} {X Y : Nat → Nat} (hX : ∀ j, X j < 256) (hY : ∀ j, Y j < 256) (p j : Nat) : deltaF k m i X Y p j < 256 := tmul_lt _ _ (cauchyF_lt k m _ i) (xor_lt _ _ (hX j) (hY j))

set_option maxHeartbeats 2000000 in
set_option maxRecDepth 100000 in
theorem delta_yes (k m i n : Nat) (x y : Option Addr) (c c' : Nat) (X Y : Nat → Nat) (w : World) (h1 : 1 ≤ k) (h2 : 1 ≤ m) (h3 : k + m ≤ 255) (hi : i < k) (hn : n ≤ 140737488351232) (hX : RowAt w x n X) (hY : RowAt w y n Y) (hXl : ∀ j, X j < 256) (hYl : ∀ j, Y j < 256) :
    Calls Try.prog 19 #[.int .i64 k, .int .i64 m, .int .i64 i, .slice x n c, .slice y n c'] w fun e w' => ∃ w1 A1 C1, Below w.heap.size w w1 ∧ e = .returned (.tuple #[.slice (some ⟨w1.heap.size, 0, none⟩) m m, .int .i64 0]) ∧ Build w1 w' m m A1 (fun _ => n) C1 (deltaF k m i X Y) := by
  have hc := cauchy_yes k m w h1 h2 h3
  have ha : ∀ v, Below w.heap.size w v → Calls Try.prog 32 #[.slice x n c, .slice y n c', .int .u8 1] v fun e w' => e = .returned (.tuple #[.slice (some ⟨v.heap.size, 0, none⟩) n n, .bool true]) ∧ Below v.heap.size v w' ∧ v.heap.size < w'.heap.size ∧ ∀ j, j < n → w'.cell? ⟨v.heap.size, j, none⟩ = some (.int .u8 ((X j ^^^ Y j : Nat) : Int)) := fun v hv =>
    (addmul_eq x y n c c' 1 X Y v (by omega) hXl hYl hn (hX.below hv) (hY.below hv)).mono fun e w' h => ⟨h.1, h.2.1, h.2.2.1, fun j hj => by rw [h.2.2.2 j hj, one_tmul _ (hYl j)]⟩
  have hmk := run_make_row' (P := Try.prog) 22 34 (.slice none 0 0) 24 Try.underlying22 info_row rfl .i64 .i64 m (by omega) (by omega)
  have hcm : ∀ (x1 x2 v : World) (Bx : Nat) (G1 C1 : Nat → Nat), Build x2 v m m (fun r => some ⟨G1 (k + r), i, none⟩) (fun _ => 1) (fun r => C1 (k + r) - i) (fun r j => cauchyF k m (k + r) (i + j)) → x1.heap.size < x2.heap.size → (∀ j, j < n → x2.cell? ⟨x1.heap.size, j, none⟩ = some (.int .u8 ((X j ^^^ Y j : Nat) : Int))) → Bx = v.heap.size →
      Calls Try.prog 22 #[.slice (some ⟨x2.heap.size, 0, none⟩) m m, .slice (some ⟨Bx, 0, none⟩) 1 1] (v.alloc (.cells #[.slice (some ⟨x1.heap.size, 0, none⟩) n n] 34)) fun e w' => e = .returned (.slice (some ⟨(v.alloc (.cells #[.slice (some ⟨x1.heap.size, 0, none⟩) n n] 34)).heap.size, 0, none⟩) m m) ∧ ∃ A1 C1, Build (v.alloc (.cells #[.slice (some ⟨x1.heap.size, 0, none⟩) n n] 34)) w' m m A1 (fun _ => n) C1 (deltaF k m i X Y) := fun x1 x2 v Bx G1 C1 hB hlt hcell hBx => by
    subst hBx
    have hb : Below v.heap.size v (v.alloc (.cells #[.slice (some ⟨x1.heap.size, 0, none⟩) n n] 34)) := (Below.refl _ _).alloc (Nat.le_refl _) _
    have r1 := rowIs_one v (.slice (some ⟨x1.heap.size, 0, none⟩) n n) 34
    have hl : IsGrid (v.alloc (.cells #[.slice (some ⟨x1.heap.size, 0, none⟩) n n] 34)) (some ⟨v.heap.size, 0, none⟩) 1 (fun _ => some ⟨x1.heap.size, 0, none⟩) (fun _ => n) (fun _ => n) (fun _ j => X j ^^^ Y j) :=
      ⟨.inr ⟨v.heap.size, 0, rfl, r1.lt, fun r hr => by rw [Nat.zero_add]; exact r1.cell hr⟩, fun r hr => .inr ⟨x1.heap.size, 0, rfl, by have := hB.below.size; have := hb.size; omega, fun j hj => by
        rw [Nat.zero_add]
        exact (hb.cell (by show x1.heap.size < v.heap.size; have := hB.below.size; omega)).trans ((hB.below.cell (by exact hlt)).trans (hcell j hj))⟩, fun r j => xor_lt _ _ (hXl j) (hYl j)⟩
    refine (combined_any x2.heap.size 0 v.heap.size 0 m 1 n m 1 _ _ _ _ _ _ _ (by omega) (by omega) (by omega) hn (hB.grid.below hb) hl).mono fun e w' ⟨he, A1, C1, hB1⟩ => ⟨he, A1, C1, hB1.congr (fun _ _ => rfl) (fun r _ j _ => ?_) (deltaF_lt hXl hYl)⟩
    show 0 ^^^ tmul (cauchyF k m (k + r) (i + 0)) (X j ^^^ Y j) = deltaF k m i X Y r j
    rw [Nat.zero_xor]
    rfl
  obtain ⟨s, hs⟩ : ∃ s, s = k + m := ⟨_, rfl⟩
  rw [← hs] at hc
  have g1 : ¬ ((i : Int) < 0) := by omega
  have g2 : ¬ ((k : Int) ≤ (i : Int)) := by omega
  have hk5 : k ≤ 255 := by omega
  have hm5 : m ≤ 255 := by omega
  have HS : Hid (s = k + m) := hs
  have hcut := cut_one
  clear h1 h2 h3 hX hY hXl hYl hs
  go_enter Try.func19, Try.ntmps19
  go_wp2_with (first
    | (go_at_call 20; refine hc.mono ?_; rintro e x1 ⟨hb1, B1, G1, C1, rfl, ho1⟩; clear hc)
    | (go_at_call 32; refine (ha _ hb1).mono ?_; rintro e x2 ⟨rfl, hb2, hlt2, hcell⟩; clear ha))
  have HO : Hid (Own w.heap.size x1 B1 s k G1 C1 (cauchyF k m)) := ho1
  have HB2 : Hid (Below x1.heap.size x1 x2) := hb2
  have HCL : Hid (∀ j, j < n → x2.cell? ⟨x1.heap.size, j, none⟩ = some (.int .u8 ((X j ^^^ Y j : Nat) : Int))) := hcell
  have HB02 : Hid (Below w.heap.size w x2) := hb1.trans (hb2.mono hb1.size)
  have HA : Hid (Build x2 (x2.alloc (.cells (madeCells #[.slice none 0 0] m) 34)) m 0 (fun r => some ⟨G1 (k + r), i, none⟩) (fun _ => 1) (fun r => C1 (k + r) - i) (fun r j => cauchyF k m (k + r) (i + j))) := build_start x2 m _ _ _ _ (fun r j => cauchyF_lt k m _ _)
  have HCM : Hid (∀ v, Build x2 v m m (fun r => some ⟨G1 (k + r), i, none⟩) (fun _ => 1) (fun r => C1 (k + r) - i) (fun r j => cauchyF k m (k + r) (i + j)) → Calls Try.prog 22 #[.slice (some ⟨x2.heap.size, 0, none⟩) m m, .slice (some ⟨v.heap.size, 0, none⟩) 1 1] (v.alloc (.cells #[.slice (some ⟨x1.heap.size, 0, none⟩) n n] 34)) _) := fun v hB => hcm x1 x2 v _ G1 C1 hB hlt2 hcell rfl
  clear ho1 hb2 hcell hmk hb1 hcm
  go_loopw [47] (fun j wr => ∃ q : Nat, q ≤ m ∧ j = .int .i64 q ∧ Hid (Build x2 wr m q (fun r => some ⟨G1 (k + r), i, none⟩) (fun _ => 1) (fun r => C1 (k + r) - i) (fun r j => cauchyF k m (k + r) (i + j)))) (fun j _ => m - (intOf j).toNat)
  case atStart => exact ⟨0, by omega, rfl, HA⟩
  case round =>
    clear HA
    obtain ⟨q, hq, rfl, HW⟩ := hrel
    by_cases hlt : q < m
    · have hqm : (q : Int) < (m : Int) := by omega
      have hss := HS.out
      obtain ⟨p, hp⟩ : ∃ p, p = k + q := ⟨_, rfl⟩
      have hpi : (k : Int) + (q : Int) = (p : Int) := by omega
      have hps : (p : Int) < (s : Int) := by omega
      have ho := HO.out.below (Nat.le_refl _) (HB2.out.trans (HW.out.below.mono HB2.out.size))
      have t1 := ho.top p (by omega)
      have hct := fun v => hcut (G1 p) k (C1 p) i v (by have := HO.out.cap p (by omega); omega)
      obtain ⟨u, hu⟩ := HW.out.there q hlt
      have f1 := HW.out.fb q
      have HN : Hid (Build x2 (wr.setCell ⟨x2.heap.size, q, none⟩ (.slice (some ⟨G1 p, i, none⟩) 1 (C1 p - i))) m (q + 1) (fun r => some ⟨G1 (k + r), i, none⟩) (fun _ => 1) (fun r => C1 (k + r) - i) (fun r j => cauchyF k m (k + r) (i + j))) := by
        have hrow : (1 = 0) ∨ ∃ g o, (some ⟨G1 p, i, none⟩ : Option Addr) = some ⟨g, o, none⟩ ∧ g ≠ x2.heap.size ∧ g < wr.heap.size ∧ ∀ j, j < 1 → wr.cell? ⟨g, o + j, none⟩ = some (.int .u8 (cauchyF k m (k + q) (i + j) : Int)) := .inr ⟨G1 p, i, rfl, by have := (HO.out.hG p (by omega)).2.1; have := HB2.out.size; omega, (ho.hG p (by omega)).2.1, fun j hj => by
          have hj0 : j = 0 := by omega
          subst hj0
          have := ho.cell p (by omega) i hi
          rw [hp] at this ⊢
          exact this⟩
        have hpt := HW.out.put (r := q) (i' := q + 1) (l := 1) (c := C1 p - i) (a := some ⟨G1 p, i, none⟩) (f' := fun j => cauchyF k m (k + q) (i + j)) hlt (fun s hs => by omega) hrow (fun j => cauchyF_lt k m _ _)
        have e1 : (fun s => if s = q then (some ⟨G1 p, i, none⟩ : Option Addr) else some ⟨G1 (k + s), i, none⟩) = fun s => some ⟨G1 (k + s), i, none⟩ := by funext s; by_cases e : s = q <;> simp [e, hp]
        have e2 : (fun s : Nat => if s = q then 1 else 1) = fun _ => 1 := by funext s; simp
        have e3 : (fun s => if s = q then C1 p - i else C1 (k + s) - i) = fun s => C1 (k + s) - i := by funext s; by_cases e : s = q <;> simp [e, hp]
        have e4 : (fun s j => if s = q then cauchyF k m (k + q) (i + j) else cauchyF k m (k + s) (i + j)) = fun s j => cauchyF k m (k + s) (i + j) := by funext s j; by_cases e : s = q <;> simp [e]
        rw [e1, e2, e3, e4] at hpt
        exact hpt
      clear HW ho hp hss hcut
      go_wp2_with fail
      go_roundw
      case rel => exact ⟨q + 1, by omega, by go_num, HN⟩
      case measure => simp [intOf]; omega
    · obtain rfl : q = m := by omega
      have hcomb := HCM.out wr HW.out
      have HBW : Hid (Below w.heap.size w (wr.alloc (.cells #[.slice (some ⟨x1.heap.size, 0, none⟩) n n] 34))) := (HB02.out.trans (HW.out.below.mono HB02.out.size)).alloc (by have := HB02.out.size; have := HW.out.below.size; omega) _
      clear HW HCM hcut
      go_wp2_with (go_at_call 22; refine hcomb.mono ?_; rintro e x5 ⟨rfl, A5, C5, hB5⟩; clear hcomb)
      go_ret2
      have hsz : (wr.alloc (.cells #[.slice (some ⟨x1.heap.size, 0, none⟩) n n] 34)).heap.size = wr.heap.size + 1 := by simp
      exact ⟨_, A5, C5, HBW.out, by rw [hsz]; rfl, hB5⟩

/- No such shard. -/
set_option maxHeartbeats 1000000 in
set_option maxRecDepth 100000 in
theorem apply_no (k m n b o c : Nat) (i : Int) (y : Option Addr) (p c' : Nat) (A : Nat → Option Addr) (C : Nat → Nat) (w : World) (h1 : 1 ≤ k) (h2 : 1 ≤ m) (h3 : k + m ≤ 255) (hx : i < 0 ∨ (k : Int) ≤ i) (h : Tops w (some ⟨b, o, none⟩) (k + m) A (fun _ => n) C) :
    Calls Try.prog 18 #[.int .i64 k, .int .i64 m, .slice (some ⟨b, o, none⟩) (k + m) c, .int .i64 i, .slice y p c'] w fun e w' => e = .returned (.tuple #[.slice none 0 0, .int .i64 1]) ∧ Below w.heap.size w w' := by
  have hc := cauchy_yes k m w h1 h2 h3
  have hq : ∀ v, Below w.heap.size w v → Calls Try.prog 26 #[.int .i64 k, .int .i64 m, .slice (some ⟨b, o, none⟩) (k + m) c] v fun e w' => e = .returned (.bool true) ∧ w' = v := fun v hv => whole_any _ k m (k + m) c true A (fun _ => n) C v (by omega) (by omega) (by omega) (h.below (Nat.le_refl _) hv) (fun _ _ => rfl) (fun q => absurd ⟨rfl, fun _ _ => rfl⟩ q)
  obtain ⟨s, hs⟩ : ∃ s, s = k + m := ⟨_, rfl⟩
  rw [← hs] at hc
  simp only [← hs] at hq
  rw [← hs]
  by_cases hi : i < 0
  · clear h h1 h2 h3 hs hx
    go_enter Try.func18, Try.ntmps18
    go_wp2_with (first
      | (go_at_call 20; refine hc.mono ?_; rintro e x1 ⟨hb1, B1, G1, C1, rfl, ho1⟩; clear hc)
      | (go_at_call 26; refine (hq _ hb1).mono ?_; rintro e w' ⟨rfl, rfl⟩; clear hq))
    go_ret2
    exact ⟨rfl, hb1⟩
  · have hik : (k : Int) ≤ i := by omega
    clear h h1 h2 h3 hs hx
    go_enter Try.func18, Try.ntmps18
    go_wp2_with (first
      | (go_at_call 20; refine hc.mono ?_; rintro e x1 ⟨hb1, B1, G1, C1, rfl, ho1⟩; clear hc)
      | (go_at_call 26; refine (hq _ hb1).mono ?_; rintro e w' ⟨rfl, rfl⟩; clear hq))
    go_ret2
    exact ⟨rfl, hb1⟩

/- Another length. -/
set_option maxHeartbeats 1000000 in
set_option maxRecDepth 100000 in
theorem apply_len (k m n b o c i : Nat) (y : Option Addr) (p c' : Nat) (A : Nat → Option Addr) (C : Nat → Nat) (w : World) (h1 : 1 ≤ k) (h2 : 1 ≤ m) (h3 : k + m ≤ 255) (hi : i < k) (hp : n ≠ p) (h : Tops w (some ⟨b, o, none⟩) (k + m) A (fun _ => n) C) :
    Calls Try.prog 18 #[.int .i64 k, .int .i64 m, .slice (some ⟨b, o, none⟩) (k + m) c, .int .i64 i, .slice y p c'] w fun e w' => e = .returned (.tuple #[.slice none 0 0, .int .i64 1]) ∧ Below w.heap.size w w' := by
  have hc := cauchy_yes k m w h1 h2 h3
  have hq : ∀ v, Below w.heap.size w v → Calls Try.prog 26 #[.int .i64 k, .int .i64 m, .slice (some ⟨b, o, none⟩) (k + m) c] v fun e w' => e = .returned (.bool true) ∧ w' = v := fun v hv => whole_any _ k m (k + m) c true A (fun _ => n) C v (by omega) (by omega) (by omega) (h.below (Nat.le_refl _) hv) (fun _ _ => rfl) (fun q => absurd ⟨rfl, fun _ _ => rfl⟩ q)
  have hd : ∀ v, Calls Try.prog 19 #[.int .i64 k, .int .i64 m, .int .i64 i, .slice (A i) n (C i), .slice y p c'] v fun e w' => e = .returned (.tuple #[.slice none 0 0, .int .i64 1]) ∧ Below v.heap.size v w' := fun v => delta_len k m i (A i) y n p (C i) c' v h1 h2 h3 hi hp
  have ht : ∀ v, Below w.heap.size w v → v.cell? ⟨b, o + i, none⟩ = some (.slice (A i) n (C i)) := fun v hv => by
    rcases h.below (Nat.le_refl _) hv with h0 | ⟨b', o', q1, q2, q3⟩
    · omega
    · injection q1 with q1
      injection q1 with e1 e2 _
      subst e1; subst e2
      exact q3 i (by omega)
  obtain ⟨s, hs⟩ : ∃ s, s = k + m := ⟨_, rfl⟩
  rw [← hs] at hc
  simp only [← hs] at hq
  rw [← hs]
  have g1 : ¬ ((i : Int) < 0) := by omega
  have g2 : ¬ ((k : Int) ≤ (i : Int)) := by omega
  have g3 : (i : Int) < (s : Int) := by omega
  clear h h1 h2 h3 hs hi hp
  go_enter Try.func18, Try.ntmps18
  go_wp2_with (first
    | (go_at_call 20; refine hc.mono ?_; rintro e x1 ⟨hb1, B1, G1, C1, rfl, ho1⟩; clear hc; have t1 := ht _ hb1; clear ht)
    | (go_at_call 26; refine (hq _ hb1).mono ?_; rintro e w' ⟨rfl, rfl⟩; clear hq)
    | (go_at_call 19; refine (hd _).mono ?_; rintro e x2 ⟨rfl, hb2⟩; clear hd))
  go_ret2
  exact ⟨rfl, hb1.trans (hb2.mono hb1.size)⟩

def applyF (k m i : Nat) (f : Nat → Nat → Nat) (Y : Nat → Nat) : Nat → Nat → Nat := fun r j => if r < k then (if r = i then Y j else f r j) else f r j ^^^ deltaF k m i (f i) Y (r - k) j

theorem applyF_lt {k m i : Nat} {f : Nat → Nat → Nat} {Y : Nat → Nat} (hf : ∀ r j, f r j < 256) (hY : ∀ j, Y j < 256) (r j : Nat) : applyF k m i f Y r j < 256 := by
  unfold applyF
  split
  · split
    · exact hY j
    · exact hf r j
  · exact xor_lt _ _ (hf r j) (deltaF_lt (hf i) hY _ j)

/- A copy, or a sum, is laid at the next place. -/
theorem build_next {w0 wr w1 : World} {N q n : Nat} {A : Nat → Option Addr} {C : Nat → Nat} {F : Nat → Nat → Nat} {y : Option Addr} {cy : Nat} (h : Build w0 wr N q A (fun _ => n) C F) (hq : q < N) (hb : Below wr.heap.size wr w1)
    (hrow : n = 0 ∨ ∃ g o, y = some ⟨g, o, none⟩ ∧ wr.heap.size ≤ g ∧ g < w1.heap.size ∧ ∀ j, j < n → w1.cell? ⟨g, o + j, none⟩ = some (.int .u8 (F q j : Int))) :
    ∃ A' C', Build w0 (w1.setCell ⟨w0.heap.size, q, none⟩ (.slice y n cy)) N (q + 1) A' (fun _ => n) C' F := by
  refine ⟨_, _, ((h.more (Nat.le_refl _) hb).put (r := q) (i' := q + 1) (l := n) (c := cy) (a := y) (f' := F q) hq (fun s hs => by omega) ?_ (h.lt q)).congr (fun r hr => ?_) (fun r hr j hj => ?_) h.lt⟩
  · rcases hrow with h0 | ⟨g, o, h1, h2, h3, h4⟩
    · exact .inl h0
    · exact .inr ⟨g, o, h1, by have := h.hb; omega, h3, h4⟩
  · split <;> rfl
  · by_cases e : r = q
    · subst e; rw [if_pos rfl]
    · rw [if_neg e]

/- A copy is laid at a place that has been laid. -/
theorem build_over {w0 wr w1 : World} {N q n i : Nat} {A : Nat → Option Addr} {C : Nat → Nat} {F F' : Nat → Nat → Nat} {y : Option Addr} {cy : Nat} (h : Build w0 wr N q A (fun _ => n) C F) (hq : q ≤ N) (hi : i < q) (hb : Below wr.heap.size wr w1)
    (hrow : n = 0 ∨ ∃ g o, y = some ⟨g, o, none⟩ ∧ wr.heap.size ≤ g ∧ g < w1.heap.size ∧ ∀ j, j < n → w1.cell? ⟨g, o + j, none⟩ = some (.int .u8 (F' i j : Int))) (hF : ∀ r, r < q → r ≠ i → ∀ j, F r j = F' r j) (hl : ∀ r j, F' r j < 256) :
    ∃ A' C', Build w0 (w1.setCell ⟨w0.heap.size, i, none⟩ (.slice y n cy)) N q A' (fun _ => n) C' F' := by
  refine ⟨_, _, ((h.more (Nat.le_refl _) hb).put (r := i) (i' := q) (l := n) (c := cy) (a := y) (f' := F' i) (by omega) (fun s hs => .inr hs) ?_ (hl i)).congr (fun r hr => ?_) (fun r hr j hj => ?_) hl⟩
  · rcases hrow with h0 | ⟨g, o, h1, h2, h3, h4⟩
    · exact .inl h0
    · exact .inr ⟨g, o, h1, by have := h.hb; omega, h3, h4⟩
  · split <;> rfl
  · by_cases e : r = i
    · subst e; rw [if_pos rfl]
    · rw [if_neg e]; exact hF r hr e j

set_option maxHeartbeats 4000000 in
set_option maxRecDepth 100000 in
theorem apply_yes (k m n b c i : Nat) (y : Option Addr) (c' : Nat) (G C : Nat → Nat) (f : Nat → Nat → Nat) (Y : Nat → Nat) (w : World) (h1 : 1 ≤ k) (h2 : 1 ≤ m) (h3 : k + m ≤ 255) (hi : i < k) (hn : n ≤ 140737488351232) (h : Mat w b 0 (k + m) n G (fun _ => 0) C f) (hY : RowAt w y n Y) (hYl : ∀ j, Y j < 256) (hnil : y = none → n = 0 ∧ c' = 0) :
    Calls Try.prog 18 #[.int .i64 k, .int .i64 m, .slice (some ⟨b, 0, none⟩) (k + m) c, .int .i64 i, .slice y n c'] w fun e w' => ∃ w1 A1 C1, Below w.heap.size w w1 ∧ e = .returned (.tuple #[.slice (some ⟨w1.heap.size, 0, none⟩) (k + m) (k + m), .int .i64 0]) ∧ Build w1 w' (k + m) (k + m) A1 (fun _ => n) C1 (applyF k m i f Y) := by
  have hc := cauchy_yes k m w h1 h2 h3
  have hf := h.lt
  have hq : ∀ v, Below w.heap.size w v → Calls Try.prog 26 #[.int .i64 k, .int .i64 m, .slice (some ⟨b, 0, none⟩) (k + m) c] v fun e w' => e = .returned (.bool true) ∧ w' = v := fun v hv => whole_any _ k m (k + m) c true _ (fun _ => n) C v (by omega) (by omega) (by omega) ((h.below (Nat.le_refl _) hv).tops) (fun _ _ => rfl) (fun q => absurd ⟨rfl, fun _ _ => rfl⟩ q)
  obtain ⟨s, hs⟩ : ∃ s, s = k + m := ⟨_, rfl⟩
  rw [← hs] at hc h
  simp only [← hs] at hq
  rw [← hs]
  have hd : ∀ v, Below w.heap.size w v → Calls Try.prog 19 #[.int .i64 k, .int .i64 m, .int .i64 i, .slice (some ⟨G i, 0, none⟩) n (C i), .slice y n c'] v fun e w' => ∃ w1 A1 C1, Below v.heap.size v w1 ∧ e = .returned (.tuple #[.slice (some ⟨w1.heap.size, 0, none⟩) m m, .int .i64 0]) ∧ Build w1 w' m m A1 (fun _ => n) C1 (deltaF k m i (f i) Y) := fun v hv =>
    delta_yes k m i n _ y (C i) c' (f i) Y v h1 h2 h3 hi hn ((h.below (Nat.le_refl _) hv).row (r := i) (by omega)) (hY.below hv) (hf i) hYl
  have hmk := run_make_row' (P := Try.prog) 22 34 (.slice none 0 0) 24 Try.underlying22 info_row rfl .i64 .i64 s (by omega) (by omega)
  have hsi : (k : Int) + (m : Int) = (s : Int) := by omega
  have g1 : ¬ ((i : Int) < 0) := by omega
  have g2 : ¬ ((k : Int) ≤ (i : Int)) := by omega
  have g3 : (i : Int) < (s : Int) := by omega
  have HM : Hid (∀ v, Below w.heap.size w v → Mat v b 0 s n G (fun _ => 0) C f) := fun v hv => h.below (Nat.le_refl _) hv
  have HYR : Hid (∀ v, Below w.heap.size w v → RowAt v y n Y) := fun v hv => hY.below hv
  have ht : ∀ v, Below w.heap.size w v → v.cell? ⟨b, i, none⟩ = some (.slice (some ⟨G i, 0, none⟩) n (C i)) := fun v hv => by
    have := (HM.out v hv).top i (by omega)
    rwa [Nat.zero_add] at this
  have HF : Hid (∀ r j, f r j < 256) := hf
  have HY : Hid (∀ j, Y j < 256) := hYl
  have HNIL : Hid (y = none → n = 0 ∧ c' = 0) := hnil
  have HS : Hid (s = k + m) := hs
  have hs5 : s ≤ 255 := by omega
  have hk5 : k ≤ 255 := by omega
  have hm5 : m ≤ 255 := by omega
  clear h hf h1 h2 h3 hs hY hYl hnil
  go_enter Try.func18, Try.ntmps18
  go_wp2_with (first
    | (go_at_call 20; refine hc.mono ?_; rintro e x1 ⟨hb1, B1, G1, C1, rfl, ho1⟩; clear hc ho1; have t1 := ht _ hb1; clear ht; have hdd := hd _ hb1; clear hd)
    | (go_at_call 26; refine (hq _ hb1).mono ?_; rintro e w' ⟨rfl, rfl⟩; clear hq)
    | (go_at_call 19; refine hdd.mono ?_; rintro e x2 ⟨w2, A2, C2, hb2, rfl, hB2⟩; clear hdd))
  have HD : Hid (Build w2 x2 m m A2 (fun _ => n) C2 (deltaF k m i (f i) Y)) := hB2
  have hb02 := hb1.trans (hb2.mono hb1.size)
  have HB : Hid (Below w.heap.size w x2) := hb02.trans (hB2.below.mono hb02.size)
  have HA : Hid (∃ A1 C1, Build x2 (x2.alloc (.cells (madeCells #[.slice none 0 0] s) 34)) s 0 A1 (fun _ => n) C1 f) := ⟨fun _ => none, fun _ => 0, build_start x2 s _ _ _ _ HF.out⟩
  clear hB2 hb02 hb1 hb2 hmk t1
  go_loopw [63] (fun j wr => ∃ q : Nat, q ≤ k ∧ j = .int .i64 q ∧ Hid (∃ A1 C1, Build x2 wr s q A1 (fun _ => n) C1 f)) (fun j _ => k - (intOf j).toNat)
  case atStart => exact ⟨0, by omega, rfl, HA⟩
  case round =>
    clear HA
    obtain ⟨q, hq, rfl, HW⟩ := hrel
    obtain ⟨A1, C1, hB⟩ := HW.out
    have hbw : Below w.heap.size w wr := HB.out.trans (hB.below.mono HB.out.size)
    by_cases hlt : q < k
    · have hqk : (q : Int) < (k : Int) := by omega
      have hss := HS.out
      have hqs : (q : Int) < (s : Int) := by omega
      have t1 : wr.cell? ⟨b, q, none⟩ = some (.slice (some ⟨G q, 0, none⟩) n (C q)) := by
        have := (HM.out wr hbw).top q (by omega)
        rwa [Nat.zero_add] at this
      have hcl := clone_any (some ⟨G q, 0, none⟩) n (C q) (f q) wr ((HM.out wr hbw).row (r := q) (by omega)) hn (fun h => by cases h)
      have HBq : Hid (Build x2 wr s q A1 (fun _ => n) C1 f) := hB
      clear hB HW hbw hss
      go_wp2_with (go_at_call 31; refine hcl.mono ?_; rintro e x3 ⟨y3, cy3, rfl, hb3, hr3⟩; clear hcl; have hss := HS.out; obtain ⟨A3, C3, hB3⟩ := build_next (cy := cy3) HBq.out (by omega) hb3 hr3; have hmr := HBq.out.more (Nat.le_refl _) hb3; obtain ⟨u3, hu3⟩ := hmr.there q (by omega); have f3 := hmr.fb q; have HN : Hid (∃ A1 C1, Build x2 (x3.setCell ⟨x2.heap.size, q, none⟩ (.slice y3 n cy3)) s (q + 1) A1 (fun _ => n) C1 f) := ⟨A3, C3, hB3⟩; clear hmr hB3 hr3 hss)
      go_roundw
      case rel => exact ⟨q + 1, by omega, by go_num, HN⟩
      case measure => simp [intOf]; omega
    · obtain rfl : q = k := by omega
      have hcl := clone_any y n c' Y wr (HYR.out wr hbw) hn HNIL.out
      have HBq : Hid (Build x2 wr s q A1 (fun _ => n) C1 f) := hB
      clear hB HW hbw
      go_wp2_with (go_at_call 31; refine hcl.mono ?_; rintro e x3 ⟨y3, cy3, rfl, hb3, hr3⟩; clear hcl; have hss := HS.out; obtain ⟨A3, C3, hB3⟩ := build_over (F' := applyF q m i f Y) (cy := cy3) HBq.out (by omega) hi hb3 (by rcases hr3 with h0 | ⟨g, o, e1, e2, e3, e4⟩; exact .inl h0; exact .inr ⟨g, o, e1, e2, e3, fun j hj => by rw [e4 j hj]; unfold applyF; rw [if_pos hi, if_pos rfl]⟩) (fun r hr hri j => by unfold applyF; rw [if_pos hr, if_neg hri]) (applyF_lt HF.out HY.out); have hmr := HBq.out.more (Nat.le_refl _) hb3; obtain ⟨u3, hu3⟩ := hmr.there i (by omega); have f3 := hmr.fb i; have HN : Hid (∃ A1 C1, Build x2 (x3.setCell ⟨x2.heap.size, i, none⟩ (.slice y3 n cy3)) s (q + 0) A1 (fun _ => n) C1 (applyF q m i f Y)) := ⟨A3, C3, hB3⟩; clear hmr hB3 hr3 hss)
      go_loopw [81] (fun j wr => ∃ p : Nat, p ≤ m ∧ j = .int .i64 p ∧ Hid (∃ A1 C1, Build x2 wr s (q + p) A1 (fun _ => n) C1 (applyF q m i f Y))) (fun j _ => m - (intOf j).toNat)
      case atStart => exact ⟨0, by omega, rfl, HN⟩
      case round =>
        clear HN hu3 f3
        obtain ⟨p, hp, rfl, HW⟩ := hrel
        obtain ⟨A4, C4, hB⟩ := HW.out
        have hss := HS.out
        by_cases hlt2 : p < m
        · have hpm : (p : Int) < (m : Int) := by omega
          obtain ⟨z, hz⟩ : ∃ z, z = q + p := ⟨_, rfl⟩
          have hzi : (q : Int) + (p : Int) = (z : Int) := by omega
          have hzs : (z : Int) < (s : Int) := by omega
          have hwz : IntKind.i64.wrap (z : Int) = (z : Int) := IntWalk.i64_in _ (by omega)
          have hbw : Below w.heap.size w wr := HB.out.trans (hB.below.mono HB.out.size)
          have hMr := HM.out wr hbw
          have k1 : wr.drew.cell? ⟨b, z, none⟩ = some (.slice (some ⟨G z, 0, none⟩) n (C z)) := by
            have := hMr.top z (by omega)
            rwa [Nat.zero_add] at this
          have hDr := HD.out.more (Nat.le_refl _) hB.below
          have k2 : wr.drew.cell? ⟨w2.heap.size, p, none⟩ = some (.slice (A2 p) n (C2 p)) := hDr.top p hlt2
          have hcall : Calls Try.prog 32 #[.slice (some ⟨G z, 0, none⟩) n (C z), .slice (A2 p) n (C2 p), .int .u8 1] wr.drew fun e w' => e = .returned (.tuple #[.slice (some ⟨wr.heap.size, 0, none⟩) n n, .bool true]) ∧ Below wr.heap.size wr.drew w' ∧ wr.heap.size < w'.heap.size ∧ ∀ j, j < n → w'.cell? ⟨wr.heap.size, j, none⟩ = some (.int .u8 (applyF q m i f Y z j : Int)) :=
            (addmul_eq (some ⟨G z, 0, none⟩) (A2 p) n (C z) (C2 p) 1 (f z) (deltaF q m i (f i) Y p) wr.drew (by omega) (HF.out z) (deltaF_lt (HF.out i) HY.out p) hn (hMr.row (r := z) (by omega)) (hDr.rowAt hlt2)).mono fun e w' h => ⟨h.1, h.2.1, h.2.2.1, fun j hj => by
              refine (h.2.2.2 j hj).trans ?_
              rw [one_tmul _ (deltaF_lt (HF.out i) HY.out p j)]
              unfold applyF
              rw [if_neg (by omega), show z - q = p by omega]⟩
          have hbb : b < wr.heap.size := hMr.hb
          have hw2 : w2.heap.size < wr.heap.size := hDr.hb
          have HBq : Hid (Build x2 wr s z A4 (fun _ => n) C4 (applyF q m i f Y)) := by rw [hz]; exact hB
          have hzn : z < s := by omega
          have HZ : Hid (z = q + p) := hz
          clear hB HW hbw hMr hDr hz hss
          go_wp2_with fail
          refine wp_region_mid (fun w' => w'.cell? ⟨b, z, none⟩ = some (.slice (some ⟨G z, 0, none⟩) n (C z)) ∧ w'.cell? ⟨w2.heap.size, p, none⟩ = some (.slice (A2 p) n (C2 p))) 19 (by kernel_rfl) ⟨k1, k2⟩ (fun hS => ?_)
          refine wpAnyM_take (i := 0) (v := ?_) rfl (by kernel_rfl) (by kernel_rfl) (by kernel_rfl) (by kernel_rfl) (by kernel_rfl) (fun _ _ _ h => h) hS (Or.inl ⟨by rfl, ?_⟩) ?_
          case refine_2 => (intro w hSw; (try dsimp only at hSw); go_simp; (try with_reducible rfl))
          (try simp only [Act.put, List.setIfInBounds_toArray, List.set_cons_zero, List.set_cons_succ])
          refine wpAnyM_take (i := 1) (v := ?_) rfl (by kernel_rfl) (by kernel_rfl) (by kernel_rfl) (by kernel_rfl) (by kernel_rfl) (fun _ _ _ h => h) hS (Or.inl ⟨by rfl, ?_⟩) ?_
          case refine_2 => (intro w hSw; (try dsimp only at hSw); go_simp; (try with_reducible rfl))
          (try simp only [Act.put, List.setIfInBounds_toArray, List.set_cons_zero, List.set_cons_succ])
          refine wpAnyM_take (i := 2) (v := ?_) rfl (by kernel_rfl) (by kernel_rfl) (by kernel_rfl) (by kernel_rfl) (by kernel_rfl) (fun _ _ _ h => h) hS (Or.inl ⟨by rfl, ?_⟩) ?_
          case refine_2 => (intro w hSw; (try dsimp only at hSw); go_simp; (try with_reducible rfl))
          (try simp only [Act.put, List.setIfInBounds_toArray, List.set_cons_zero, List.set_cons_succ])
          refine wpAnyM_take (i := 3) (v := ?_) rfl (by kernel_rfl) (by kernel_rfl) (by kernel_rfl) (by kernel_rfl) (by kernel_rfl) (fun _ _ _ h => h) hS (Or.inl ⟨by rfl, ?_⟩) ?_
          case refine_2 => (intro w hSw; (try dsimp only at hSw); go_simp; (try with_reducible rfl))
          (try simp only [Act.put, List.setIfInBounds_toArray, List.set_cons_zero, List.set_cons_succ])
          refine wpAnyM_take (i := 4) (v := ?_) rfl (by kernel_rfl) (by kernel_rfl) (by kernel_rfl) (by kernel_rfl) (by kernel_rfl) (fun _ _ _ h => h) hS (Or.inl ⟨by rfl, ?_⟩) ?_
          case refine_2 => (intro w hSw; (try dsimp only at hSw); go_simp; (try with_reducible rfl))
          (try simp only [Act.put, List.setIfInBounds_toArray, List.set_cons_zero, List.set_cons_succ])
          refine wpAnyM_take (i := 5) (v := ?_) rfl (by kernel_rfl) (by kernel_rfl) (by kernel_rfl) (by kernel_rfl) (by kernel_rfl) (fun _ _ _ h => h) hS (Or.inl ⟨by rfl, ?_⟩) ?_
          case refine_2 => (intro w hSw; (try dsimp only at hSw); go_simp; (try with_reducible rfl))
          (try simp only [Act.put, List.setIfInBounds_toArray, List.set_cons_zero, List.set_cons_succ])
          refine wpAnyM_take (i := 6) (v := ?_) rfl (by kernel_rfl) (by kernel_rfl) (by kernel_rfl) (by kernel_rfl) (by kernel_rfl) (fun _ _ _ h => h) hS (Or.inl ⟨by rfl, ?_⟩) ?_
          case refine_2 => (intro w hSw; (try dsimp only at hSw); go_simp; (try with_reducible rfl))
          (try simp only [Act.put, List.setIfInBounds_toArray, List.set_cons_zero, List.set_cons_succ])
          refine wpAnyM_take (i := 7) (v := ?_) rfl (by kernel_rfl) (by kernel_rfl) (by kernel_rfl) (by kernel_rfl) (by kernel_rfl) (fun _ _ _ h => h) hS (Or.inl ⟨by rfl, ?_⟩) ?_
          case refine_2 => (intro w hSw; (try dsimp only at hSw); go_simp; (try with_reducible rfl))
          (try simp only [Act.put, List.setIfInBounds_toArray, List.set_cons_zero, List.set_cons_succ])
          refine wpAnyM_take (i := 8) (v := ?_) rfl (by kernel_rfl) (by kernel_rfl) (by kernel_rfl) (by kernel_rfl) (by kernel_rfl) (fun _ _ _ h => h) hS (Or.inl ⟨by rfl, ?_⟩) ?_
          case refine_2 => (intro w hSw; (try dsimp only at hSw); go_simp; (try with_reducible rfl))
          (try simp only [Act.put, List.setIfInBounds_toArray, List.set_cons_zero, List.set_cons_succ])
          refine wpAnyM_take (i := 9) (v := ?_) rfl (by kernel_rfl) (by kernel_rfl) (by kernel_rfl) (by kernel_rfl) (by kernel_rfl) (fun _ _ _ h => h) hS (Or.inl ⟨by rfl, ?_⟩) ?_
          case refine_2 => (intro w hSw; (try dsimp only at hSw); go_simp; (try with_reducible rfl))
          (try simp only [Act.put, List.setIfInBounds_toArray, List.set_cons_zero, List.set_cons_succ])
          refine wpAnyM_take (i := 10) (v := ?_) rfl (by kernel_rfl) (by kernel_rfl) (by kernel_rfl) (by kernel_rfl) (by kernel_rfl) (fun _ _ _ h => h) hS (Or.inl ⟨by rfl, ?_⟩) ?_
          case refine_2 => (intro w hSw; (try dsimp only at hSw); go_simp; (try with_reducible rfl))
          (try simp only [Act.put, List.setIfInBounds_toArray, List.set_cons_zero, List.set_cons_succ])
          refine wpAnyM_take (i := 11) (v := ?_) rfl (by kernel_rfl) (by kernel_rfl) (by kernel_rfl) (by kernel_rfl) (by kernel_rfl) (fun _ _ _ h => h) hS (Or.inl ⟨by rfl, ?_⟩) ?_
          case refine_2 => (intro w hSw; (try dsimp only at hSw); go_simp; (try with_reducible rfl))
          (try simp only [Act.put, List.setIfInBounds_toArray, List.set_cons_zero, List.set_cons_succ])
          refine wpAnyM_take (i := 12) (v := ?_) rfl (by kernel_rfl) (by kernel_rfl) (by kernel_rfl) (by kernel_rfl) (by kernel_rfl) (fun _ _ _ h => h) hS (Or.inl ⟨by rfl, ?_⟩) ?_
          case refine_2 => (intro w hSw; (try dsimp only at hSw); go_simp; (try with_reducible rfl))
          (try simp only [Act.put, List.setIfInBounds_toArray, List.set_cons_zero, List.set_cons_succ])
          refine wpAnyM_take (i := 13) (v := ?_) rfl (by kernel_rfl) (by kernel_rfl) (by kernel_rfl) (by kernel_rfl) (by kernel_rfl) (fun _ _ _ h => h) hS (Or.inl ⟨by rfl, ?_⟩) ?_
          case refine_2 => (intro w hSw; (try dsimp only at hSw); go_simp; (try with_reducible rfl))
          (try simp only [Act.put, List.setIfInBounds_toArray, List.set_cons_zero, List.set_cons_succ])
          refine wpAnyM_one (i := 14) (by kernel_rfl) rfl (fun K hK => ?_)
          go_simp
          refine hcall.mono ?_
          rintro e w1 ⟨rfl, hb1, hs1, hc1⟩
          have hb1' : Below wr.heap.size wr w1 := ⟨hb1.os, hb1.tape, hb1.output, hb1.size, hb1.block⟩
          have hmr := HBq.out.more (Nat.le_refl _) hb1'
          have hS : w1.cell? ⟨b, z, none⟩ = some (.slice (some ⟨G z, 0, none⟩) n (C z)) ∧ w1.cell? ⟨w2.heap.size, p, none⟩ = some (.slice (A2 p) n (C2 p)) := ⟨(hb1.cell (by exact hbb)).trans k1, (hb1.cell (by exact hw2)).trans k2⟩
          obtain ⟨u3, hu3⟩ := hmr.there z hzn
          have f3 := hmr.fb z
          obtain ⟨A5, C5, hB5⟩ := build_next (y := some ⟨wr.heap.size, 0, none⟩) (cy := n) HBq.out hzn hb1' (.inr ⟨wr.heap.size, 0, rfl, Nat.le_refl _, hs1, fun j hj => by rw [Nat.zero_add]; exact hc1 j hj⟩)
          have HN : Hid (∃ A1 C1, Build x2 (w1.setCell ⟨x2.heap.size, z, none⟩ (.slice (some ⟨wr.heap.size, 0, none⟩) n n)) s (q + (p + 1)) A1 (fun _ => n) C1 (applyF q m i f Y)) := ⟨A5, C5, by have := HZ.out; rw [show q + (p + 1) = z + 1 by omega]; exact hB5⟩
          clear hmr hB5 hc1 hb1 hb1' HBq HZ
          refine hK.out _ _ (fun _ => hS) ?_
          clear hK
          refine wpAnyM_take (i := 15) (v := ?_) rfl (by kernel_rfl) (by kernel_rfl) (by kernel_rfl) (by kernel_rfl) (by kernel_rfl) (fun _ _ _ h => h) hS (Or.inl ⟨by rfl, ?_⟩) ?_
          case refine_2 => (intro w hSw; (try dsimp only at hSw); go_simp; (try with_reducible rfl))
          (try simp only [Act.put, List.setIfInBounds_toArray, List.set_cons_zero, List.set_cons_succ])
          refine wpAnyM_take (i := 16) (v := ?_) rfl (by kernel_rfl) (by kernel_rfl) (by kernel_rfl) (by kernel_rfl) (by kernel_rfl) (fun _ _ _ h => h) hS (Or.inl ⟨by rfl, ?_⟩) ?_
          case refine_2 => (intro w hSw; (try dsimp only at hSw); go_simp; (try with_reducible rfl))
          (try simp only [Act.put, List.setIfInBounds_toArray, List.set_cons_zero, List.set_cons_succ])
          refine wpAnyM_takeP (i := 17) (v := ?_) rfl (by decide) (by kernel_rfl) (by kernel_rfl) (by kernel_rfl) (fun _ _ _ h => h) hS (Or.inl ⟨by rfl, ?_⟩) ?_
          case refine_2 => (intro w hSw; (try dsimp only at hSw); go_simp; (try with_reducible rfl))
          (try simp only [Act.put, List.setIfInBounds_toArray, List.set_cons_zero, List.set_cons_succ])
          refine wpAnyM_take (i := 18) (v := ?_) rfl (by kernel_rfl) (by kernel_rfl) (by kernel_rfl) (by kernel_rfl) (by kernel_rfl) (fun _ _ _ h => h) hS (Or.inl ⟨by rfl, ?_⟩) ?_
          case refine_2 => (intro w hSw; (try dsimp only at hSw); go_simp; (try with_reducible rfl))
          (try simp only [Act.put, List.setIfInBounds_toArray, List.set_cons_zero, List.set_cons_succ])
          refine wpAnyM_one (i := 19) (by kernel_rfl) rfl (fun K2 hK2 => ?_)
          go_simp
          refine hK2.out _ _ (fun h => by cases h) ?_
          refine wpAnyM_done (by kernel_rfl) ?_ _
          go_wp2_with fail
          go_roundw
          case rel => exact ⟨p + 1, by omega, by go_num, HN⟩
          case measure => simp [intOf]; omega
        · obtain rfl : p = m := by omega
          have HE : Hid (Build x2 wr s s A4 (fun _ => n) C4 (applyF q p i f Y)) := by rw [← hss] at hB; exact hB
          clear hB HW hss
          go_wp2_with fail
          go_ret2
          exact ⟨x2, A4, C4, HB.out, rfl, HE.out⟩

end Go.Proofs.Ytnnnefbnpfahcaa

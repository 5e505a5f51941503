/-
  4 texts of this proof, one behind the other: SpRfA, SpRfB, SpRfC, SpRfD.
-/
import Derived.Test.YtmlaloadeeohbaaJSpPlain
import Derived.Deep.Cut
/-
  StripeRefuses' walk where numbers or lengths are wrong.
  Conditions: said at each.
-/
namespace Go.Proofs.Ytmlaloadeeohbaa.Rf
open Go.RowKit Gf
set_option linter.unusedVariables false
set_option linter.unusedSimpArgs false
set_option maxRecDepth 100000

set_option maxHeartbeats 1000000 in
set_option maxRecDepth 100000 in
theorem nocode (K M n : Int) (a : Option Addr) (len cap : Nat) (x y : Option Addr) (ns cs nh ch : Nat) (w : World) (hc : ¬ CauchyN K M)
    (hj : ∀ v : World, Calls Try.prog 15 #[.int .i64 K, .int .i64 M, .int .i64 n, .slice x ns cs, .slice y nh ch] v fun e w' => e = .returned (.tuple #[.slice none 0 0, .int .i64 1]) ∧ w' = v) :
    Calls Try.prog 5 #[.agg #[.int .i64 K, .int .i64 M, .slice a len cap, .slice y nh ch], .int .i64 n, .slice x ns cs] w fun e w' => e = .returned (.bool true) ∧ Below w.heap.size w w' := by
  obtain ⟨wb, hwb, hbb, hbs, hF⟩ := box4 w (.int .i64 K) (.int .i64 M) (.slice a len cap) (.slice y nh ch) 35
  obtain ⟨b0, b1, b2, b3⟩ := hF wb (Below.refl _ _)
  have hl := fun v => slight_any K M v
  have hcode := fun v => rcode_no K M v hc
  clear hc
  have HB := hid (show Below w.heap.size w wb ∧ wb.heap.size = w.heap.size + 1 from ⟨hbb, hbs⟩)
  clear hF hbb hbs
  go_enter Try.func5, Try.ntmps5
  go_upto_region 1 with fail
  rw [← hwb]
  clear hwb
  go_wp2_with (first
    | (go_at_call 10; refine (hl _).mono ?_; rintro e x8 ⟨rfl, t, rfl⟩; clear hl)
    | (go_at_call 15; refine (hj _).mono ?_; rintro e x1 ⟨rfl, rfl⟩; clear hj)
    | (go_at_call 16; refine (hcode _).mono ?_; rintro e x2 ⟨rfl, rfl⟩; clear hcode)
    | (go_at_call 11; refine (awake_any _).mono ?_; rintro e x9 ⟨rfl, hb9⟩))
  all_goals (go_ret; exact ⟨rfl, HB.out.1.trans (hb9.mono HB.out.1.size)⟩)

set_option maxHeartbeats 1000000 in
set_option maxRecDepth 100000 in
theorem negative (k m : Nat) (n : Int) (a : Option Addr) (len cap : Nat) (x y : Option Addr) (ns cs nh ch : Nat) (w : World) (h1 : 1 ≤ k) (h2 : 1 ≤ m) (h3 : k + m ≤ 255) (hn : n < 0)
    (hj : ∀ v : World, Calls Try.prog 15 #[.int .i64 k, .int .i64 m, .int .i64 n, .slice x ns cs, .slice y nh ch] v fun e w' => e = .returned (.tuple #[.slice none 0 0, .int .i64 1]) ∧ w' = v) :
    Calls Try.prog 5 #[.agg #[.int .i64 k, .int .i64 m, .slice a len cap, .slice y nh ch], .int .i64 n, .slice x ns cs] w fun e w' => e = .returned (.bool true) ∧ Below w.heap.size w w' := by
  obtain ⟨wb, hwb, hbb, hbs, hF⟩ := box4 w (.int .i64 k) (.int .i64 m) (.slice a len cap) (.slice y nh ch) 35
  obtain ⟨b0, b1, b2, b3⟩ := hF wb (Below.refl _ _)
  have hl := fun v => slight_any k m v
  have hcode := fun v => rcode_yes k m v (nat_code h1 h2 h3)
  clear h1 h2 h3
  have HB := hid (show Below w.heap.size w wb ∧ wb.heap.size = w.heap.size + 1 from ⟨hbb, hbs⟩)
  clear hF hbb hbs
  go_enter Try.func5, Try.ntmps5
  go_upto_region 1 with fail
  rw [← hwb]
  clear hwb
  go_wp2_with (first
    | (go_at_call 10; refine (hl _).mono ?_; rintro e x8 ⟨rfl, t, rfl⟩; clear hl)
    | (go_at_call 15; refine (hj _).mono ?_; rintro e x1 ⟨rfl, rfl⟩; clear hj)
    | (go_at_call 16; refine (hcode _).mono ?_; rintro e x2 ⟨rfl, rfl⟩; clear hcode)
    | (go_at_call 11; refine (awake_any _).mono ?_; rintro e x9 ⟨rfl, hb9⟩))
  all_goals (go_ret; exact ⟨rfl, HB.out.1.trans (hb9.mono HB.out.1.size)⟩)

set_option maxHeartbeats 1000000 in
set_option maxRecDepth 100000 in
theorem unlike (k m : Nat) (n : Int) (a : Option Addr) (len cap : Nat) (x y : Option Addr) (ns cs nh ch : Nat) (w : World) (h1 : 1 ≤ k) (h2 : 1 ≤ m) (h3 : k + m ≤ 255) (hn : ¬ (n < 0)) (hne : ns ≠ nh)
    (hj : ∀ v : World, Calls Try.prog 15 #[.int .i64 k, .int .i64 m, .int .i64 n, .slice x ns cs, .slice y nh ch] v fun e w' => e = .returned (.tuple #[.slice none 0 0, .int .i64 1]) ∧ w' = v) :
    Calls Try.prog 5 #[.agg #[.int .i64 k, .int .i64 m, .slice a len cap, .slice y nh ch], .int .i64 n, .slice x ns cs] w fun e w' => e = .returned (.bool true) ∧ Below w.heap.size w w' := by
  obtain ⟨wb, hwb, hbb, hbs, hF⟩ := box4 w (.int .i64 k) (.int .i64 m) (.slice a len cap) (.slice y nh ch) 35
  obtain ⟨b0, b1, b2, b3⟩ := hF wb (Below.refl _ _)
  have hl := fun v => slight_any k m v
  have hcode := fun v => rcode_yes k m v (nat_code h1 h2 h3)
  have g1 : ((ns : Int) != (nh : Int)) = true := by simp; omega
  clear h1 h2 h3 hne
  have HB := hid (show Below w.heap.size w wb ∧ wb.heap.size = w.heap.size + 1 from ⟨hbb, hbs⟩)
  clear hF hbb hbs
  go_enter Try.func5, Try.ntmps5
  go_upto_region 1 with fail
  rw [← hwb]
  clear hwb
  go_wp2_with (first
    | (go_at_call 10; refine (hl _).mono ?_; rintro e x8 ⟨rfl, t, rfl⟩; clear hl)
    | (go_at_call 15; refine (hj _).mono ?_; rintro e x1 ⟨rfl, rfl⟩; clear hj)
    | (go_at_call 16; refine (hcode _).mono ?_; rintro e x2 ⟨rfl, rfl⟩; clear hcode)
    | (go_at_call 11; refine (awake_any _).mono ?_; rintro e x9 ⟨rfl, hb9⟩))
  all_goals (go_ret; exact ⟨rfl, HB.out.1.trans (hb9.mono HB.out.1.size)⟩)

set_option maxHeartbeats 1000000 in
set_option maxRecDepth 100000 in
theorem many (k m : Nat) (n : Int) (a : Option Addr) (len cap : Nat) (x y : Option Addr) (ns cs ch : Nat) (w : World) (h1 : 1 ≤ k) (h2 : 1 ≤ m) (h3 : k + m ≤ 255) (hn : ¬ (n < 0)) (hne : ns ≠ k + m)
    (hj : ∀ v : World, Calls Try.prog 15 #[.int .i64 k, .int .i64 m, .int .i64 n, .slice x ns cs, .slice y ns ch] v fun e w' => e = .returned (.tuple #[.slice none 0 0, .int .i64 1]) ∧ w' = v) :
    Calls Try.prog 5 #[.agg #[.int .i64 k, .int .i64 m, .slice a len cap, .slice y ns ch], .int .i64 n, .slice x ns cs] w fun e w' => e = .returned (.bool true) ∧ Below w.heap.size w w' := by
  obtain ⟨wb, hwb, hbb, hbs, hF⟩ := box4 w (.int .i64 k) (.int .i64 m) (.slice a len cap) (.slice y ns ch) 35
  obtain ⟨b0, b1, b2, b3⟩ := hF wb (Below.refl _ _)
  have hl := fun v => slight_any k m v
  have hcode := fun v => rcode_yes k m v (nat_code h1 h2 h3)
  obtain ⟨s, hs⟩ : ∃ s, s = k + m := ⟨_, rfl⟩
  have hsi : (k : Int) + (m : Int) = (s : Int) := by omega
  have hs5 : s ≤ 255 := by omega
  have g0 : ((ns : Int) != (ns : Int)) = false := by simp
  have g1 : ((ns : Int) != (s : Int)) = true := by simp; omega
  clear h1 h2 h3 hne hs
  have HB := hid (show Below w.heap.size w wb ∧ wb.heap.size = w.heap.size + 1 from ⟨hbb, hbs⟩)
  clear hF hbb hbs
  go_enter Try.func5, Try.ntmps5
  go_upto_region 1 with fail
  rw [← hwb]
  clear hwb
  go_wp2_with (first
    | (go_at_call 10; refine (hl _).mono ?_; rintro e x8 ⟨rfl, t, rfl⟩; clear hl)
    | (go_at_call 15; refine (hj _).mono ?_; rintro e x1 ⟨rfl, rfl⟩; clear hj)
    | (go_at_call 16; refine (hcode _).mono ?_; rintro e x2 ⟨rfl, rfl⟩; clear hcode)
    | (go_at_call 11; refine (awake_any _).mono ?_; rintro e x9 ⟨rfl, hb9⟩))
  all_goals (go_ret; exact ⟨rfl, HB.out.1.trans (hb9.mono HB.out.1.size)⟩)

set_option maxHeartbeats 1000000 in
set_option maxRecDepth 100000 in
theorem long (k m : Nat) (n : Int) (a : Option Addr) (len cap : Nat) (x y : Option Addr) (ns cs ch : Nat) (w : World) (h1 : 1 ≤ k) (h2 : 1 ≤ m) (h3 : k + m ≤ 255) (hn : ¬ (n < 0)) (hn2 : 4096 < n) (hne : ns = k + m)
    (hj : ∀ v : World, Calls Try.prog 15 #[.int .i64 k, .int .i64 m, .int .i64 n, .slice x ns cs, .slice y ns ch] v fun e w' => e = .returned (.tuple #[.slice none 0 0, .int .i64 3]) ∧ w' = v) :
    Calls Try.prog 5 #[.agg #[.int .i64 k, .int .i64 m, .slice a len cap, .slice y ns ch], .int .i64 n, .slice x ns cs] w fun e w' => e = .returned (.bool true) ∧ Below w.heap.size w w' := by
  obtain ⟨wb, hwb, hbb, hbs, hF⟩ := box4 w (.int .i64 k) (.int .i64 m) (.slice a len cap) (.slice y ns ch) 35
  obtain ⟨b0, b1, b2, b3⟩ := hF wb (Below.refl _ _)
  have hl := fun v => slight_any k m v
  have hcode := fun v => rcode_yes k m v (nat_code h1 h2 h3)
  obtain ⟨s, hs⟩ : ∃ s, s = k + m := ⟨_, rfl⟩
  have hsi : (k : Int) + (m : Int) = (s : Int) := by omega
  have hs5 : s ≤ 255 := by omega
  have g0 : ((ns : Int) != (ns : Int)) = false := by simp
  have g1 : ((ns : Int) != (s : Int)) = false := by simp; omega
  clear h1 h2 h3 hne hs
  have HB := hid (show Below w.heap.size w wb ∧ wb.heap.size = w.heap.size + 1 from ⟨hbb, hbs⟩)
  clear hF hbb hbs
  go_enter Try.func5, Try.ntmps5
  go_upto_region 1 with fail
  rw [← hwb]
  clear hwb
  go_wp2_with (first
    | (go_at_call 10; refine (hl _).mono ?_; rintro e x8 ⟨rfl, t, rfl⟩; clear hl)
    | (go_at_call 15; refine (hj _).mono ?_; rintro e x1 ⟨rfl, rfl⟩; clear hj)
    | (go_at_call 16; refine (hcode _).mono ?_; rintro e x2 ⟨rfl, rfl⟩; clear hcode)
    | (go_at_call 11; refine (awake_any _).mono ?_; rintro e x9 ⟨rfl, hb9⟩))
  all_goals (go_ret; exact ⟨rfl, HB.out.1.trans (hb9.mono HB.out.1.size)⟩)

set_option maxHeartbeats 1000000 in
set_option maxRecDepth 100000 in
theorem badlen (k m n : Nat) (a : Option Addr) (len cap xb xo cs yb yo ch : Nat) (F : Nat → Nat → Nat) (A : Nat → Option Addr) (L C : Nat → Nat) (h : Nat → Bool) (w : World) (h1 : 1 ≤ k) (h2 : 1 ≤ m) (h3 : k + m ≤ 255) (hn : n ≤ 4096) (hG : IsGrid w (some ⟨xb, xo, none⟩) (k + m) A L C F) (hH : BoolsAt w (some ⟨yb, yo, none⟩) (k + m) h)
    (hx : ¬ ∀ i, i < k + m → h i = true → L i = 16 * stN k n) :
    Calls Try.prog 5 #[.agg #[.int .i64 k, .int .i64 m, .slice a len cap, .slice (some ⟨yb, yo, none⟩) (k + m) ch], .int .i64 n, .slice (some ⟨xb, xo, none⟩) (k + m) cs] w fun e w' => e = .returned (.bool true) ∧ Below w.heap.size w w' := by
  obtain ⟨wb, hwb, hbb, hbs, hF⟩ := box4 w (.int .i64 k) (.int .i64 m) (.slice a len cap) (.slice (some ⟨yb, yo, none⟩) (k + m) ch) 35
  obtain ⟨b0, b1, b2, b3⟩ := hF wb (Below.refl _ _)
  have hl := fun v => slight_any k m v
  have hj := join_bad k m n xb xo yb yo cs ch A L C F h wb h1 h2 h3 hn (hG.below hbb) (hH.below (Nat.le_refl _) hbb) hx
  have hcode := fun v => rcode_yes k m v (nat_code h1 h2 h3)
  have hrl := fun v => rlength_yes k n v h1 (by omega) hn
  obtain ⟨s, hs⟩ : ∃ s, s = k + m := ⟨_, rfl⟩
  have hsi : (k : Int) + (m : Int) = (s : Int) := by omega
  have hs5 : s ≤ 255 := by omega
  have g0 : ((s : Int) != (s : Int)) = false := by simp
  have hni : ¬ ((n : Int) < 0) := by omega
  have hnl : ¬ ((4096 : Int) < (n : Int)) := by omega
  have h300 : ¬ ((300 : Int) < (s : Int)) := by omega
  have hxw : xb < w.heap.size := by obtain ⟨_, _, e', l⟩ := grid_some hG (by omega); injection e' with e'; injection e' with e' _ _; omega
  have hyc : yb < w.heap.size ∧ ∀ i, i < k + m → w.cell? ⟨yb, yo + i, none⟩ = some (.bool (h i)) := by
    rcases hH with q | ⟨b', o', e1, e2, e3⟩
    · omega
    · injection e1 with e1
      injection e1 with e1 e4 _
      subst e1; subst e4
      exact ⟨e2, e3⟩
  have HC := hid (show (∀ v, Below w.heap.size w v → ∀ i, i < k + m → v.cell? ⟨yb, yo + i, none⟩ = some (.bool (h i)) ∧ v.cell? ⟨xb, xo + i, none⟩ = some (.slice (A i) (L i) (C i))) from fun v hv i hi => ⟨(hv.cell (by exact hyc.1)).trans (hyc.2 i hi), (hv.cell (by exact hxw)).trans (grid_tops hG hi)⟩)
  have HX := hid hx
  generalize 16 * stN k n = Z at hrl HX
  clear hx
  rw [← hs] at hj b3 HC HX ⊢
  have HB := hid (show Below w.heap.size w wb ∧ wb.heap.size = w.heap.size + 1 from ⟨hbb, hbs⟩)
  rw [← hs] at hwb
  clear hF hbb hbs h1 h2 h3 hs hG hH hyc
  go_enter Try.func5, Try.ntmps5
  go_upto_region 1 with fail
  rw [← hwb]
  clear hwb
  go_upto_region 12 with (first
    | (go_at_call 10; refine (hl _).mono ?_; rintro e x8 ⟨rfl, t, rfl⟩; clear hl)
    | (go_at_call 15; refine hj.mono ?_; rintro e x1 ⟨rfl, rfl⟩; clear hj)
    | (go_at_call 16; refine (hcode _).mono ?_; rintro e x2 ⟨rfl, rfl⟩; clear hcode)
    | (go_at_call 9; refine (hrl _).mono ?_; rintro e x3 ⟨rfl, rfl⟩; clear hrl)
    | (go_at_call 11; refine (awake_any _).mono ?_; rintro e x9 ⟨rfl, hb9⟩))
  all_goals try (go_ret; exact ⟨rfl, HB.out.1.trans (hb9.mono HB.out.1.size)⟩)
  go_wp2_with fail
  obtain ⟨wl, hwl⟩ : ∃ wl, wl = x3 := ⟨_, rfl⟩
  go_loopw [11, 12] (fun N i wr => ∃ r : Nat, r ≤ s ∧ i = .int .i64 r ∧ wr = x3 ∧ (∃ S : Nat, S ≤ r ∧ N = .int .i64 S) ∧ Hid (∀ i, i < r → h i = true → L i = Z)) (fun _ i _ => s - (intOf i).toNat)
  case atStart => exact ⟨0, by omega, rfl, rfl, ⟨0, by omega, rfl⟩, fun i hi => by omega⟩
  case round =>
    obtain ⟨r, hr, rfl, rfl, ⟨S, hS, rfl⟩, HA⟩ := hrel
    by_cases hlt : r < s
    · have hrs : (r : Int) < (s : Int) := by omega
      obtain ⟨c1, c2⟩ := HC.out wr HB.out.1 r hlt
      have hS5 : S ≤ 255 := by omega
      cases hd : h r with
      | false =>
        rw [hd] at c1
        have HA2 : Hid (∀ i, i < r + 1 → h i = true → L i = Z) := fun i hi q => by
          by_cases e : i = r
          · rw [e, hd] at q; cases q
          · exact HA.out i (by omega) q
        clear HA hd
        go_wp2_with fail
        go_roundw
        case rel => exact ⟨r + 1, by omega, by go_num, trivial, ⟨S, by omega, rfl⟩, HA2⟩
        case measure => simp [intOf]; omega
      | true =>
        rw [hd] at c1
        by_cases e : L r = Z
        · have HA2 : Hid (∀ i, i < r + 1 → h i = true → L i = Z) := fun i hi q => by
            by_cases e2 : i = r
            · rw [e2]; exact e
            · exact HA.out i (by omega) q
          have g2 : ((L r : Int) != (Z : Int)) = false := by rw [e]; simp
          clear HA hd e
          go_wp2_with fail
          go_roundw
          case rel => exact ⟨r + 1, by omega, by go_num, trivial, ⟨S + 1, by omega, by go_num⟩, HA2⟩
          case measure => simp [intOf]; omega
        · have g2 : ((L r : Int) != (Z : Int)) = true := by simp; omega
          clear HA hd e
          go_wp2_with (go_at_call 11; refine (awake_any _).mono ?_; rintro e x9 ⟨rfl, hb9⟩)
          go_ret
          exact ⟨rfl, HB.out.1.trans (hb9.mono HB.out.1.size)⟩
    · exact absurd (fun i hi q => HA.out i (by omega) q) HX.out

end Go.Proofs.Ytmlaloadeeohbaa.Rf

/-
  StripeRefuses' walk where one has too few.
  Conditions: said at each.
-/
namespace Go.Proofs.Ytmlaloadeeohbaa.Rf
open Go.RowKit Gf
set_option linter.unusedVariables false
set_option linter.unusedSimpArgs false
set_option maxRecDepth 100000

set_option maxHeartbeats 1000000 in
set_option maxRecDepth 100000 in
theorem few (k m n c : Nat) (g : Nat → Nat) (a : Option Addr) (len cap xb xo cs yb yo ch : Nat) (F : Nat → Nat → Nat) (A : Nat → Option Addr) (L C : Nat → Nat) (h : Nat → Bool) (w : World) (h1 : 1 ≤ k) (h2 : 1 ≤ m) (h3 : k + m ≤ 255) (hn : n ≤ 4096) (hG : IsGrid w (some ⟨xb, xo, none⟩) (k + m) A L C F) (hH : BoolsAt w (some ⟨yb, yo, none⟩) (k + m) h) (hx : ∀ i, i < k + m → h i = true → L i = 16 * stN k n) (hP : Plc h (k + m) c g) (hck : c < k) :
    Calls Try.prog 5 #[.agg #[.int .i64 k, .int .i64 m, .slice a len cap, .slice (some ⟨yb, yo, none⟩) (k + m) ch], .int .i64 n, .slice (some ⟨xb, xo, none⟩) (k + m) cs] w fun e w' => e = .returned (.bool true) ∧ Below w.heap.size w w' := by
  obtain ⟨wb, hwb, hbb, hbs, hF⟩ := box4 w (.int .i64 k) (.int .i64 m) (.slice a len cap) (.slice (some ⟨yb, yo, none⟩) (k + m) ch) 35
  obtain ⟨b0, b1, b2, b3⟩ := hF wb (Below.refl _ _)
  have hl := fun v => slight_any k m v
  have hj := join_few k m n xb xo yb yo cs ch c A L C F h g wb h1 h2 h3 hn (hG.below hbb) (hH.below (Nat.le_refl _) hbb) hx hP hck
  have hcode := fun v => rcode_yes k m v (nat_code h1 h2 h3)
  have hrl := fun v => rlength_yes k n v h1 (by omega) hn
  obtain ⟨s, hs⟩ : ∃ s, s = k + m := ⟨_, rfl⟩
  have hsi : (k : Int) + (m : Int) = (s : Int) := by omega
  have hs5 : s ≤ 255 := by omega
  have g0 : ((s : Int) != (s : Int)) = false := by simp
  have hni : ¬ ((n : Int) < 0) := by omega
  have hnl : ¬ ((4096 : Int) < (n : Int)) := by omega
  have h300 : ¬ ((300 : Int) < (s : Int)) := by omega
  have hxw : xb < w.heap.size := by obtain ⟨_, _, e', l⟩ := grid_some hG (by omega); injection e' with e'; injection e' with e' _ _; omega
  have hyc : yb < w.heap.size ∧ ∀ i, i < k + m → w.cell? ⟨yb, yo + i, none⟩ = some (.bool (h i)) := by
    rcases hH with q | ⟨b', o', e1, e2, e3⟩
    · omega
    · injection e1 with e1
      injection e1 with e1 e4 _
      subst e1; subst e4
      exact ⟨e2, e3⟩
  have HC := hid (show (∀ v, Below w.heap.size w v → ∀ i, i < k + m → v.cell? ⟨yb, yo + i, none⟩ = some (.bool (h i)) ∧ v.cell? ⟨xb, xo + i, none⟩ = some (.slice (A i) (L i) (C i))) from fun v hv i hi => ⟨(hv.cell (by exact hyc.1)).trans (hyc.2 i hi), (hv.cell (by exact hxw)).trans (grid_tops hG hi)⟩)
  have HX := hid hx
  have HPc := hid (show c = cnt h (k + m) from hP.all)
  generalize 16 * stN k n = Z at hrl HX
  clear hx
  rw [← hs] at hj b3 HC HX HPc ⊢
  have HB := hid (show Below w.heap.size w wb ∧ wb.heap.size = w.heap.size + 1 from ⟨hbb, hbs⟩)
  rw [← hs] at hwb
  rw [← hs] at hF
  have HF := hid hF
  clear hF hbb hbs h1 h2 h3 hs hG hH hyc hP
  go_enter Try.func5, Try.ntmps5
  go_upto_region 1 with fail
  rw [← hwb]
  clear hwb
  go_upto_region 12 with (first
    | (go_at_call 10; refine (hl _).mono ?_; rintro e x8 ⟨rfl, t, rfl⟩; clear hl)
    | (go_at_call 15; refine hj.mono ?_; rintro e x1 ⟨rfl, hb1⟩; clear hj; clear b0 b1 b2 b3; obtain ⟨b0, b1, b2, b3⟩ := HF.out x1 hb1; have HB1 := hid hb1; have HW := hid (HB.out.1.trans (hb1.mono HB.out.1.size)); clear hb1)
    | (go_at_call 16; refine (hcode _).mono ?_; rintro e x2 ⟨rfl, rfl⟩; clear hcode)
    | (go_at_call 9; refine (hrl _).mono ?_; rintro e x3 ⟨rfl, rfl⟩; clear hrl)
    | (go_at_call 11; refine (awake_any _).mono ?_; rintro e x9 ⟨rfl, hb9⟩))
  all_goals try (go_ret; exact ⟨rfl, HB.out.1.trans (hb9.mono HB.out.1.size)⟩)
  go_wp2_with fail
  go_loopw [11, 12] (fun N i wr => ∃ r S : Nat, r ≤ s ∧ S ≤ r ∧ i = .int .i64 r ∧ N = .int .i64 S ∧ wr = x3 ∧ Hid (S = cnt h r)) (fun _ i _ => s - (intOf i).toNat)
  case atStart => exact ⟨0, 0, by omega, by omega, rfl, rfl, rfl, rfl⟩
  case round =>
    obtain ⟨r, S, hr, hS, rfl, rfl, rfl, HS⟩ := hrel
    by_cases hlt : r < s
    · have hrs : (r : Int) < (s : Int) := by omega
      obtain ⟨c1, c2⟩ := HC.out wr HW.out r hlt
      have hS5 : S ≤ 255 := by omega
      cases hd : h r with
      | false =>
        rw [hd] at c1
        have HS2 : Hid (S = cnt h (r + 1)) := by rw [cnt_false hd]; exact HS
        clear HS hd
        go_wp2_with fail
        go_roundw
        case rel => exact ⟨r + 1, S, by omega, by omega, by go_num, rfl, trivial, HS2⟩
        case measure => simp [intOf]; omega
      | true =>
        rw [hd] at c1
        have HS2 : Hid (S + 1 = cnt h (r + 1)) := by rw [cnt_true hd, HS.out]; exact rfl
        have hLZ : L r = Z := HX.out r hlt hd
        rw [hLZ] at c2
        have g2 : ((Z : Int) != (Z : Int)) = false := by simp
        clear HS hd hLZ
        go_wp2_with fail
        go_roundw
        case rel => exact ⟨r + 1, S + 1, by omega, by omega, by go_num, by go_num, trivial, HS2⟩
        case measure => simp [intOf]; omega
    · obtain rfl : r = s := by omega
      have hSc : S = c := by rw [HS.out, HPc.out]
      have hSk : (S : Int) < (k : Int) := by omega
      clear HS hSc HPc
      go_wp2_with (go_at_call 11; refine (awake_any _).mono ?_; rintro e x9 ⟨rfl, hb9⟩)
      go_ret
      exact ⟨rfl, HW.out.trans (hb9.mono HW.out.size)⟩

end Go.Proofs.Ytmlaloadeeohbaa.Rf

/-
  StripeRefuses' walk where an object is told: the first K are its shards.
  Conditions: said at each.
-/
namespace Go.Proofs.Ytmlaloadeeohbaa.Rf
open Go.RowKit Gf
set_option linter.unusedVariables false
set_option linter.unusedSimpArgs false
set_option maxRecDepth 100000

/- What is told deals out to what one has. -/
theorem told_back {k m n c : Nat} {g : Nat → Nat} {h : Nat → Bool} {F : Nat → Nat → Nat} (hF : ∀ r j, F r j < 256) (h1 : 1 ≤ k) (h3 : k + m ≤ 255) (hP : Plc h (k + m) c g) (hck : k ≤ c)
    (h0 : ∀ p, n ≤ p → p < k * (16 * stN k n) → toldF k m g F p = 0) {t j : Nat} (ht : t < k) (hj : j < 16 * stN k n) : encF k m (dealF k n (toldF k m g F)) (g t) j = F (g t) j := by
  have hg : ∀ r, r < k → g r < k + m := fun r hr => hP.lt r (by omega)
  have hinj : ∀ r s, r < k → s < k → g r = g s → r = s := fun r s hr hs e => hP.inj (by omega) (by omega) e
  have e1 : encF k m (dealF k n (toldF k m g F)) (g t) j = encF k m (decF k m g (fun r => F (g r))) (g t) j := encF_congr fun i hi => deal_back h0 hi hj
  rw [e1, decF_code (fun r j => hF _ j), decF_kept (fun r j => hF _ j) h3 hg hinj ht]

set_option maxHeartbeats 1000000 in
set_option maxRecDepth 100000 in
theorem gives (k m n c : Nat) (g : Nat → Nat) (a : Option Addr) (len cap xb xo cs yb yo ch : Nat) (F : Nat → Nat → Nat) (A : Nat → Option Addr) (L C : Nat → Nat) (h : Nat → Bool) (w : World) (h1 : 1 ≤ k) (h2 : 1 ≤ m) (h3 : k + m ≤ 255) (hn : n ≤ 4096) (hG : IsGrid w (some ⟨xb, xo, none⟩) (k + m) A L C F) (hH : BoolsAt w (some ⟨yb, yo, none⟩) (k + m) h) (hx : ∀ i, i < k + m → h i = true → L i = 16 * stN k n) (hP : Plc h (k + m) c g) (hck : k ≤ c) (hy : ∀ p, n ≤ p → p < k * (16 * stN k n) → toldF k m g F p = 0) :
    Calls Try.prog 5 #[.agg #[.int .i64 k, .int .i64 m, .slice a len cap, .slice (some ⟨yb, yo, none⟩) (k + m) ch], .int .i64 n, .slice (some ⟨xb, xo, none⟩) (k + m) cs] w fun e w' => e = .returned (.bool true) ∧ Below w.heap.size w w' := by
  obtain ⟨wb, hwb, hbb, hbs, hF⟩ := box4 w (.int .i64 k) (.int .i64 m) (.slice a len cap) (.slice (some ⟨yb, yo, none⟩) (k + m) ch) 35
  obtain ⟨b0, b1, b2, b3⟩ := hF wb (Below.refl _ _)
  have hl := fun v => slight_any k m v
  have hj := join_yes k m n xb xo yb yo cs ch c A L C F h g wb h1 h2 h3 hn (hG.below hbb) (hH.below (Nat.le_refl _) hbb) hx hP hck hy
  have hTl := toldF_lt (k := k) (m := m) (g := g) hG.2.2
  have hrs : ∀ (v : World) G, RowAt v (some ⟨G, 0, none⟩) n (toldF k m g F) → Calls Try.prog 13 #[.int .i64 k, .int .i64 m, .slice (some ⟨G, 0, none⟩) n n] v _ := fun v G hv => rsplit_yes k m n n (some ⟨G, 0, none⟩) (toldF k m g F) v h1 h2 h3 hn hTl hv
  have hEQ : ∀ t, t < k → ∀ j, j < 16 * stN k n → encF k m (dealF k n (toldF k m g F)) (g t) j = F (g t) j := fun t ht j hj => told_back hG.2.2 h1 h3 hP hck hy ht hj
  have hEl : ∀ r j, encF k m (dealF k n (toldF k m g F)) r j < 256 := encF_lt (dealF_lt hTl)
  have hcode := fun v => rcode_yes k m v (nat_code h1 h2 h3)
  have hrl := fun v => rlength_yes k n v h1 (by omega) hn
  obtain ⟨s, hs⟩ : ∃ s, s = k + m := ⟨_, rfl⟩
  have hsi : (k : Int) + (m : Int) = (s : Int) := by omega
  have hs5 : s ≤ 255 := by omega
  have g0 : ((s : Int) != (s : Int)) = false := by simp
  have hni : ¬ ((n : Int) < 0) := by omega
  have hnl : ¬ ((4096 : Int) < (n : Int)) := by omega
  have h300 : ¬ ((300 : Int) < (s : Int)) := by omega
  have hxw : xb < w.heap.size := by obtain ⟨_, _, e', l⟩ := grid_some hG (by omega); injection e' with e'; injection e' with e' _ _; omega
  have hyc : yb < w.heap.size ∧ ∀ i, i < k + m → w.cell? ⟨yb, yo + i, none⟩ = some (.bool (h i)) := by
    rcases hH with q | ⟨b', o', e1, e2, e3⟩
    · omega
    · injection e1 with e1
      injection e1 with e1 e4 _
      subst e1; subst e4
      exact ⟨e2, e3⟩
  have HC := hid (show (∀ v, Below w.heap.size w v → ∀ i, i < k + m → v.cell? ⟨yb, yo + i, none⟩ = some (.bool (h i)) ∧ v.cell? ⟨xb, xo + i, none⟩ = some (.slice (A i) (L i) (C i))) from fun v hv i hi => ⟨(hv.cell (by exact hyc.1)).trans (hyc.2 i hi), (hv.cell (by exact hxw)).trans (grid_tops hG hi)⟩)
  have HX := hid hx
  have HPc := hid (show c = cnt h (k + m) from hP.all)
  have HG := hid (show IsGrid w (some ⟨xb, xo, none⟩) (k + m) A L C F from hG)
  have HPg := hid (show Plc h (k + m) c g ∧ k ≤ c from ⟨hP, hck⟩)
  generalize 16 * stN k n = Z at hrl HX hrs hEQ hy
  generalize encF k m (dealF k n (toldF k m g F)) = E at hrs hEQ hEl
  generalize toldF k m g F = T at hj hrs hTl hy
  have HE := hid (show (∀ t, t < k → ∀ j, j < Z → E (g t) j = F (g t) j) ∧ ∀ r j, E r j < 256 from ⟨hEQ, hEl⟩)
  simp only [← hs] at hrs
  clear hy hTl hEQ hEl
  clear hx
  rw [← hs] at hj b3 HC HX HPc ⊢
  have HB := hid (show Below w.heap.size w wb ∧ wb.heap.size = w.heap.size + 1 from ⟨hbb, hbs⟩)
  rw [← hs] at hwb
  rw [← hs] at hF
  have HF := hid hF
  rw [← hs] at HG HPg
  clear hF hbb hbs h1 h2 h3 hs hG hH hyc hP hck
  go_enter Try.func5, Try.ntmps5
  go_upto_region 1 with fail
  rw [← hwb]
  clear hwb
  go_upto_region 12 with (first
    | (go_at_call 10; refine (hl _).mono ?_; rintro e x8 ⟨rfl, t, rfl⟩; clear hl)
    | (go_at_call 15; refine hj.mono ?_; rintro e x1 ⟨hb1, G7, rfl, hrow7⟩; clear hj; have hr7 := hrs x1 G7 hrow7; clear hrs hrow7; clear b0 b1 b2 b3; obtain ⟨b0, b1, b2, b3⟩ := HF.out x1 hb1; have HB1 := hid hb1; have HW := hid (HB.out.1.trans (hb1.mono HB.out.1.size)); clear hb1)
    | (go_at_call 16; refine (hcode _).mono ?_; rintro e x2 ⟨rfl, rfl⟩; clear hcode)
    | (go_at_call 9; refine (hrl _).mono ?_; rintro e x3 ⟨rfl, rfl⟩; clear hrl)
    | (go_at_call 11; refine (awake_any _).mono ?_; rintro e x9 ⟨rfl, hb9⟩))
  all_goals try (go_ret; exact ⟨rfl, HB.out.1.trans (hb9.mono HB.out.1.size)⟩)
  go_wp2_with fail
  go_loopw [11, 12] (fun N i wr => ∃ r S : Nat, r ≤ s ∧ S ≤ r ∧ i = .int .i64 r ∧ N = .int .i64 S ∧ wr = x3 ∧ Hid (S = cnt h r)) (fun _ i _ => s - (intOf i).toNat)
  case atStart => exact ⟨0, 0, by omega, by omega, rfl, rfl, rfl, rfl⟩
  case round =>
    obtain ⟨r, S, hr, hS, rfl, rfl, rfl, HS⟩ := hrel
    by_cases hlt : r < s
    · have hrs : (r : Int) < (s : Int) := by omega
      obtain ⟨c1, c2⟩ := HC.out wr HW.out r hlt
      have hS5 : S ≤ 255 := by omega
      cases hd : h r with
      | false =>
        rw [hd] at c1
        have HS2 : Hid (S = cnt h (r + 1)) := by rw [cnt_false hd]; exact HS
        clear HS hd
        go_wp2_with fail
        go_roundw
        case rel => exact ⟨r + 1, S, by omega, by omega, by go_num, rfl, trivial, HS2⟩
        case measure => simp [intOf]; omega
      | true =>
        rw [hd] at c1
        have HS2 : Hid (S + 1 = cnt h (r + 1)) := by rw [cnt_true hd, HS.out]; exact rfl
        have hLZ : L r = Z := HX.out r hlt hd
        rw [hLZ] at c2
        have g2 : ((Z : Int) != (Z : Int)) = false := by simp
        clear HS hd hLZ
        go_wp2_with fail
        go_roundw
        case rel => exact ⟨r + 1, S + 1, by omega, by omega, by go_num, by go_num, trivial, HS2⟩
        case measure => simp [intOf]; omega
    · obtain rfl : r = s := by omega
      have hSc : S = c := by rw [HS.out, HPc.out]
      have hSk : ¬ ((S : Int) < (k : Int)) := by have := HPg.out.2; omega
      have gnn : ((n : Int) == (n : Int)) = true := by simp
      clear HS hSc HPc
      go_wp2_with (go_at_call 13; refine hr7.mono ?_; rintro e x4 ⟨hb4, B4, c4, G4, C4, rfl, hO4⟩; clear hr7; have HO4 := hid hO4; have HB4 := hid (show Below wr.heap.size wr x4 from hb4); clear hO4 hb4)
      obtain ⟨wo, hwo⟩ : ∃ wo, wo = wr := ⟨_, rfl⟩
      subst hwo
      clear b0 b1 b2 b3 hSk
      go_loopw [15, 16] (fun N i v => ∃ p S' : Nat, p ≤ r ∧ S' ≤ k ∧ i = .int .i64 p ∧ N = .int .i64 S' ∧ Hid (S' = min (cnt h p) k) ∧ Hid (∃ q, v = x4.drewN q)) (fun _ i _ => r - (intOf i).toNat)
      case atStart => exact ⟨0, 0, by omega, by omega, rfl, rfl, (show 0 = min 0 k by omega), 0, rfl⟩
      case round =>
        obtain ⟨p, S', hp, hS', rfl, rfl, HS', HQ⟩ := hrel
        have hbw : Below wo.heap.size wo wr := by
          obtain ⟨q, hq⟩ := HQ.out
          rw [hq]
          exact below_drewN' HB4.out q
        have hwb : Below w.heap.size w wr := HW.out.trans (hbw.mono HW.out.size)
        obtain ⟨d0, _, _, d3⟩ := HF.out wr (HB1.out.trans (hbw.mono HB1.out.size))
        by_cases hlt : p < r
        · have hpr : (p : Int) < (r : Int) := by omega
          obtain ⟨c1, c2⟩ := HC.out wr hwb p hlt
          have c3 : wr.drew.cell? ⟨B4, p, none⟩ = some (.slice (some ⟨G4 p, 0, none⟩) Z (C4 p)) := by
            obtain ⟨q, hq⟩ := HQ.out
            rw [hq]
            exact HO4.out.top p hlt
          cases hd : h p with
          | false =>
            rw [hd] at c1
            have HN : Hid (S' = min (cnt h (p + 1)) k) := by rw [cnt_false hd]; exact HS'
            clear HS' hd hbw hwb c2 c3 d0
            go_wp2_with fail
            go_roundw
            case rel => exact ⟨p + 1, S', by omega, by omega, by go_num, rfl, HN, HQ⟩
            case measure => simp [intOf]; omega
          | true =>
            rw [hd] at c1
            by_cases hSk : S' < k
            · have hSki : (S' : Int) < (k : Int) := by omega
              have hLZ : L p = Z := HX.out p hlt hd
              have hcn : S' = cnt h p := by have := HS'.out; omega
              have hf := HPg.out.1.find hlt hd
              have hEF : ∀ j, j < Z → E p j = F p j := fun j hj => by
                have := HE.out.1 (cnt h p) (by omega) j hj
                rwa [hf.2] at this
              have hrF : RowAt wr (A p) Z (F p) := by
                have := (HG.out.below hwb).2.1 p hlt
                rwa [hLZ] at this
              have hrE : RowAt wr (some ⟨G4 p, 0, none⟩) Z (E p) := by
                obtain ⟨q, hq⟩ := HQ.out
                rw [hq]
                exact HO4.out.row hlt
              have v1 := conv_row wr _ _ (C p) (F p) hrF
              have v2 := conv_row wr _ _ (C4 p) (E p) hrE
              have v1d := conv_row wr.drew _ _ (C p) (F p) hrF
              have v2d := conv_row wr.drew _ _ (C4 p) (E p) hrE
              have hstr : strOfNums (nums (E p) Z) = strOfNums (nums (F p) Z) := str_congr hEF
              rw [hstr] at v2 v2d
              generalize strOfNums (nums (F p) Z) = ST at v1 v2 v1d v2d
              rw [hLZ] at c2
              have c2d : wr.drew.cell? ⟨xb, xo + p, none⟩ = some (.slice (A p) Z (C p)) := c2
              have HN : Hid (S' + 1 = min (cnt h (p + 1)) k) := by rw [cnt_true hd, hcn]; show _ = _; omega
              have hS5 : S' ≤ 255 := by omega
              clear HS' hd hbw hwb hLZ hcn hf hEF hrF hrE hstr hSk c2
              go_wp2_with fail
              go_region
              go_wp2_with fail
              go_roundw
              case rel => exact ⟨p + 1, S' + 1, by omega, by omega, by go_num, by go_num, HN, drewN_more (n := 1) HQ.out⟩
              case measure => simp [intOf]; omega
            · have hSki : ¬ ((S' : Int) < (k : Int)) := by omega
              have HN : Hid (S' = min (cnt h (p + 1)) k) := by have := HS'.out; rw [cnt_true hd]; show _ = _; omega
              clear HS' hd hbw hwb c2 c3 hSk
              go_wp2_with fail
              go_roundw
              case rel => exact ⟨p + 1, S', by omega, by omega, by go_num, rfl, HN, HQ⟩
              case measure => simp [intOf]; omega
        · obtain rfl : p = r := by omega
          have HWr := hid hwb
          clear hwb hbw HS' d0 d3
          go_wp2_with (go_at_call 11; refine (awake_any _).mono ?_; rintro e x9 ⟨rfl, hb9⟩)
          go_ret
          exact ⟨rfl, HWr.out.trans (hb9.mono HWr.out.size)⟩

end Go.Proofs.Ytmlaloadeeohbaa.Rf

/-
  StripeRefuses' walk where what is told is not 0 behind the end.
  Conditions: said at each.
-/
namespace Go.Proofs.Ytmlaloadeeohbaa.Rf
open Go.RowKit Gf
set_option linter.unusedVariables false
set_option linter.unusedSimpArgs false
set_option maxRecDepth 100000

set_option maxHeartbeats 1000000 in
set_option maxRecDepth 100000 in
theorem turned (k m n c : Nat) (g : Nat → Nat) (a : Option Addr) (len cap xb xo cs yb yo ch : Nat) (F : Nat → Nat → Nat) (A : Nat → Option Addr) (L C : Nat → Nat) (h : Nat → Bool) (w : World) (h1 : 1 ≤ k) (h2 : 1 ≤ m) (h3 : k + m ≤ 255) (hn : n ≤ 4096) (hG : IsGrid w (some ⟨xb, xo, none⟩) (k + m) A L C F) (hH : BoolsAt w (some ⟨yb, yo, none⟩) (k + m) h) (hx : ∀ i, i < k + m → h i = true → L i = 16 * stN k n) (hP : Plc h (k + m) c g) (hck : k ≤ c) (hy : ¬ ∀ p, n ≤ p → p < k * (16 * stN k n) → toldF k m g F p = 0) :
    Calls Try.prog 5 #[.agg #[.int .i64 k, .int .i64 m, .slice a len cap, .slice (some ⟨yb, yo, none⟩) (k + m) ch], .int .i64 n, .slice (some ⟨xb, xo, none⟩) (k + m) cs] w fun e w' => e = .returned (.bool true) ∧ Below w.heap.size w w' := by
  obtain ⟨wb, hwb, hbb, hbs, hF⟩ := box4 w (.int .i64 k) (.int .i64 m) (.slice a len cap) (.slice (some ⟨yb, yo, none⟩) (k + m) ch) 35
  obtain ⟨b0, b1, b2, b3⟩ := hF wb (Below.refl _ _)
  have hl := fun v => slight_any k m v
  have hj := join_wrong k m n xb xo yb yo cs ch c A L C F h g wb h1 h2 h3 hn (hG.below hbb) (hH.below (Nat.le_refl _) hbb) hx hP hck hy
  have hS5 : stN k n ≤ 4096 := Nat.le_trans (stN_le h1) hn
  have hdc : ∀ v, Below w.heap.size w v → Calls Try.prog 17 #[.int .i64 k, .int .i64 m, .slice (some ⟨xb, xo, none⟩) (k + m) cs, .slice (some ⟨yb, yo, none⟩) (k + m) ch] v _ := fun v hv =>
    decode_cap k m (16 * stN k n) xb xo yb yo cs ch c A L C F h g v h1 h2 h3 (by omega) (hG.below hv) (hH.below (Nat.le_refl _) hv) hP (fun r hr => hx _ (hP.lt r hr) (hP.has r hr)) hck
  have hZ5 : 16 * stN k n ≤ 65536 := by omega
  have hat : ∀ p, p < k * (16 * stN k n) → p / 16 / k * 16 + p % 16 < 16 * stN k n := fun p hp => at_lt h1 hp
  have hcode := fun v => rcode_yes k m v (nat_code h1 h2 h3)
  have hrl := fun v => rlength_yes k n v h1 (by omega) hn
  obtain ⟨s, hs⟩ : ∃ s, s = k + m := ⟨_, rfl⟩
  have hsi : (k : Int) + (m : Int) = (s : Int) := by omega
  have hs5 : s ≤ 255 := by omega
  have g0 : ((s : Int) != (s : Int)) = false := by simp
  have hni : ¬ ((n : Int) < 0) := by omega
  have hnl : ¬ ((4096 : Int) < (n : Int)) := by omega
  have h300 : ¬ ((300 : Int) < (s : Int)) := by omega
  have hxw : xb < w.heap.size := by obtain ⟨_, _, e', l⟩ := grid_some hG (by omega); injection e' with e'; injection e' with e' _ _; omega
  have hyc : yb < w.heap.size ∧ ∀ i, i < k + m → w.cell? ⟨yb, yo + i, none⟩ = some (.bool (h i)) := by
    rcases hH with q | ⟨b', o', e1, e2, e3⟩
    · omega
    · injection e1 with e1
      injection e1 with e1 e4 _
      subst e1; subst e4
      exact ⟨e2, e3⟩
  have HC := hid (show (∀ v, Below w.heap.size w v → ∀ i, i < k + m → v.cell? ⟨yb, yo + i, none⟩ = some (.bool (h i)) ∧ v.cell? ⟨xb, xo + i, none⟩ = some (.slice (A i) (L i) (C i))) from fun v hv i hi => ⟨(hv.cell (by exact hyc.1)).trans (hyc.2 i hi), (hv.cell (by exact hxw)).trans (grid_tops hG hi)⟩)
  have HX := hid hx
  have HPc := hid (show c = cnt h (k + m) from hP.all)
  have hDl : ∀ r j, decF k m g (fun r => F (g r)) r j < 256 := decF_lt (fun r j => hG.2.2 _ j)
  have hyy : ¬ ∀ p, n ≤ p → p < k * (16 * stN k n) → decF k m g (fun r => F (g r)) (p / 16 % k) (p / 16 / k * 16 + p % 16) = 0 := hy
  generalize 16 * stN k n = Z at hrl HX hdc hyy hZ5 hat
  generalize decF k m g (fun r => F (g r)) = D at hdc hyy hDl
  have HY := hid (show (¬ ∀ p, n ≤ p → p < k * Z → D (p / 16 % k) (p / 16 / k * 16 + p % 16) = 0) ∧ 1 ≤ k ∧ (∀ p, p < k * Z → p / 16 / k * 16 + p % 16 < Z) from ⟨hyy, h1, hat⟩)
  have HDl := hid hDl
  have HKC := hid (show k ≤ c ∧ k ≤ 254 from ⟨hck, by omega⟩)
  simp only [← hs] at hdc
  clear hy hyy hDl hat hS5
  clear hx
  rw [← hs] at hj b3 HC HX HPc ⊢
  have HB := hid (show Below w.heap.size w wb ∧ wb.heap.size = w.heap.size + 1 from ⟨hbb, hbs⟩)
  rw [← hs] at hwb
  rw [← hs] at hF
  have HF := hid hF
  clear hF hbb hbs h1 h2 h3 hs hG hH hyc hck hP
  go_enter Try.func5, Try.ntmps5
  go_upto_region 1 with fail
  rw [← hwb]
  clear hwb
  go_upto_region 12 with (first
    | (go_at_call 10; refine (hl _).mono ?_; rintro e x8 ⟨rfl, t, rfl⟩; clear hl)
    | (go_at_call 15; refine hj.mono ?_; rintro e x1 ⟨hb1, rfl⟩; clear hj; clear b0 b1 b2 b3; obtain ⟨b0, b1, b2, b3⟩ := HF.out x1 hb1; have HB1 := hid hb1; have HW := hid (HB.out.1.trans (hb1.mono HB.out.1.size)); clear hb1)
    | (go_at_call 16; refine (hcode _).mono ?_; rintro e x2 ⟨rfl, rfl⟩; clear hcode)
    | (go_at_call 9; refine (hrl _).mono ?_; rintro e x3 ⟨rfl, rfl⟩; clear hrl)
    | (go_at_call 11; refine (awake_any _).mono ?_; rintro e x9 ⟨rfl, hb9⟩))
  all_goals try (go_ret; exact ⟨rfl, HB.out.1.trans (hb9.mono HB.out.1.size)⟩)
  go_wp2_with fail
  go_loopw [11, 12] (fun N i wr => ∃ r S : Nat, r ≤ s ∧ S ≤ r ∧ i = .int .i64 r ∧ N = .int .i64 S ∧ wr = x3 ∧ Hid (S = cnt h r)) (fun _ i _ => s - (intOf i).toNat)
  case atStart => exact ⟨0, 0, by omega, by omega, rfl, rfl, rfl, rfl⟩
  case round =>
    obtain ⟨r, S, hr, hS, rfl, rfl, rfl, HS⟩ := hrel
    by_cases hlt : r < s
    · have hrs : (r : Int) < (s : Int) := by omega
      obtain ⟨c1, c2⟩ := HC.out wr HW.out r hlt
      have hS5 : S ≤ 255 := by omega
      cases hd : h r with
      | false =>
        rw [hd] at c1
        have HS2 : Hid (S = cnt h (r + 1)) := by rw [cnt_false hd]; exact HS
        clear HS hd
        go_wp2_with fail
        go_roundw
        case rel => exact ⟨r + 1, S, by omega, by omega, by go_num, rfl, trivial, HS2⟩
        case measure => simp [intOf]; omega
      | true =>
        rw [hd] at c1
        have HS2 : Hid (S + 1 = cnt h (r + 1)) := by rw [cnt_true hd, HS.out]; exact rfl
        have hLZ : L r = Z := HX.out r hlt hd
        rw [hLZ] at c2
        have g2 : ((Z : Int) != (Z : Int)) = false := by simp
        clear HS hd hLZ
        go_wp2_with fail
        go_roundw
        case rel => exact ⟨r + 1, S + 1, by omega, by omega, by go_num, by go_num, trivial, HS2⟩
        case measure => simp [intOf]; omega
    · obtain rfl : r = s := by omega
      have hSc : S = c := by rw [HS.out, HPc.out]
      have hSk : ¬ ((S : Int) < (k : Int)) := by have := HKC.out.1; omega
      have hdc2 := hdc wr HW.out
      clear HS hSc HPc hdc
      go_wp2_with (go_at_call 17; refine hdc2.mono ?_; rintro e x4 ⟨w1, A1, hb4, rfl, hB4⟩; clear hdc2; have HB4 := hid hB4; have HW4 := hid (HB1.out.trans ((hb4.trans (hB4.below.mono hb4.size)).mono HB1.out.size)); clear hB4 hb4)
      obtain ⟨wo, hwo⟩ : ∃ wo, wo = wr := ⟨_, rfl⟩
      subst hwo
      clear b0 b1 b2 b3 hSk
      obtain ⟨d0, _, _, _⟩ := HF.out x4 HW4.out
      have HWx := hid (show Below w.heap.size w x4 from HB.out.1.trans (HW4.out.mono HB.out.1.size))
      go_loopw [19] (fun i v => ∃ p : Nat, p ≤ k ∧ i = .int .i64 p ∧ v = x4 ∧ Hid (∀ i, i < p → ∀ a, a < Z → n ≤ posO k i a → D i a = 0)) (fun i _ => k - (intOf i).toNat)
      case atStart => exact ⟨0, by omega, rfl, rfl, fun i hi => by omega⟩
      case round =>
        obtain ⟨p, hp, rfl, rfl, HD⟩ := hrel
        by_cases hlt : p < k
        · have hpk : (p : Int) < (k : Int) := by omega
          go_wp2_with fail
          go_loopw [20] (fun i v => ∃ q : Nat, q ≤ Z ∧ i = .int .i64 q ∧ v = wr ∧ Hid (∀ a, a < q → n ≤ posO k p a → D p a = 0)) (fun i _ => Z - (intOf i).toNat)
          case atStart => exact ⟨0, by omega, rfl, rfl, fun i hi => by omega⟩
          case round =>
            obtain ⟨q, hq, rfl, hwq, HQ⟩ := hrel
            subst hwq
            by_cases hlt2 : q < Z
            · have hqZ : (q : Int) < (Z : Int) := by omega
              have hk5 := HKC.out.2
              obtain ⟨a1, ha1⟩ : ∃ a1, a1 = q / 16 := ⟨_, rfl⟩
              obtain ⟨a2, ha2⟩ : ∃ a2, a2 = q % 16 := ⟨_, rfl⟩
              obtain ⟨y1, hy1⟩ : ∃ y1, y1 = a1 * k := ⟨_, rfl⟩
              obtain ⟨y2, hy2⟩ : ∃ y2, y2 = y1 + p := ⟨_, rfl⟩
              obtain ⟨y3, hy3⟩ : ∃ y3, y3 = y2 * 16 := ⟨_, rfl⟩
              obtain ⟨z, hz⟩ : ∃ z, z = y3 + a2 := ⟨_, rfl⟩
              have e1 : (q : Int).tdiv 16 = (a1 : Int) := by rw [Int.tdiv_eq_ediv_of_nonneg (by omega), ha1]; exact rfl
              have e2 : (q : Int).tmod 16 = (a2 : Int) := by rw [Int.tmod_eq_emod_of_nonneg (by omega), ha2]; exact rfl
              have f1 : (q : Int) / 16 = (a1 : Int) := by rw [ha1]; exact rfl
              have f2 : (q : Int) % 16 = (a2 : Int) := by rw [ha2]; exact rfl
              have e3 : (a1 : Int) * (k : Int) = (y1 : Int) := by rw [hy1]; exact (Int.natCast_mul _ _).symm
              have e4 : (y1 : Int) + (p : Int) = (y2 : Int) := by omega
              have e5 : (y2 : Int) * 16 = (y3 : Int) := by omega
              have e6 : (y3 : Int) + (a2 : Int) = (z : Int) := by omega
              have q1 : a1 ≤ 4096 := by omega
              have q2 : a2 ≤ 15 := by omega
              have q3 : y1 ≤ 4096 * 254 := by rw [hy1]; exact Nat.mul_le_mul q1 hk5
              have q4 : y2 ≤ 4097 * 254 := by omega
              have q5 : y3 ≤ 4097 * 254 * 16 := by omega
              have q6 : z ≤ 4098 * 254 * 16 := by omega
              have hpos : posO k p q = z := by unfold posO; rw [← ha1, ← ha2, ← hy1, ← hy2, ← hy3, ← hz]
              by_cases hzn : n ≤ z
              · have hzi : (n : Int) ≤ (z : Int) := by omega
                have hps : (p : Int) < (r : Int) := by have := HB4.out.hb; omega
                have c1 := HB4.out.top p (by omega)
                rcases HB4.out.row p (by omega) with h0 | ⟨gb, go, hA, _, hgb, hgc⟩
                · exact absurd h0 (by show ¬ Z = 0; omega)
                · rw [hA] at c1
                  have c2 : wr.cell? ⟨gb, go + q, none⟩ = some (.int .u8 (D p q : Int)) := hgc q hlt2
                  have hD5 := HDl.out p q
                  by_cases e0 : D p q = 0
                  · have g1 : ((D p q : Int) != 0) = false := by rw [e0]; simp
                    have HQ2 : Hid (∀ a, a < q + 1 → n ≤ posO k p a → D p a = 0) := fun a ha q' => by
                      by_cases e : a = q
                      · rw [e]; exact e0
                      · exact HQ.out a (by omega) q'
                    clear ha1 ha2 hy1 hy2 hy3 hz hpos hgc hgb hA HQ e0 hk5
                    go_wp2_with fail
                    go_roundw
                    case rel => exact ⟨q + 1, by omega, by go_num, trivial, HQ2⟩
                    case measure => simp [intOf]; omega
                  · have g1 : ((D p q : Int) != 0) = true := by simp; omega
                    clear ha1 ha2 hy1 hy2 hy3 hz hpos hgc hgb hA HQ e0 hk5
                    go_wp2_with (go_at_call 11; refine (awake_any _).mono ?_; rintro e x9 ⟨rfl, hb9⟩)
                    go_ret
                    exact ⟨rfl, HWx.out.trans (hb9.mono HWx.out.size)⟩
              · have hzi : ¬ ((n : Int) ≤ (z : Int)) := by omega
                have HQ2 : Hid (∀ a, a < q + 1 → n ≤ posO k p a → D p a = 0) := fun a ha q' => by
                  by_cases e : a = q
                  · rw [e, hpos] at q'; omega
                  · exact HQ.out a (by omega) q'
                clear ha1 ha2 hy1 hy2 hy3 hz hpos HQ hk5
                go_wp2_with fail
                go_roundw
                case rel => exact ⟨q + 1, by omega, by go_num, trivial, HQ2⟩
                case measure => simp [intOf]; omega
            · obtain rfl : q = Z := by omega
              have HD2 : Hid (∀ i, i < p + 1 → ∀ a, a < q → n ≤ posO k i a → D i a = 0) := fun i hi a ha q' => by
                by_cases e : i = p
                · rw [e] at q' ⊢; exact HQ.out a ha q'
                · exact HD.out i (by omega) a ha q'
              clear HQ HD
              go_wp2_with fail
              go_roundw
              case rel => exact ⟨p + 1, by omega, by go_num, trivial, HD2⟩
              case measure => simp [intOf]; omega
        · obtain rfl : p = k := by omega
          exact absurd (fun z q1 q2 => HD.out (z / 16 % p) (Nat.mod_lt _ (by have := HY.out.2.1; omega)) _ (HY.out.2.2 z q2) (by rw [posO_back]; exact q1)) HY.out.1

end Go.Proofs.Ytmlaloadeeohbaa.Rf

/-
  What Read and Dump of a disk tell: contracts over plain numbers ('DkPlain').
  Conditions: the disk is one that New gave ('PDk'), or one of which has is known.
-/
import Derived.Test.YthfpljfndnjcnaaDkRead
namespace Go.Proofs.Ythfpljfndnjcnaa
open Go.RowKit By Dk
set_option linter.unusedVariables false
set_option linter.unusedSimpArgs false

theorem read_no (v : Value) (z : Int) (w : World) (hH : Calls Try.prog 43 #[v, .int .i64 z] w fun e w' => e = .returned (.bool false) ∧ w' = w) :
    Calls Try.prog 37 #[v, .int .i64 z] w fun e w' => e = .returned (.tuple #[.slice none 0 0, .int .i64 1]) ∧ w' = w := by
  go_enter Try.func37, Try.ntmps37
  go_wp2_with ((go_at_call 43; refine hH.mono ?_; rintro e w' ⟨rfl, hw⟩; subst w'))
  go_ret2
  exact ⟨rfl, rfl⟩

theorem over_all {v u : Nat → Value} {m i : Nat} (h : i < m) : over v 0 m u i = u i := by simp [over, h]

set_option maxHeartbeats 1000000 in
theorem read_yes (p n m a : Nat) (F : Nat → Prop) (f A : Nat → Nat) (D : Nat → Nat → Nat) (z : Int) (hz : z = (a : Int)) (w : World) (h : Pd w F p n m f A D) (ha : a < n) :
    Calls Try.prog 37 #[.pointer (some ⟨p, 0, none⟩), .int .i64 z] w fun e w' => e = .returned (.tuple #[.slice (some ⟨w.heap.size, 0, none⟩) 64 64, .int .i64 0]) ∧ Below w.heap.size w w' ∧ Blk w' w.heap.size 5 64 (fun i => .int .u8 (now f A D a m i : Int)) := by
  obtain ⟨gs, gn, R, s, q, h⟩ := h
  obtain ⟨w1, hmk, hB1, hb1, hs1⟩ := make_blk w 64 (by omega)
  have hmk : (Instr.makeSlice 31 (.int .i64 64) (.int .i64 64)).run Try.prog w = .ok (.slice (some ⟨w.heap.size, 0, none⟩) 64 64) w1 := hmk
  have hn2 := h.n2
  have h1 := h.below hb1
  have hH : Calls Try.prog 43 #[.pointer (some ⟨p, 0, none⟩), .int .i64 z] w fun e w' => e = .returned (.bool true) ∧ w' = w := has_any _ n z true w (size_any p n n _ w h.c2) (fun _ _ => rfl) (fun e => absurd ⟨by omega, by omega⟩ e)
  have c2 := h1.c2
  have hnear := h1.near.cell ha
  have z0 : 0 ≤ z := by omega
  have z1 : z < (n : Int) := by omega
  have hzt : z.toNat = a := by omega
  have hgo : ∀ (b o c : Nat) (u : Nat → Value), (∀ j, j < 64 → w1.cell? ⟨b, o + j, none⟩ = some (u j)) → (∀ j, (u j).oneCell' = true) → (∀ j, j < 64 → u j = .int .u8 (now f A D a m j : Int)) → ∃ w2, (Builtin.copy_ #[31, 31] 3 #[.slice (some ⟨w.heap.size, 0, none⟩) 64 64, .slice (some ⟨b, o, none⟩) 64 c]).run Try.prog w1 = .ok (.int .i64 ((64 : Nat) : Int)) w2 ∧ Hid (Below w.heap.size w w2 ∧ Blk w2 w.heap.size 5 64 (fun i => .int .u8 (now f A D a m i : Int))) := fun b o c u k1 k2 k3 => by
    obtain ⟨w2, r1, r2, r3, r4⟩ := copy_blk w1 w.heap.size 0 64 64 64 c b o 5 _ u hB1 (by omega) k1 k2
    refine ⟨w2, r1, hb1.trans (r3.below (fun k hk => by omega) (by omega)), r2.congr fun k hk => ?_⟩
    rw [over_all hk, k3 k hk]
  by_cases h0 : last A a m = 0
  · have hne : nearV q A m a = .pointer none := by simp [nearV, h0]
    rw [hne] at hnear
    have hsec : Calls Try.prog 46 #[.pointer (some ⟨p, 0, none⟩), .int .i64 z] w1 fun e w' => e = .returned (.slice (some ⟨gs, 64 * a, none⟩) 64 (s - 64 * a)) ∧ w' = w1 := sector_any p gs s n a z hz w1 h1.c0 h.len ha h.n2
    obtain ⟨w2, hcp, H2⟩ := hgo gs (64 * a) (s - 64 * a) (fun j => .int .u8 (f (64 * a + j) : Int)) (fun j hj => h1.safe.cell (k := 64 * a + j) (by have := h.len; omega)) (fun _ => rfl) (fun j hj => by simp [now, h0, sec])
    generalize 64 * a = o at *
    generalize s - o = c at *
    clear h h1 hgo hB1 hb1 h0 hne hz hs1
    go_enter Try.func37, Try.ntmps37
    go_wp2_with (first
      | (go_at_call 43; refine hH.mono ?_; rintro e w' ⟨rfl, hw⟩; subst w'; clear hH)
      | (go_at_call 46; refine hsec.mono ?_; rintro e w' ⟨rfl, hw⟩; subst w'; clear hsec))
    go_ret2
    exact ⟨rfl, H2.out⟩
  · have hne : nearV q A m a = .pointer (some ⟨q (last A a m - 1), 0, none⟩) := by simp [nearV, h0]
    rw [hne] at hnear
    have hle := last_le A a m
    have hq := h1.wr (last A a m - 1) (by omega)
    obtain ⟨w2, hcp, H2⟩ := hgo (q (last A a m - 1)) 1 64 (fun j => .int .u8 (D (last A a m - 1) j : Int)) (fun j hj => by
      have := hq.cell (k := 1 + j) (by omega)
      rw [this]
      simp [wrV, Nat.add_comm]) (fun _ => rfl) (fun j hj => by simp [now, h0])
    generalize q (last A a m - 1) = b at *
    have hca := fun v => cut_arr b v
    clear h h1 hgo hB1 hb1 h0 hne hz hs1 hq hle
    go_enter Try.func37, Try.ntmps37
    go_wp2_with (first
      | (go_at_call 43; refine hH.mono ?_; rintro e w' ⟨rfl, hw⟩; subst w'; clear hH))
    go_ret2
    exact ⟨rfl, H2.out⟩

end Go.Proofs.Ythfpljfndnjcnaa

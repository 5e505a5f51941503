/-
  What New and Write of a disk do: contracts over plain numbers ('DkPlain').
  Conditions: Write's disk is one that New gave ('PDk'), or one of which has is known.
-/
import Derived.Test.YthfpljfndnjcnaaDkReads
import Derived.Deep.RegionHeld3
namespace Go.Proofs.Ythfpljfndnjcnaa
open Go.RowKit By Dk
set_option linter.unusedVariables false
set_option linter.unusedSimpArgs false

theorem new_no (z : Int) (w : World) (h : z < 1 ∨ 4096 < z) :
    Calls Try.prog 8 #[.int .i64 z] w fun e w' => e = .returned (.tuple #[.pointer none, .int .i64 1]) ∧ w' = w := by
  by_cases h1 : z < 1
  · clear h
    go_enter Try.func8, Try.ntmps8
    go_wp2_with fail
    go_ret2
    exact ⟨rfl, rfl⟩
  · have h2 : 4096 < z := by omega
    clear h
    go_enter Try.func8, Try.ntmps8
    go_wp2_with fail
    go_ret2
    exact ⟨rfl, rfl⟩

theorem pd_new {w w1 w2 : World} {gs gn n s : Nat} (A : Nat → Nat) (D : Nat → Nat → Nat) (hD : ∀ i j, D i j < 256) (hs : s = 64 * n) (h1 : 1 ≤ n) (h2 : n ≤ 4096) (hb : Below w.heap.size w w2) (b1 : Blk w2 gs 5 s (fun _ => .int .u8 0)) (b2 : Blk w2 gn 64 n (fun _ => .pointer none)) (g1 : w.heap.size ≤ gs) (g2 : w.heap.size ≤ gn) :
    Below w.heap.size w (w2.alloc (.cells #[.slice (some ⟨gs, 0, none⟩) s s, .slice none 0 0, .slice (some ⟨gn, 0, none⟩) n n] 55)) ∧
    Pd (w2.alloc (.cells #[.slice (some ⟨gs, 0, none⟩) s s, .slice none 0 0, .slice (some ⟨gn, 0, none⟩) n n] 55)) (fun k => w.heap.size ≤ k ∧ k < w2.heap.size + 1) w2.heap.size n 0 (fun _ => 0) A D := by
  have hb3 : Below w2.heap.size w2 (w2.alloc (.cells #[.slice (some ⟨gs, 0, none⟩) s s, .slice none 0 0, .slice (some ⟨gn, 0, none⟩) n n] 55)) := (Below.refl _ _).alloc (Nat.le_refl _) _
  have l1 := b1.lt
  have l2 := b2.lt
  have hsz := hb.size
  refine ⟨hb.trans (hb3.mono hb.size), gs, gn, .slice none 0 0, s, fun _ => 0, ⟨Blk.new _ _ _ _ _ rfl, ?_, ?_, ⟨rfl, .inl ⟨rfl, rfl⟩⟩, fun i hi => by omega, fun i hi => by omega, hs, by simp [Value.ownBlock], ⟨hsz, by omega⟩, ⟨g1, by omega⟩, ⟨g2, by omega⟩, fun i hi => by omega, fun g hg => by simp [Value.ownBlock] at hg, fun _ => by omega, hD, fun k hk => by simp; omega, h1, h2, by omega⟩⟩
  · exact b1.of_heap (hb3.block _ l1)
  · exact (b2.of_heap (hb3.block _ l2)).congr fun k hk => rfl

set_option maxHeartbeats 1000000 in
set_option maxRecDepth 100000 in
theorem new_yes (n : Nat) (z : Int) (hz : z = (n : Int)) (A : Nat → Nat) (D : Nat → Nat → Nat) (hD : ∀ i j, D i j < 256) (w : World) (h1 : 1 ≤ n) (h2 : n ≤ 4096) :
    Calls Try.prog 8 #[.int .i64 z] w fun e w' => ∃ p, e = .returned (.tuple #[.pointer (some ⟨p, 0, none⟩), .int .i64 0]) ∧ Below w.heap.size w w' ∧ Pd w' (fun k => w.heap.size ≤ k ∧ k < w'.heap.size) p n 0 (fun _ => 0) A D := by
  subst hz
  obtain ⟨s, hs⟩ : ∃ s, s = 64 * n := ⟨_, rfl⟩
  have e1 : (n : Int) * 64 = (s : Int) := by omega
  have hs9 : s ≤ 262144 := by omega
  have hwr : IntKind.i64.wrap (s : Int) = (s : Int) := by rw [IntKind.wrap_i64]; omega
  obtain ⟨w1, m1, a1, b1, c1⟩ := make_blk w.drew s (by omega)
  obtain ⟨w2, m2, a2, b2, c2⟩ := make_ptrs w1 n h2
  obtain ⟨v1, m3, a3, b3, c3⟩ := make_ptrs w.drew n h2
  obtain ⟨v2, m4, a4, b4, c4⟩ := make_blk v1 s (by omega)
  have hp1 : Below w.heap.size w w2 := by
    have h0 : Below w.heap.size w w.drew := (Below.refl _ _).drew
    exact h0.trans (b1.trans (b2.mono (by rw [c1]; exact Nat.le_succ _)))
  have hp2 : Below w.heap.size w v2 := by
    have h0 : Below w.heap.size w w.drew := (Below.refl _ _).drew
    exact h0.trans (b3.trans (b4.mono (by rw [c3]; exact Nat.le_succ _)))
  have hd1 := pd_new (w := w) (w1 := w1) A D hD hs h1 h2 hp1 (a1.of_heap (b2.block _ a1.lt)) a2 (Nat.le_refl _) (by rw [c1]; exact Nat.le_succ _)
  have hd2 := pd_new (w := w) (w1 := w1) A D hD hs h1 h2 hp2 a4 (a3.of_heap (b4.block _ a3.lt)) (by rw [c3]; exact Nat.le_succ _) (Nat.le_refl _)
  have H1 := hid hd1
  have H2 := hid hd2
  clear a1 a2 a3 a4 b1 b2 b3 b4 hs hD hp1 hp2 hd1 hd2 c1 c2 c3 c4
  have hd : w.drew.heap.size = w.heap.size := rfl
  rw [hd] at m1 m3
  rw [hd] at H1 H2
  clear hd
  go_enter Try.func8, Try.ntmps8
  go_wp2_with fail
  go_region
  all_goals go_wp2_with fail
  · go_ret2
    refine ⟨_, rfl, H1.out.1, ?_⟩
    simpa using H1.out.2
  · go_ret2
    refine ⟨_, rfl, H2.out.1, ?_⟩
    simpa using H2.out.2

theorem write_no (v : Value) (z : Int) (x : Option Addr) (l c : Nat) (t : Bool) (w : World) (hH : Calls Try.prog 43 #[v, .int .i64 z] w fun e w' => e = .returned (.bool t) ∧ w' = w) (hl : t = true → l ≠ 64) :
    Calls Try.prog 26 #[v, .int .i64 z, .slice x l c] w fun e w' => e = .returned (.int .i64 1) ∧ w' = w := by
  cases t with
  | false =>
    clear hl
    go_enter Try.func26, Try.ntmps26
    go_wp2_with ((go_at_call 43; refine hH.mono ?_; rintro e w' ⟨rfl, hw⟩; subst w'))
    go_ret
    exact ⟨rfl, rfl⟩
  | true =>
    have hl : ((l : Int) == 64) = false := by
      have := hl rfl
      rw [beq_eq_false_iff_ne]
      omega
    go_enter Try.func26, Try.ntmps26
    go_wp2_with ((go_at_call 43; refine hH.mono ?_; rintro e w' ⟨rfl, hw⟩; subst w'))
    go_ret
    exact ⟨rfl, rfl⟩

end Go.Proofs.Ythfpljfndnjcnaa

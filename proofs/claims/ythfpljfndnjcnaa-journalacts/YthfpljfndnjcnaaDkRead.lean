/-
  What Size, Pending, Read and Dump of a disk do, and the inner has and sector: contracts over plain numbers ('DkPlain').
  Conditions: the disk is one that New gave ('PDk'), or one of whose Size is known.
-/
import Derived.Test.YthfpljfndnjcnaaDkMem
import Derived.Deep.OwnRows
import Derived.Test.YthfpljfndnjcnaaByBase
namespace Go.Proofs.Ythfpljfndnjcnaa
open Go.RowKit By Dk
set_option linter.unusedVariables false
set_option linter.unusedSimpArgs false

theorem info_ptr : (Try.prog.info? 64).map (fun i => (i.zero, i.size, i.bytes)) = some (some (.pointer none), 1, 8) := by kernel_rfl

theorem made_row (z : Value) (n : Nat) : madeCells #[z] n = (rowOf (fun _ => z) n).toArray := by
  apply Array.ext'
  rw [toList_madeCells_one]
  apply List.ext_getElem?
  intro i
  by_cases hi : i < n
  · rw [rowOf_get _ _ _ hi]; simp [hi]
  · rw [List.getElem?_eq_none (by simp; omega), List.getElem?_eq_none (by rw [rowOf_len]; omega)]

theorem make_blk (w : World) (m : Nat) (hm : m ≤ 281474976710656) : ∃ w1 : World,
    (Instr.makeSlice 31 (.int .i64 (m : Int)) (.int .i64 (m : Int))).run Try.prog w = .ok (.slice (some ⟨w.heap.size, 0, none⟩) m m) w1 ∧
    Blk w1 w.heap.size 5 m (fun _ => .int .u8 0) ∧ Below w.heap.size w w1 ∧ w1.heap.size = w.heap.size + 1 := by
  have h := run_make_row' (P := Try.prog) 31 5 (.int .u8 0) 1 Try.underlying31 info_byte rfl .i64 .i64 m (by omega) (by omega) w
  exact ⟨_, h, Blk.new _ _ _ _ _ (made_row _ _), (Below.refl _ _).alloc (Nat.le_refl _) _, by simp⟩

theorem make_ptrs (w : World) (m : Nat) (hm : m ≤ 4096) : ∃ w1 : World,
    (Instr.makeSlice 53 (.int .i64 (m : Int)) (.int .i64 (m : Int))).run Try.prog w = .ok (.slice (some ⟨w.heap.size, 0, none⟩) m m) w1 ∧
    Blk w1 w.heap.size 64 m (fun _ => .pointer none) ∧ Below w.heap.size w w1 ∧ w1.heap.size = w.heap.size + 1 := by
  have h := run_make_row' (P := Try.prog) 53 64 (.pointer none) 8 Try.underlying53 info_ptr rfl .i64 .i64 m (by omega) (by omega) w
  exact ⟨_, h, Blk.new _ _ _ _ _ (made_row _ _), (Below.refl _ _).alloc (Nat.le_refl _) _, by simp⟩

def over (v : Nat → Value) (off m : Nat) (u : Nat → Value) : Nat → Value := fun i => if off ≤ i ∧ i < off + m then u (i - off) else v i

theorem splice_over (v u : Nat → Value) (N off m : Nat) (h : off + m ≤ N) : (rowOf v N).take off ++ rowOf u m ++ (rowOf v N).drop (off + m) = rowOf (over v off m u) N := by
  apply List.ext_getElem?
  intro i
  by_cases hi : i < N
  · rw [rowOf_get _ _ _ hi]
    have hl : ((rowOf v N).take off).length = off := by rw [List.length_take, rowOf_len]; omega
    unfold over
    rw [List.append_assoc]
    by_cases h1 : i < off
    · rw [List.getElem?_append_left (by omega), List.getElem?_take, if_pos h1, rowOf_get _ _ _ hi, if_neg (by omega)]
    · rw [List.getElem?_append_right (by omega), hl]
      by_cases h2 : i < off + m
      · rw [List.getElem?_append_left (by rw [rowOf_len]; omega), rowOf_get _ _ _ (by omega), if_pos ⟨by omega, h2⟩]
      · rw [List.getElem?_append_right (by rw [rowOf_len]; omega), rowOf_len, List.getElem?_drop, show off + m + (i - off - m) = i by omega, rowOf_get _ _ _ hi, if_neg (by omega)]
  · rw [List.getElem?_eq_none (by simp [rowOf_len]; omega), List.getElem?_eq_none (by rw [rowOf_len]; omega)]

theorem copy_blk (w : World) (g off dCap N m c b o : Nat) (t : TypeId) (v u : Nat → Value) (h : Blk w g t N v) (hfit : off + m ≤ N) (hsrc : ∀ j, j < m → w.cell? ⟨b, o + j, none⟩ = some (u j)) (hone : ∀ j, (u j).oneCell' = true) :
    ∃ w', (Builtin.copy_ #[31, 31] 3 #[.slice (some ⟨g, off, none⟩) m dCap, .slice (some ⟨b, o, none⟩) m c]).run Try.prog w = .ok (.int .i64 (m : Int)) w' ∧ Blk w' g t N (over v off m u) ∧ Turns (fun k => k = g) w w' ∧ w'.heap.size = w.heap.size := by
  have hsz : (Try.prog.info? 5).map (·.size) = some 1 := by kernel_rfl
  have hrun := run_copy_row (P := Try.prog) w 31 31 3 5 g off m dCap ⟨b, o, none⟩ m c (rowOf v N).toArray t (rowOf u m) Try.underlying31 hsz h (by rw [rowOf_len]; exact (Nat.min_self m).symm) (fun j z hj => by
    have hjm : j < m := by have := (List.getElem?_eq_some_iff.1 hj).1; rwa [rowOf_len] at this
    rw [rowOf_get _ _ _ hjm] at hj
    rw [add_at, hsrc j hjm, ← hj]) (by rw [rowOf_len]; simpa [rowOf_len] using hfit) (rowOf_one _ _ hone)
  rw [rowOf_len] at hrun
  refine ⟨_, hrun, ?_, ⟨rfl, rfl, rfl, by simp [World.setRow], fun k hk hg => setRow_other w g k _ hg⟩, by simp [World.setRow]⟩
  unfold Blk
  rw [setRow_heap w g _ _ t _ h]
  rw [splice_over v u N off m hfit]


theorem cut_lh (g o m c l h : Nat) (w : World) (h1 : l ≤ h) (h2 : h ≤ c) (h3 : l < c) :
    (Instr.slice 31 (.slice (some ⟨g, o, none⟩) m c) (some (.int .i64 (l : Int))) (some (.int .i64 (h : Int))) none).run Try.prog w = .ok (.slice (some ⟨g, o + l, none⟩) (h - l) (c - l)) w := by
  rw [run_slice_lh w 31 _ _ _ elem_row .i64 .i64 (l : Int) (h : Int) (by omega) (by omega) (by omega), elem_is, size_byte]
  simp only [Result.andThen, sliced, Int.toNat_natCast, Nat.mul_one, Option.map]
  rw [if_neg (by omega), add_at]

theorem cut_arr (b : Nat) (w : World) : (Instr.sliceAt 82 (.pointer (some ⟨b, 1, none⟩)) none none none).run Try.prog w = .ok (.slice (some ⟨b, 1, none⟩) 64 64) w := by kernel_rfl

/- Size, Pending. -/
theorem size_any (p n c : Nat) (x : Option Addr) (w : World) (h : w.cell? ⟨p, 2, none⟩ = some (.slice x n c)) :
    Calls Try.prog 28 #[.pointer (some ⟨p, 0, none⟩)] w fun e w' => e = .returned (.int .i64 (n : Int)) ∧ w' = w := by
  go_enter Try.func28, Try.ntmps28
  go_wp2_with fail
  go_ret
  exact ⟨rfl, rfl⟩

theorem size_nil (w : World) : Calls Try.prog 28 #[.pointer none] w fun e w' => e = .returned (.int .i64 ((0 : Nat) : Int)) ∧ w' = w := by
  go_enter Try.func28, Try.ntmps28
  go_wp2_with fail
  go_ret
  exact ⟨rfl, rfl⟩

theorem pending_any (p n c : Nat) (x : Option Addr) (w : World) (h : w.cell? ⟨p, 1, none⟩ = some (.slice x n c)) :
    Calls Try.prog 12 #[.pointer (some ⟨p, 0, none⟩)] w fun e w' => e = .returned (.int .i64 (n : Int)) ∧ w' = w := by
  go_enter Try.func12, Try.ntmps12
  go_wp2_with fail
  go_ret
  exact ⟨rfl, rfl⟩

theorem pending_nil (w : World) : Calls Try.prog 12 #[.pointer none] w fun e w' => e = .returned (.int .i64 ((0 : Nat) : Int)) ∧ w' = w := by
  go_enter Try.func12, Try.ntmps12
  go_wp2_with fail
  go_ret
  exact ⟨rfl, rfl⟩

/- Is there such a sector? -/
theorem has_any (v : Value) (n : Nat) (z : Int) (t : Bool) (w : World) (hS : Calls Try.prog 28 #[v] w fun e w' => e = .returned (.int .i64 (n : Int)) ∧ w' = w) (hy : 0 ≤ z → z < n → t = true) (hn : ¬ (0 ≤ z ∧ z < n) → t = false) :
    Calls Try.prog 43 #[v, .int .i64 z] w fun e w' => e = .returned (.bool t) ∧ w' = w := by
  by_cases h0 : 0 ≤ z
  · have ht : decide (z < (n : Int)) = t := by
      by_cases h : z < (n : Int)
      · rw [hy h0 h]; simpa using h
      · rw [hn (fun e => h e.2)]; simpa using h
    clear hy hn
    go_enter Try.func43, Try.ntmps43
    go_wp2_with ((go_at_call 28; refine hS.mono ?_; rintro e w' ⟨rfl, hw⟩; subst w'))
    go_ret
    exact ⟨rfl, rfl⟩
  · have ht := hn (fun e => h0 e.1)
    subst ht
    have h0' : z < 0 := by omega
    clear hy hn hS
    go_enter Try.func43, Try.ntmps43
    go_wp2_with fail
    go_ret
    exact ⟨rfl, rfl⟩

theorem sector_any (p gs s n a : Nat) (z : Int) (hz : z = (a : Int)) (w : World) (h : w.cell? ⟨p, 0, none⟩ = some (.slice (some ⟨gs, 0, none⟩) s s)) (hs : s = 64 * n) (ha : a < n) (hn : n ≤ 4096) :
    Calls Try.prog 46 #[.pointer (some ⟨p, 0, none⟩), .int .i64 z] w fun e w' => e = .returned (.slice (some ⟨gs, 64 * a, none⟩) 64 (s - 64 * a)) ∧ w' = w := by
  obtain ⟨l, hl⟩ : ∃ l : Nat, l = 64 * a := ⟨_, rfl⟩
  obtain ⟨h2, hh⟩ : ∃ l : Nat, l = 64 * a + 64 := ⟨_, rfl⟩
  have e1 : z * 64 = (l : Int) := by omega
  have e2 : (z + 1) * 64 = (h2 : Int) := by omega
  have hcut := cut_lh gs 0 s s l h2 w (by omega) (by omega) (by omega)
  rw [Nat.zero_add, show h2 - l = 64 by omega] at hcut
  rw [← hl]
  have b1 : 0 ≤ z ∧ z ≤ 4096 := by omega
  obtain ⟨b1, b2⟩ := b1
  have b3 : l ≤ 262144 := by omega
  have b4 : h2 ≤ 262144 := by omega
  clear hl hh hz ha hs
  go_enter Try.func46, Try.ntmps46
  go_wp2_with fail
  go_ret
  exact ⟨rfl, rfl⟩

end Go.Proofs.Ythfpljfndnjcnaa

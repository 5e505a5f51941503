/-
  The beginning: acceptors and proposers that are new.
  Conditions: none.
-/
import Derived.Test.YtlfeafbpknbbfaaBaGood
namespace Go.Proofs.Ytlfeafbpknbbfaa.Ba
open Go.RowKit By Fl
set_option linter.unusedVariables false
set_option linter.unusedSimpArgs false
set_option maxRecDepth 100000

theorem arr_new (w : World) (t : TypeId) (z : Array Value) (hz : z.size = 5) (n : Nat) : Arr (w.alloc (.cells (madeCells z (n * 5)) t)) w.heap.size t n (fun _ j => z[j]!) := by
  have hh : (w.alloc (.cells (madeCells z (n * 5)) t)).heap[w.heap.size]? = some (.cells (madeCells z (n * 5)) t (0, 0)) := heap_alloc_new _ _
  refine ⟨⟨_, _, hh⟩, fun k j hk hj => ?_, fun i => by unfold World.frozen?; rw [hh]; simp⟩
  simp only [World.cell?, hh]
  have hlt : k * 5 + j < n * 5 := by omega
  unfold madeCells
  simp [hlt, hz]
  congr 1
  omega

def accZ : Array Value := #[.int .i64 0, .int .i64 0, .int .i64 0, .int .i64 0, .slice none 0 0]
def prZ : Array Value := #[.int .i64 0, .int .i64 0, .map none, .slice none 0 0, .bool false]
def noPr : PrV := ⟨z0, none, none, 0, 0, [], false, fun _ => none⟩

theorem make_acc (n : Nat) (hn : n ≤ 7) (w : World) : (Instr.makeSlice 39 (.int .i64 (n : Int)) (.int .i64 (n : Int))).run Try.prog w = .ok (.slice (some ⟨w.heap.size, 0, none⟩) n n) (w.alloc (.cells (madeCells accZ (n * 5)) 26)) := by
  have hi : (Try.prog.info? 26).map (fun i => (i.zero, i.size, i.bytes)) = some (some (.agg #[.int .i64 0, .int .i64 0, .int .i64 0, .int .i64 0, .slice none 0 0]), 5, 56) := by kernel_rfl
  obtain ⟨i0, h1, h2, h3, h4⟩ := info_parts hi
  have := run_make (P := Try.prog) w 39 26 i0 _ Try.underlying39 h1 h2 .i64 .i64 (n : Int) (n : Int) (by omega) (by omega) (by rw [h4]; omega) (by omega)
  rw [this, h3]
  simp
  rfl

theorem make_pr (w : World) : (Instr.makeSlice 40 (.int .i64 7) (.int .i64 7)).run Try.prog w = .ok (.slice (some ⟨w.heap.size, 0, none⟩) 7 7) (w.alloc (.cells (madeCells prZ (7 * 5)) 46)) := by
  have hi : (Try.prog.info? 46).map (fun i => (i.zero, i.size, i.bytes)) = some (some (.agg #[.int .i64 0, .int .i64 0, .map none, .slice none 0 0, .bool false]), 5, 56) := by kernel_rfl
  obtain ⟨i0, h1, h2, h3, h4⟩ := info_parts hi
  have := run_make (P := Try.prog) w 40 46 i0 _ Try.underlying40 h1 h2 .i64 .i64 7 7 (by omega) (by omega) (by rw [h4]; omega) (by omega)
  rw [this, h3]
  rfl

theorem mem_init (w : World) (n : Nat) (h0 : 0 < n) (h7 : n ≤ 7) : Mem w ((((w.alloc (.cells (madeCells accZ (n * 5)) 26)).alloc (.cells (madeCells prZ (7 * 5)) 46)).alloc (.cells #[.int .i64 0, .int .i64 0] 23)).alloc (.cells #[] 5)) n w.heap.size (w.heap.size + 1) (w.heap.size + 1 + 1) (fun _ => noAcc) (fun _ => noPr) z0 ∧
    Sv ((((w.alloc (.cells (madeCells accZ (n * 5)) 26)).alloc (.cells (madeCells prZ (7 * 5)) 46)).alloc (.cells #[.int .i64 0, .int .i64 0] 23)).alloc (.cells #[] 5)) (some ⟨w.heap.size + 1 + 1 + 1, 0, none⟩) 0 0 [] := by
  obtain ⟨w1, e1⟩ : ∃ w1, w1 = w.alloc (.cells (madeCells accZ (n * 5)) 26) := ⟨_, rfl⟩
  obtain ⟨w2, e2⟩ : ∃ w2, w2 = w1.alloc (.cells (madeCells prZ (7 * 5)) 46) := ⟨_, rfl⟩
  obtain ⟨w3, e3⟩ : ∃ w3, w3 = w2.alloc (.cells #[.int .i64 0, .int .i64 0] 23) := ⟨_, rfl⟩
  obtain ⟨w4, e4⟩ : ∃ w4, w4 = w3.alloc (.cells #[] 5) := ⟨_, rfl⟩
  rw [← e1, ← e2, ← e3, ← e4]
  have s1 : w1.heap.size = w.heap.size + 1 := by rw [e1]; simp
  have s2 : w2.heap.size = w.heap.size + 1 + 1 := by rw [e2]; simp [s1]
  have s3 : w3.heap.size = w.heap.size + 1 + 1 + 1 := by rw [e3]; simp [s2]
  have b1 : Below w.heap.size w w1 := e1 ▸ al _ _
  have b2 : Below w1.heap.size w1 w2 := e2 ▸ al _ _
  have b3 : Below w2.heap.size w2 w3 := e3 ▸ al _ _
  have b4 : Below w3.heap.size w3 w4 := e4 ▸ al _ _
  have hA : Arr w1 w.heap.size 26 n (fun k => accC noAcc) := by
    rw [e1]
    refine (arr_new w _ accZ rfl n).congr (fun k j _ hj => ?_)
    match j, hj with
    | 0, _ => rfl
    | 1, _ => rfl
    | 2, _ => rfl
    | 3, _ => rfl
    | 4, _ => rfl
  have hP : Arr w2 w1.heap.size 46 7 (fun k => prC noPr) := by
    rw [e2]
    refine (arr_new w1 _ prZ rfl 7).congr (fun k j _ hj => ?_)
    match j, hj with
    | 0, _ => rfl
    | 1, _ => rfl
    | 2, _ => rfl
    | 3, _ => rfl
    | 4, _ => rfl
  rw [s1] at hP
  have hh : w3.heap[w2.heap.size]? = some (.cells #[.int .i64 0, .int .i64 0] 23 (0, 0)) := by rw [e3]; exact heap_alloc_new _ _
  rw [s2] at hh
  have hS : Tb w3 (w.heap.size + 1 + 1) 23 := ⟨_, _, hh⟩
  have c0 : w3.cell? ⟨w.heap.size + 1 + 1, 0, none⟩ = some (.int .i64 0) := by simp [World.cell?, hh]
  have c1 : w3.cell? ⟨w.heap.size + 1 + 1, 1, none⟩ = some (.int .i64 0) := by simp [World.cell?, hh]
  have hf : ∀ i, w3.frozen? ⟨w.heap.size + 1 + 1, i, none⟩ = false := fun i => by simp [World.frozen?, hh]
  have h4 : w4.heap[w3.heap.size]? = some (.cells #[] 5 (0, 0)) := by rw [e4]; exact heap_alloc_new _ _
  rw [s3] at h4
  have hz : bwf z0 := ⟨wfi_small (by decide) (by decide), wfi_small (by decide) (by decide)⟩
  refine ⟨⟨on (on (on b1 b2) b3) b4, Nat.le_refl _, by omega, by omega, ((hA.below b2).below b3).below b4, (hP.below b3).below b4, hS.of_heap (b4.block _ hS.lt), keep b4 c0, keep b4 c1, fun i => (frozen_block (b4.block _ hS.lt)).trans (hf i), fun k _ => ⟨Sv.nil _, hz⟩, fun m _ => ⟨Sv.nil _, hz⟩,
    fun m _ => .inl ⟨rfl, fun _ => rfl⟩, (fun m m' a _ _ _ e => by cases e), h0, h7⟩, ⟨rfl, Nat.le_refl _, (fun e => by cases e), .inl rfl, fun v hv => by cases hv⟩, by omega, fun a ha => ?_⟩
  cases ha
  exact ⟨_, _, h4⟩

end Go.Proofs.Ytlfeafbpknbbfaa.Ba

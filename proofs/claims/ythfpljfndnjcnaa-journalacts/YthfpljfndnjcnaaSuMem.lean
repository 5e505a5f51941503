/-
  What bytesOf, Append and Strip of package sum do, and the document's Append: contracts over plain numbers ('SuPlain').
  Conditions: bytes that are looked at lie in memory.
-/
import Derived.Test.YthfpljfndnjcnaaSuRef
import Derived.Laws.CopyOwn
import Derived.Deep.RegionLaw
import Derived.Deep.OwnRows
import Derived.Deep.QuietTactic
import Derived.BigQuiet
namespace Go.Proofs.Ythfpljfndnjcnaa
open Go.RowKit Su By
set_option linter.unusedVariables false

/- A sum's bytes. -/
def lo (s i : Nat) : Nat := s / 256 ^ i % 256

theorem lo_lt (s i : Nat) : lo s i < 256 := Nat.mod_lt _ (by omega)

def loCells (s : Nat) : Array Value := #[.int .u8 (lo s 0 : Int), .int .u8 (lo s 1 : Int), .int .u8 (lo s 2 : Int), .int .u8 (lo s 3 : Int)]

theorem lo0 (s : Nat) : (lo s 0 : Int) = (s : Int) % 256 := by simp [lo]
theorem lo1 (s : Nat) : (lo s 1 : Int) = (s : Int) / 256 % 256 := by simp [lo]
theorem lo2 (s : Nat) : (lo s 2 : Int) = (s : Int) / 65536 % 256 := by simp [lo]
theorem lo3 (s : Nat) (hs : s < 4294967296) : (lo s 3 : Int) = (s : Int) / 16777216 := by simp [lo]; omega

theorem bytesof_any (s : Nat) (w : World) (hs : s < 4294967296) :
    Calls Try.prog 52 #[.int .u32 s] w fun e w' => e = .returned (.agg (loCells s)) ∧ Below w.heap.size w w' := by
  have HC : Hid (#[.int .u8 ((s : Int) % 256), .int .u8 ((s : Int) / 256 % 256), .int .u8 ((s : Int) / 65536 % 256), .int .u8 ((s : Int) / 16777216)] = loCells s) := by
    unfold loCells
    rw [lo0, lo1, lo2, lo3 s hs]
    exact rfl
  go_enter Try.func52, Try.ntmps52
  go_wp2_with fail
  rw [HC.out]
  refine bodyPost_ret (v := .agg (loCells s)) ?_ rfl ⟨rfl, (Below.refl _ _).alloc (Nat.le_refl _) _⟩
  simp [results, Try.results52, go_sem, loCells]

def loList (s : Nat) : List Value := (loCells s).toList

theorem make_bytes (w : World) (m : Nat) (hm : m ≤ 281474976710656) : ∃ (Z : List Value) (w1 : World), Z.length = m ∧
    (Instr.makeSlice 31 (.int .i64 (m : Int)) (.int .i64 (m : Int))).run Try.prog w = .ok (.slice (some ⟨w.heap.size, 0, none⟩) m m) w1 ∧
    w1.heap[w.heap.size]? = some (.cells Z.toArray 5 (0, 0)) ∧ Below w.heap.size w w1 := by
  have h := run_make_row' (P := Try.prog) 31 5 (.int .u8 0) 1 Try.underlying31 info_byte rfl .i64 .i64 m (by omega) (by omega) w
  refine ⟨(madeCells #[.int .u8 0] m).toList, _, by simp [size_madeCells], h, ?_, (Below.refl _ _).alloc (Nat.le_refl _) _⟩
  rw [heap_alloc_new]


/- A row from a place on. -/
theorem cut_row (g o m c d : Nat) (w : World) (h1 : d ≤ m) (h2 : d < c) :
    (Instr.slice 31 (.slice (some ⟨g, o, none⟩) m c) (some (.int .i64 (d : Int))) none none).run Try.prog w = .ok (.slice (some ⟨g, o + d, none⟩) (m - d) (c - d)) w := by
  rw [run_slice_l w 31 _ _ _ elem_row .i64 (d : Int) (by omega) (by omega), elem_is, size_byte]
  simp only [Result.andThen, sliced, Int.toNat_natCast, Nat.mul_one, Option.map]
  rw [if_neg (by omega)]
  have hadd : (⟨g, o, none⟩ : Addr).add d = ⟨g, o + d, none⟩ := by unfold Addr.add; split <;> simp_all
  rw [hadd]

theorem cell_of_heap {w : World} {g i : Nat} {L : List Value} {t : TypeId} {p : Nat × Nat} (h : w.heap[g]? = some (.cells L.toArray t p)) : w.cell? ⟨g, i, none⟩ = L[i]? := by
  simp [World.cell?, h]

theorem bytesOf_get (f : Nat → Nat) (n i : Nat) (h : i < n) : (bytesOf f n)[i]? = some (.int .u8 (f i : Int)) := by simp [bytesOf, h]

theorem splice_two (Z X Y : List Value) (n : Nat) (hX : X.length = n) (hZ : Z.length = n + Y.length) : splice (splice Z 0 X) n Y = X ++ Y := by
  unfold splice
  simp [hX]
  omega

/- A list laid over a part of one's own. -/
theorem copy_bytes (w w0 : World) (B g off dLen dCap n c : Nat) (x : Option Addr) (Z X : List Value) (hg : w.heap[g]? = some (.cells Z.toArray 5 (0, 0))) (hX : X.length = n) (hn : n ≤ dLen)
    (hpos : 0 < n → ∃ ad, x = some ad ∧ ∀ j v, X[j]? = some v → w.cell? (ad.add j) = some v) (hfit : off + n ≤ Z.length) (hone : ∀ v ∈ X, v.oneCell' = true) (hb : Below B w0 w) (hB : B ≤ g) :
    ∃ w', (Builtin.copy_ #[31, 31] 3 #[.slice (some ⟨g, off, none⟩) dLen dCap, .slice x n c]).run Try.prog w = .ok (.int .i64 (n : Int)) w' ∧ w'.heap[g]? = some (.cells (splice Z off X).toArray 5 (0, 0)) ∧ Below B w0 w' := by
  have hsz : (Try.prog.info? 5).map (·.size) = some 1 := by kernel_rfl
  by_cases h0 : n = 0
  · subst h0
    obtain rfl : X = [] := List.eq_nil_of_length_eq_zero hX
    exact ⟨w, run_copy_none (P := Try.prog) w 31 31 3 5 _ x dLen dCap 0 c Try.underlying31 hsz (Nat.zero_min _), by simpa [splice] using hg, hb⟩
  · obtain ⟨ad, rfl, hsrc⟩ := hpos (by omega)
    have hrun := run_copy_row (P := Try.prog) w 31 31 3 5 g off dLen dCap ad n c Z.toArray 5 X Try.underlying31 hsz hg (by rw [hX]; exact (Nat.min_eq_left hn).symm) hsrc (by simpa [hX] using hfit) hone
    rw [hX] at hrun
    refine ⟨_, hrun, ?_, below_setRow hb hB _⟩
    rw [setRow_heap w g _ _ 5 _ hg]
    simp [splice, hX]

set_option maxHeartbeats 400000 in
set_option maxRecDepth 100000 in
theorem append_any (n c : Nat) (x : Option Addr) (f : Nat → Nat) (w : World) (hf : ∀ i, f i < 256) (hn : n ≤ 140737488351232) (hx : RowAt w x n f) :
    Calls Try.prog 48 #[.slice x n c] w fun e w' => ∃ g, e = .returned (.slice (some ⟨g, 0, none⟩) (n + 4) (n + 4)) ∧ Below w.heap.size w w' ∧ RowAt w' (some ⟨g, 0, none⟩) (n + 4) (fun i => if i < n then f i else lo (sumOf f n) (i - n)) := by
  obtain ⟨m, hm⟩ : ∃ m, m = n + 4 := ⟨_, rfl⟩
  have hm4 : (n : Int) + 4 = (m : Int) := by omega
  have hm9 : m ≤ 140737488355328 := by omega
  have hnm : n ≤ m := by omega
  have Hm : Hid (m = n + 4) := hm
  obtain ⟨Z, w1, hZ, hmk, hg1, hb1⟩ := make_bytes w m (by omega)
  have hof : ∀ v, Below w.heap.size w v → Calls Try.prog 53 #[.slice x n c] v fun e w' => e = .returned (.int .u32 (sumOf f n : Int)) ∧ w' = v := fun v hv => of_any n c x f v hf (by omega) (hx.below hv)
  have hs := sumOf_lt f n hf
  obtain ⟨X1, hX⟩ : ∃ X, X = bytesOf f n := ⟨_, rfl⟩
  have hXl : X1.length = n := by rw [hX]; simp [bytesOf]
  have hpos : 0 < n → ∃ ad, x = some ad ∧ ∀ j v, X1[j]? = some v → w1.cell? (ad.add j) = some v := by
    intro h0
    rcases hx with h | ⟨b, o, h1, h2, h3⟩
    · omega
    · refine ⟨_, h1, fun j v hj => ?_⟩
      have hjn : j < n := by
        have := (List.getElem?_eq_some_iff.1 hj).1
        omega
      have e : v = .int .u8 (f j : Int) := by rw [hX] at hj; simp [bytesOf, hjn] at hj; exact hj.symm
      rw [e, add_at]
      exact (hb1.cell (by exact h2)).trans (h3 j hjn)
  have hone : ∀ v ∈ X1, v.oneCell' = true := fun v hv => by
    rw [hX] at hv
    simp [bytesOf] at hv
    obtain ⟨j, _, rfl⟩ := hv
    rfl
  have HX : Hid (X1 = bytesOf f n ∧ X1.length = n) := ⟨hX, hXl⟩
  generalize sumOf f n = s at hof hs
  obtain ⟨w2, hcp, hg2, hb2⟩ := copy_bytes w1 w w.heap.size w.heap.size 0 m m n c x Z X1 hg1 hXl hnm hpos (by omega) hone hb1 (Nat.le_refl _)
  have HG2 : Hid (w2.heap[w.heap.size]? = some (.cells (splice Z 0 X1).toArray 5 (0, 0))) := hg2
  clear hx hf hm hX hpos hg1 hb1 hg2 hone
  have hbs : ∀ v, Calls Try.prog 52 #[.int .u32 s] v fun e w' => e = .returned (.agg #[.int .u8 (lo s 0 : Int), .int .u8 (lo s 1 : Int), .int .u8 (lo s 2 : Int), .int .u8 (lo s 3 : Int)]) ∧ Below v.heap.size v w' := fun v => bytesof_any s v hs
  obtain ⟨Y, hY⟩ : ∃ Y, Y = [Value.int .u8 (lo s 0 : Int), .int .u8 (lo s 1 : Int), .int .u8 (lo s 2 : Int), .int .u8 (lo s 3 : Int)] := ⟨_, rfl⟩
  have HY : Hid (Y = bytesOf (lo s) 4) := hY
  generalize lo s 0 = d0 at hbs hY
  generalize lo s 1 = d1 at hbs hY
  generalize lo s 2 = d2 at hbs hY
  generalize lo s 3 = d3 at hbs hY
  have hcut : ∀ v : World, (Instr.slice 31 (.slice (some ⟨w.heap.size, 0, none⟩) m m) (some (.int .i64 (n : Int))) none none).run Try.prog v = .ok (.slice (some ⟨w.heap.size, n, none⟩) 4 4) v := fun v => by
    have := cut_row w.heap.size 0 m m n v hnm (by have := Hm.out; omega)
    rw [show m - n = 4 by have := Hm.out; omega, Nat.zero_add] at this
    exact this
  go_enter Try.func48, Try.ntmps48
  go_wp2_with (first
    | (go_at_call 53; refine (hof _ hb2).mono ?_; rintro e w' ⟨rfl, rfl⟩; clear hof)
    | (go_at_call 52; refine (hbs _).mono ?_; rintro e w3 ⟨rfl, hb3⟩; clear hbs))
  have h3 := hb2.trans (hb3.mono hb2.size)
  have hgw : w.heap.size < w'.heap.size := (Array.getElem?_eq_some_iff.1 HG2.out).1
  have hb4 : Below w.heap.size w (w3.alloc (.cells #[.int .u8 (d0 : Int), .int .u8 (d1 : Int), .int .u8 (d2 : Int), .int .u8 (d3 : Int)] 96)) := h3.alloc h3.size _
  have hg4 : (w3.alloc (.cells #[.int .u8 (d0 : Int), .int .u8 (d1 : Int), .int .u8 (d2 : Int), .int .u8 (d3 : Int)] 96)).heap[w.heap.size]? = some (.cells (splice Z 0 X1).toArray 5 (0, 0)) := by
    rw [heap_alloc_old _ _ (Nat.lt_of_lt_of_le hgw hb3.size), hb3.block _ hgw]
    exact HG2.out
  have hs4 : ∀ j v, Y[j]? = some v → (w3.alloc (.cells #[.int .u8 (d0 : Int), .int .u8 (d1 : Int), .int .u8 (d2 : Int), .int .u8 (d3 : Int)] 96)).cell? ((⟨w3.heap.size, 0, none⟩ : Addr).add j) = some v := by
    intro j v hj
    rw [add_at, Nat.zero_add]
    rw [hY] at hj
    simp
    exact hj
  have hY4 : Y.length = 4 := by rw [hY]; rfl
  have hZ2 : (splice Z 0 X1).length = m := by rw [length_splice _ _ _ (by omega)]; exact hZ
  have hone : ∀ v ∈ Y, v.oneCell' = true := by
    intro v hv
    rw [hY] at hv
    simp at hv
    rcases hv with rfl | rfl | rfl | rfl <;> rfl
  clear hY HG2 hb2 hb3 h3 hgw hcp hmk
  generalize w3.alloc (.cells #[.int .u8 (d0 : Int), .int .u8 (d1 : Int), .int .u8 (d2 : Int), .int .u8 (d3 : Int)] 96) = w4 at *
  generalize w3.heap.size = q at *
  have hb4d : Below w.heap.size w w4.drew := ⟨hb4.os, hb4.tape, hb4.output, hb4.size, hb4.block⟩
  have hfit : n + 4 ≤ (splice Z 0 X1).length := by rw [hZ2]; have := Hm.out; omega
  have HZ : Hid (splice (splice Z 0 X1) n Y = bytesOf (fun i => if i < n then f i else lo s (i - n)) m) := by
    have hm := Hm.out
    have h1 : splice (splice Z 0 X1) n Y = X1 ++ Y := splice_two Z X1 Y n hXl (by omega)
    rw [h1, HX.out.1, HY.out, hm]
    unfold bytesOf
    rw [List.range_add, List.map_append, List.map_map]
    congr 1
    · refine List.map_congr_left fun i hi => ?_
      have := List.mem_range.1 hi
      simp [this]
    · refine List.map_congr_left fun i hi => ?_
      simp [show ¬ n + i < n by omega]
  generalize splice Z 0 X1 = Z2 at *
  go_region_law (refine step_copy_splice rfl (.tmp 18) (.tmp 19) 31 31 rfl 5 Try.underlying31 (by kernel_rfl) (some ⟨w.heap.size, n, none⟩) (some ⟨q, 0, none⟩) 4 4 4 4 rfl rfl w.heap.size n Z2 5 hg4 Y (by rw [hY4]; rfl) (fun _ => ⟨rfl, _, rfl, hs4⟩) (by rw [hY4]; exact hfit) hone w.heap.size w hb4d (Nat.le_refl _) ?_; intro w5 hg5 hb5)
  have HB5 : Hid (Below w.heap.size w w5) := hb5
  clear hg4 hs4 hb4 hb4d hb5
  go_wp2_with fail
  go_ret
  refine ⟨w.heap.size, by rw [← Hm.out]; rfl, HB5.out, ?_⟩
  rw [← Hm.out]
  have hh := hg5.out
  rw [HZ.out] at hh
  refine .inr ⟨w.heap.size, 0, rfl, (Array.getElem?_eq_some_iff.1 hh).1, fun i hi => ?_⟩
  rw [Nat.zero_add, cell_of_heap hh, bytesOf_get _ _ _ hi]

end Go.Proofs.Ythfpljfndnjcnaa

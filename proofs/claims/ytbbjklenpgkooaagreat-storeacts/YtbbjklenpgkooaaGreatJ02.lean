/-
  6 texts of this proof, one behind the other: SuMem, SuStrip, DkPlain, DkMem, DkRead, DkReads.
-/
import Derived.Test.YtbbjklenpgkooaaGreatJ01
import Derived.Laws.CopyOwn
import Derived.Deep.RegionLaw
import Derived.Deep.OwnRows
import Derived.Deep.QuietTactic
import Derived.BigQuiet
import Derived.Lib.SlBytesConst
import Derived.Test.YtbbjklenpgkooaaGreatRows
import Derived.ArgAppend
/-
  What bytesOf, Append and Strip of package sum do, and the document's Append: contracts over plain numbers ('SuPlain').
  Conditions: bytes that are looked at lie in memory.
-/
namespace Go.Proofs.YtbbjklenpgkooaaGreat
open Go.RowKit Su By
set_option linter.unusedVariables false

/- A sum's bytes. -/
def lo (s i : Nat) : Nat := s / 256 ^ i % 256

theorem lo_lt (s i : Nat) : lo s i < 256 := Nat.mod_lt _ (by omega)

def loCells (s : Nat) : Array Value := #[.int .u8 (lo s 0 : Int), .int .u8 (lo s 1 : Int), .int .u8 (lo s 2 : Int), .int .u8 (lo s 3 : Int)]

theorem lo0 (s : Nat) : (lo s 0 : Int) = (s : Int) % 256 := by simp [lo]
theorem lo1 (s : Nat) : (lo s 1 : Int) = (s : Int) / 256 % 256 := by simp [lo]
theorem lo2 (s : Nat) : (lo s 2 : Int) = (s : Int) / 65536 % 256 := by simp [lo]
theorem lo3 (s : Nat) (hs : s < 4294967296) : (lo s 3 : Int) = (s : Int) / 16777216 := by simp [lo]; omega

theorem bytesof_any (s : Nat) (w : World) (hs : s < 4294967296) :
    Calls Tryz.prog 95 #[.int .u32 s] w fun e w' => e = .returned (.agg (loCells s)) ∧ Below w.heap.size w w' := by
  have HC : Hid (#[.int .u8 ((s : Int) % 256), .int .u8 ((s : Int) / 256 % 256), .int .u8 ((s : Int) / 65536 % 256), .int .u8 ((s : Int) / 16777216)] = loCells s) := by
    unfold loCells
    rw [lo0, lo1, lo2, lo3 s hs]
    exact rfl
  go_enter Tryz.func95, Tryz.ntmps95
  go_wp2_with fail
  rw [HC.out]
  refine bodyPost_ret (v := .agg (loCells s)) ?_ rfl ⟨rfl, (Below.refl _ _).alloc (Nat.le_refl _) _⟩
  simp [results, Tryz.results95, go_sem, loCells]

def loList (s : Nat) : List Value := (loCells s).toList

theorem make_bytes (w : World) (m : Nat) (hm : m ≤ 281474976710656) : ∃ (Z : List Value) (w1 : World), Z.length = m ∧
    (Instr.makeSlice 22 (.int .i64 (m : Int)) (.int .i64 (m : Int))).run Tryz.prog w = .ok (.slice (some ⟨w.heap.size, 0, none⟩) m m) w1 ∧
    w1.heap[w.heap.size]? = some (.cells Z.toArray 5 (0, 0)) ∧ Below w.heap.size w w1 := by
  have h := run_make_row' (P := Tryz.prog) 22 5 (.int .u8 0) 1 Tryz.underlying22 info_byte rfl .i64 .i64 m (by omega) (by omega) w
  refine ⟨(madeCells #[.int .u8 0] m).toList, _, by simp [size_madeCells], h, ?_, (Below.refl _ _).alloc (Nat.le_refl _) _⟩
  rw [heap_alloc_new]


/- A row from a place on. -/
theorem cut_row (g o m c d : Nat) (w : World) (h1 : d ≤ m) (h2 : d < c) :
    (Instr.slice 22 (.slice (some ⟨g, o, none⟩) m c) (some (.int .i64 (d : Int))) none none).run Tryz.prog w = .ok (.slice (some ⟨g, o + d, none⟩) (m - d) (c - d)) w := by
  rw [run_slice_l w 22 _ _ _ elem_row .i64 (d : Int) (by omega) (by omega), elem_is, size_byte]
  simp only [Result.andThen, sliced, Int.toNat_natCast, Nat.mul_one, Option.map]
  rw [if_neg (by omega)]
  have hadd : (⟨g, o, none⟩ : Addr).add d = ⟨g, o + d, none⟩ := by unfold Addr.add; split <;> simp_all
  rw [hadd]

theorem cell_of_heap {w : World} {g i : Nat} {L : List Value} {t : TypeId} {p : Nat × Nat} (h : w.heap[g]? = some (.cells L.toArray t p)) : w.cell? ⟨g, i, none⟩ = L[i]? := by
  simp [World.cell?, h]

theorem bytesOf_get (f : Nat → Nat) (n i : Nat) (h : i < n) : (bytesOf f n)[i]? = some (.int .u8 (f i : Int)) := by simp [bytesOf, h]

theorem splice_two (Z X Y : List Value) (n : Nat) (hX : X.length = n) (hZ : Z.length = n + Y.length) : splice (splice Z 0 X) n Y = X ++ Y := by
  unfold splice
  simp [hX]
  omega

/- A list laid over a part of one's own. -/
theorem copy_bytes (w w0 : World) (B g off dLen dCap n c : Nat) (x : Option Addr) (Z X : List Value) (hg : w.heap[g]? = some (.cells Z.toArray 5 (0, 0))) (hX : X.length = n) (hn : n ≤ dLen)
    (hpos : 0 < n → ∃ ad, x = some ad ∧ ∀ j v, X[j]? = some v → w.cell? (ad.add j) = some v) (hfit : off + n ≤ Z.length) (hone : ∀ v ∈ X, v.oneCell' = true) (hb : Below B w0 w) (hB : B ≤ g) :
    ∃ w', (Builtin.copy_ #[22, 22] 3 #[.slice (some ⟨g, off, none⟩) dLen dCap, .slice x n c]).run Tryz.prog w = .ok (.int .i64 (n : Int)) w' ∧ w'.heap[g]? = some (.cells (splice Z off X).toArray 5 (0, 0)) ∧ Below B w0 w' := by
  have hsz : (Tryz.prog.info? 5).map (·.size) = some 1 := by kernel_rfl
  by_cases h0 : n = 0
  · subst h0
    obtain rfl : X = [] := List.eq_nil_of_length_eq_zero hX
    exact ⟨w, run_copy_none (P := Tryz.prog) w 22 22 3 5 _ x dLen dCap 0 c Tryz.underlying22 hsz (Nat.zero_min _), by simpa [splice] using hg, hb⟩
  · obtain ⟨ad, rfl, hsrc⟩ := hpos (by omega)
    have hrun := run_copy_row (P := Tryz.prog) w 22 22 3 5 g off dLen dCap ad n c Z.toArray 5 X Tryz.underlying22 hsz hg (by rw [hX]; exact (Nat.min_eq_left hn).symm) hsrc (by simpa [hX] using hfit) hone
    rw [hX] at hrun
    refine ⟨_, hrun, ?_, below_setRow hb hB _⟩
    rw [setRow_heap w g _ _ 5 _ hg]
    simp [splice, hX]

set_option maxHeartbeats 400000 in
set_option maxRecDepth 100000 in
theorem append_any (n c : Nat) (x : Option Addr) (f : Nat → Nat) (w : World) (hf : ∀ i, f i < 256) (hn : n ≤ 140737488351232) (hx : RowAt w x n f) :
    Calls Tryz.prog 86 #[.slice x n c] w fun e w' => ∃ g, e = .returned (.slice (some ⟨g, 0, none⟩) (n + 4) (n + 4)) ∧ Below w.heap.size w w' ∧ RowAt w' (some ⟨g, 0, none⟩) (n + 4) (fun i => if i < n then f i else lo (sumOf f n) (i - n)) := by
  obtain ⟨m, hm⟩ : ∃ m, m = n + 4 := ⟨_, rfl⟩
  have hm4 : (n : Int) + 4 = (m : Int) := by omega
  have hm9 : m ≤ 140737488355328 := by omega
  have hnm : n ≤ m := by omega
  have Hm : Hid (m = n + 4) := hm
  obtain ⟨Z, w1, hZ, hmk, hg1, hb1⟩ := make_bytes w m (by omega)
  have hof : ∀ v, Below w.heap.size w v → Calls Tryz.prog 96 #[.slice x n c] v fun e w' => e = .returned (.int .u32 (sumOf f n : Int)) ∧ w' = v := fun v hv => of_any n c x f v hf (by omega) (hx.below hv)
  have hs := sumOf_lt f n hf
  obtain ⟨X1, hX⟩ : ∃ X, X = bytesOf f n := ⟨_, rfl⟩
  have hXl : X1.length = n := by rw [hX]; simp [bytesOf]
  have hpos : 0 < n → ∃ ad, x = some ad ∧ ∀ j v, X1[j]? = some v → w1.cell? (ad.add j) = some v := by
    intro h0
    rcases hx with h | ⟨b, o, h1, h2, h3⟩
    · omega
    · refine ⟨_, h1, fun j v hj => ?_⟩
      have hjn : j < n := by
        have := (List.getElem?_eq_some_iff.1 hj).1
        omega
      have e : v = .int .u8 (f j : Int) := by rw [hX] at hj; simp [bytesOf, hjn] at hj; exact hj.symm
      rw [e, add_at]
      exact (hb1.cell (by exact h2)).trans (h3 j hjn)
  have hone : ∀ v ∈ X1, v.oneCell' = true := fun v hv => by
    rw [hX] at hv
    simp [bytesOf] at hv
    obtain ⟨j, _, rfl⟩ := hv
    rfl
  have HX : Hid (X1 = bytesOf f n ∧ X1.length = n) := ⟨hX, hXl⟩
  generalize sumOf f n = s at hof hs
  obtain ⟨w2, hcp, hg2, hb2⟩ := copy_bytes w1 w w.heap.size w.heap.size 0 m m n c x Z X1 hg1 hXl hnm hpos (by omega) hone hb1 (Nat.le_refl _)
  have HG2 : Hid (w2.heap[w.heap.size]? = some (.cells (splice Z 0 X1).toArray 5 (0, 0))) := hg2
  clear hx hf hm hX hpos hg1 hb1 hg2 hone
  have hbs : ∀ v, Calls Tryz.prog 95 #[.int .u32 s] v fun e w' => e = .returned (.agg #[.int .u8 (lo s 0 : Int), .int .u8 (lo s 1 : Int), .int .u8 (lo s 2 : Int), .int .u8 (lo s 3 : Int)]) ∧ Below v.heap.size v w' := fun v => bytesof_any s v hs
  obtain ⟨Y, hY⟩ : ∃ Y, Y = [Value.int .u8 (lo s 0 : Int), .int .u8 (lo s 1 : Int), .int .u8 (lo s 2 : Int), .int .u8 (lo s 3 : Int)] := ⟨_, rfl⟩
  have HY : Hid (Y = bytesOf (lo s) 4) := hY
  generalize lo s 0 = d0 at hbs hY
  generalize lo s 1 = d1 at hbs hY
  generalize lo s 2 = d2 at hbs hY
  generalize lo s 3 = d3 at hbs hY
  have hcut : ∀ v : World, (Instr.slice 22 (.slice (some ⟨w.heap.size, 0, none⟩) m m) (some (.int .i64 (n : Int))) none none).run Tryz.prog v = .ok (.slice (some ⟨w.heap.size, n, none⟩) 4 4) v := fun v => by
    have := cut_row w.heap.size 0 m m n v hnm (by have := Hm.out; omega)
    rw [show m - n = 4 by have := Hm.out; omega, Nat.zero_add] at this
    exact this
  go_enter Tryz.func86, Tryz.ntmps86
  go_wp2_with (first
    | (go_at_call 96; refine (hof _ hb2).mono ?_; rintro e w' ⟨rfl, rfl⟩; clear hof)
    | (go_at_call 95; refine (hbs _).mono ?_; rintro e w3 ⟨rfl, hb3⟩; clear hbs))
  have h3 := hb2.trans (hb3.mono hb2.size)
  have hgw : w.heap.size < w'.heap.size := (Array.getElem?_eq_some_iff.1 HG2.out).1
  have hb4 : Below w.heap.size w (w3.alloc (.cells #[.int .u8 (d0 : Int), .int .u8 (d1 : Int), .int .u8 (d2 : Int), .int .u8 (d3 : Int)] 150)) := h3.alloc h3.size _
  have hg4 : (w3.alloc (.cells #[.int .u8 (d0 : Int), .int .u8 (d1 : Int), .int .u8 (d2 : Int), .int .u8 (d3 : Int)] 150)).heap[w.heap.size]? = some (.cells (splice Z 0 X1).toArray 5 (0, 0)) := by
    rw [heap_alloc_old _ _ (Nat.lt_of_lt_of_le hgw hb3.size), hb3.block _ hgw]
    exact HG2.out
  have hs4 : ∀ j v, Y[j]? = some v → (w3.alloc (.cells #[.int .u8 (d0 : Int), .int .u8 (d1 : Int), .int .u8 (d2 : Int), .int .u8 (d3 : Int)] 150)).cell? ((⟨w3.heap.size, 0, none⟩ : Addr).add j) = some v := by
    intro j v hj
    rw [add_at, Nat.zero_add]
    rw [hY] at hj
    simp
    exact hj
  have hY4 : Y.length = 4 := by rw [hY]; rfl
  have hZ2 : (splice Z 0 X1).length = m := by rw [length_splice _ _ _ (by omega)]; exact hZ
  have hone : ∀ v ∈ Y, v.oneCell' = true := by
    intro v hv
    rw [hY] at hv
    simp at hv
    rcases hv with rfl | rfl | rfl | rfl <;> rfl
  clear hY HG2 hb2 hb3 h3 hgw hcp hmk
  generalize w3.alloc (.cells #[.int .u8 (d0 : Int), .int .u8 (d1 : Int), .int .u8 (d2 : Int), .int .u8 (d3 : Int)] 150) = w4 at *
  generalize w3.heap.size = q at *
  have hb4d : Below w.heap.size w w4.drew := ⟨hb4.os, hb4.tape, hb4.output, hb4.size, hb4.block⟩
  have hfit : n + 4 ≤ (splice Z 0 X1).length := by rw [hZ2]; have := Hm.out; omega
  have HZ : Hid (splice (splice Z 0 X1) n Y = bytesOf (fun i => if i < n then f i else lo s (i - n)) m) := by
    have hm := Hm.out
    have h1 : splice (splice Z 0 X1) n Y = X1 ++ Y := splice_two Z X1 Y n hXl (by omega)
    rw [h1, HX.out.1, HY.out, hm]
    unfold bytesOf
    rw [List.range_add, List.map_append, List.map_map]
    congr 1
    · refine List.map_congr_left fun i hi => ?_
      have := List.mem_range.1 hi
      simp [this]
    · refine List.map_congr_left fun i hi => ?_
      simp [show ¬ n + i < n by omega]
  generalize splice Z 0 X1 = Z2 at *
  go_region_law (refine step_copy_splice rfl (.tmp 18) (.tmp 19) 22 22 rfl 5 Tryz.underlying22 (by kernel_rfl) (some ⟨w.heap.size, n, none⟩) (some ⟨q, 0, none⟩) 4 4 4 4 rfl rfl w.heap.size n Z2 5 hg4 Y (by rw [hY4]; rfl) (fun _ => ⟨rfl, _, rfl, hs4⟩) (by rw [hY4]; exact hfit) hone w.heap.size w hb4d (Nat.le_refl _) ?_; intro w5 hg5 hb5)
  have HB5 : Hid (Below w.heap.size w w5) := hb5
  clear hg4 hs4 hb4 hb4d hb5
  go_wp2_with fail
  go_ret
  refine ⟨w.heap.size, by rw [← Hm.out]; rfl, HB5.out, ?_⟩
  rw [← Hm.out]
  have hh := hg5.out
  rw [HZ.out] at hh
  refine .inr ⟨w.heap.size, 0, rfl, (Array.getElem?_eq_some_iff.1 hh).1, fun i hi => ?_⟩
  rw [Nat.zero_add, cell_of_heap hh, bytesOf_get _ _ _ hi]

end Go.Proofs.YtbbjklenpgkooaaGreat

/-
  What Strip of package sum, the document's Append and the statements' own test do: contracts over plain numbers ('SuPlain').
  Conditions: bytes that are looked at lie in memory.
-/
namespace Go.Proofs.YtbbjklenpgkooaaGreat
open Go.RowKit Su By
set_option linter.unusedVariables false

/- The document's Append. -/
set_option maxHeartbeats 400000 in
set_option maxRecDepth 100000 in
theorem rappend_any (n c : Nat) (x : Option Addr) (f : Nat → Nat) (w : World) (hf : ∀ i, f i < 256) (hn : n ≤ 140737488351232) (hx : RowAt w x n f) (hnil : x = none → n = 0 ∧ c = 0) :
    Calls Tryz.prog 41 #[.slice x n c] w fun e w' => ∃ g cy, e = .returned (.slice (some ⟨g, 0, none⟩) (n + 4) cy) ∧ Below w.heap.size w w' ∧ RowAt w' (some ⟨g, 0, none⟩) (n + 4) (fun i => if i < n then f i else lo (sumOf f n) (i - n)) := by
  have hof := rof_any n c x f w hf (by omega) hx
  have hs := sumOf_lt f n hf
  generalize sumOf f n = s at hof hs
  obtain ⟨g1, c1, w1, hr1, hb1, ho1, hg1, hl1, hc1, hw1⟩ := bytes_copy w x n c f hx hnil (by omega)
  have hlo : (w1.alloc (.cells #[.int .u8 ((s : Int) % 256), .int .u8 ((s : Int) / 256 % 256), .int .u8 ((s : Int) / 65536 % 256), .int .u8 ((s : Int) / 16777216)] 5)) = w1.alloc (.cells (bytesOf (lo s) 4).toArray 5) := by
    rw [← lo0, ← lo1, ← lo2, ← lo3 s hs]
    exact rfl
  have h2 := ho1.alloc (.cells (bytesOf (lo s) 4).toArray 5)
  have hb2 : Below w.heap.size w (w1.alloc (.cells (bytesOf (lo s) 4).toArray 5)) := hb1.alloc hb1.size _
  have hrow : RowAt (w1.alloc (.cells (bytesOf (lo s) 4).toArray 5)) (some ⟨w1.heap.size, 0, none⟩) 4 (lo s) := by
    refine .inr ⟨w1.heap.size, 0, rfl, by simp, fun i hi => ?_⟩
    rw [Nat.zero_add, cell_of_heap (heap_alloc_new _ _), bytesOf_get _ _ _ hi]
  obtain ⟨R, w2, hr2, ho2, hb3, hnn⟩ := push_row _ w w.heap.size _ n f h2 (by have := hb2.size; exact this) hb2 (some ⟨w1.heap.size, 0, none⟩) 4 4 (lo s) (fun h => by cases h) hrow (by omega)
  obtain ⟨g2, c2, hR, _, _, _, _, hrow2⟩ := own_rowAt ho2 (fun h => by have := hnn h; simp at this)
  subst hR
  rw [← hlo] at hr2
  have HB : Hid (Below w.heap.size w w2 ∧ RowAt w2 (some ⟨g2, 0, none⟩) (n + 4) (fun i => if i < n then f i else lo s (i - n))) := ⟨hb3, hrow2⟩
  obtain ⟨m, hm⟩ : ∃ m, m = n + 4 := ⟨_, rfl⟩
  have Hm : Hid (m = n + 4) := hm
  rw [← hm] at hr2 HB
  rw [← hm]
  clear hlo h2 hb2 hrow ho2 hb3 hnn hrow2 hm hb1 ho1 hg1 hl1 hc1 hw1 hx hf hnil
  go_enter Tryz.func41, Tryz.ntmps41
  go_wp2_with (first
    | (go_at_call 66; refine hof.mono ?_; rintro e w' ⟨rfl, rfl⟩; clear hof)
    | (at_builtin; refine wpList_append_run rfl _ _ 22 rfl _ _ rfl rfl hr1 ?_; clear hr1)
    | (at_builtin; refine wpList_append_run rfl _ _ 22 rfl _ _ rfl rfl hr2 ?_; clear hr2))
  go_ret
  exact ⟨g2, c2, rfl, HB.out.1, HB.out.2⟩

/- Strip(b). -/
def Ends (f : Nat → Nat) (m : Nat) : Prop := ∀ i, i < 4 → f (m + i) = lo (sumOf f m) i

theorem strip_short (n c : Nat) (x : Option Addr) (w : World) (hn : n < 4) :
    Calls Tryz.prog 91 #[.slice x n c] w fun e w' => e = .returned (.tuple #[.slice none 0 0, .bool false]) ∧ w' = w := by
  go_enter Tryz.func91, Tryz.ntmps91
  go_wp2_with fail
  go_ret2
  exact ⟨rfl, rfl⟩

/- The world, but for draws, is the same: so are the lists. -/
theorem row_heap {w v : World} {x : Option Addr} {n : Nat} {f : Nat → Nat} (h : RowAt w x n f) (e : v.heap = w.heap) : RowAt v x n f := by
  rcases h with h | ⟨b, o, h1, h2, h3⟩
  · exact .inl h
  · refine .inr ⟨b, o, h1, by rw [e]; exact h2, fun i hi => ?_⟩
    have := h3 i hi
    unfold World.cell? at this ⊢
    rw [e]
    exact this

theorem row_drop {w : World} {b o n m : Nat} {f : Nat → Nat} (h : RowAt w (some ⟨b, o, none⟩) (m + n) f) : RowAt w (some ⟨b, o + m, none⟩) n (fun i => f (m + i)) := by
  rcases h with h | ⟨b', o', h1, h2, h3⟩
  · exact .inl (by omega)
  · injection h1 with h1
    injection h1 with h1 h4 _
    subst h1 h4
    exact .inr ⟨_, _, rfl, h2, fun i hi => by rw [Nat.add_assoc]; exact h3 (m + i) (by omega)⟩

set_option maxHeartbeats 400000 in
set_option maxRecDepth 100000 in
theorem strip_no (n c b o m : Nat) (f : Nat → Nat) (w : World) (hf : ∀ i, f i < 256) (hn : n ≤ 140737488355328) (hc : n ≤ c) (hm : n = m + 4) (hx : RowAt w (some ⟨b, o, none⟩) n f) (he : ¬ Ends f m) :
    Calls Tryz.prog 91 #[.slice (some ⟨b, o, none⟩) n c] w fun e w' => e = .returned (.tuple #[.slice none 0 0, .bool false]) ∧ Below w.heap.size w w' := by
  have hof := of_any m c (some ⟨b, o, none⟩) f w hf (by omega) (hx.take (by omega))
  have hs := sumOf_lt f m hf
  have hbs : ∀ v, Calls Tryz.prog 95 #[.int .u32 (sumOf f m : Int)] v fun e w' => e = .returned (.agg #[.int .u8 (lo (sumOf f m) 0 : Int), .int .u8 (lo (sumOf f m) 1 : Int), .int .u8 (lo (sumOf f m) 2 : Int), .int .u8 (lo (sumOf f m) 3 : Int)]) ∧ Below v.heap.size v w' := fun v => bytesof_any _ v hs
  have hcut : ∀ v : World, (Instr.slice 22 (.slice (some ⟨b, o, none⟩) n c) (some (.int .i64 (m : Int))) none none).run Tryz.prog v = .ok (.slice (some ⟨b, o + m, none⟩) 4 (c - m)) v := fun v => by
    have := cut_row b o n c m v (by omega) (by omega)
    rw [show n - m = 4 by omega] at this
    exact this
  have hsub : (n : Int) - 4 = (m : Int) := by omega
  have hnm : m ≤ n := by omega
  unfold Ends at he
  have Hx : Hid (RowAt w (some ⟨b, o, none⟩) (m + 4) f) := by rw [← hm]; exact hx
  have Hf : Hid (∀ i, f i < 256) := hf
  have He : Hid (¬ ∀ i, i < 4 → f (m + i) = lo (sumOf f m) i) := he
  generalize sumOf f m = s at *
  obtain ⟨Y, hY⟩ : ∃ Y, Y = bytesOf (lo s) 4 := ⟨_, rfl⟩
  have HY : Hid (Y = bytesOf (lo s) 4) := hY
  have hY2 : Y = [Value.int .u8 (lo s 0 : Int), .int .u8 (lo s 1 : Int), .int .u8 (lo s 2 : Int), .int .u8 (lo s 3 : Int)] := hY
  have Hm : Hid (n = m + 4) := hm
  clear hx hf hm he hY
  generalize lo s 0 = d0 at hbs hY2
  generalize lo s 1 = d1 at hbs hY2
  generalize lo s 2 = d2 at hbs hY2
  generalize lo s 3 = d3 at hbs hY2
  go_enter Tryz.func91, Tryz.ntmps91
  go_wp2_with (first
    | (go_at_call 96; refine hof.mono ?_; rintro e w' ⟨rfl, rfl⟩; clear hof)
    | (go_at_call 95; refine (hbs _).mono ?_; rintro e w3 ⟨rfl, hb3⟩; clear hbs))
  have hb4 : Below w'.heap.size w' (w3.alloc (.cells #[.int .u8 (d0 : Int), .int .u8 (d1 : Int), .int .u8 (d2 : Int), .int .u8 (d3 : Int)] 150)) := hb3.alloc hb3.size _
  have hrow : RowAt (w3.alloc (.cells #[.int .u8 (d0 : Int), .int .u8 (d1 : Int), .int .u8 (d2 : Int), .int .u8 (d3 : Int)] 150)) (some ⟨w3.heap.size, 0, none⟩) 4 (lo s) := by
    refine .inr ⟨w3.heap.size, 0, rfl, by simp, fun i hi => ?_⟩
    rw [show (#[.int .u8 (d0 : Int), .int .u8 (d1 : Int), .int .u8 (d2 : Int), .int .u8 (d3 : Int)] : Array Value) = (bytesOf (lo s) 4).toArray by rw [← HY.out, hY2]]
    rw [Nat.zero_add, cell_of_heap (heap_alloc_new _ _), bytesOf_get _ _ _ hi]
  clear hY2
  generalize w3.alloc (.cells #[.int .u8 (d0 : Int), .int .u8 (d1 : Int), .int .u8 (d2 : Int), .int .u8 (d3 : Int)] 150) = w4 at *
  generalize w3.heap.size = q at *
  have heq : ∀ v : World, v.heap = w4.heap → Calls Tryz.prog 108 #[.slice (some ⟨b, o + m, none⟩) 4 (c - m), .slice (some ⟨q, 0, none⟩) 4 4] v fun e w' => e = .returned (.bool false) ∧ w' = v := fun v hv =>
    bequal_any _ _ 4 4 _ _ false (fun i => f (m + i)) (lo s) v (fun i => Hf.out _) (fun i => lo_lt s i) (row_heap (row_drop (Hx.out.below hb4)) hv) (row_heap hrow hv) (fun _ h => absurd h He.out) (fun _ => rfl)
  clear hrow
  go_wp2_with fail
  go_quiet ((go_at_call 108; exact Calls.quiet_of_same (heq _ rfl)))
  have HB4 : Hid (Below w'.heap.size w' w4) := hb4
  clear heq hb4
  go_wp2_with fail
  go_ret2
  exact ⟨rfl, below_drewN' HB4.out _⟩

set_option maxHeartbeats 400000 in
set_option maxRecDepth 100000 in
theorem strip_full (n c b o m : Nat) (f : Nat → Nat) (w : World) (hf : ∀ i, f i < 256) (hn : n ≤ 140737488355328) (hc : n ≤ c) (hm : n = m + 4) (hx : RowAt w (some ⟨b, o, none⟩) n f) (he : Ends f m) :
    Calls Tryz.prog 91 #[.slice (some ⟨b, o, none⟩) n c] w fun e w' => ∃ y cy, e = .returned (.tuple #[.slice (some ⟨y, 0, none⟩) m cy, .bool true]) ∧ Below w.heap.size w w' ∧ RowAt w' (some ⟨y, 0, none⟩) m f ∧ m ≤ cy ∧ y < w'.heap.size := by
  have hof := of_any m c (some ⟨b, o, none⟩) f w hf (by omega) (hx.take (by omega))
  have hs := sumOf_lt f m hf
  have hbs : ∀ v, Calls Tryz.prog 95 #[.int .u32 (sumOf f m : Int)] v fun e w' => e = .returned (.agg #[.int .u8 (lo (sumOf f m) 0 : Int), .int .u8 (lo (sumOf f m) 1 : Int), .int .u8 (lo (sumOf f m) 2 : Int), .int .u8 (lo (sumOf f m) 3 : Int)]) ∧ Below v.heap.size v w' := fun v => bytesof_any _ v hs
  have hcut : ∀ v : World, (Instr.slice 22 (.slice (some ⟨b, o, none⟩) n c) (some (.int .i64 (m : Int))) none none).run Tryz.prog v = .ok (.slice (some ⟨b, o + m, none⟩) 4 (c - m)) v := fun v => by
    have := cut_row b o n c m v (by omega) (by omega)
    rw [show n - m = 4 by omega] at this
    exact this
  have hsub : (n : Int) - 4 = (m : Int) := by omega
  have hnm : m ≤ n := by omega
  unfold Ends at he
  have Hx : Hid (RowAt w (some ⟨b, o, none⟩) (m + 4) f) := by rw [← hm]; exact hx
  have Hf : Hid (∀ i, f i < 256) := hf
  have He : Hid (∀ i, i < 4 → f (m + i) = lo (sumOf f m) i) := he
  generalize sumOf f m = s at *
  obtain ⟨Y, hY⟩ : ∃ Y, Y = bytesOf (lo s) 4 := ⟨_, rfl⟩
  have HY : Hid (Y = bytesOf (lo s) 4) := hY
  have hY2 : Y = [Value.int .u8 (lo s 0 : Int), .int .u8 (lo s 1 : Int), .int .u8 (lo s 2 : Int), .int .u8 (lo s 3 : Int)] := hY
  have Hm : Hid (n = m + 4) := hm
  clear hx hf hm he hY
  generalize lo s 0 = d0 at hbs hY2
  generalize lo s 1 = d1 at hbs hY2
  generalize lo s 2 = d2 at hbs hY2
  generalize lo s 3 = d3 at hbs hY2
  go_enter Tryz.func91, Tryz.ntmps91
  go_wp2_with (first
    | (go_at_call 96; refine hof.mono ?_; rintro e w' ⟨rfl, rfl⟩; clear hof)
    | (go_at_call 95; refine (hbs _).mono ?_; rintro e w3 ⟨rfl, hb3⟩; clear hbs))
  have hb4 : Below w'.heap.size w' (w3.alloc (.cells #[.int .u8 (d0 : Int), .int .u8 (d1 : Int), .int .u8 (d2 : Int), .int .u8 (d3 : Int)] 150)) := hb3.alloc hb3.size _
  have hrow : RowAt (w3.alloc (.cells #[.int .u8 (d0 : Int), .int .u8 (d1 : Int), .int .u8 (d2 : Int), .int .u8 (d3 : Int)] 150)) (some ⟨w3.heap.size, 0, none⟩) 4 (lo s) := by
    refine .inr ⟨w3.heap.size, 0, rfl, by simp, fun i hi => ?_⟩
    rw [show (#[.int .u8 (d0 : Int), .int .u8 (d1 : Int), .int .u8 (d2 : Int), .int .u8 (d3 : Int)] : Array Value) = (bytesOf (lo s) 4).toArray by rw [← HY.out, hY2]]
    rw [Nat.zero_add, cell_of_heap (heap_alloc_new _ _), bytesOf_get _ _ _ hi]
  clear hY2
  generalize w3.alloc (.cells #[.int .u8 (d0 : Int), .int .u8 (d1 : Int), .int .u8 (d2 : Int), .int .u8 (d3 : Int)] 150) = w4 at *
  generalize w3.heap.size = q at *
  have heq : ∀ v : World, v.heap = w4.heap → Calls Tryz.prog 108 #[.slice (some ⟨b, o + m, none⟩) 4 (c - m), .slice (some ⟨q, 0, none⟩) 4 4] v fun e w' => e = .returned (.bool true) ∧ w' = v := fun v hv =>
    bequal_any _ _ 4 4 _ _ true (fun i => f (m + i)) (lo s) v (fun i => Hf.out _) (fun i => lo_lt s i) (row_heap (row_drop (Hx.out.below hb4)) hv) (row_heap hrow hv) (fun _ _ => rfl) (fun h => absurd ⟨rfl, He.out⟩ h)
  clear hrow
  go_wp2_with fail
  go_quiet ((go_at_call 108; exact Calls.quiet_of_same (heq _ rfl)))
  have HB4 : Hid (Below w'.heap.size w' w4) := hb4
  have hcl : ∀ k, Calls Tryz.prog 47 #[.slice (some ⟨b, o, none⟩) m c] (w4.drewN k) fun e w' => ∃ g cy, e = .returned (.slice (some ⟨g, 0, none⟩) m cy) ∧ Below w4.heap.size (w4.drewN k) w' ∧ Hid (RowAt w' (some ⟨g, 0, none⟩) m f ∧ m ≤ cy ∧ g < w'.heap.size) := fun k =>
    (clone_strong ⟨b, o, none⟩ m c f (w4.drewN k) (row_heap ((Hx.out.below hb4).take (by omega)) rfl) (by omega)).mono fun e w' ⟨g, cy, h1, h2, h3, h4, _, h5⟩ => ⟨g, cy, h1, h2, h3, h4, h5⟩
  clear heq hb4
  go_wp2_with (go_at_call 47; refine (hcl _).mono ?_; rintro e w5 ⟨g5, c5, rfl, hb5, hr5⟩; clear hcl)
  go_ret2
  exact ⟨_, c5, rfl, HB4.out.trans (below_of_drewN (hb5.mono HB4.out.size)), hr5.out⟩

theorem strip_yes (n c b o m : Nat) (f : Nat → Nat) (w : World) (hf : ∀ i, f i < 256) (hn : n ≤ 140737488355328) (hc : n ≤ c) (hm : n = m + 4) (hx : RowAt w (some ⟨b, o, none⟩) n f) (he : Ends f m) :
    Calls Tryz.prog 91 #[.slice (some ⟨b, o, none⟩) n c] w fun e w' => ∃ y cy, e = .returned (.tuple #[.slice (some ⟨y, 0, none⟩) m cy, .bool true]) ∧ Below w.heap.size w w' ∧ RowAt w' (some ⟨y, 0, none⟩) m f :=
  (strip_full n c b o m f w hf hn hc hm hx he).mono fun e w' ⟨y, cy, h1, h2, h3, _⟩ => ⟨y, cy, h1, h2, h3⟩

/- The statements' own test that the well known sum is known. -/
def known (i : Nat) : Nat := 49 + i
def nine (i : Nat) : Nat := known (i % 9)

theorem known_sum : sumOf nine 9 = 3808858755 := by decide +kernel

end Go.Proofs.YtbbjklenpgkooaaGreat

/-
  A disk as plain numbers: its bytes, what was written since the last flush, what a crash leaves and what is read.
  Conditions: none.
-/
namespace Go.Proofs.YtbbjklenpgkooaaGreat.Dk
set_option linter.unusedVariables false
set_option linter.unusedSimpArgs false
set_option maxRecDepth 100000

def put (f : Nat → Nat) (a : Nat) (d : Nat → Nat) : Nat → Nat := fun k => if k / 64 = a then d (k % 64) else f k

def kept (f A : Nat → Nat) (D : Nat → Nat → Nat) (c : Nat → Bool) : Nat → Nat → Nat
  | 0 => f
  | i + 1 => if c i = true then put (kept f A D c i) (A i) (D i) else kept f A D c i

def last (A : Nat → Nat) (k : Nat) : Nat → Nat
  | 0 => 0
  | m + 1 => if A m = k then m + 1 else last A k m

def sec (f : Nat → Nat) (k : Nat) : Nat → Nat := fun j => f (64 * k + j)

def now (f A : Nat → Nat) (D : Nat → Nat → Nat) (k m : Nat) : Nat → Nat := if last A k m = 0 then sec f k else D (last A k m - 1)

def ext {α : Type} (A : Nat → α) (m : Nat) (a : α) : Nat → α := fun i => if i < m then A i else a

theorem ext_old {α : Type} (A : Nat → α) (m : Nat) (a : α) {i : Nat} (h : i < m) : ext A m a i = A i := by simp [ext, h]
theorem ext_new {α : Type} (A : Nat → α) (m : Nat) (a : α) : ext A m a m = a := by simp [ext]

theorem put_sec (f : Nat → Nat) (a : Nat) (d : Nat → Nat) (k j : Nat) (hj : j < 64) : sec (put f a d) k j = if k = a then d j else sec f k j := by
  have h1 : (64 * k + j) / 64 = k := by omega
  have h2 : (64 * k + j) % 64 = j := by omega
  simp [sec, put, h1, h2]

theorem last_le (A : Nat → Nat) (k : Nat) : ∀ m, last A k m ≤ m
  | 0 => Nat.le_refl _
  | m + 1 => by
    have := last_le A k m
    unfold last
    split <;> omega

theorem last_at (A : Nat → Nat) (k : Nat) : ∀ m, last A k m ≠ 0 → A (last A k m - 1) = k
  | 0, h => absurd rfl h
  | m + 1, h => by
    unfold last at h ⊢
    split
    · rename_i e; simpa using e
    · rename_i e
      rw [if_neg e] at h
      exact last_at A k m h

theorem last_congr {A B : Nat → Nat} (k : Nat) : ∀ m, (∀ i, i < m → A i = B i) → last A k m = last B k m
  | 0, _ => rfl
  | m + 1, h => by
    unfold last
    rw [h m (Nat.lt_succ_self m), last_congr k m fun i hi => h i (Nat.lt_succ_of_lt hi)]

theorem last_ext (A : Nat → Nat) (m a k : Nat) : last (ext A m a) k (m + 1) = if a = k then m + 1 else last A k m := by
  rw [last, ext_new]
  rw [last_congr k m (fun i hi => ext_old A m a hi)]

theorem last_none {A : Nat → Nat} {k : Nat} : ∀ m, (∀ i, i < m → A i ≠ k) → last A k m = 0
  | 0, _ => rfl
  | m + 1, h => by
    unfold last
    rw [if_neg (h m (Nat.lt_succ_self m))]
    exact last_none m fun i hi => h i (Nat.lt_succ_of_lt hi)

theorem last_hit {A : Nat → Nat} {k : Nat} : ∀ m i, i < m → A i = k → last A k m ≠ 0
  | m + 1, i, hi, e => by
    unfold last
    split
    · omega
    · rename_i h
      refine last_hit m i ?_ e
      rcases Nat.lt_succ_iff_lt_or_eq.1 hi with h1 | h1
      · exact h1
      · subst h1; exact absurd e h

theorem kept_lt {f A : Nat → Nat} {D : Nat → Nat → Nat} (c : Nat → Bool) (hf : ∀ i, f i < 256) (hD : ∀ i j, D i j < 256) : ∀ m k, kept f A D c m k < 256
  | 0, k => hf k
  | m + 1, k => by
    unfold kept
    split
    · unfold put
      split
      · exact hD _ _
      · exact kept_lt c hf hD m k
    · exact kept_lt c hf hD m k

theorem now_lt {f A : Nat → Nat} {D : Nat → Nat → Nat} (hf : ∀ i, f i < 256) (hD : ∀ i j, D i j < 256) (k m j : Nat) : now f A D k m j < 256 := by
  unfold now
  split
  · exact hf _
  · exact hD _ _

/- Where nothing was written all is as it was. -/
theorem kept_away {f A : Nat → Nat} {D : Nat → Nat → Nat} (c : Nat → Bool) (k : Nat) : ∀ m, (∀ i, i < m → A i ≠ k) → ∀ j, j < 64 → sec (kept f A D c m) k j = sec f k j
  | 0, _, _, _ => rfl
  | m + 1, h, j, hj => by
    unfold kept
    split
    · rw [put_sec _ _ _ _ _ hj, if_neg (fun e => h m (Nat.lt_succ_self m) e.symm)]
      exact kept_away c k m (fun i hi => h i (Nat.lt_succ_of_lt hi)) j hj
    · exact kept_away c k m (fun i hi => h i (Nat.lt_succ_of_lt hi)) j hj

/- What is flushed is what was read. -/
theorem kept_all (f A : Nat → Nat) (D : Nat → Nat → Nat) (k : Nat) : ∀ m, ∀ j, j < 64 → sec (kept f A D (fun _ => true) m) k j = now f A D k m j
  | 0, _, _ => rfl
  | m + 1, j, hj => by
    have ih := kept_all f A D k m j hj
    unfold kept now
    rw [if_pos rfl, put_sec _ _ _ _ _ hj, last]
    by_cases e : A m = k
    · simp [e]
    · rw [if_neg (fun h => e h.symm), if_neg e, ih]
      rfl

theorem now_ext (f A : Nat → Nat) (D : Nat → Nat → Nat) (m a : Nat) (d : Nat → Nat) (k : Nat) : now f (ext A m a) (ext D m d) k (m + 1) = if a = k then d else now f A D k m := by
  unfold now
  rw [last_ext]
  by_cases e : a = k
  · simp [e, ext_new]
  · simp only [e, if_false]
    by_cases h : last A k m = 0
    · simp [h]
    · have := last_le A k m
      simp only [h, if_false]
      rw [ext_old D m d (by omega)]

theorem kept_congr {f f' A B : Nat → Nat} {D E : Nat → Nat → Nat} {c c' : Nat → Bool} (hf : ∀ k, f k = f' k) : ∀ m, (∀ i, i < m → A i = B i ∧ (∀ j, j < 64 → D i j = E i j) ∧ c i = c' i) → ∀ k, kept f A D c m k = kept f' B E c' m k
  | 0, _, k => hf k
  | m + 1, h, k => by
    have ih := kept_congr hf m (fun i hi => h i (Nat.lt_succ_of_lt hi))
    obtain ⟨h1, h2, h3⟩ := h m (Nat.lt_succ_self m)
    unfold kept
    rw [h3, h1]
    split
    · unfold put
      rw [ih k, h2 _ (Nat.mod_lt _ (by omega))]
    · exact ih k

end Go.Proofs.YtbbjklenpgkooaaGreat.Dk

/-
  Blocks of memory as rows of values; what a call may turn; a disk as it lies in memory.
  Conditions: none.
-/
namespace Go.Proofs.YtbbjklenpgkooaaGreat
open Go.RowKit By Dk
set_option linter.unusedVariables false
set_option linter.unusedSimpArgs false
set_option maxRecDepth 100000

theorem hid {p : Prop} (h : p) : Hid p := h

def rowOf (v : Nat → Value) (n : Nat) : List Value := (List.range n).map v

theorem rowOf_get (v : Nat → Value) (n k : Nat) (h : k < n) : (rowOf v n)[k]? = some (v k) := by simp [rowOf, h]
theorem rowOf_len (v : Nat → Value) (n : Nat) : (rowOf v n).length = n := by simp [rowOf]
theorem rowOf_congr {v u : Nat → Value} {n : Nat} (h : ∀ k, k < n → v k = u k) : rowOf v n = rowOf u n := List.map_congr_left fun i hi => h i (List.mem_range.1 hi)
theorem rowOf_one (v : Nat → Value) (n : Nat) (h : ∀ k, (v k).oneCell' = true) : ∀ u ∈ rowOf v n, u.oneCell' = true := fun u hu => by
  simp only [rowOf, List.mem_map] at hu
  obtain ⟨k, _, rfl⟩ := hu
  exact h k
theorem rowOf_succ (v : Nat → Value) (n : Nat) : rowOf v (n + 1) = rowOf v n ++ [v n] := by simp [rowOf, List.range_succ]

def upd (v : Nat → Value) (k : Nat) (u : Value) : Nat → Value := fun i => if i = k then u else v i

theorem rowOf_set (v : Nat → Value) (n k : Nat) (u : Value) : (rowOf v n).set k u = rowOf (upd v k u) n := by
  apply List.ext_getElem?
  intro i
  by_cases hi : i < n
  · rw [rowOf_get _ _ _ hi, List.getElem?_set]
    by_cases e : k = i
    · subst e; simp [rowOf_len, hi, upd]
    · rw [if_neg e, rowOf_get _ _ _ hi]
      simp [upd, Ne.symm e]
  · rw [List.getElem?_eq_none (by rw [List.length_set, rowOf_len]; omega), List.getElem?_eq_none (by rw [rowOf_len]; omega)]

def Blk (w : World) (g : Nat) (t : TypeId) (n : Nat) (v : Nat → Value) : Prop := w.heap[g]? = some (.cells (rowOf v n).toArray t (0, 0))

section
variable {w w' : World} {g n : Nat} {t : TypeId} {v : Nat → Value}

theorem Blk.lt (h : Blk w g t n v) : g < w.heap.size := (Array.getElem?_eq_some_iff.1 h).1

theorem Blk.cell (h : Blk w g t n v) {k : Nat} (hk : k < n) : w.cell? ⟨g, k, none⟩ = some (v k) := by
  unfold Blk at h
  simp only [World.cell?, h]
  simp [rowOf_get v n k hk]

theorem Blk.frozen (h : Blk w g t n v) (k : Nat) : w.frozen? ⟨g, k, none⟩ = false := by
  unfold Blk at h
  simp [World.frozen?, h]

theorem Blk.of_heap (h : Blk w g t n v) (e : w'.heap[g]? = w.heap[g]?) : Blk w' g t n v := e.trans h

theorem Blk.ne {g' n' : Nat} {t' : TypeId} {v' : Nat → Value} (h : Blk w g t n v) (k : Blk w g' t' n' v') (ht : t ≠ t') : g ≠ g' := fun e => by
  subst e
  have := Option.some.inj (Eq.trans (Eq.symm h) k)
  injection this with _ h2 _
  exact ht h2

theorem Blk.congr {v' : Nat → Value} (h : Blk w g t n v) (e : ∀ k, k < n → v k = v' k) : Blk w g t n v' := by
  unfold Blk
  rw [← rowOf_congr e]
  exact h

theorem Blk.set (h : Blk w g t n v) (k : Nat) (u : Value) : Blk (w.setCell ⟨g, k, none⟩ u) g t n (upd v k u) := by
  unfold Blk at h ⊢
  obtain ⟨h1, h2⟩ := Array.getElem?_eq_some_iff.1 h
  simp only [World.setCell]
  rw [Array.getElem?_eq_getElem (by simpa using h1), Array.getElem_modify, if_pos rfl, h2]
  simp [rowOf_set]

theorem Blk.new (w : World) (t : TypeId) (n : Nat) (v : Nat → Value) (cs : Array Value) (e : cs = (rowOf v n).toArray) : Blk (w.alloc (.cells cs t)) w.heap.size t n v := by
  unfold Blk
  rw [heap_alloc_new, e]

theorem Blk.row {f : Nat → Nat} (h : Blk w g 5 n (fun i => .int .u8 (f i : Int))) : RowAt w (some ⟨g, 0, none⟩) n f :=
  .inr ⟨g, 0, rfl, h.lt, fun i hi => by rw [Nat.zero_add]; exact h.cell hi⟩

end

/- What a call may turn: the blocks of F, and new ones. -/
structure Turns (F : Nat → Prop) (w w' : World) : Prop where
  os : w'.os = w.os
  tape : w'.tape = w.tape
  output : w'.output = w.output
  size : w.heap.size ≤ w'.heap.size
  block : ∀ k, k < w.heap.size → ¬ F k → w'.heap[k]? = w.heap[k]?

def grow (F : Nat → Prop) (w w' : World) : Nat → Prop := fun k => F k ∨ (w.heap.size ≤ k ∧ k < w'.heap.size)

section
variable {F : Nat → Prop} {a b c w : World}

theorem Turns.refl (F : Nat → Prop) (w : World) : Turns F w w := ⟨rfl, rfl, rfl, Nat.le_refl _, fun _ _ _ => rfl⟩

theorem Turns.trans (h : Turns F a b) (k : Turns F b c) : Turns F a c :=
  ⟨k.os.trans h.os, k.tape.trans h.tape, k.output.trans h.output, Nat.le_trans h.size k.size, fun i hi hg => (k.block i (Nat.lt_of_lt_of_le hi h.size) hg).trans (h.block i hi hg)⟩

theorem Turns.more {G : Nat → Prop} (h : Turns F a b) (k : Turns G b c) (hG : ∀ i, G i → F i ∨ a.heap.size ≤ i) : Turns F a c :=
  ⟨k.os.trans h.os, k.tape.trans h.tape, k.output.trans h.output, Nat.le_trans h.size k.size, fun i hi hg => (k.block i (Nat.lt_of_lt_of_le hi h.size) (fun h1 => by rcases hG i h1 with h2 | h2; exact hg h2; omega)).trans (h.block i hi hg)⟩

theorem Turns.of_below (h : Below a.heap.size a b) : Turns F a b := ⟨h.os, h.tape, h.output, h.size, fun k hk _ => h.block k hk⟩

theorem Turns.drewN (h : Turns F a w) (n : Nat) : Turns F a (w.drewN n) := ⟨h.os, h.tape, h.output, h.size, h.block⟩
theorem Turns.drew (h : Turns F a w) : Turns F a w.drew := ⟨h.os, h.tape, h.output, h.size, h.block⟩
theorem Turns.of_drewN {n : Nat} (h : Turns F (a.drewN n) w) : Turns F a w := ⟨h.os, h.tape, h.output, h.size, h.block⟩

theorem Turns.setCell (h : Turns F a w) {p : Addr} (hp : F p.block ∨ a.heap.size ≤ p.block) (u : Value) : Turns F a (w.setCell p u) :=
  ⟨h.os, h.tape, h.output, by simpa [World.setCell] using h.size, fun k hk hF => (Below.heap_setCell _ _ _ _ (fun e => by subst e; rcases hp with hp | hp; exact hF hp; omega)).trans (h.block k hk hF)⟩

theorem Turns.alloc (h : Turns F a w) (o : Obj) : Turns F a (w.alloc o) :=
  ⟨h.os, h.tape, h.output, by have := h.size; simp; omega, fun k hk hF => (Below.heap_alloc _ _ _ (Nat.lt_of_lt_of_le hk h.size)).trans (h.block k hk hF)⟩

theorem Turns.grown {w' : World} {row : Option Nat} (h : Turns F a w) (hg : w.grownBy w' row) (hr : ∀ k, row = some k → F k ∨ a.heap.size ≤ k) : Turns F a w' :=
  ⟨hg.os.trans h.os, hg.tape.trans h.tape, hg.output.trans h.output, Nat.le_trans h.size hg.size, fun k hk hF => (hg.block k (Nat.lt_of_lt_of_le hk h.size) (fun e => by rcases hr k e.symm with h1 | h1; exact hF h1; omega)).trans (h.block k hk hF)⟩

theorem Turns.weak {G : Nat → Prop} (h : Turns F a b) (hG : ∀ k, F k → G k) : Turns G a b := ⟨h.os, h.tape, h.output, h.size, fun k hk hg => h.block k hk (fun e => hg (hG k e))⟩

theorem Turns.below {B : Nat} (h : Turns F a b) (hF : ∀ k, F k → B ≤ k) (hB : B ≤ a.heap.size) : Below B a b :=
  ⟨h.os, h.tape, h.output, h.size, fun k hk => h.block k (by omega) (fun e => by have := hF k e; omega)⟩

theorem Turns.blk {g n : Nat} {t : TypeId} {v : Nat → Value} (h : Turns F a b) (k : Blk a g t n v) (hg : ¬ F g) : Blk b g t n v := k.of_heap (h.block g k.lt hg)

theorem Turns.row {x : Option Addr} {n : Nat} {f : Nat → Nat} (h : Turns F a b) (k : RowAt a x n f) (hx : ∀ ad, x = some ad → ¬ F ad.block) : RowAt b x n f := by
  rcases k with k | ⟨g, o, rfl, hg, hc⟩
  · exact .inl k
  · exact .inr ⟨g, o, rfl, Nat.lt_of_lt_of_le hg h.size, fun i hi => (World.cell?_of_block (a := ⟨g, o + i, none⟩) (h.block g hg (hx _ rfl))).trans (hc i hi)⟩

theorem ownsRow_same {w w' : World} {base : Nat} {e : TypeId} {size : Nat} {R : Value} {n : Nat} {xs : List Value} (h : w.ownsRow base e size R n xs) (hb : ∀ g, R.ownBlock = some g → w'.heap[g]? = w.heap[g]?) : w'.ownsRow base e size R n xs := by
  refine ⟨h.1, ?_⟩
  rcases h.2 with h0 | ⟨g, cap, cur, rfl, h1, h2, h3⟩
  · exact .inl h0
  · exact .inr ⟨g, cap, cur, rfl, h1, (hb g rfl).trans h2, h3⟩

theorem ownsRow_ne {w : World} {base g n' : Nat} {e t' : TypeId} {size : Nat} {R : Value} {n : Nat} {xs : List Value} {v : Nat → Value} (h : w.ownsRow base e size R n xs) (k : Blk w g t' n' v) (ht : e ≠ t') : R.ownBlock ≠ some g := fun hg => by
  rcases h.2 with ⟨rfl, _⟩ | ⟨g0, cap, cur, rfl, h1, h2, h3⟩
  · cases hg
  · simp [Value.ownBlock] at hg
    subst hg
    have := Option.some.inj (h2.symm.trans k)
    injection this with _ h4 _
    exact ht h4

theorem ownsRow_form {w : World} {base : Nat} {e : TypeId} {R : Value} {n : Nat} {xs : List Value} (h : w.ownsRow base e 1 R n xs) :
    ∃ x c, R = .slice x n c ∧ n ≤ c ∧ (x = none → n = 0 ∧ c = 0) ∧ (n = 0 ∨ ∃ g, x = some ⟨g, 0, none⟩ ∧ ∀ i u, xs[i]? = some u → w.cell? ⟨g, 0 + i, none⟩ = some u) := by
  rcases h.2 with ⟨rfl, h0⟩ | ⟨g, cap, cur, hv, h1, h2, h3, h4⟩
  · subst h0
    exact ⟨none, 0, rfl, Nat.le_refl _, fun _ => ⟨rfl, rfl⟩, .inl rfl⟩
  · subst hv
    refine ⟨_, cap, rfl, h3, (fun e => by cases e), .inr ⟨g, rfl, fun i u hi => ?_⟩⟩
    have := h.cells (g := g) rfl i u hi
    rw [add_at] at this
    exact this

/- One row of one's own, and more behind it: where it lies then. -/
theorem push_gen (w : World) (t e : TypeId) (i : TypeInfo) (z : Value) (size bytes : Nat) (ht : Tryz.prog.underlying t = some (.slice e)) (hi : Tryz.prog.info? e = some i) (hz : i.zero = some z)
    (hsize : i.size = size) (hby : i.bytes = bytes) (hzs : z.cells.size = size) (hsz : 0 < size) (R : Value) (n : Nat) (xs : List Value) (hown : w.ownsRow 0 e size R n xs)
    (ad : Addr) (m c : Nat) (news : List Value) (hl : news.length = m * size) (hnews : ∀ j u, news[j]? = some u → w.cell? (ad.add j) = some u) (h1 : ∀ u ∈ news, u.oneCell' = true)
    (hm : 0 < m) (h63 : n + m ≤ maxLen) (hbytes : (n + m) * bytes ≤ 140737488355328) :
    ∃ R' w', (Builtin.append_ #[t, t] t #[R, .slice (some ad) m c]).run Tryz.prog w = .ok R' w' ∧ w'.ownsRow 0 e size R' (n + m) (xs ++ news) ∧ w.grownBy w' R.ownBlock ∧ (∀ g, R'.ownBlock = some g → R.ownBlock = some g ∨ w.heap.size ≤ g) := by
  obtain ⟨v', w'', hr2, h2, h3, h4⟩ := run_append_own (P := Tryz.prog) w 0 t t e i z size bytes ht hi hz hsize hby hzs hsz R n xs hown ad m c news hl hnews h1 h63 hbytes (Nat.zero_le _)
  refine ⟨v', w'', hr2, h2, h3, fun g hg => ?_⟩
  subst hsize
  subst hby
  have hsmall : n + m ≤ 9223372036854775807 := by simp only [maxLen] at h63; omega
  rcases hown.2 with ⟨rfl, hn0⟩ | ⟨g0, cap, cur, rfl, hbg, hgc, hnc, hcm, hcs, htake⟩
  · right
    subst hn0
    have hr3 := run_append_nil (P := Tryz.prog) w t t e i z ht hi hz ad m c news hl hnews hm (by omega) (by have := hbytes; simp only [Nat.zero_add] at this; omega)
    rw [hr2] at hr3
    injection hr3 with e1 _
    rw [e1] at hg
    simp [Value.ownBlock] at hg
    omega
  · by_cases hroom : n + m ≤ cap
    · left
      have hfit : n * i.size + news.length ≤ cur.size := by rw [hl, hcs, ← Nat.add_mul]; exact Nat.mul_le_mul_right _ hroom
      have hr3 := run_append_room (P := Tryz.prog) w t t e i ht hi g0 n cap cur hgc ad m c news hl hnews h1 hroom hfit
      rw [hr2] at hr3
      injection hr3 with e1 _
      rw [e1] at hg
      simp [Value.ownBlock] at hg
      simp [Value.ownBlock, hg]
    · right
      have holds : ∀ j u, xs[j]? = some u → w.cell? ((⟨g0, 0, none⟩ : Addr).add j) = some u := hown.cells (g := g0) rfl
      have hr3 := run_append_grow (P := Tryz.prog) w t t e i z ht hi hz ⟨g0, 0, none⟩ n cap xs hown.1 holds ad m c news hl hnews (by omega) (by omega) (growslice_fits (by omega) hbytes)
      rw [hr2] at hr3
      injection hr3 with e1 _
      rw [e1] at hg
      simp [Value.ownBlock] at hg
      omega

end

/- The program's disk. -/
def obj3 (a b c : Value) : Nat → Value := fun i => if i = 0 then a else if i = 1 then b else c
def wrV (a : Nat) (d : Nat → Nat) : Nat → Value := fun i => if i = 0 then .int .i64 (a : Int) else .int .u8 (d (i - 1) : Int)
def nearV (q A : Nat → Nat) (m : Nat) : Nat → Value := fun k => if last A k m = 0 then .pointer none else .pointer (some ⟨q (last A k m - 1), 0, none⟩)

structure PDk (w : World) (F : Nat → Prop) (p gs gn : Nat) (R : Value) (n s m : Nat) (f A : Nat → Nat) (D : Nat → Nat → Nat) (q : Nat → Nat) : Prop where
  obj : Blk w p 73 3 (obj3 (.slice (some ⟨gs, 0, none⟩) s s) R (.slice (some ⟨gn, 0, none⟩) n n))
  safe : Blk w gs 5 s (fun i => .int .u8 (f i : Int))
  near : Blk w gn 83 n (nearV q A m)
  own : w.ownsRow 0 83 1 R m (rowOf (fun i => .pointer (some ⟨q i, 0, none⟩)) m)
  wr : ∀ i, i < m → Blk w (q i) 93 65 (wrV (A i) (D i))
  at_ : ∀ i, i < m → A i < n
  len : s = 64 * n
  rn : R.ownBlock ≠ some gn
  fp : F p
  fs : F gs
  fn : F gn
  fq : ∀ i, i < m → F (q i)
  fR : ∀ g, R.ownBlock = some g → F g
  lt : ∀ i, f i < 256
  ltD : ∀ i j, D i j < 256
  flt : ∀ k, F k → k < w.heap.size
  n1 : 1 ≤ n
  n2 : n ≤ 4096
  m2 : m ≤ 5000

section
variable {w : World} {F : Nat → Prop} {p gs gn : Nat} {R : Value} {n s m : Nat} {f A : Nat → Nat} {D : Nat → Nat → Nat} {q : Nat → Nat}

theorem PDk.c0 (h : PDk w F p gs gn R n s m f A D q) : w.cell? ⟨p, 0, none⟩ = some (.slice (some ⟨gs, 0, none⟩) s s) := h.obj.cell (k := 0) (by omega)
theorem PDk.c1 (h : PDk w F p gs gn R n s m f A D q) : w.cell? ⟨p, 1, none⟩ = some R := h.obj.cell (k := 1) (by omega)
theorem PDk.c2 (h : PDk w F p gs gn R n s m f A D q) : w.cell? ⟨p, 2, none⟩ = some (.slice (some ⟨gn, 0, none⟩) n n) := h.obj.cell (k := 2) (by omega)

theorem PDk.heap {w' : World} (h : PDk w F p gs gn R n s m f A D q) (e : ∀ k, F k → w'.heap[k]? = w.heap[k]?) (hs : w.heap.size ≤ w'.heap.size) : PDk w' F p gs gn R n s m f A D q :=
  ⟨h.obj.of_heap (e _ h.fp), h.safe.of_heap (e _ h.fs), h.near.of_heap (e _ h.fn), ownsRow_same h.own (fun g hg => e g (h.fR g hg)), fun i hi => (h.wr i hi).of_heap (e _ (h.fq i hi)), h.at_, h.len, h.rn, h.fp, h.fs, h.fn, h.fq, h.fR, h.lt, h.ltD,
    fun k hk => Nat.lt_of_lt_of_le (h.flt k hk) hs, h.n1, h.n2, h.m2⟩

theorem PDk.turns {w' : World} {G : Nat → Prop} (h : PDk w F p gs gn R n s m f A D q) (t : Turns G w w') (hd : ∀ k, F k → ¬ G k) : PDk w' F p gs gn R n s m f A D q :=
  h.heap (fun k hk => t.block k (h.flt k hk) (hd k hk)) t.size

theorem PDk.below {w' : World} (h : PDk w F p gs gn R n s m f A D q) (t : Below w.heap.size w w') : PDk w' F p gs gn R n s m f A D q :=
  h.heap (fun k hk => t.block k (h.flt k hk)) t.size

theorem PDk.drewN (h : PDk w F p gs gn R n s m f A D q) (k : Nat) : PDk (w.drewN k) F p gs gn R n s m f A D q := h.heap (fun _ _ => rfl) (Nat.le_refl _)
theorem PDk.drew (h : PDk w F p gs gn R n s m f A D q) : PDk w.drew F p gs gn R n s m f A D q := h.heap (fun _ _ => rfl) (Nat.le_refl _)

end

def Pd (w : World) (F : Nat → Prop) (p n m : Nat) (f A : Nat → Nat) (D : Nat → Nat → Nat) : Prop := ∃ gs gn R s q, PDk w F p gs gn R n s m f A D q

theorem Pd.turns {w w' : World} {F G : Nat → Prop} {p n m : Nat} {f A : Nat → Nat} {D : Nat → Nat → Nat} (h : Pd w F p n m f A D) (t : Turns G w w') (hd : ∀ k, F k → ¬ G k) : Pd w' F p n m f A D := by
  obtain ⟨gs, gn, R, s, q, h⟩ := h
  exact ⟨gs, gn, R, s, q, h.turns t hd⟩

theorem Pd.below {w w' : World} {F : Nat → Prop} {p n m : Nat} {f A : Nat → Nat} {D : Nat → Nat → Nat} (h : Pd w F p n m f A D) (t : Below w.heap.size w w') : Pd w' F p n m f A D := by
  obtain ⟨gs, gn, R, s, q, h⟩ := h
  exact ⟨gs, gn, R, s, q, h.below t⟩

theorem Pd.drewN {w : World} {F : Nat → Prop} {p n m : Nat} {f A : Nat → Nat} {D : Nat → Nat → Nat} (h : Pd w F p n m f A D) (k : Nat) : Pd (w.drewN k) F p n m f A D := by
  obtain ⟨gs, gn, R, s, q, h⟩ := h
  exact ⟨gs, gn, R, s, q, h.drewN k⟩

end Go.Proofs.YtbbjklenpgkooaaGreat

/-
  What Size, Pending, Read and Dump of a disk do, and the inner has and sector: contracts over plain numbers ('DkPlain').
  Conditions: the disk is one that New gave ('PDk'), or one of whose Size is known.
-/
namespace Go.Proofs.YtbbjklenpgkooaaGreat
open Go.RowKit By Dk
set_option linter.unusedVariables false
set_option linter.unusedSimpArgs false
set_option maxRecDepth 100000

theorem info_ptr : (Tryz.prog.info? 83).map (fun i => (i.zero, i.size, i.bytes)) = some (some (.pointer none), 1, 8) := by kernel_rfl

theorem made_row (z : Value) (n : Nat) : madeCells #[z] n = (rowOf (fun _ => z) n).toArray := by
  apply Array.ext'
  rw [toList_madeCells_one]
  apply List.ext_getElem?
  intro i
  by_cases hi : i < n
  · rw [rowOf_get _ _ _ hi]; simp [hi]
  · rw [List.getElem?_eq_none (by simp; omega), List.getElem?_eq_none (by rw [rowOf_len]; omega)]

theorem make_blk (w : World) (m : Nat) (hm : m ≤ 281474976710656) : ∃ w1 : World,
    (Instr.makeSlice 22 (.int .i64 (m : Int)) (.int .i64 (m : Int))).run Tryz.prog w = .ok (.slice (some ⟨w.heap.size, 0, none⟩) m m) w1 ∧
    Blk w1 w.heap.size 5 m (fun _ => .int .u8 0) ∧ Below w.heap.size w w1 ∧ w1.heap.size = w.heap.size + 1 := by
  have h := run_make_row' (P := Tryz.prog) 22 5 (.int .u8 0) 1 Tryz.underlying22 info_byte rfl .i64 .i64 m (by omega) (by omega) w
  exact ⟨_, h, Blk.new _ _ _ _ _ (made_row _ _), (Below.refl _ _).alloc (Nat.le_refl _) _, by simp⟩

theorem make_ptrs (w : World) (m : Nat) (hm : m ≤ 4096) : ∃ w1 : World,
    (Instr.makeSlice 71 (.int .i64 (m : Int)) (.int .i64 (m : Int))).run Tryz.prog w = .ok (.slice (some ⟨w.heap.size, 0, none⟩) m m) w1 ∧
    Blk w1 w.heap.size 83 m (fun _ => .pointer none) ∧ Below w.heap.size w w1 ∧ w1.heap.size = w.heap.size + 1 := by
  have h := run_make_row' (P := Tryz.prog) 71 83 (.pointer none) 8 Tryz.underlying71 info_ptr rfl .i64 .i64 m (by omega) (by omega) w
  exact ⟨_, h, Blk.new _ _ _ _ _ (made_row _ _), (Below.refl _ _).alloc (Nat.le_refl _) _, by simp⟩

def over (v : Nat → Value) (off m : Nat) (u : Nat → Value) : Nat → Value := fun i => if off ≤ i ∧ i < off + m then u (i - off) else v i

theorem splice_over (v u : Nat → Value) (N off m : Nat) (h : off + m ≤ N) : (rowOf v N).take off ++ rowOf u m ++ (rowOf v N).drop (off + m) = rowOf (over v off m u) N := by
  apply List.ext_getElem?
  intro i
  by_cases hi : i < N
  · rw [rowOf_get _ _ _ hi]
    have hl : ((rowOf v N).take off).length = off := by rw [List.length_take, rowOf_len]; omega
    unfold over
    rw [List.append_assoc]
    by_cases h1 : i < off
    · rw [List.getElem?_append_left (by omega), List.getElem?_take, if_pos h1, rowOf_get _ _ _ hi, if_neg (by omega)]
    · rw [List.getElem?_append_right (by omega), hl]
      by_cases h2 : i < off + m
      · rw [List.getElem?_append_left (by rw [rowOf_len]; omega), rowOf_get _ _ _ (by omega), if_pos ⟨by omega, h2⟩]
      · rw [List.getElem?_append_right (by rw [rowOf_len]; omega), rowOf_len, List.getElem?_drop, show off + m + (i - off - m) = i by omega, rowOf_get _ _ _ hi, if_neg (by omega)]
  · rw [List.getElem?_eq_none (by simp [rowOf_len]; omega), List.getElem?_eq_none (by rw [rowOf_len]; omega)]

theorem copy_blk (w : World) (g off dCap N m c b o : Nat) (t : TypeId) (v u : Nat → Value) (h : Blk w g t N v) (hfit : off + m ≤ N) (hsrc : ∀ j, j < m → w.cell? ⟨b, o + j, none⟩ = some (u j)) (hone : ∀ j, (u j).oneCell' = true) :
    ∃ w', (Builtin.copy_ #[22, 22] 3 #[.slice (some ⟨g, off, none⟩) m dCap, .slice (some ⟨b, o, none⟩) m c]).run Tryz.prog w = .ok (.int .i64 (m : Int)) w' ∧ Blk w' g t N (over v off m u) ∧ Turns (fun k => k = g) w w' ∧ w'.heap.size = w.heap.size := by
  have hsz : (Tryz.prog.info? 5).map (·.size) = some 1 := by kernel_rfl
  have hrun := run_copy_row (P := Tryz.prog) w 22 22 3 5 g off m dCap ⟨b, o, none⟩ m c (rowOf v N).toArray t (rowOf u m) Tryz.underlying22 hsz h (by rw [rowOf_len]; exact (Nat.min_self m).symm) (fun j z hj => by
    have hjm : j < m := by have := (List.getElem?_eq_some_iff.1 hj).1; rwa [rowOf_len] at this
    rw [rowOf_get _ _ _ hjm] at hj
    rw [add_at, hsrc j hjm, ← hj]) (by rw [rowOf_len]; simpa [rowOf_len] using hfit) (rowOf_one _ _ hone)
  rw [rowOf_len] at hrun
  refine ⟨_, hrun, ?_, ⟨rfl, rfl, rfl, by simp [World.setRow], fun k hk hg => setRow_other w g k _ hg⟩, by simp [World.setRow]⟩
  unfold Blk
  rw [setRow_heap w g _ _ t _ h]
  rw [splice_over v u N off m hfit]


theorem cut_lh (g o m c l h : Nat) (w : World) (h1 : l ≤ h) (h2 : h ≤ c) (h3 : l < c) :
    (Instr.slice 22 (.slice (some ⟨g, o, none⟩) m c) (some (.int .i64 (l : Int))) (some (.int .i64 (h : Int))) none).run Tryz.prog w = .ok (.slice (some ⟨g, o + l, none⟩) (h - l) (c - l)) w := by
  rw [run_slice_lh w 22 _ _ _ elem_row .i64 .i64 (l : Int) (h : Int) (by omega) (by omega) (by omega), elem_is, size_byte]
  simp only [Result.andThen, sliced, Int.toNat_natCast, Nat.mul_one, Option.map]
  rw [if_neg (by omega), add_at]

theorem cut_arr (b : Nat) (w : World) : (Instr.sliceAt 91 (.pointer (some ⟨b, 1, none⟩)) none none none).run Tryz.prog w = .ok (.slice (some ⟨b, 1, none⟩) 64 64) w := by kernel_rfl

/- Size, Pending. -/
theorem size_any (p n c : Nat) (x : Option Addr) (w : World) (h : w.cell? ⟨p, 2, none⟩ = some (.slice x n c)) :
    Calls Tryz.prog 58 #[.pointer (some ⟨p, 0, none⟩)] w fun e w' => e = .returned (.int .i64 (n : Int)) ∧ w' = w := by
  go_enter Tryz.func58, Tryz.ntmps58
  go_wp2_with fail
  go_ret
  exact ⟨rfl, rfl⟩

theorem size_nil (w : World) : Calls Tryz.prog 58 #[.pointer none] w fun e w' => e = .returned (.int .i64 ((0 : Nat) : Int)) ∧ w' = w := by
  go_enter Tryz.func58, Tryz.ntmps58
  go_wp2_with fail
  go_ret
  exact ⟨rfl, rfl⟩

theorem pending_any (p n c : Nat) (x : Option Addr) (w : World) (h : w.cell? ⟨p, 1, none⟩ = some (.slice x n c)) :
    Calls Tryz.prog 19 #[.pointer (some ⟨p, 0, none⟩)] w fun e w' => e = .returned (.int .i64 (n : Int)) ∧ w' = w := by
  go_enter Tryz.func19, Tryz.ntmps19
  go_wp2_with fail
  go_ret
  exact ⟨rfl, rfl⟩

theorem pending_nil (w : World) : Calls Tryz.prog 19 #[.pointer none] w fun e w' => e = .returned (.int .i64 ((0 : Nat) : Int)) ∧ w' = w := by
  go_enter Tryz.func19, Tryz.ntmps19
  go_wp2_with fail
  go_ret
  exact ⟨rfl, rfl⟩

/- Is there such a sector? -/
theorem has_any (v : Value) (n : Nat) (z : Int) (t : Bool) (w : World) (hS : Calls Tryz.prog 58 #[v] w fun e w' => e = .returned (.int .i64 (n : Int)) ∧ w' = w) (hy : 0 ≤ z → z < n → t = true) (hn : ¬ (0 ≤ z ∧ z < n) → t = false) :
    Calls Tryz.prog 46 #[v, .int .i64 z] w fun e w' => e = .returned (.bool t) ∧ w' = w := by
  by_cases h0 : 0 ≤ z
  · have ht : decide (z < (n : Int)) = t := by
      by_cases h : z < (n : Int)
      · rw [hy h0 h]; simpa using h
      · rw [hn (fun e => h e.2)]; simpa using h
    clear hy hn
    go_enter Tryz.func46, Tryz.ntmps46
    go_wp2_with ((go_at_call 58; refine hS.mono ?_; rintro e w' ⟨rfl, hw⟩; subst w'))
    go_ret
    exact ⟨rfl, rfl⟩
  · have ht := hn (fun e => h0 e.1)
    subst ht
    have h0' : z < 0 := by omega
    clear hy hn hS
    go_enter Tryz.func46, Tryz.ntmps46
    go_wp2_with fail
    go_ret
    exact ⟨rfl, rfl⟩

theorem sector_any (p gs s n a : Nat) (z : Int) (hz : z = (a : Int)) (w : World) (h : w.cell? ⟨p, 0, none⟩ = some (.slice (some ⟨gs, 0, none⟩) s s)) (hs : s = 64 * n) (ha : a < n) (hn : n ≤ 4096) :
    Calls Tryz.prog 65 #[.pointer (some ⟨p, 0, none⟩), .int .i64 z] w fun e w' => e = .returned (.slice (some ⟨gs, 64 * a, none⟩) 64 (s - 64 * a)) ∧ w' = w := by
  obtain ⟨l, hl⟩ : ∃ l : Nat, l = 64 * a := ⟨_, rfl⟩
  obtain ⟨h2, hh⟩ : ∃ l : Nat, l = 64 * a + 64 := ⟨_, rfl⟩
  have e1 : z * 64 = (l : Int) := by omega
  have e2 : (z + 1) * 64 = (h2 : Int) := by omega
  have hcut := cut_lh gs 0 s s l h2 w (by omega) (by omega) (by omega)
  rw [Nat.zero_add, show h2 - l = 64 by omega] at hcut
  rw [← hl]
  have b1 : 0 ≤ z ∧ z ≤ 4096 := by omega
  obtain ⟨b1, b2⟩ := b1
  have b3 : l ≤ 262144 := by omega
  have b4 : h2 ≤ 262144 := by omega
  clear hl hh hz ha hs
  go_enter Tryz.func65, Tryz.ntmps65
  go_wp2_with fail
  go_ret
  exact ⟨rfl, rfl⟩

end Go.Proofs.YtbbjklenpgkooaaGreat

/-
  What Read and Dump of a disk tell: contracts over plain numbers ('DkPlain').
  Conditions: the disk is one that New gave ('PDk'), or one of which has is known.
-/
namespace Go.Proofs.YtbbjklenpgkooaaGreat
open Go.RowKit By Dk
set_option linter.unusedVariables false
set_option linter.unusedSimpArgs false
set_option maxRecDepth 100000

theorem read_no (v : Value) (z : Int) (w : World) (hH : Calls Tryz.prog 46 #[v, .int .i64 z] w fun e w' => e = .returned (.bool false) ∧ w' = w) :
    Calls Tryz.prog 79 #[v, .int .i64 z] w fun e w' => e = .returned (.tuple #[.slice none 0 0, .int .i64 1]) ∧ w' = w := by
  go_enter Tryz.func79, Tryz.ntmps79
  go_wp2_with ((go_at_call 46; refine hH.mono ?_; rintro e w' ⟨rfl, hw⟩; subst w'))
  go_ret2
  exact ⟨rfl, rfl⟩

theorem over_all {v u : Nat → Value} {m i : Nat} (h : i < m) : over v 0 m u i = u i := by simp [over, h]

set_option maxHeartbeats 1000000 in
theorem read_yes (p n m a : Nat) (F : Nat → Prop) (f A : Nat → Nat) (D : Nat → Nat → Nat) (z : Int) (hz : z = (a : Int)) (w : World) (h : Pd w F p n m f A D) (ha : a < n) :
    Calls Tryz.prog 79 #[.pointer (some ⟨p, 0, none⟩), .int .i64 z] w fun e w' => e = .returned (.tuple #[.slice (some ⟨w.heap.size, 0, none⟩) 64 64, .int .i64 0]) ∧ Below w.heap.size w w' ∧ Blk w' w.heap.size 5 64 (fun i => .int .u8 (now f A D a m i : Int)) := by
  obtain ⟨gs, gn, R, s, q, h⟩ := h
  obtain ⟨w1, hmk, hB1, hb1, hs1⟩ := make_blk w 64 (by omega)
  have hmk : (Instr.makeSlice 22 (.int .i64 64) (.int .i64 64)).run Tryz.prog w = .ok (.slice (some ⟨w.heap.size, 0, none⟩) 64 64) w1 := hmk
  have hn2 := h.n2
  have h1 := h.below hb1
  have hH : Calls Tryz.prog 46 #[.pointer (some ⟨p, 0, none⟩), .int .i64 z] w fun e w' => e = .returned (.bool true) ∧ w' = w := has_any _ n z true w (size_any p n n _ w h.c2) (fun _ _ => rfl) (fun e => absurd ⟨by omega, by omega⟩ e)
  have c2 := h1.c2
  have hnear := h1.near.cell ha
  have z0 : 0 ≤ z := by omega
  have z1 : z < (n : Int) := by omega
  have hzt : z.toNat = a := by omega
  have hgo : ∀ (b o c : Nat) (u : Nat → Value), (∀ j, j < 64 → w1.cell? ⟨b, o + j, none⟩ = some (u j)) → (∀ j, (u j).oneCell' = true) → (∀ j, j < 64 → u j = .int .u8 (now f A D a m j : Int)) → ∃ w2, (Builtin.copy_ #[22, 22] 3 #[.slice (some ⟨w.heap.size, 0, none⟩) 64 64, .slice (some ⟨b, o, none⟩) 64 c]).run Tryz.prog w1 = .ok (.int .i64 ((64 : Nat) : Int)) w2 ∧ Hid (Below w.heap.size w w2 ∧ Blk w2 w.heap.size 5 64 (fun i => .int .u8 (now f A D a m i : Int))) := fun b o c u k1 k2 k3 => by
    obtain ⟨w2, r1, r2, r3, r4⟩ := copy_blk w1 w.heap.size 0 64 64 64 c b o 5 _ u hB1 (by omega) k1 k2
    refine ⟨w2, r1, hb1.trans (r3.below (fun k hk => by omega) (by omega)), r2.congr fun k hk => ?_⟩
    rw [over_all hk, k3 k hk]
  by_cases h0 : last A a m = 0
  · have hne : nearV q A m a = .pointer none := by simp [nearV, h0]
    rw [hne] at hnear
    have hsec : Calls Tryz.prog 65 #[.pointer (some ⟨p, 0, none⟩), .int .i64 z] w1 fun e w' => e = .returned (.slice (some ⟨gs, 64 * a, none⟩) 64 (s - 64 * a)) ∧ w' = w1 := sector_any p gs s n a z hz w1 h1.c0 h.len ha h.n2
    obtain ⟨w2, hcp, H2⟩ := hgo gs (64 * a) (s - 64 * a) (fun j => .int .u8 (f (64 * a + j) : Int)) (fun j hj => h1.safe.cell (k := 64 * a + j) (by have := h.len; omega)) (fun _ => rfl) (fun j hj => by simp [now, h0, sec])
    generalize 64 * a = o at *
    generalize s - o = c at *
    clear h h1 hgo hB1 hb1 h0 hne hz hs1
    go_enter Tryz.func79, Tryz.ntmps79
    go_wp2_with (first
      | (go_at_call 46; refine hH.mono ?_; rintro e w' ⟨rfl, hw⟩; subst w'; clear hH)
      | (go_at_call 65; refine hsec.mono ?_; rintro e w' ⟨rfl, hw⟩; subst w'; clear hsec))
    go_ret2
    exact ⟨rfl, H2.out⟩
  · have hne : nearV q A m a = .pointer (some ⟨q (last A a m - 1), 0, none⟩) := by simp [nearV, h0]
    rw [hne] at hnear
    have hle := last_le A a m
    have hq := h1.wr (last A a m - 1) (by omega)
    obtain ⟨w2, hcp, H2⟩ := hgo (q (last A a m - 1)) 1 64 (fun j => .int .u8 (D (last A a m - 1) j : Int)) (fun j hj => by
      have := hq.cell (k := 1 + j) (by omega)
      rw [this]
      simp [wrV, Nat.add_comm]) (fun _ => rfl) (fun j hj => by simp [now, h0])
    generalize q (last A a m - 1) = b at *
    have hca := fun v => cut_arr b v
    clear h h1 hgo hB1 hb1 h0 hne hz hs1 hq hle
    go_enter Tryz.func79, Tryz.ntmps79
    go_wp2_with (first
      | (go_at_call 46; refine hH.mono ?_; rintro e w' ⟨rfl, hw⟩; subst w'; clear hH))
    go_ret2
    exact ⟨rfl, H2.out⟩

end Go.Proofs.YtbbjklenpgkooaaGreat

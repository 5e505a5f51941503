/-
  What Strip of package sum, the document's Append and the statements' own test do: contracts over plain numbers ('SuPlain').
  Conditions: bytes that are looked at lie in memory.
-/
import Derived.Test.YthfpljfndnjcnaaSuMem
import Derived.Lib.SlBytesConst
namespace Go.Proofs.Ythfpljfndnjcnaa
open Go.RowKit Su By
set_option linter.unusedVariables false

/- The document's Append. -/
set_option maxHeartbeats 400000 in
set_option maxRecDepth 100000 in
theorem rappend_any (n c : Nat) (x : Option Addr) (f : Nat → Nat) (w : World) (hf : ∀ i, f i < 256) (hn : n ≤ 140737488351232) (hx : RowAt w x n f) (hnil : x = none → n = 0 ∧ c = 0) :
    Calls Try.prog 39 #[.slice x n c] w fun e w' => ∃ g cy, e = .returned (.slice (some ⟨g, 0, none⟩) (n + 4) cy) ∧ Below w.heap.size w w' ∧ RowAt w' (some ⟨g, 0, none⟩) (n + 4) (fun i => if i < n then f i else lo (sumOf f n) (i - n)) := by
  have hof := rof_any n c x f w hf (by omega) hx
  have hs := sumOf_lt f n hf
  generalize sumOf f n = s at hof hs
  obtain ⟨g1, c1, w1, hr1, hb1, ho1, hg1, hl1, hc1, hw1⟩ := bytes_copy w x n c f hx hnil (by omega)
  have hlo : (w1.alloc (.cells #[.int .u8 ((s : Int) % 256), .int .u8 ((s : Int) / 256 % 256), .int .u8 ((s : Int) / 65536 % 256), .int .u8 ((s : Int) / 16777216)] 5)) = w1.alloc (.cells (bytesOf (lo s) 4).toArray 5) := by
    rw [← lo0, ← lo1, ← lo2, ← lo3 s hs]
    exact rfl
  have h2 := ho1.alloc (.cells (bytesOf (lo s) 4).toArray 5)
  have hb2 : Below w.heap.size w (w1.alloc (.cells (bytesOf (lo s) 4).toArray 5)) := hb1.alloc hb1.size _
  have hrow : RowAt (w1.alloc (.cells (bytesOf (lo s) 4).toArray 5)) (some ⟨w1.heap.size, 0, none⟩) 4 (lo s) := by
    refine .inr ⟨w1.heap.size, 0, rfl, by simp, fun i hi => ?_⟩
    rw [Nat.zero_add, cell_of_heap (heap_alloc_new _ _), bytesOf_get _ _ _ hi]
  obtain ⟨R, w2, hr2, ho2, hb3, hnn⟩ := push_row _ w w.heap.size _ n f h2 (by have := hb2.size; exact this) hb2 (some ⟨w1.heap.size, 0, none⟩) 4 4 (lo s) (fun h => by cases h) hrow (by omega)
  obtain ⟨g2, c2, hR, _, _, _, _, hrow2⟩ := own_rowAt ho2 (fun h => by have := hnn h; simp at this)
  subst hR
  rw [← hlo] at hr2
  have HB : Hid (Below w.heap.size w w2 ∧ RowAt w2 (some ⟨g2, 0, none⟩) (n + 4) (fun i => if i < n then f i else lo s (i - n))) := ⟨hb3, hrow2⟩
  obtain ⟨m, hm⟩ : ∃ m, m = n + 4 := ⟨_, rfl⟩
  have Hm : Hid (m = n + 4) := hm
  rw [← hm] at hr2 HB
  rw [← hm]
  clear hlo h2 hb2 hrow ho2 hb3 hnn hrow2 hm hb1 ho1 hg1 hl1 hc1 hw1 hx hf hnil
  go_enter Try.func39, Try.ntmps39
  go_wp2_with (first
    | (go_at_call 47; refine hof.mono ?_; rintro e w' ⟨rfl, rfl⟩; clear hof)
    | (at_builtin; refine wpList_append_run rfl _ _ 31 rfl _ _ rfl rfl hr1 ?_; clear hr1)
    | (at_builtin; refine wpList_append_run rfl _ _ 31 rfl _ _ rfl rfl hr2 ?_; clear hr2))
  go_ret
  exact ⟨g2, c2, rfl, HB.out.1, HB.out.2⟩

/- Strip(b). -/
def Ends (f : Nat → Nat) (m : Nat) : Prop := ∀ i, i < 4 → f (m + i) = lo (sumOf f m) i

theorem strip_short (n c : Nat) (x : Option Addr) (w : World) (hn : n < 4) :
    Calls Try.prog 49 #[.slice x n c] w fun e w' => e = .returned (.tuple #[.slice none 0 0, .bool false]) ∧ w' = w := by
  go_enter Try.func49, Try.ntmps49
  go_wp2_with fail
  go_ret2
  exact ⟨rfl, rfl⟩

/- The world, but for draws, is the same: so are the lists. -/
theorem row_heap {w v : World} {x : Option Addr} {n : Nat} {f : Nat → Nat} (h : RowAt w x n f) (e : v.heap = w.heap) : RowAt v x n f := by
  rcases h with h | ⟨b, o, h1, h2, h3⟩
  · exact .inl h
  · refine .inr ⟨b, o, h1, by rw [e]; exact h2, fun i hi => ?_⟩
    have := h3 i hi
    unfold World.cell? at this ⊢
    rw [e]
    exact this

theorem row_drop {w : World} {b o n m : Nat} {f : Nat → Nat} (h : RowAt w (some ⟨b, o, none⟩) (m + n) f) : RowAt w (some ⟨b, o + m, none⟩) n (fun i => f (m + i)) := by
  rcases h with h | ⟨b', o', h1, h2, h3⟩
  · exact .inl (by omega)
  · injection h1 with h1
    injection h1 with h1 h4 _
    subst h1 h4
    exact .inr ⟨_, _, rfl, h2, fun i hi => by rw [Nat.add_assoc]; exact h3 (m + i) (by omega)⟩

set_option maxHeartbeats 400000 in
set_option maxRecDepth 100000 in
theorem strip_no (n c b o m : Nat) (f : Nat → Nat) (w : World) (hf : ∀ i, f i < 256) (hn : n ≤ 140737488355328) (hc : n ≤ c) (hm : n = m + 4) (hx : RowAt w (some ⟨b, o, none⟩) n f) (he : ¬ Ends f m) :
    Calls Try.prog 49 #[.slice (some ⟨b, o, none⟩) n c] w fun e w' => e = .returned (.tuple #[.slice none 0 0, .bool false]) ∧ Below w.heap.size w w' := by
  have hof := of_any m c (some ⟨b, o, none⟩) f w hf (by omega) (hx.take (by omega))
  have hs := sumOf_lt f m hf
  have hbs : ∀ v, Calls Try.prog 52 #[.int .u32 (sumOf f m : Int)] v fun e w' => e = .returned (.agg #[.int .u8 (lo (sumOf f m) 0 : Int), .int .u8 (lo (sumOf f m) 1 : Int), .int .u8 (lo (sumOf f m) 2 : Int), .int .u8 (lo (sumOf f m) 3 : Int)]) ∧ Below v.heap.size v w' := fun v => bytesof_any _ v hs
  have hcut : ∀ v : World, (Instr.slice 31 (.slice (some ⟨b, o, none⟩) n c) (some (.int .i64 (m : Int))) none none).run Try.prog v = .ok (.slice (some ⟨b, o + m, none⟩) 4 (c - m)) v := fun v => by
    have := cut_row b o n c m v (by omega) (by omega)
    rw [show n - m = 4 by omega] at this
    exact this
  have hsub : (n : Int) - 4 = (m : Int) := by omega
  have hnm : m ≤ n := by omega
  unfold Ends at he
  have Hx : Hid (RowAt w (some ⟨b, o, none⟩) (m + 4) f) := by rw [← hm]; exact hx
  have Hf : Hid (∀ i, f i < 256) := hf
  have He : Hid (¬ ∀ i, i < 4 → f (m + i) = lo (sumOf f m) i) := he
  generalize sumOf f m = s at *
  obtain ⟨Y, hY⟩ : ∃ Y, Y = bytesOf (lo s) 4 := ⟨_, rfl⟩
  have HY : Hid (Y = bytesOf (lo s) 4) := hY
  have hY2 : Y = [Value.int .u8 (lo s 0 : Int), .int .u8 (lo s 1 : Int), .int .u8 (lo s 2 : Int), .int .u8 (lo s 3 : Int)] := hY
  have Hm : Hid (n = m + 4) := hm
  clear hx hf hm he hY
  generalize lo s 0 = d0 at hbs hY2
  generalize lo s 1 = d1 at hbs hY2
  generalize lo s 2 = d2 at hbs hY2
  generalize lo s 3 = d3 at hbs hY2
  go_enter Try.func49, Try.ntmps49
  go_wp2_with (first
    | (go_at_call 53; refine hof.mono ?_; rintro e w' ⟨rfl, rfl⟩; clear hof)
    | (go_at_call 52; refine (hbs _).mono ?_; rintro e w3 ⟨rfl, hb3⟩; clear hbs))
  have hb4 : Below w'.heap.size w' (w3.alloc (.cells #[.int .u8 (d0 : Int), .int .u8 (d1 : Int), .int .u8 (d2 : Int), .int .u8 (d3 : Int)] 96)) := hb3.alloc hb3.size _
  have hrow : RowAt (w3.alloc (.cells #[.int .u8 (d0 : Int), .int .u8 (d1 : Int), .int .u8 (d2 : Int), .int .u8 (d3 : Int)] 96)) (some ⟨w3.heap.size, 0, none⟩) 4 (lo s) := by
    refine .inr ⟨w3.heap.size, 0, rfl, by simp, fun i hi => ?_⟩
    rw [show (#[.int .u8 (d0 : Int), .int .u8 (d1 : Int), .int .u8 (d2 : Int), .int .u8 (d3 : Int)] : Array Value) = (bytesOf (lo s) 4).toArray by rw [← HY.out, hY2]]
    rw [Nat.zero_add, cell_of_heap (heap_alloc_new _ _), bytesOf_get _ _ _ hi]
  clear hY2
  generalize w3.alloc (.cells #[.int .u8 (d0 : Int), .int .u8 (d1 : Int), .int .u8 (d2 : Int), .int .u8 (d3 : Int)] 96) = w4 at *
  generalize w3.heap.size = q at *
  have heq : ∀ v : World, v.heap = w4.heap → Calls Try.prog 54 #[.slice (some ⟨b, o + m, none⟩) 4 (c - m), .slice (some ⟨q, 0, none⟩) 4 4] v fun e w' => e = .returned (.bool false) ∧ w' = v := fun v hv =>
    bequal_any _ _ 4 4 _ _ false (fun i => f (m + i)) (lo s) v (fun i => Hf.out _) (fun i => lo_lt s i) (row_heap (row_drop (Hx.out.below hb4)) hv) (row_heap hrow hv) (fun _ h => absurd h He.out) (fun _ => rfl)
  clear hrow
  go_wp2_with fail
  go_quiet ((go_at_call 54; exact Calls.quiet_of_same (heq _ rfl)))
  have HB4 : Hid (Below w'.heap.size w' w4) := hb4
  clear heq hb4
  go_wp2_with fail
  go_ret2
  exact ⟨rfl, below_drewN' HB4.out _⟩

set_option maxHeartbeats 400000 in
set_option maxRecDepth 100000 in
theorem strip_full (n c b o m : Nat) (f : Nat → Nat) (w : World) (hf : ∀ i, f i < 256) (hn : n ≤ 140737488355328) (hc : n ≤ c) (hm : n = m + 4) (hx : RowAt w (some ⟨b, o, none⟩) n f) (he : Ends f m) :
    Calls Try.prog 49 #[.slice (some ⟨b, o, none⟩) n c] w fun e w' => ∃ y cy, e = .returned (.tuple #[.slice (some ⟨y, 0, none⟩) m cy, .bool true]) ∧ Below w.heap.size w w' ∧ RowAt w' (some ⟨y, 0, none⟩) m f ∧ m ≤ cy ∧ y < w'.heap.size := by
  have hof := of_any m c (some ⟨b, o, none⟩) f w hf (by omega) (hx.take (by omega))
  have hs := sumOf_lt f m hf
  have hbs : ∀ v, Calls Try.prog 52 #[.int .u32 (sumOf f m : Int)] v fun e w' => e = .returned (.agg #[.int .u8 (lo (sumOf f m) 0 : Int), .int .u8 (lo (sumOf f m) 1 : Int), .int .u8 (lo (sumOf f m) 2 : Int), .int .u8 (lo (sumOf f m) 3 : Int)]) ∧ Below v.heap.size v w' := fun v => bytesof_any _ v hs
  have hcut : ∀ v : World, (Instr.slice 31 (.slice (some ⟨b, o, none⟩) n c) (some (.int .i64 (m : Int))) none none).run Try.prog v = .ok (.slice (some ⟨b, o + m, none⟩) 4 (c - m)) v := fun v => by
    have := cut_row b o n c m v (by omega) (by omega)
    rw [show n - m = 4 by omega] at this
    exact this
  have hsub : (n : Int) - 4 = (m : Int) := by omega
  have hnm : m ≤ n := by omega
  unfold Ends at he
  have Hx : Hid (RowAt w (some ⟨b, o, none⟩) (m + 4) f) := by rw [← hm]; exact hx
  have Hf : Hid (∀ i, f i < 256) := hf
  have He : Hid (∀ i, i < 4 → f (m + i) = lo (sumOf f m) i) := he
  generalize sumOf f m = s at *
  obtain ⟨Y, hY⟩ : ∃ Y, Y = bytesOf (lo s) 4 := ⟨_, rfl⟩
  have HY : Hid (Y = bytesOf (lo s) 4) := hY
  have hY2 : Y = [Value.int .u8 (lo s 0 : Int), .int .u8 (lo s 1 : Int), .int .u8 (lo s 2 : Int), .int .u8 (lo s 3 : Int)] := hY
  have Hm : Hid (n = m + 4) := hm
  clear hx hf hm he hY
  generalize lo s 0 = d0 at hbs hY2
  generalize lo s 1 = d1 at hbs hY2
  generalize lo s 2 = d2 at hbs hY2
  generalize lo s 3 = d3 at hbs hY2
  go_enter Try.func49, Try.ntmps49
  go_wp2_with (first
    | (go_at_call 53; refine hof.mono ?_; rintro e w' ⟨rfl, rfl⟩; clear hof)
    | (go_at_call 52; refine (hbs _).mono ?_; rintro e w3 ⟨rfl, hb3⟩; clear hbs))
  have hb4 : Below w'.heap.size w' (w3.alloc (.cells #[.int .u8 (d0 : Int), .int .u8 (d1 : Int), .int .u8 (d2 : Int), .int .u8 (d3 : Int)] 96)) := hb3.alloc hb3.size _
  have hrow : RowAt (w3.alloc (.cells #[.int .u8 (d0 : Int), .int .u8 (d1 : Int), .int .u8 (d2 : Int), .int .u8 (d3 : Int)] 96)) (some ⟨w3.heap.size, 0, none⟩) 4 (lo s) := by
    refine .inr ⟨w3.heap.size, 0, rfl, by simp, fun i hi => ?_⟩
    rw [show (#[.int .u8 (d0 : Int), .int .u8 (d1 : Int), .int .u8 (d2 : Int), .int .u8 (d3 : Int)] : Array Value) = (bytesOf (lo s) 4).toArray by rw [← HY.out, hY2]]
    rw [Nat.zero_add, cell_of_heap (heap_alloc_new _ _), bytesOf_get _ _ _ hi]
  clear hY2
  generalize w3.alloc (.cells #[.int .u8 (d0 : Int), .int .u8 (d1 : Int), .int .u8 (d2 : Int), .int .u8 (d3 : Int)] 96) = w4 at *
  generalize w3.heap.size = q at *
  have heq : ∀ v : World, v.heap = w4.heap → Calls Try.prog 54 #[.slice (some ⟨b, o + m, none⟩) 4 (c - m), .slice (some ⟨q, 0, none⟩) 4 4] v fun e w' => e = .returned (.bool true) ∧ w' = v := fun v hv =>
    bequal_any _ _ 4 4 _ _ true (fun i => f (m + i)) (lo s) v (fun i => Hf.out _) (fun i => lo_lt s i) (row_heap (row_drop (Hx.out.below hb4)) hv) (row_heap hrow hv) (fun _ _ => rfl) (fun h => absurd ⟨rfl, He.out⟩ h)
  clear hrow
  go_wp2_with fail
  go_quiet ((go_at_call 54; exact Calls.quiet_of_same (heq _ rfl)))
  have HB4 : Hid (Below w'.heap.size w' w4) := hb4
  have hcl : ∀ k, Calls Try.prog 42 #[.slice (some ⟨b, o, none⟩) m c] (w4.drewN k) fun e w' => ∃ g cy, e = .returned (.slice (some ⟨g, 0, none⟩) m cy) ∧ Below w4.heap.size (w4.drewN k) w' ∧ Hid (RowAt w' (some ⟨g, 0, none⟩) m f ∧ m ≤ cy ∧ g < w'.heap.size) := fun k =>
    (clone_strong ⟨b, o, none⟩ m c f (w4.drewN k) (row_heap ((Hx.out.below hb4).take (by omega)) rfl) (by omega)).mono fun e w' ⟨g, cy, h1, h2, h3, h4, _, h5⟩ => ⟨g, cy, h1, h2, h3, h4, h5⟩
  clear heq hb4
  go_wp2_with (go_at_call 42; refine (hcl _).mono ?_; rintro e w5 ⟨g5, c5, rfl, hb5, hr5⟩; clear hcl)
  go_ret2
  exact ⟨_, c5, rfl, HB4.out.trans (below_of_drewN (hb5.mono HB4.out.size)), hr5.out⟩

theorem strip_yes (n c b o m : Nat) (f : Nat → Nat) (w : World) (hf : ∀ i, f i < 256) (hn : n ≤ 140737488355328) (hc : n ≤ c) (hm : n = m + 4) (hx : RowAt w (some ⟨b, o, none⟩) n f) (he : Ends f m) :
    Calls Try.prog 49 #[.slice (some ⟨b, o, none⟩) n c] w fun e w' => ∃ y cy, e = .returned (.tuple #[.slice (some ⟨y, 0, none⟩) m cy, .bool true]) ∧ Below w.heap.size w w' ∧ RowAt w' (some ⟨y, 0, none⟩) m f :=
  (strip_full n c b o m f w hf hn hc hm hx he).mono fun e w' ⟨y, cy, h1, h2, h3, _⟩ => ⟨y, cy, h1, h2, h3⟩

/- The statements' own test that the well known sum is known. -/
def known (i : Nat) : Nat := 49 + i
def nine (i : Nat) : Nat := known (i % 9)

theorem known_sum : sumOf nine 9 = 3808858755 := by decide +kernel

end Go.Proofs.Ythfpljfndnjcnaa

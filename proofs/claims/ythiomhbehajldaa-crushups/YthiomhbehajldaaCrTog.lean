/-
  Package crush: together; what is known while a branch grows.
  Conditions: the list lies in memory.
-/
import Derived.Test.YthiomhbehajldaaCrMem
import Derived.Test.YthiomhbehajldaaAtQuiet
namespace Go.Proofs.Ythiomhbehajldaa.Cr
open Go.RowKit By Fl At
open Sr (Wd Ws enW)
set_option linter.unusedVariables false
set_option linter.unusedSimpArgs false
set_option maxRecDepth 100000

def unl (d : Nat) (k : Int) (o : Osd) : Bool := !decide (kO d o = k)

set_option maxHeartbeats 1600000 in
theorem tog_clos {w : World} {x : Option Addr} {n c : Nat} {L : List Osd} {a : Osd} (z : Int) (bd bl : Nat) (h : At.Os w x n c L) (h0 : L[0]? = some a) (hd : w.cell? ⟨bd, 0, none⟩ = some (.int .i64 z)) (hl : w.cell? ⟨bl, 0, none⟩ = some (.slice x n c)) :
    Pr 80 #[.pointer (some ⟨bd, 0, none⟩), .pointer (some ⟨bl, 0, none⟩)] (unl (z + 1).toNat (kO (z + 1).toNat a)) w := by
  intro W p hW
  have h1 := keep hW hd
  have h2 := keep hW hl
  have hO := h.below hW
  have hn : 0 < n := by rw [← h.len]; exact (List.getElem?_eq_some_iff.1 h0).1
  rcases hO.row with q | ⟨b, o, rfl, hbl, hcell⟩
  · omega
  obtain ⟨k0, k1, k2, k3, k4, k5, k6, k7⟩ := At.Os.at (n := n) (c := c) hcell h0
  simp only [Nat.zero_mul, Nat.add_zero] at k0 k1 k2 k3 k4 k5 k6 k7
  have c1 := fun V => number_any p z V
  have c2 := fun V => number_any a z V
  unfold unl
  generalize kO (z + 1).toNat p = y1 at *
  generalize kO (z + 1).toNat a = y2 at *
  clear hd hl hW h h0 hO hcell
  obtain ⟨p0, p1, p2, p3, p4, p5, p6, p7⟩ := p
  obtain ⟨a0, a1, a2, a3, a4, a5, a6, a7⟩ := a
  unfold vO at c1 c2 ⊢
  dsimp only at k0 k1 k2 k3 k4 k5 k6 k7 c1 c2 ⊢
  show Calls Try.prog 80 #[.agg #[.int .i64 p0, .bool p1, .bool p2, .int .i64 p3, .int .i64 p4, .int .i64 p5, .int .i64 p6, .int .i64 p7], .pointer (some ⟨bd, 0, none⟩), .pointer (some ⟨bl, 0, none⟩)] W _
  obtain ⟨W0, hW0⟩ : ∃ W0, W0 = W.alloc (.cells #[.int .i64 p0, .bool p1, .bool p2, .int .i64 p3, .int .i64 p4, .int .i64 p5, .int .i64 p6, .int .i64 p7] 44) := ⟨_, rfl⟩
  have bA : Below W.heap.size W W0 := by rw [hW0]; exact al _ _
  have e0 := After.cell (keep bA h1)
  have e1 := After.cell (keep bA h2)
  have f0 := After.cell (keep bA k0)
  have f1 := After.cell (keep bA k1)
  have f2 := After.cell (keep bA k2)
  have f3 := After.cell (keep bA k3)
  have f4 := After.cell (keep bA k4)
  have f5 := After.cell (keep bA k5)
  have f6 := After.cell (keep bA k6)
  have f7 := After.cell (keep bA k7)
  have g0 : ∀ p : After W0, p.W.cell? ⟨W.heap.size, 0, none⟩ = some (.int .i64 p0) := After.cell (by rw [hW0]; go_simp)
  have g1 : ∀ p : After W0, p.W.cell? ⟨W.heap.size, 1, none⟩ = some (.bool p1) := After.cell (by rw [hW0]; go_simp)
  have g2 : ∀ p : After W0, p.W.cell? ⟨W.heap.size, 2, none⟩ = some (.bool p2) := After.cell (by rw [hW0]; go_simp)
  have g3 : ∀ p : After W0, p.W.cell? ⟨W.heap.size, 3, none⟩ = some (.int .i64 p3) := After.cell (by rw [hW0]; go_simp)
  have g4 : ∀ p : After W0, p.W.cell? ⟨W.heap.size, 4, none⟩ = some (.int .i64 p4) := After.cell (by rw [hW0]; go_simp)
  have g5 : ∀ p : After W0, p.W.cell? ⟨W.heap.size, 5, none⟩ = some (.int .i64 p5) := After.cell (by rw [hW0]; go_simp)
  have g6 : ∀ p : After W0, p.W.cell? ⟨W.heap.size, 6, none⟩ = some (.int .i64 p6) := After.cell (by rw [hW0]; go_simp)
  have g7 : ∀ p : After W0, p.W.cell? ⟨W.heap.size, 7, none⟩ = some (.int .i64 p7) := After.cell (by rw [hW0]; go_simp)
  have HW := hid hW0
  have HB := hid bA
  have hn1 : (0 : Int) < (n : Int) := by omega
  clear hW0 bA h1 h2 k0 k1 k2 k3 k4 k5 k6 k7
  haveI := After.ne W0
  go_enter Try.func80, Try.ntmps80
  go_wp2_with fail
  rw [← HW.out]
  refine wp_region_after (by kernel_rfl) (by kernel_rfl) ?_
  repeat (go_big_quiet_step ((first | (go_at_call 47; with_reducible refine Calls.after_of (c1 _)) | (go_at_call 47; with_reducible refine Calls.after_of (c2 _)))))
  refine wpQuiet_nil ?_
  rintro _ ⟨p, rfl⟩
  go_wp2_with fail
  go_ret
  refine ⟨?_, on HB.out p.h⟩
  by_cases e : y1 = y2 <;> simp [e]

theorem idx_tg (k : Int) (d : Nat) (L : List Osd) : (idx (unl d k) L < 0 ∧ tg k d L = L.length) ∨ (0 ≤ idx (unl d k) L ∧ idx (unl d k) L = (tg k d L : Int)) := by
  unfold idx tg unl
  cases h : L.findIdx? (fun o => !decide (kO d o = k)) with
  | none => left; simp
  | some i => right; simp

set_option maxHeartbeats 1600000 in
theorem together_any {w : World} {x : Option Addr} {n c : Nat} {L : List Osd} {a : Osd} (z : Int) (h : At.Os w x n c L) (h0 : L[0]? = some a) :
    Calls Try.prog 57 #[.slice x n c, .int .i64 z] w fun e w' => e = .returned (.int .i64 (tg (kO (z + 1).toNat a) (z + 1).toNat L : Nat)) ∧ Below w.heap.size w w' := by
  obtain ⟨W0, hW0⟩ : ∃ W0, W0 = (w.alloc (.cells #[.slice x n c] 24)).alloc (.cells #[.int .i64 z] 3) := ⟨_, rfl⟩
  have bA : Below w.heap.size w W0 := by rw [hW0]; exact on (al _ _) (al _ _)
  have eg : ∀ args w, (callFunc 80 args).run Try.prog w = .ok (.enter 80 args) w := enters_of Try.func80 (by kernel_rfl) rfl
  have e0 : W0.cell? ⟨w.heap.size, 0, none⟩ = some (.slice x n c) := by rw [hW0]; go_simp
  have e1 : W0.cell? ⟨w.heap.size + 1, 0, none⟩ = some (.int .i64 z) := by rw [hW0]; go_simp
  have hI := index_any _ 80 #[.pointer (some ⟨w.heap.size + 1, 0, none⟩), .pointer (some ⟨w.heap.size, 0, none⟩)] eg (h.below bA) (tog_clos z _ _ (h.below bA) h0 e1 e0)
  have HL := hid h.len
  have hsm := h.small
  clear h h0
  have hc := idx_tg (kO (z + 1).toNat a) (z + 1).toNat L
  generalize idx (unl (z + 1).toNat (kO (z + 1).toNat a)) L = r at *
  generalize tg (kO (z + 1).toNat a) (z + 1).toNat L = t at *
  have HB := hid bA
  have HW := hid hW0
  rw [hW0] at hI
  clear hW0 bA
  rcases hc with ⟨h1, h2⟩ | ⟨h1, h2⟩
  · have HT := hid h2
    clear h2
    go_enter Try.func57, Try.ntmps57
    go_wp2_with (go_at_call 79; refine hI.mono ?_; rintro e w1 ⟨rfl, hb1⟩; clear hI; rw [← HW.out] at hb1; have e2 := keep hb1 e0)
    go_ret
    exact ⟨by rw [HT.out, HL.out]; rfl, on HB.out hb1⟩
  · have HT := hid h2
    have h3 : ¬ r < 0 := by omega
    clear h2 h1
    go_enter Try.func57, Try.ntmps57
    go_wp2_with (go_at_call 79; refine hI.mono ?_; rintro e w1 ⟨rfl, hb1⟩; clear hI; rw [← HW.out] at hb1; have e2 := keep hb1 e0)
    go_ret
    exact ⟨by rw [← HT.out]; rfl, on HB.out hb1⟩

end Go.Proofs.Ythiomhbehajldaa.Cr

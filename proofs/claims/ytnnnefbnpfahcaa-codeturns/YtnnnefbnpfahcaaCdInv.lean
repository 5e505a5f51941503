/-
  What inverseOf of package code does: a contract over plain numbers.
  Conditions: the places are K of a code's, each another one.
-/
import Derived.Test.YtnnnefbnpfahcaaCdPlaces
namespace Go.Proofs.Ytnnnefbnpfahcaa
open Go.RowKit Gf
set_option linter.unusedVariables false
set_option linter.unusedSimpArgs false

set_option maxHeartbeats 400000 in
set_option maxRecDepth 100000 in
theorem inverseOf_yes (b n k m c lb cl : Nat) (G C : Nat → Nat) (g : Nat → Nat) (w : World) (h : Mat w b 0 n k G (fun _ => 0) C (cauchyF k m)) (h1 : 1 ≤ k) (h2 : 1 ≤ m) (h3 : k + m ≤ 255) (hn : n = k + m) (hlb : lb < w.heap.size)
    (hl : ∀ i, i < k → w.cell? ⟨lb, 0 + i, none⟩ = some (.int .i64 (g i : Int))) (hg : ∀ i, i < k → g i < n) (hinj : ∀ r s, r < k → s < k → g r = g s → r = s) :
    Calls Try.prog 30 #[.slice (some ⟨b, 0, none⟩) n c, .slice (some ⟨lb, 0, none⟩) k cl] w fun e w' => Below w.heap.size w w' ∧ ∃ B G' C', e = .returned (.tuple #[.slice (some ⟨B, 0, none⟩) k k, .int .i64 0]) ∧ Own w.heap.size w' B k k G' C' (right (fun r => cauchyF k m (g r)) k) := by
  have hrows := rows_yes b 0 lb 0 n k k c cl G (fun _ => 0) C (cauchyF k m) g w h (by omega) (by omega) h1 (by omega) h1 (by omega) hlb hl hg
  have hturn := cauchy_turns k m g h3 (fun r hr => by have := hg r hr; omega) hinj
  obtain ⟨F, hF⟩ : ∃ F : Nat → Nat → Nat, F = fun r => cauchyF k m (g r) := ⟨_, rfl⟩
  rw [← hF] at hrows hturn
  rw [← hF]
  have hinv : ∀ v B G C q, Mat v B 0 k k G (fun _ => 0) C F → Calls Try.prog 39 #[.slice (some ⟨B, 0, none⟩) k q] v fun e w' => ∃ B' G' C', e = .returned (.tuple #[.slice (some ⟨B', 0, none⟩) k k, .int .i64 0]) ∧ Below v.heap.size v w' ∧ Own v.heap.size w' B' k k G' C' (right F k) := fun v B G C q hMv =>
    (inverse_any B 0 k q G (fun _ => 0) C F v hMv h1 (by omega)).mono fun e w' h => by
      rcases h.2 with ⟨h0, _⟩ | ⟨_, B', G', C', he, ho⟩
      · omega
      · exact ⟨B', G', C', he, h.1, ho⟩
  clear hturn hF h hl hg hinj hn h1 h2 h3 hlb
  go_enter Try.func30, Try.ntmps30
  go_wp2_with (first
    | (go_at_call 38; refine hrows.mono ?_; rintro e y1 ⟨hb1, D1, P1, Q1, rfl, ho1⟩; clear hrows)
    | (go_at_call 39; refine (hinv _ D1 P1 Q1 _ ho1.mat).mono ?_; rintro e y2 ⟨D2, P2, Q2, rfl, hb2, ho2⟩; clear hinv))
  go_ret2
  exact ⟨hb1.trans (hb2.mono hb1.size), D2, P2, Q2, rfl, ho2.base_le hb1.size⟩

end Go.Proofs.Ytnnnefbnpfahcaa

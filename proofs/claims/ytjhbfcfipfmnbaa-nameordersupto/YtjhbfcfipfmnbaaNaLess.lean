/-
  Less, by the program and by the document.
  Conditions: the texts are at most 2^20 bytes long.
-/
import Derived.Test.YtjhbfcfipfmnbaaNaRunes
import Derived.Test.YtjhbfcfipfmnbaaNaOrder
import Derived.ArgAppend
import Derived.BigQuiet
import Derived.Deep.QuietTactic
namespace Go.Proofs.Ytjhbfcfipfmnbaa.Na
open Go.RowKit
set_option linter.unusedVariables false
set_option linter.unusedSimpArgs false

theorem less_any (a b : ByteArray) (t : Bool) (w : World) (h : lessN (nat a) (nat b) = t) :
    Calls Try.prog 20 #[.string a, .string b] w fun e w' => e = .returned (.bool t) ∧ w' = w := by
  have h2 : Op.bytesLess a.toList b.toList = t := by rw [less_nat]; exact h
  clear h
  go_enter Try.func20, Try.ntmps20
  go_wp2_with fail
  go_ret
  exact ⟨rfl, rfl⟩

/- A list of one's own, or one that is empty and has no room. -/
def OwnE (w : World) (base : Nat) (V : Value) (l : List Nat) : Prop := Own w base V l ∨ (l = [] ∧ ∃ g, V = .slice (some ⟨g, 0, none⟩) 0 0)

theorem push_intE (w w0 : World) (base : Nat) (V : Value) (l : List Nat) (a : Nat) (h : OwnE w base V l) (hl : l.length ≤ 1048576) (hb : base ≤ w.heap.size) (h0 : Below base w0 w) :
    ∃ V' w', (Builtin.append_ #[24, 24] 24 #[V, .slice (some ⟨w.heap.size, 0, none⟩) 1 1]).run Try.prog (w.alloc (.cells #[.int .i64 (a : Int)] 3)) = .ok V' w' ∧
      OwnE w' base V' (l ++ [a]) ∧ Below base w0 w' := by
  rcases h with h | ⟨rfl, g, rfl⟩
  · obtain ⟨V', w', h1, h2, h3, _⟩ := push_int w w0 base V l a h hl hb h0
    exact ⟨V', w', h1, .inl h2, h3⟩
  · obtain ⟨i0, hi, hz0, hz1, hz2⟩ := info_parts info_int
    obtain ⟨R', w', h1, h2, h3⟩ := run_append_arg_grows (P := Try.prog) (w.alloc (.cells #[.int .i64 (a : Int)] 3)) 24 24 3 i0 (.int .i64 0) 1 8 Try.underlying24 hi hz0 hz1 hz2 rfl (by decide) ⟨g, 0, none⟩ 0 0 [] rfl
      (fun j u hj => by simp at hj) ⟨w.heap.size, 0, none⟩ 1 1 [.int .i64 (a : Int)] rfl (one_at w _ _) (by omega) (by unfold maxLen; omega) (by omega)
    have hb2 : Below base w0 w' := (h0.alloc hb _).trans ⟨h3.os, h3.tape, h3.output, h3.size, fun q hq => h3.block q (by simp; omega) (by simp)⟩
    refine ⟨R', w', h1, ?_, hb2⟩
    have h4 : w'.ownsRow base 3 1 R' 1 (intsL [a]) := by
      have h5 : w'.ownsRow (w.alloc (.cells #[.int .i64 (a : Int)] 3)).heap.size 3 1 R' 1 (intsL [a]) := by simpa [intsL] using h2
      refine ⟨h5.1, ?_⟩
      rcases h5.2 with h6 | ⟨g', c', cur, e1, e2, e3⟩
      · exact .inl h6
      · exact .inr ⟨g', c', cur, e1, by simp at e2; omega, e3⟩
    by_cases hn : R' = .slice none 0 0
    · exfalso
      rcases h4.2 with ⟨_, h6⟩ | ⟨g', c', cur, e1, _⟩
      · simp at h6
      · rw [hn] at e1
        cases e1
    · exact .inl ⟨h4, hn⟩

theorem OwnE.at {w : World} {base : Nat} {V : Value} {l : List Nat} (h : OwnE w base V l) :
    ∃ g c, V = .slice (some ⟨g, 0, none⟩) l.length c ∧ (0 < l.length → g < w.heap.size) ∧ ∀ i, i < l.length → w.cell? ⟨g, i, none⟩ = some (.int .i64 ((l.getD i 0 : Nat) : Int)) := by
  rcases h with h | ⟨rfl, g, rfl⟩
  · obtain ⟨g, c, e1, e2, e3, e4⟩ := h.at
    exact ⟨g, c, e1, fun _ => e3, fun i hi => by have := e4 i hi; rwa [Nat.zero_add] at this⟩
  · exact ⟨g, 0, rfl, fun h => by simp at h, fun i hi => by simp at hi⟩

/- Numbers, wherever they lie. -/
def Nums (w : World) (g : Nat) (l : List Nat) : Prop := ∀ i, i < l.length → w.cell? ⟨g, i, none⟩ = some (.int .i64 ((l.getD i 0 : Nat) : Int))

theorem cell_lt {w : World} {a : Addr} {v : Value} (h : w.cell? a = some v) : a.block < w.heap.size := by
  by_cases hb : a.block < w.heap.size
  · exact hb
  · unfold World.cell? at h
    simp [Array.getElem?_eq_none (Nat.le_of_not_lt hb)] at h

theorem Nums.below {w w' : World} {g : Nat} {l : List Nat} (h : Nums w g l) (hb : Below w.heap.size w w') : Nums w' g l :=
  fun i hi => (hb.cell (by exact cell_lt (h i hi))).trans (h i hi)

theorem runes_nums (s : ByteArray) (rs : List Nat) (w : World) (h : Txt (nat s) rs []) (hs : s.size ≤ 1048576) :
    Calls Try.prog 9 #[.string s] w fun e w' => ∃ g c, e = .returned (.tuple #[.slice (some ⟨g, 0, none⟩) rs.length c, .bool true]) ∧ Below w.heap.size w w' ∧ Nums w' g rs := by
  refine (runes_all s rs [] w h hs).mono fun e w' hh => ?_
  obtain ⟨h1, h2⟩ := hh
  rcases h2 with ⟨_, V, h3, h4⟩ | ⟨h3, _⟩
  · obtain ⟨g, c, rfl, g1, g2, g3⟩ := h3.at
    exact ⟨g, c, h4, h1, fun i hi => by have := g3 i hi; rwa [Nat.zero_add] at this⟩
  · exact absurd rfl h3

theorem runes_some (s : ByteArray) (rs t : List Nat) (b : Bool) (w : World) (h : Txt (nat s) rs t) (hs : s.size ≤ 1048576) (hb : t = [] ↔ b = true) :
    Calls Try.prog 9 #[.string s] w fun e w' => ∃ V, e = .returned (.tuple #[V, .bool b]) ∧ Below w.heap.size w w' := by
  refine (runes_all s rs t w h hs).mono fun e w' hh => ?_
  obtain ⟨h1, h2⟩ := hh
  rcases h2 with ⟨h3, V, _, h4⟩ | ⟨h3, h4⟩
  · have := hb.1 h3
    subst this
    exact ⟨V, h4, h1⟩
  · have : b = false := by cases b with
      | false => rfl
      | true => exact absurd (hb.2 rfl) h3
    subst this
    exact ⟨_, h4, h1⟩

end Go.Proofs.Ytjhbfcfipfmnbaa.Na

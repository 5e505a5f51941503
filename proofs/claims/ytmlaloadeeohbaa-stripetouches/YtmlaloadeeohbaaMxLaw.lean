/-
  What a law is told of the matrices, lists of bytes and lists of integers that came in.
  Conditions: none.
-/
import Derived.Test.YtmlaloadeeohbaaMxCheck
import Derived.Deep.Matrix
import Derived.OpenShut
import Derived.ShutString
import Derived.WalkKit
namespace Go.Proofs.Ytmlaloadeeohbaa
open Go.RowKit Gf Go.ChangeShapes Go.WideShapes Go.Deep
set_option linter.unusedVariables false

def IsGrid (w : World) (a : Option Addr) (len : Nat) (A : Nat → Option Addr) (L C : Nat → Nat) (f : Nat → Nat → Nat) : Prop :=
  Tops w a len A L C ∧ (∀ r, r < len → RowAt w (A r) (L r) (f r)) ∧ ∀ r j, f r j < 256

theorem cell_lt' {w : World} {a : Addr} {v : Value} (h : w.cell? a = some v) : a.block < w.heap.size := by
  by_cases hb : a.block < w.heap.size
  · exact hb
  · unfold World.cell? at h
    simp [Array.getElem?_eq_none (Nat.le_of_not_lt hb)] at h

theorem add_at (b o i : Nat) : (⟨b, o, none⟩ : Addr).add i = ⟨b, o + i, none⟩ := by unfold Addr.add; split <;> simp_all

theorem u8_getD {zs : List Int} (h : ∀ n ∈ zs, (Lit.int .u8 n).wf = true) (i : Nat) : ∃ n : Nat, zs.getD i 0 = n ∧ n < 256 := by
  by_cases hi : i < zs.length
  · have := h zs[i] (List.getElem_mem hi)
    obtain ⟨n, h1, h2⟩ := u8_nat this
    exact ⟨n, by simp [hi, h1], h2⟩
  · exact ⟨0, by simp [Nat.le_of_not_lt hi], by omega⟩

theorem row_at {w : World} {a : Addr} {n : Nat} {zs : List Int} (hz : ∀ n ∈ zs, (Lit.int .u8 n).wf = true) (h : ∀ c, c < n → w.cell? (a.add c) = some (.int .u8 (zs.getD c 0))) :
    RowAt w (some a) n (fun i => (zs.getD i 0).toNat) := by
  by_cases h0 : n = 0
  · exact .inl h0
  · obtain ⟨b, off, spot⟩ := a
    have hspot : spot = none := by simpa [Addr.add] using World.cell?_spot (h 0 (by omega))
    subst hspot
    refine .inr ⟨b, off, rfl, cell_lt' (h 0 (by omega)), fun i hi => ?_⟩
    have := h i hi
    rw [add_at] at this
    obtain ⟨m, h1, h2⟩ := u8_getD hz i
    rw [this]
    show some (Value.int .u8 (zs.getD i 0)) = some (Value.int .u8 (((zs.getD i 0).toNat : Nat) : Int))
    rw [h1]
    rfl

section
variable {H : Type} {enc : TypeId × Value → H} {W : World} {base : Nat} {held : Bool} {a : Option Addr} {len cap : Nat} {d : DataW H} {p : List MemPlace}

theorem grid_of (h : DataW.Trod enc Try.prog W base (fun _ => true) held 28 (.slice a len cap) d p) : ∃ A L C f, IsGrid W a len A L C f := by
  obtain ⟨fuel, hf⟩ := h
  rcases open_int_rows Try.underlying28 Try.underlying22 Try.underlying5 (by kernel_rfl) (by kernel_rfl) hf with ⟨hcs, _⟩ | ⟨x, l, c, A, L, C, Z, hcs, _, hl, hm, hx, hr⟩
  · simp [Value.cells] at hcs
    obtain ⟨rfl, rfl, rfl⟩ := hcs
    exact ⟨fun _ => none, fun _ => 0, fun _ => 0, fun _ _ => 0, .inl rfl, fun r hr => by omega, fun _ _ => Nat.zero_lt_succ _⟩
  · simp [Value.cells] at hcs
    obtain ⟨rfl, rfl, rfl⟩ := hcs
    refine ⟨A, L, C, fun r i => if r < cap then ((Z r).getD i 0).toNat else 0, ?_, fun r hlt => ?_, fun r j => ?_⟩
    · by_cases h0 : len = 0
      · exact .inl h0
      · obtain ⟨b, off, spot⟩ := x
        have hspot : spot = none := by simpa [Addr.add] using World.cell?_spot (hr 0 (by omega)).1
        subst hspot
        refine .inr ⟨b, off, rfl, cell_lt' (hr 0 (by omega)).1, fun r hlt => ?_⟩
        have := (hr r (by omega)).1
        rwa [add_at] at this
    · obtain ⟨_, h1, h2, h3, h4, h5, h6⟩ := hr r (by omega)
      cases e : A r with
      | none => exact .inl (by have := h5 e; omega)
      | some a' =>
        have := row_at (w := W) (a := a') (n := L r) h4 (fun c hc => (h6 a' e).2 c (by omega))
        simpa [show r < cap by omega] using this
    · by_cases e : r < cap
      · obtain ⟨n, h1, h2⟩ := u8_getD (hr r e).2.2.2.2.1 j
        simp only [e, if_true]
        omega
      · simp [e]

theorem bytes_of (h : DataW.Trod enc Try.prog W base (fun _ => true) held 22 (.slice a len cap) d p) : ∃ f : Nat → Nat, RowAt W a len f ∧ (∀ i, f i < 256) ∧ len ≤ 9223372036854775807 := by
  obtain ⟨fuel, hf⟩ := h
  rcases open_ints Try.underlying22 Try.underlying5 (by kernel_rfl) hf with ⟨hcs, _⟩ | ⟨x, l, c, zs, hcs, _, hl, hm, hz, hx, hcell, hwz⟩
  · simp [Value.cells] at hcs
    obtain ⟨rfl, rfl, rfl⟩ := hcs
    exact ⟨fun _ => 0, .inl rfl, fun _ => Nat.zero_lt_succ _, by omega⟩
  · simp [Value.cells] at hcs
    obtain ⟨rfl, rfl, rfl⟩ := hcs
    simp only [if_true] at hz
    refine ⟨_, row_at hwz (fun c hc => hcell c (by omega)), fun i => ?_, by unfold maxLen at hm; omega⟩
    obtain ⟨n, h1, h2⟩ := u8_getD hwz i
    omega

end

end Go.Proofs.Ytmlaloadeeohbaa

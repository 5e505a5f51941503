/-
  What a law's second form is told of a list of bytes that came in: the bound of the bulk is one of its length.
  Conditions: none.
-/
import Derived.Test.YtjodeceaogngfaaByRows
namespace Go.Proofs.Ytjodeceaogngfaa.By
open Go.RowKit Go.ChangeShapes Go.WideShapes Go.Deep
set_option linter.unusedVariables false

theorem bulk_each {H : Type} : ∀ l : List (DataW H), l.length ≤ Rows.uptoBulkAll l
  | [] => Nat.zero_le _
  | d :: l => by
    have h := bulk_each l
    have h1 : 1 ≤ Rows.uptoBulk d := by
      cases d with
      | lit x => cases x <;> simp [Rows.uptoBulk]
      | _ => simp [Rows.uptoBulk]
    simp only [Rows.uptoBulkAll, List.length_cons]
    omega

section
variable {H : Type} {enc : TypeId × Value → H} {W : World} {base fuel : Nat} {held : Bool} {cs : List Value} {d : DataW H} {p : List MemPlace}

theorem bytes_in_upto (hf : DataW.trod enc Try.prog W base (fun _ => true) held fuel 22 cs = some (d, p)) (hw : Rows.uptoBulk d ≤ 1048576) :
    ∃ a len cap f, cs = [.slice a len cap] ∧ BytesIn W a len cap f ∧ len ≤ 1048576 := by
  rcases open_ints Try.underlying22 Try.underlying5 (by kernel_rfl) hf with ⟨hcs, _⟩ | ⟨x, len, cap, zs, hcs, _, hl, hm, hz, hx, hcell, hwz⟩
  · exact ⟨none, 0, 0, fun _ => 0, hcs, ⟨.inl rfl, fun _ => Nat.zero_lt_succ _, Nat.le_refl _, by omega, fun _ => ⟨rfl, rfl⟩⟩, by omega⟩
  · simp only [if_true] at hz
    simp only [Prod.mk.injEq] at hx
    have hd := hx.1
    subst hd
    simp only [Rows.uptoBulk] at hw
    have h1 := bulk_each (H := H) (lits .u8 (zs.take len))
    have h2 := bulk_each (H := H) (lits .u8 (zs.drop len))
    simp only [lits, List.length_map, List.length_take, List.length_drop] at h1 h2 hw
    have hcap : cap ≤ 1048576 := by omega
    refine ⟨some x, len, cap, _, hcs, ⟨row_at hwz (fun c hc => hcell c (by omega)), fun i => ?_, hl, by omega, fun h => by cases h⟩, by omega⟩
    obtain ⟨n, h1, h2⟩ := u8_getD hwz i
    omega

end

end Go.Proofs.Ytjodeceaogngfaa.By

/-
  A disk that nobody made: nil, and the zero one: what its calls tell.
  Conditions: none.
-/
import Derived.Test.YthfpljfndnjcnaaDkAwake
namespace Go.Proofs.Ythfpljfndnjcnaa
open Go.RowKit By Dk
set_option linter.unusedVariables false
set_option linter.unusedSimpArgs false

theorem nflush (w : World) : Calls Try.prog 33 #[.pointer none] w fun e w' => e = .returned (.tuple #[]) ∧ w' = w := by
  go_enter Try.func33, Try.ntmps33
  go_wp2_with fail
  refine bodyPost_ret (results_none rfl _ _ _) rfl ?_
  exact ⟨rfl, rfl⟩

theorem ncrash (x : Option Addr) (l c : Nat) (w : World) : Calls Try.prog 13 #[.pointer none, .slice x l c] w fun e w' => e = .returned (.tuple #[]) ∧ w' = w := by
  go_enter Try.func13, Try.ntmps13
  go_wp2_with fail
  refine bodyPost_ret (results_none rfl _ _ _) rfl ?_
  exact ⟨rfl, rfl⟩

theorem nhas (z : Int) (w : World) : Calls Try.prog 43 #[.pointer none, .int .i64 z] w fun e w' => e = .returned (.bool false) ∧ w' = w := has_any _ 0 z false w (size_nil w) (fun h1 h2 => by omega) (fun _ => rfl)

theorem nread (z : Int) (w : World) : Calls Try.prog 37 #[.pointer none, .int .i64 z] w fun e w' => e = .returned (.tuple #[.slice none 0 0, .int .i64 1]) ∧ w' = w := read_no _ z w (nhas z w)

theorem nwrite (z : Int) (x : Option Addr) (l c : Nat) (w : World) : Calls Try.prog 26 #[.pointer none, .int .i64 z, .slice x l c] w fun e w' => e = .returned (.int .i64 1) ∧ w' = w := write_no _ z x l c false w (nhas z w) (fun h => by cases h)

/- The zero disk at block p. -/
def Zero (w : World) (p : Nat) : Prop := Blk w p 55 3 (fun _ => .slice none 0 0)

theorem Zero.cell {w : World} {p k : Nat} (h : Zero w p) (hk : k < 3) : w.cell? ⟨p, k, none⟩ = some (.slice none 0 0) := Blk.cell h hk

theorem Zero.set {w : World} {p : Nat} (h : Zero w p) : Zero (w.setCell ⟨p, 1, none⟩ (.slice none 0 0)) p := (Blk.set h 1 (.slice none 0 0)).congr fun k hk => by unfold upd; split <;> rfl

theorem zforget (p : Nat) (w : World) (h : Zero w p) : Calls Try.prog 35 #[.pointer (some ⟨p, 0, none⟩)] w fun e w' => e = .returned (.tuple #[]) ∧ Turns (fun k => k = p) w w' ∧ Zero w' p := by
  have c1 := h.cell (k := 1) (by omega)
  have f1 := Blk.frozen h 1
  have HF : Hid (Turns (fun k => k = p) w (w.setCell ⟨p, 1, none⟩ (.slice none 0 0)) ∧ Zero (w.setCell ⟨p, 1, none⟩ (.slice none 0 0)) p) := ⟨(Turns.refl (fun k => k = p) w).setCell (p := ⟨p, 1, none⟩) (.inl rfl) _, h.set⟩
  clear h
  go_enter Try.func35, Try.ntmps35
  go_wp2_with fail
  refine wp_loop_rounds 1 ?_
  rw [rounds_succ]
  go_wp2_with fail
  go_end0
  exact ⟨rfl, HF.out⟩

theorem zflush (p : Nat) (w : World) (h : Zero w p) : Calls Try.prog 33 #[.pointer (some ⟨p, 0, none⟩)] w fun e w' => e = .returned (.tuple #[]) ∧ Turns (fun k => k = p) w w' ∧ Zero w' p := by
  have c1 := h.cell (k := 1) (by omega)
  have hfg := zforget p w h
  clear h
  go_enter Try.func33, Try.ntmps33
  go_wp2_with fail
  refine wp_loop_rounds 1 ?_
  rw [rounds_succ]
  go_wp2_with ((go_at_call 35; refine hfg.mono ?_; rintro e v ⟨rfl, hv⟩; have HV := hid hv; clear hfg hv))
  go_end0
  exact ⟨rfl, HV.out⟩

theorem zcrash (p l c : Nat) (x : Option Addr) (w : World) (h : Zero w p) : Calls Try.prog 13 #[.pointer (some ⟨p, 0, none⟩), .slice x l c] w fun e w' => e = .returned (.tuple #[]) ∧ Turns (fun k => k = p) w w' ∧ Zero w' p := by
  have c1 := h.cell (k := 1) (by omega)
  have hfg := zforget p w h
  clear h
  go_enter Try.func13, Try.ntmps13
  go_wp2_with fail
  refine wp_loop_rounds 1 ?_
  rw [rounds_succ]
  go_wp2_with ((go_at_call 35; refine hfg.mono ?_; rintro e v ⟨rfl, hv⟩; have HV := hid hv; clear hfg hv))
  go_end0
  exact ⟨rfl, HV.out⟩

theorem zhas (p : Nat) (z : Int) (w : World) (h : Zero w p) : Calls Try.prog 43 #[.pointer (some ⟨p, 0, none⟩), .int .i64 z] w fun e w' => e = .returned (.bool false) ∧ w' = w := has_any _ 0 z false w (size_any p 0 0 none w (h.cell (k := 2) (by omega))) (fun h1 h2 => by omega) (fun _ => rfl)

end Go.Proofs.Ythfpljfndnjcnaa

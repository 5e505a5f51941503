/-
  A disk that nobody made: nil, and the zero one: what its calls tell.
  Conditions: none.
-/
import Derived.Test.YtaaeppbkbkfphaaDkAwake
namespace Go.Proofs.Ytaaeppbkbkfphaa
open Go.RowKit By Dk
set_option linter.unusedVariables false
set_option linter.unusedSimpArgs false

theorem nflush (w : World) : Calls Try.prog 18 #[.pointer none] w fun e w' => e = .returned (.tuple #[]) ∧ w' = w := by
  go_enter Try.func18, Try.ntmps18
  go_wp2_with fail
  refine bodyPost_ret (results_none rfl _ _ _) rfl ?_
  exact ⟨rfl, rfl⟩

theorem ncrash (x : Option Addr) (l c : Nat) (w : World) : Calls Try.prog 19 #[.pointer none, .slice x l c] w fun e w' => e = .returned (.tuple #[]) ∧ w' = w := by
  go_enter Try.func19, Try.ntmps19
  go_wp2_with fail
  refine bodyPost_ret (results_none rfl _ _ _) rfl ?_
  exact ⟨rfl, rfl⟩

theorem ndump (w : World) : Calls Try.prog 14 #[.pointer none] w fun e w' => e = .returned (.slice none 0 0) ∧ w' = w := by
  go_enter Try.func14, Try.ntmps14
  go_wp2_with fail
  go_ret
  exact ⟨rfl, rfl⟩

theorem nhas (z : Int) (w : World) : Calls Try.prog 24 #[.pointer none, .int .i64 z] w fun e w' => e = .returned (.bool false) ∧ w' = w := has_any _ 0 z false w (size_nil w) (fun h1 h2 => by omega) (fun _ => rfl)

theorem nread (z : Int) (w : World) : Calls Try.prog 12 #[.pointer none, .int .i64 z] w fun e w' => e = .returned (.tuple #[.slice none 0 0, .int .i64 1]) ∧ w' = w := read_no _ z w (nhas z w)

theorem nwrite (z : Int) (x : Option Addr) (l c : Nat) (w : World) : Calls Try.prog 17 #[.pointer none, .int .i64 z, .slice x l c] w fun e w' => e = .returned (.int .i64 1) ∧ w' = w := write_no _ z x l c false w (nhas z w) (fun h => by cases h)

/- The zero disk at block p. -/
def Zero (w : World) (p : Nat) : Prop := Blk w p 53 3 (fun _ => .slice none 0 0)

theorem Zero.cell {w : World} {p k : Nat} (h : Zero w p) (hk : k < 3) : w.cell? ⟨p, k, none⟩ = some (.slice none 0 0) := Blk.cell h hk

theorem Zero.set {w : World} {p : Nat} (h : Zero w p) : Zero (w.setCell ⟨p, 1, none⟩ (.slice none 0 0)) p := (Blk.set h 1 (.slice none 0 0)).congr fun k hk => by unfold upd; split <;> rfl

theorem zforget (p : Nat) (w : World) (h : Zero w p) : Calls Try.prog 27 #[.pointer (some ⟨p, 0, none⟩)] w fun e w' => e = .returned (.tuple #[]) ∧ Turns (fun k => k = p) w w' ∧ Zero w' p := by
  have c1 := h.cell (k := 1) (by omega)
  have f1 := Blk.frozen h 1
  have HF : Hid (Turns (fun k => k = p) w (w.setCell ⟨p, 1, none⟩ (.slice none 0 0)) ∧ Zero (w.setCell ⟨p, 1, none⟩ (.slice none 0 0)) p) := ⟨(Turns.refl (fun k => k = p) w).setCell (p := ⟨p, 1, none⟩) (.inl rfl) _, h.set⟩
  clear h
  go_enter Try.func27, Try.ntmps27
  go_wp2_with fail
  refine wp_loop_rounds 1 ?_
  rw [rounds_succ]
  go_wp2_with fail
  go_end0
  exact ⟨rfl, HF.out⟩

theorem zflush (p : Nat) (w : World) (h : Zero w p) : Calls Try.prog 18 #[.pointer (some ⟨p, 0, none⟩)] w fun e w' => e = .returned (.tuple #[]) ∧ Turns (fun k => k = p) w w' ∧ Zero w' p := by
  have c1 := h.cell (k := 1) (by omega)
  have hfg := zforget p w h
  clear h
  go_enter Try.func18, Try.ntmps18
  go_wp2_with fail
  refine wp_loop_rounds 1 ?_
  rw [rounds_succ]
  go_wp2_with ((go_at_call 27; refine hfg.mono ?_; rintro e v ⟨rfl, hv⟩; have HV := hid hv; clear hfg hv))
  go_end0
  exact ⟨rfl, HV.out⟩

theorem zcrash (p l c : Nat) (x : Option Addr) (w : World) (h : Zero w p) : Calls Try.prog 19 #[.pointer (some ⟨p, 0, none⟩), .slice x l c] w fun e w' => e = .returned (.tuple #[]) ∧ Turns (fun k => k = p) w w' ∧ Zero w' p := by
  have c1 := h.cell (k := 1) (by omega)
  have hfg := zforget p w h
  clear h
  go_enter Try.func19, Try.ntmps19
  go_wp2_with fail
  refine wp_loop_rounds 1 ?_
  rw [rounds_succ]
  go_wp2_with ((go_at_call 27; refine hfg.mono ?_; rintro e v ⟨rfl, hv⟩; have HV := hid hv; clear hfg hv))
  go_end0
  exact ⟨rfl, HV.out⟩

theorem zdump (p : Nat) (w : World) (h : Zero w p) : Calls Try.prog 14 #[.pointer (some ⟨p, 0, none⟩)] w fun e w' => e = .returned (.slice (some ⟨w.heap.size, 0, none⟩) 0 0) ∧ Below w.heap.size w w' := by
  obtain ⟨w1, hmk, hB1, hb1, hs1⟩ := make_blk w 0 (by omega)
  have hmk : (Instr.makeSlice 32 (.int .i64 0) (.int .i64 0)).run Try.prog w = .ok (.slice (some ⟨w.heap.size, 0, none⟩) 0 0) w1 := hmk
  have d0 := h.cell (k := 0) (by omega)
  have c0 : w1.cell? ⟨p, 0, none⟩ = some (.slice none 0 0) := (hb1.cell (p := ⟨p, 0, none⟩) (Blk.lt h)).trans d0
  have hcp : (Builtin.copy_ #[32, 32] 3 #[.slice (some ⟨w.heap.size, 0, none⟩) 0 0, .slice none 0 0]).run Try.prog w1 = .ok (.int .i64 0) w1 := run_copy_none (P := Try.prog) w1 32 32 3 5 _ _ 0 0 0 0 Try.underlying32 (by kernel_rfl) rfl
  have H := hid hb1
  clear h hB1 hb1 hs1
  go_enter Try.func14, Try.ntmps14
  go_wp2_with fail
  go_ret
  exact ⟨rfl, H.out⟩

theorem zhas (p : Nat) (z : Int) (w : World) (h : Zero w p) : Calls Try.prog 24 #[.pointer (some ⟨p, 0, none⟩), .int .i64 z] w fun e w' => e = .returned (.bool false) ∧ w' = w := has_any _ 0 z false w (size_any p 0 0 none w (h.cell (k := 2) (by omega))) (fun h1 h2 => by omega) (fun _ => rfl)

end Go.Proofs.Ytaaeppbkbkfphaa

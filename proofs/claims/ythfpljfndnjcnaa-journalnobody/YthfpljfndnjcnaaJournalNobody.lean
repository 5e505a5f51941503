/-
  Of nobody's disk there is no journal, and one that nobody made has nothing: 'mooringlaw08.JournalNobody' returns true and leaves its argument as it was.
  Conditions: none.
-/
import Derived.Test.YthfpljfndnjcnaaRows
import Derived.WalkKit
import Derived.ProofKit
import Derived.OpenShut
import Derived.SizedLaws
import Derived.ShutString
import Derived.ChangeOld
import Derived.Below
import Derived.Test.YthfpljfndnjcnaaByRows
import Derived.Test.YthfpljfndnjcnaaJoAwake
namespace Go.Proofs.Ythfpljfndnjcnaa.journalNobody
open Go.ChangeShapes Go.WideShapes Go.ChangeAt Go.RowKit By
open Dk Jo
set_option linter.unusedVariables false
set_option linter.unusedSimpArgs false

theorem own : ownKnob Try.prog.godebug = none := by kernel_rfl
theorem laidOut : laidOutB Try.prog = true := by kernel_rfl

theorem open_no (v : Value) (w : World) (hS : Calls Try.prog 28 #[v] w fun e w' => e = .returned (.int .i64 ((0 : Nat) : Int)) ∧ w' = w) :
    Calls Try.prog 10 #[v] w fun e w' => e = .returned (.tuple #[.pointer none, .int .i64 1]) ∧ w' = w := by
  go_enter Try.func10, Try.ntmps10
  go_wp2_with ((go_at_call 28; refine hS.mono ?_; rintro e w' ⟨rfl, hw⟩; subst w'; clear hS))
  go_ret2
  exact ⟨rfl, rfl⟩

set_option maxHeartbeats 2000000 in
set_option maxRecDepth 100000 in
theorem walk (x : Option Addr) (l c : Nat) (f : Nat → Nat) (w : World) (h : BytesIn w x l c f) :
    Calls Try.prog 7 #[.slice x l c] w fun e w' => e = .returned (.bool true) ∧ Below w.heap.size w w' := by
  have hO1 := open_no (.pointer none) w (size_nil w)
  have hz0 : (w.alloc (.cells #[.slice none 0 0, .slice none 0 0, .slice none 0 0] 55)).cell? ⟨w.heap.size, 2, none⟩ = some (.slice none 0 0) := by simp
  have hO2 := open_no (.pointer (some ⟨w.heap.size, 0, none⟩)) _ (size_any w.heap.size 0 0 none _ hz0)
  have HB1 : Hid (Below w.heap.size w (w.alloc (.cells #[.slice none 0 0, .slice none 0 0, .slice none 0 0] 55))) := (Below.refl _ _).alloc (Nat.le_refl _) _
  clear h hz0
  go_enter Try.func7, Try.ntmps7
  go_wp2_with (first
    | (go_at_call 10; refine hO1.mono ?_; rintro e w' ⟨rfl, hw⟩; subst w'; clear hO1)
    | (go_at_call 10; refine hO2.mono ?_; rintro e w' ⟨rfl, hw⟩; subst w'; clear hO2))
  generalize w.alloc (.cells #[.slice none 0 0, .slice none 0 0, .slice none 0 0] 55) = wa at *
  refine wp_loop_rounds 3 ?_
  rw [rounds_succ]
  go_wp2_with (first
    | (go_at_call 11; refine (sync_no _ _ (jopen_nil wa)).mono ?_; rintro e w' ⟨rfl, hw⟩; subst w')
    | (go_at_call 27; refine (get_no _ 0 0 _ (len_no _ _ (jopen_nil wa)) (by omega) (by omega)).mono ?_; rintro e w' ⟨rfl, hw⟩; subst w')
    | (go_at_call 22; refine (put_no _ x l c _ (jopen_nil wa)).mono ?_; rintro e w' ⟨rfl, hw⟩; subst w')
    | (go_at_call 23; refine (len_no _ _ (jopen_nil wa)).mono ?_; rintro e w' ⟨rfl, hw⟩; subst w')
    | (go_at_call 21; refine (room_no _ _ (jopen_nil wa)).mono ?_; rintro e w' ⟨rfl, hw⟩; subst w')
    | (go_at_call 17; refine (gen_no _ _ (jopen_nil wa)).mono ?_; rintro e w' ⟨rfl, hw⟩; subst w'))
  have hj0 : (wa.alloc (.cells #[.pointer none, .int .i64 0, .slice none 0 0, .int .i64 0] 57)).cell? ⟨wa.heap.size, 0, none⟩ = some (.pointer none) := by simp
  have hsh : Shut0 (.pointer (some ⟨wa.heap.size, 0, none⟩)) (wa.alloc (.cells #[.pointer none, .int .i64 0, .slice none 0 0, .int .i64 0] 57)) := jopen_zero _ _ hj0
  have HB2 : Hid (Below w.heap.size w (wa.alloc (.cells #[.pointer none, .int .i64 0, .slice none 0 0, .int .i64 0] 57))) := HB1.out.alloc HB1.out.size _
  clear hj0
  rw [rounds_succ]
  go_wp2_with (first
    | (go_at_call 11; refine (sync_no _ _ hsh).mono ?_; rintro e w' ⟨rfl, hw⟩; subst w')
    | (go_at_call 27; refine (get_no _ 0 0 _ (len_no _ _ hsh) (by omega) (by omega)).mono ?_; rintro e w' ⟨rfl, hw⟩; subst w')
    | (go_at_call 22; refine (put_no _ x l c _ hsh).mono ?_; rintro e w' ⟨rfl, hw⟩; subst w')
    | (go_at_call 23; refine (len_no _ _ hsh).mono ?_; rintro e w' ⟨rfl, hw⟩; subst w')
    | (go_at_call 21; refine (room_no _ _ hsh).mono ?_; rintro e w' ⟨rfl, hw⟩; subst w')
    | (go_at_call 17; refine (gen_no _ _ hsh).mono ?_; rintro e w' ⟨rfl, hw⟩; subst w'))
  clear hsh
  generalize wa.alloc (.cells #[.pointer none, .int .i64 0, .slice none 0 0, .int .i64 0] 57) = wb at *
  rw [rounds_succ]
  go_wp2_with (first
    | (go_at_call 9; refine (jawake _).mono ?_; rintro e w9 ⟨rfl, hb9⟩))
  go_ret
  exact ⟨rfl, HB2.out.trans (hb9.mono HB2.out.size)⟩

set_option maxRecDepth 100000 in
theorem lifted (os : Os) (started : os.Started) (H : Type) (enc : TypeId × Value → H) :
    ReturnsInHanded {} Try.checked os 7 .any (Rows.journalNobodySpec.pre6 enc Try.prog Try.f7 Rows.journalNobodyRow.domain false) (Rows.journalNobodySpec.post enc Try.prog Try.f7 false true false false) := by
  refine returnsInHanded_of_change_sized (C := Try.checked) own started (by kernel_rfl) Try.func7
    (ChangeSpec.witness6 (enc := enc) (C := Try.checked) false ⟨#[], #[.slice none 0 0], []⟩ 8 (by kernel_rfl) (by kernel_rfl) (by kernel_rfl) (by kernel_rfl)) ?_
  intro W base args ds gs before hval0 hW hcnd hsz0 _
  have hsz : (DataW.weightsEach Try.prog (Try.f7.params.toList ++ Rows.journalNobodySpec.plain.varTypes Try.prog) (ds ++ gs)).all (· ≤ reachBytes) = true := hsz0
  have hval : ∀ (j : Nat) t v, Try.f7.params[j]? = some t → args[j]? = some v → Value.okWide Try.prog W .any base t v := hval0
  have hW' := hW
  obtain ⟨p, q, hA0, hV, rfl, hfz, hnd⟩ := hW
  have hA : DataW.TrodAll enc Try.prog W 0 (fun _ => true) true Try.f7.params.toList args.toList ds p := hA0
  rw [Try.params7] at hA hval hsz
  obtain ⟨v0, vs0, d0, ds0, p0, q0, hargs, rfl, rfl, h0, r0⟩ := trodAll_cons hA
  obtain ⟨rfl, rfl, rfl⟩ := trodAll_nil r0
  obtain rfl : args = #[v0] := by cases args; simp_all
  obtain ⟨rfl, rfl⟩ := trodVars_none hV
  have k0 := h0
  have lt0 : ∀ x ∈ p0, x.block < W.heap.size := by obtain ⟨m, hm⟩ := k0; exact DataW.trod_lt m _ _ _ hm
  have s0 : ∀ x ∈ d0.weights Try.prog 31, x ≤ reachBytes := fun x hx => by
    have := List.all_eq_true.1 hsz x (DataW.weights_mem_each (j := 0) rfl rfl x hx)
    simpa using this
  obtain ⟨b0, nn0, cc0, rfl⟩ := okWide_slice Try.underlying31 (hval 0 31 v0 rfl rfl)
  obtain ⟨fu0, hf0⟩ := h0
  obtain ⟨a0, len0, cap0, f0, e0, w0⟩ := bytes_in hf0 s0
  simp [Value.cells] at e0
  obtain ⟨rfl, rfl, rfl⟩ := e0
  clear hA0 hval0
  refine (walk b0 nn0 cc0 f0 W w0).mono fun e W' ⟨he, bel⟩ => ?_
  subst he
  exact ⟨_, rfl, _, _, _, [], _, [], hW', trodAll_mk1 (shut_bool Try.underlying4 _), (trodAll_cons_mk (Below.trod laidOut (by kernel_rfl) (of_decide_eq_true (by kernel_rfl)) k0 bel lt0) trodAll_mk0), rfl, bel.frame _, fun h => by cases h⟩

theorem over : Rows.journalNobodyRow.holds Try.pinned (OpenSpec.ofChange Rows.journalNobodySpec) :=
  OpenClaim.holds_of_wide 7 Try.f7 rfl rfl rfl rfl rfl rfl rfl ⟨rfl, rfl, rfl, rfl, rfl⟩ rfl rfl rfl rfl rfl (by kernel_rfl) Try.func7 (by kernel_rfl)
    (of_decide_eq_true (by kernel_rfl)) (by unfold Func.isWrapper; first | (rw [if_pos (by decide +kernel)]; kernel_rfl) | (rw [if_neg (by decide +kernel)]; exact ⟨rfl, rfl⟩))
    (fun os started H enc _ => lifted os started H enc)

theorem proved : Rows.JournalNobodySaid := over
#print axioms proved
end Go.Proofs.Ythfpljfndnjcnaa.journalNobody

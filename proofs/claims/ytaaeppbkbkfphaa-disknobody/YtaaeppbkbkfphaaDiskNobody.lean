/-
  A disk that nobody made, nil or the zero one, has nothing: 'mooringlaw07.DiskNobody' returns true and leaves its argument as it was.
  Conditions: none.
-/
import Derived.Test.YtaaeppbkbkfphaaRows
import Derived.WalkKit
import Derived.ProofKit
import Derived.OpenShut
import Derived.SizedLaws
import Derived.ShutString
import Derived.ChangeOld
import Derived.Below
import Derived.Test.YtaaeppbkbkfphaaByRows
import Derived.Test.YtaaeppbkbkfphaaDkItem
import Derived.Test.YtaaeppbkbkfphaaDkNobody
namespace Go.Proofs.Ytaaeppbkbkfphaa.diskNobody
open Go.ChangeShapes Go.WideShapes Go.ChangeAt Go.RowKit By
open Dk
set_option linter.unusedVariables false
set_option linter.unusedSimpArgs false

theorem own : ownKnob Try.prog.godebug = none := by kernel_rfl
theorem laidOut : laidOutB Try.prog = true := by kernel_rfl

set_option maxHeartbeats 2000000 in
set_option maxRecDepth 100000 in
theorem walk (V : ActV) (w : World) (h : ActIn w V) :
    Calls Try.prog 6 #[.agg #[.int .i64 V.do_, .int .i64 V.at_, .slice V.x V.n V.c, .int .u8 (V.y : Int), .slice V.u V.l V.k]] w fun e w' => e = .returned (.bool true) ∧ Below w.heap.size w w' := by
  obtain ⟨D, N, x, n, c, f, y, u, l, k, hh⟩ := V
  simp only
  clear h
  obtain ⟨cs, hcs⟩ : ∃ cs : Array Value, cs = #[.int .i64 D, .int .i64 N, .slice x n c, .int .u8 (y : Int), .slice u l k] := ⟨_, rfl⟩
  have hb0 : Below w.heap.size w (w.alloc (.cells cs 35)) := (Below.refl _ _).alloc (Nat.le_refl _) _
  rw [hcs] at hb0
  have HB := hid hb0
  have hsz0 : (w.alloc (.cells #[.int .i64 D, .int .i64 N, .slice x n c, .int .u8 (y : Int), .slice u l k] 35)).heap.size = w.heap.size + 1 := by simp
  have Hsz := hid hsz0
  have hcell : ∀ i v, #[Value.int .i64 D, .int .i64 N, .slice x n c, .int .u8 (y : Int), .slice u l k][i]? = some v → (w.alloc (.cells #[.int .i64 D, .int .i64 N, .slice x n c, .int .u8 (y : Int), .slice u l k] 35)).cell? ⟨w.heap.size, i, none⟩ = some v := fun i v hv => by simpa using hv
  have e1 := hcell 1 _ rfl
  have e2 := hcell 2 _ rfl
  have e4 := hcell 4 _ rfl
  have HC : ∀ v, Below (w.alloc (.cells #[.int .i64 D, .int .i64 N, .slice x n c, .int .u8 (y : Int), .slice u l k] 35)).heap.size (w.alloc (.cells #[.int .i64 D, .int .i64 N, .slice x n c, .int .u8 (y : Int), .slice u l k] 35)) v → v.cell? ⟨w.heap.size, 1, none⟩ = some (.int .i64 N) ∧ v.cell? ⟨w.heap.size, 2, none⟩ = some (.slice x n c) ∧ v.cell? ⟨w.heap.size, 4, none⟩ = some (.slice u l k) := fun v hv => by
    have hlt : w.heap.size < (w.alloc (.cells #[.int .i64 D, .int .i64 N, .slice x n c, .int .u8 (y : Int), .slice u l k] 35)).heap.size := by rw [hsz0]; omega
    exact ⟨(hv.cell (p := ⟨w.heap.size, 1, none⟩) hlt).trans e1, (hv.cell (p := ⟨w.heap.size, 2, none⟩) hlt).trans e2, (hv.cell (p := ⟨w.heap.size, 4, none⟩) hlt).trans e4⟩
  have HC' := hid HC
  clear hcell hcs hb0 hsz0 HC e1 e2 e4
  go_enter Try.func6, Try.ntmps6
  go_wp2_with fail
  refine wp_loop_rounds 3 ?_
  rw [rounds_succ]
  go_wp2_with (first
    | (go_at_call 18; refine (nflush _).mono ?_; rintro e w' ⟨rfl, hw⟩; subst w')
    | (go_at_call 19; refine (ncrash _ _ _ _).mono ?_; rintro e w' ⟨rfl, hw⟩; subst w')
    | (go_at_call 12; refine (nread _ _).mono ?_; rintro e w' ⟨rfl, hw⟩; subst w')
    | (go_at_call 16; refine (size_nil _).mono ?_; rintro e w' ⟨rfl, hw⟩; subst w')
    | (go_at_call 17; refine (nwrite _ _ _ _ _).mono ?_; rintro e w' ⟨rfl, hw⟩; subst w')
    | (go_at_call 11; refine (pending_nil _).mono ?_; rintro e w' ⟨rfl, hw⟩; subst w')
    | (go_at_call 20; refine (rot_nil _ _ _).mono ?_; rintro e w' ⟨rfl, hw⟩; subst w')
    | (go_at_call 14; refine (ndump _).mono ?_; rintro e w' ⟨rfl, hw⟩; subst w'))
  generalize w.alloc (.cells #[.int .i64 D, .int .i64 N, .slice x n c, .int .u8 (y : Int), .slice u l k] 35) = wa at *
  have hz : Zero (wa.alloc (.cells #[.slice none 0 0, .slice none 0 0, .slice none 0 0] 53)) wa.heap.size := Blk.new _ _ _ _ _ rfl
  have hb1 : Below wa.heap.size wa (wa.alloc (.cells #[.slice none 0 0, .slice none 0 0, .slice none 0 0] 53)) := (Below.refl _ _).alloc (Nat.le_refl _) _
  have HB1 := hid hb1
  have hF := zflush wa.heap.size _ hz
  clear hz hb1
  rw [rounds_succ]
  go_wp2_with (first
    | (go_at_call 18; refine hF.mono ?_; rintro e w2 ⟨rfl, t2, z2⟩; clear hF
       have b2 := HB1.out.trans (t2.below (B := wa.heap.size) (fun k hk => Nat.le_of_eq hk.symm) HB1.out.size)
       obtain ⟨_, _, g4⟩ := HC'.out _ b2
       have hC := zcrash wa.heap.size l k u w2 z2
       have HB2 := hid b2
       clear t2 z2 b2 HB1)
    | (go_at_call 19; refine hC.mono ?_; rintro e w3 ⟨rfl, t3, z3⟩; clear hC
       have b3 := HB2.out.trans (t3.below (B := wa.heap.size) (fun k hk => Nat.le_of_eq hk.symm) HB2.out.size)
       obtain ⟨g1, g2, _⟩ := HC'.out _ b3
       have hRd := read_no (.pointer (some ⟨wa.heap.size, 0, none⟩)) N w3 (zhas _ N w3 z3)
       have hSz := size_any wa.heap.size 0 0 none w3 (z3.cell (k := 2) (by omega))
       have hWr := write_no (.pointer (some ⟨wa.heap.size, 0, none⟩)) N x n c false w3 (zhas _ N w3 z3) (fun h => by cases h)
       have hPe := pending_any wa.heap.size 0 0 none w3 (z3.cell (k := 1) (by omega))
       have hRo := rot_no wa.heap.size 0 0 none N 1 w3 (z3.cell (k := 0) (by omega)) (by omega)
       have hDu := zdump wa.heap.size w3 z3
       have HB3 := hid b3
       clear t3 z3 b3 HB2 g4)
    | (go_at_call 12; refine hRd.mono ?_; rintro e w' ⟨rfl, hw⟩; subst w'; clear hRd)
    | (go_at_call 16; refine hSz.mono ?_; rintro e w' ⟨rfl, hw⟩; subst w'; clear hSz)
    | (go_at_call 17; refine hWr.mono ?_; rintro e w' ⟨rfl, hw⟩; subst w'; clear hWr)
    | (go_at_call 11; refine hPe.mono ?_; rintro e w' ⟨rfl, hw⟩; subst w'; clear hPe)
    | (go_at_call 20; refine hRo.mono ?_; rintro e w' ⟨rfl, hw⟩; subst w'; clear hRo)
    | (go_at_call 14; refine hDu.mono ?_; rintro e w4 ⟨rfl, hb4⟩; clear hDu; have HB4 := hid hb4; clear hb4))
  rw [rounds_succ]
  go_wp2_with ((go_at_call 9; refine (awake_any _).mono ?_; rintro e w5 ⟨rfl, hb5⟩))
  go_ret
  have q1 : Below w.heap.size w w3 := HB.out.trans (HB3.out.mono HB.out.size)
  have q2 := q1.trans (HB4.out.mono q1.size)
  exact ⟨rfl, q2.trans (hb5.mono q2.size)⟩

set_option maxRecDepth 100000 in
theorem lifted (os : Os) (started : os.Started) (H : Type) (enc : TypeId × Value → H) :
    ReturnsInHanded {} Try.checked os 6 .any (Rows.diskNobodySpec.pre6 enc Try.prog Try.f6 Rows.diskNobodyRow.domain false) (Rows.diskNobodySpec.post enc Try.prog Try.f6 false true false false) := by
  refine returnsInHanded_of_change_sized (C := Try.checked) own started (by kernel_rfl) Try.func6
    (ChangeSpec.witness6 (enc := enc) (C := Try.checked) false ⟨#[], #[.agg #[.int .i64 0, .int .i64 0, .slice none 0 0, .int .u8 0, .slice none 0 0]], []⟩ 8 (by kernel_rfl) (by kernel_rfl) (by kernel_rfl) (by kernel_rfl)) ?_
  intro W base args ds gs before hval0 hW hcnd hsz0 _
  have hsz : (DataW.weightsEach Try.prog (Try.f6.params.toList ++ Rows.diskNobodySpec.plain.varTypes Try.prog) (ds ++ gs)).all (· ≤ reachBytes) = true := hsz0
  have hval : ∀ (j : Nat) t v, Try.f6.params[j]? = some t → args[j]? = some v → Value.okWide Try.prog W .any base t v := hval0
  have hW' := hW
  obtain ⟨p, q, hA0, hV, rfl, hfz, hnd⟩ := hW
  have hA : DataW.TrodAll enc Try.prog W 0 (fun _ => true) true Try.f6.params.toList args.toList ds p := hA0
  rw [Try.params6] at hA hval hsz
  obtain ⟨v0, vs0, d0, ds0, p0, q0, hargs, rfl, rfl, h0, r0⟩ := trodAll_cons hA
  obtain ⟨rfl, rfl, rfl⟩ := trodAll_nil r0
  obtain rfl : args = #[v0] := by cases args; simp_all
  obtain ⟨rfl, rfl⟩ := trodVars_none hV
  have k0 := h0
  have lt0 : ∀ x ∈ p0, x.block < W.heap.size := by obtain ⟨m, hm⟩ := k0; exact DataW.trod_lt m _ _ _ hm
  have s0 : ∀ x ∈ d0.weights Try.prog 35, x ≤ reachBytes := fun x hx => by
    have := List.all_eq_true.1 hsz x (DataW.weights_mem_each (j := 0) rfl rfl x hx)
    simpa using this
  obtain ⟨V0, rfl, w0⟩ := act_in (okWide_struct Try.underlying35 (hval 0 35 v0 rfl rfl)) h0 s0
  clear hA0 hval0
  refine (walk V0 W w0).mono fun e W' ⟨he, bel⟩ => ?_
  subst he
  exact ⟨_, rfl, _, _, _, [], _, [], hW', trodAll_mk1 (shut_bool Try.underlying4 _), (trodAll_cons_mk (Below.trod laidOut (by kernel_rfl) (of_decide_eq_true (by kernel_rfl)) k0 bel lt0) trodAll_mk0), rfl, bel.frame _, fun h => by cases h⟩

theorem over : Rows.diskNobodyRow.holds Try.pinned (OpenSpec.ofChange Rows.diskNobodySpec) :=
  OpenClaim.holds_of_wide 6 Try.f6 rfl rfl rfl rfl rfl rfl rfl ⟨rfl, rfl, rfl, rfl, rfl⟩ rfl rfl rfl rfl rfl (by kernel_rfl) Try.func6 (by kernel_rfl)
    (of_decide_eq_true (by kernel_rfl)) (by unfold Func.isWrapper; first | (rw [if_pos (by decide +kernel)]; kernel_rfl) | (rw [if_neg (by decide +kernel)]; exact ⟨rfl, rfl⟩))
    (fun os started H enc _ => lifted os started H enc)

theorem proved : Rows.DiskNobodySaid := over
#print axioms proved
end Go.Proofs.Ytaaeppbkbkfphaa.diskNobody

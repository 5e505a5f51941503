/-
  PeerChooses: what any infos come to.
  Conditions: none.
-/
import Derived.Test.YtgcjecmgjncclaaRows
import Derived.WalkKit
import Derived.ProofKit
import Derived.OpenShut
import Derived.SizedLaws
import Derived.ShutString
import Derived.ChangeOld
import Derived.Below
import Derived.Test.YtgcjecmgjncclaaByRows
import Derived.Test.YtgcjecmgjncclaaPeItem
import Derived.Test.YtgcjecmgjncclaaPeAwake
namespace Go.Proofs.Ytgcjecmgjncclaa.peerChooses
open Go.ChangeShapes Go.WideShapes Go.ChangeAt Go.RowKit By
open Fl Pz Pe
attribute [local go_sem] Oper.semAt_some
set_option linter.unusedVariables false
set_option linter.unusedSimpArgs false
set_option maxRecDepth 100000

theorem own : ownKnob Try.prog.godebug = none := by kernel_rfl
theorem laidOut : laidOutB Try.prog = true := by kernel_rfl

set_option maxHeartbeats 6400000 in
theorem walk (x : Option Addr) (n c : Nat) (L : List JV) (y : Option Addr) (m d : Nat) (I : List FV) (k : Int) (w : World) (hL : Lis enJ 6 JAt w (fun _ => True) x n c L) (_ : n * 96 ≤ 140737488351232) (hI : Lis enF 5 FIn w (fun _ => True) y m d I) (_ : m * 56 ≤ 140737488351232) :
    Calls Try.prog 4 #[.slice x n c, .slice y m d, .int .i64 k] w fun e w' => e = .returned (.bool true) ∧ Below w.heap.size w w' := by
  obtain ⟨hF, hos⟩ := fin_fs hI
  have C1 := pchoose_any k hL hF hos (by omega)
  have C2 : Hid (∀ W, Below w.heap.size w W → Calls Try.prog 14 #[.slice x n c, .slice y m d, .int .i64 k] W fun e w' => RC W (chooseP (L.map pJ) (I.map pF) k) e w') := hid fun W hW => rchoose_any k (Js.below hL hW) (Fs.below hF hW) hos
  generalize chooseP (L.map pJ) (I.map pF) k = PP at *
  clear hL hI hF hos
  go_enter Try.func4, Try.ntmps4
  go_upto_region 2 with (go_at_call 13; refine C1.mono ?_; rintro e wa ⟨v, z, rfl, HV⟩; unfold vC; clear C1)
  obtain ⟨p, hp⟩ : ∃ p, p = wa.heap.size := ⟨_, rfl⟩
  obtain ⟨wb, hwb⟩ : ∃ wb, wb = wa.alloc (.cells #[.int .i64 v.kind, .int .i64 v.si, .int .i64 v.he, .slice v.x v.n v.c] 35) := ⟨_, rfl⟩
  have bb : Below wa.heap.size wa wb := by rw [hwb]; exact al _ _
  have gb : wb.heap[p]? = some (.cells #[.int .i64 v.kind, .int .i64 v.si, .int .i64 v.he, .slice v.x v.n v.c] 35 (0, 0)) := by rw [hwb, hp]; exact heap_alloc_new _ _
  rw [← hwb, ← hp]
  have HBb := hid (on HV.out.2.2 bb)
  have HGb := hid gb
  have HCa : Hid (CAt wb (New w wa) v) := hid (CAt.below HV.out.1 bb)
  clear hp hwb bb gb
  go_upto_region 3 with (go_at_call 14; refine (C2.out wb HBb.out).mono ?_; rintro e wc ⟨u, y, rfl, HU⟩; unfold vC)
  obtain ⟨q, hq⟩ : ∃ q, q = wc.heap.size := ⟨_, rfl⟩
  obtain ⟨wd, hwd⟩ : ∃ wd, wd = wc.alloc (.cells #[.int .i64 u.kind, .int .i64 u.si, .int .i64 u.he, .slice u.x u.n u.c] 35) := ⟨_, rfl⟩
  have bd : Below wc.heap.size wc wd := by rw [hwd]; exact al _ _
  have gd : wd.heap[q]? = some (.cells #[.int .i64 u.kind, .int .i64 u.si, .int .i64 u.he, .slice u.x u.n u.c] 35 (0, 0)) := by rw [hwd, hq]; exact heap_alloc_new _ _
  rw [← hwd, ← hq]
  have bcd := on HU.out.2.2 bd
  have HBd := hid (on HBb.out bcd)
  have gp := (bcd.block p (lt_heap HGb.out)).trans HGb.out
  have e1 := HV.out.2.1
  have e2 := HU.out.2.1
  have ez : z = y := congrArg Prod.snd (e1.trans e2.symm)
  have ec : pC v = pC u := congrArg Prod.fst (e1.trans e2.symm)
  have cS := same_any (CAt.below HCa.out bcd) (CAt.below HU.out.1 bd)
  rw [(sameC_iff _ _).2 ec] at cS
  have HA := hid awake_any
  obtain ⟨p0, p1, p2, p3⟩ := ccells gp
  obtain ⟨q0, q1, q2, q3⟩ := ccells gd
  have hzy : (z == y) = true := by simp [ez]
  unfold vC at cS
  clear hq hwd bd gd gp e1 e2 ez ec bcd C2 HV HU
  go_wp2_with (first
    | (go_at_call 15; refine cS.mono ?_; rintro e we ⟨rfl, hb⟩; have HBe := hid hb; clear hb cS)
    | (go_at_call 12; refine (HA.out we).mono ?_; rintro e wf ⟨rfl, hb⟩; have HBf := hid hb; clear hb))
  go_ret
  exact ⟨rfl, on HBd.out (on HBe.out HBf.out)⟩

set_option maxRecDepth 100000 in
theorem lifted (os : Os) (started : os.Started) (H : Type) (enc : TypeId × Value → H) :
    ReturnsInHanded {} Try.checked os 4 .any (Rows.peerChoosesSpec.pre6 enc Try.prog Try.f4 Rows.peerChoosesRow.domain false) (Rows.peerChoosesSpec.post enc Try.prog Try.f4 false true false false) := by
  refine returnsInHanded_of_change_sized (C := Try.checked) own started (by kernel_rfl) Try.func4
    (ChangeSpec.witness6 (enc := enc) (C := Try.checked) false ⟨#[], #[.slice none 0 0, .slice none 0 0, .int .i64 0], []⟩ 8 (by kernel_rfl) (by kernel_rfl) (by kernel_rfl) (by kernel_rfl)) ?_
  intro W base args ds gs before hval0 hW hcnd hsz0 _
  have hsz : (DataW.weightsEach Try.prog (Try.f4.params.toList ++ Rows.peerChoosesSpec.plain.varTypes Try.prog) (ds ++ gs)).all (· ≤ reachBytes) = true := hsz0
  have hval : ∀ (j : Nat) t v, Try.f4.params[j]? = some t → args[j]? = some v → Value.okWide Try.prog W .any base t v := hval0
  have hW' := hW
  obtain ⟨p, q, hA0, hV, rfl, hfz, hnd⟩ := hW
  have hA : DataW.TrodAll enc Try.prog W 0 (fun _ => true) true Try.f4.params.toList args.toList ds p := hA0
  rw [Try.params4] at hA hval hsz
  obtain ⟨v0, vs0, d0, ds0, p0, q0, hargs, rfl, rfl, h0, r0⟩ := trodAll_cons hA
  obtain ⟨v1, vs1, d1, ds1, p1, q1, rfl, rfl, rfl, h1, r1⟩ := trodAll_cons r0
  obtain ⟨v2, vs2, d2, ds2, p2, q2, rfl, rfl, rfl, h2, r2⟩ := trodAll_cons r1
  obtain ⟨rfl, rfl, rfl⟩ := trodAll_nil r2
  obtain rfl : args = #[v0, v1, v2] := by cases args; simp_all
  obtain ⟨rfl, rfl⟩ := trodVars_none hV
  have k0 := h0
  have lt0 : ∀ x ∈ p0, x.block < W.heap.size := by obtain ⟨m, hm⟩ := k0; exact DataW.trod_lt m _ _ _ hm
  have s0 : ∀ x ∈ d0.weights Try.prog 32, x ≤ reachBytes := fun x hx => by
    have := List.all_eq_true.1 hsz x (DataW.weights_mem_each (j := 0) rfl rfl x hx)
    simpa using this
  obtain ⟨b0, nn0, cc0, rfl⟩ := okWide_slice Try.underlying32 (hval 0 32 v0 rfl rfl)
  obtain ⟨fu0, hf0⟩ := h0
  obtain ⟨a0, len0, cap0, V0, e0, w0, m0⟩ := Pe.itvs_in hf0 s0
  simp [Value.cells] at e0
  obtain ⟨rfl, rfl, rfl⟩ := e0
  have k1 := h1
  have lt1 : ∀ x ∈ p1, x.block < W.heap.size := by obtain ⟨m, hm⟩ := k1; exact DataW.trod_lt m _ _ _ hm
  have s1 : ∀ x ∈ d1.weights Try.prog 33, x ≤ reachBytes := fun x hx => by
    have := List.all_eq_true.1 hsz x (DataW.weights_mem_each (j := 1) rfl rfl x hx)
    simpa using this
  obtain ⟨b1, nn1, cc1, rfl⟩ := okWide_slice Try.underlying33 (hval 1 33 v1 rfl rfl)
  obtain ⟨fu1, hf1⟩ := h1
  obtain ⟨a1, len1, cap1, V1, e1, w1, m1⟩ := Pe.infos_in hf1 s1
  simp [Value.cells] at e1
  obtain ⟨rfl, rfl, rfl⟩ := e1
  obtain ⟨a2, rfl, rfl, rfl, w2⟩ := open_int Try.underlying3 (hval 2 3 v2 rfl rfl) h2
  clear hA0 hval0
  refine (walk b0 nn0 cc0 V0 b1 nn1 cc1 V1 a2 W w0 m0 w1 m1).mono fun e W' ⟨he, bel⟩ => ?_
  subst he
  exact ⟨_, rfl, _, _, _, [], _, [], hW', trodAll_mk1 (shut_bool Try.underlying4 _), (trodAll_cons_mk (Below.trod laidOut (by kernel_rfl) (of_decide_eq_true (by kernel_rfl)) k0 bel lt0) (trodAll_cons_mk (Below.trod laidOut (by kernel_rfl) (of_decide_eq_true (by kernel_rfl)) k1 bel lt1) (trodAll_cons_mk (shut_int Try.underlying3 w2) trodAll_mk0))), rfl, bel.frame _, fun h => by cases h⟩

theorem over : Rows.peerChoosesRow.holds Try.pinned (OpenSpec.ofChange Rows.peerChoosesSpec) :=
  OpenClaim.holds_of_wide 4 Try.f4 rfl rfl rfl rfl rfl rfl rfl ⟨rfl, rfl, rfl, rfl, rfl⟩ rfl rfl rfl rfl rfl (by kernel_rfl) Try.func4 (by kernel_rfl)
    (of_decide_eq_true (by kernel_rfl)) (by unfold Func.isWrapper; first | (rw [if_pos (by decide +kernel)]; kernel_rfl) | (rw [if_neg (by decide +kernel)]; exact ⟨rfl, rfl⟩))
    (fun os started H enc _ => lifted os started H enc)

theorem proved : Rows.PeerChoosesSaid := over
#print axioms proved
end Go.Proofs.Ytgcjecmgjncclaa.peerChooses

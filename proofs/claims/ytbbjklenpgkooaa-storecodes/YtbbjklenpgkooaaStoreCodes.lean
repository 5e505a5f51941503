/-
  A batch's bytes are the document's, and are read back as that batch: 'mooringlaw09.StoreCodes' returns true and leaves its argument as it was.
  Conditions: none.
-/
import Derived.Test.YtbbjklenpgkooaaRows
import Derived.WalkKit
import Derived.ProofKit
import Derived.OpenShut
import Derived.SizedLaws
import Derived.ShutString
import Derived.ChangeOld
import Derived.Below
import Derived.Test.YtbbjklenpgkooaaJ01
import Derived.Test.YtbbjklenpgkooaaJ11
import Derived.ChangeMaps5
import Derived.Test.YtbbjklenpgkooaaJ14
import Derived.Test.YtbbjklenpgkooaaJ15
namespace Go.Proofs.Ytbbjklenpgkooaa.storeCodes
open Go.ChangeShapes Go.WideShapes Go.ChangeAt Go.RowKit By Go.ChangeMaps
open Wi St
set_option linter.unusedVariables false
set_option linter.unusedSimpArgs false
set_option maxRecDepth 100000

theorem own : ownKnob Try.prog.godebug = none := by kernel_rfl
theorem laidOut : laidOutB Try.prog = true := by kernel_rfl

set_option maxHeartbeats 1000000 in
theorem walk (a : Option Addr) (len cap : Nat) (V : Nat → AV) (w : World) (h : ActsIn w a len cap V) :
    Calls Try.prog 3 #[.slice a len cap] w fun e w' => e = .returned (.bool true) ∧ Below w.heap.size w w' := by
  obtain ⟨c, o, hS⟩ := enc_says (pas V len)
  have hl : len ≤ 140737488351232 := by have := h.small; omega
  have hE := encode_any a len cap V w h.at_ hl c o hS
  have HR : Hid (∀ v x m cx, EncTold w v x m cx o → Calls Try.prog 6 #[.slice a len cap] v fun e v2 => ∃ y m2 c2, e = .returned (.tuple #[.slice y m2 c2, .int .i64 (c : Int)]) ∧ (convert 23 9 (.slice x m cx)).run Try.prog v2 = .ok (.string (str o)) v2 ∧ (convert 23 9 (.slice y m2 c2)).run Try.prog v2 = .ok (.string (str o)) v2 ∧ Hid (Below w.heap.size w v2 ∧ Sl v2 x m cx o)) := fun v x m cx hT => by
    refine (rencode_any a len cap V v (h.at_.below hT.2.2) hl c o hS).mono fun e v2 ⟨y, m2, c2, h1, h2⟩ => ⟨y, m2, c2, h1, conv_sl (hT.1.below h2.2.2), conv_sl h2.1, hT.2.2.trans (h2.2.2.mono hT.2.2.size), hT.1.below h2.2.2⟩
  by_cases hc : c = 0
  · subst hc
    have HD : Hid (∀ v x m cx, Below w.heap.size w v → Sl v x m cx o → Calls Try.prog 8 #[.slice x m cx] v fun e v2 => ∃ a2 c2, e = .returned (.tuple #[.slice a2 len c2, .int .i64 0]) ∧
        Calls Try.prog 9 #[.slice a2 len c2, .slice a len cap] v2 fun e v3 => e = .returned (.bool true) ∧ Hid (Below w.heap.size w v3)) := fun v x m cx hb hs => by
      have hyes : (pas V len).length ≤ 256 ∧ okL (pas V len) ∧ o = enc (pas V len) ∧ o.length ≤ 13005 := by
        rcases hS with ⟨_, q, _⟩ | ⟨_, _, q, _⟩ | ⟨q0, q, _, q2⟩
        · cases q
        · cases q
        · exact ⟨q0.1, q0.2, q2, by rw [q2]; exact q⟩
      obtain ⟨y1, y2, y3, y4⟩ := hyes
      have hm : m ≤ 13005 := by rw [← hs.len]; exact y4
      refine (decode_any x m cx o v hs (by omega) 0 (pas V len) (by rw [y3]; exact dec_enc y1 y2 (by rw [← y3]; exact y4))).mono fun e v2 ⟨a2, m2, c2, V2, h1, h2, h3, _, h4⟩ => ?_
      have hml : m2 = len := by
        have := congrArg List.length h3
        rwa [pas_len, pas_len] at this
      subst hml
      have hb2 : Below w.heap.size w v2 := hb.trans (h4.2.2.2.mono hb.size)
      exact ⟨a2, c2, h1, (rsame_yes a2 a m2 c2 cap V2 V v2 h4.1 (h.at_.below hb2) h3 hl).mono fun e v3 ⟨e3, b3⟩ => ⟨e3, hb2.trans (b3.mono hb2.size)⟩⟩
    clear hS h
    generalize str o = So at *
    go_enter Try.func3, Try.ntmps3
    go_wp2_with (first
      | (go_at_call 5; refine hE.mono ?_; rintro e w1 ⟨x, m, cx, rfl, hT⟩; clear hE
         have hR := HR.out w1 x m cx hT
         clear HR hT)
      | (go_at_call 6; refine hR.mono ?_; rintro e w2 ⟨y, m2, c2, rfl, k1, k2, HB⟩; clear hR
         have hD := HD.out w2 x m cx HB.out.1 HB.out.2
         clear HD)
      | (go_at_call 8; refine hD.mono ?_; rintro e w3 ⟨a2, ca2, rfl, hSm⟩; clear hD)
      | (go_at_call 9; refine hSm.mono ?_; rintro e w4 ⟨rfl, HB4⟩; clear hSm)
      | (go_at_call 7; refine (sawake _).mono ?_; rintro e w9 ⟨rfl, hb9⟩))
    go_ret
    exact ⟨rfl, HB4.out.trans (hb9.mono HB4.out.size)⟩
  · have hne : ((c : Int) != 0) = true := by simp; omega
    clear hS h hc
    generalize str o = So at *
    go_enter Try.func3, Try.ntmps3
    go_wp2_with (first
      | (go_at_call 5; refine hE.mono ?_; rintro e w1 ⟨x, m, cx, rfl, hT⟩; clear hE
         have hR := HR.out w1 x m cx hT
         clear HR hT)
      | (go_at_call 6; refine hR.mono ?_; rintro e w2 ⟨y, m2, c2, rfl, k1, k2, HB⟩; clear hR)
      | (go_at_call 7; refine (sawake _).mono ?_; rintro e w9 ⟨rfl, hb9⟩))
    go_ret
    exact ⟨rfl, HB.out.1.trans (hb9.mono HB.out.1.size)⟩

set_option maxRecDepth 100000 in
theorem lifted (os : Os) (started : os.Started) (H : Type) (enc : TypeId × Value → H) :
    ReturnsInHanded {} Try.checked os 3 .any (Rows.storeCodesSpec.pre6 enc Try.prog Try.f3 Rows.storeCodesRow.domain false) (Rows.storeCodesSpec.post enc Try.prog Try.f3 false true false false) := by
  refine returnsInHanded_of_change_sized (C := Try.checked) own started (by kernel_rfl) Try.func3
    (ChangeSpec.witness6 (enc := enc) (C := Try.checked) false ⟨#[], #[.slice none 0 0], []⟩ 8 (by kernel_rfl) (by kernel_rfl) (by kernel_rfl) (by kernel_rfl)) ?_
  intro W base args ds gs before hval0 hW hcnd hsz0 _
  have hsz : (DataW.weightsEach Try.prog (Try.f3.params.toList ++ Rows.storeCodesSpec.plain.varTypes Try.prog) (ds ++ gs)).all (· ≤ reachBytes) = true := hsz0
  have hval : ∀ (j : Nat) t v, Try.f3.params[j]? = some t → args[j]? = some v → Value.okWide Try.prog W .any base t v := hval0
  have hW' := hW
  obtain ⟨p, q, hA0, hV, rfl, hfz, hnd⟩ := hW
  have hA : DataW.TrodAll enc Try.prog W 0 (fun _ => true) true Try.f3.params.toList args.toList ds p := hA0
  rw [Try.params3] at hA hval hsz
  obtain ⟨v0, vs0, d0, ds0, p0, q0, hargs, rfl, rfl, h0, r0⟩ := trodAll_cons hA
  obtain ⟨rfl, rfl, rfl⟩ := trodAll_nil r0
  obtain rfl : args = #[v0] := by cases args; simp_all
  obtain ⟨rfl, rfl⟩ := trodVars_none hV
  have k0 := h0
  have lt0 : ∀ x ∈ p0, x.block < W.heap.size := by obtain ⟨m, hm⟩ := k0; exact DataW.trod_lt m _ _ _ hm
  have s0 : ∀ x ∈ d0.weights Try.prog 22, x ≤ reachBytes := fun x hx => by
    have := List.all_eq_true.1 hsz x (DataW.weights_mem_each (j := 0) rfl rfl x hx)
    simpa using this
  obtain ⟨b0, nn0, cc0, rfl⟩ := okWide_slice Try.underlying22 (hval 0 22 v0 rfl rfl)
  obtain ⟨fu0, hf0⟩ := h0
  obtain ⟨a0, len0, cap0, V0, e0, w0⟩ := pacts_in hf0 s0
  simp [Value.cells] at e0
  obtain ⟨rfl, rfl, rfl⟩ := e0
  clear hA0 hval0
  refine (walk b0 nn0 cc0 V0 W w0).mono fun e W' ⟨he, bel⟩ => ?_
  subst he
  exact ⟨_, rfl, _, _, _, [], _, [], hW', trodAll_mk1 (shut_bool Try.underlying4 _), (trodAll_cons_mk (Below.trod laidOut (by kernel_rfl) (of_decide_eq_true (by kernel_rfl)) k0 bel lt0) trodAll_mk0), rfl, bel.frame _, fun h => by cases h⟩

theorem over : Rows.storeCodesRow.holds Try.pinned (OpenSpec.ofChange Rows.storeCodesSpec) :=
  OpenClaim.holds_of_wide 3 Try.f3 rfl rfl rfl rfl rfl rfl rfl ⟨rfl, rfl, rfl, rfl, rfl⟩ rfl rfl rfl rfl rfl (by kernel_rfl) Try.func3 (by kernel_rfl)
    (of_decide_eq_true (by kernel_rfl)) (by unfold Func.isWrapper; first | (rw [if_pos (by decide +kernel)]; kernel_rfl) | (rw [if_neg (by decide +kernel)]; exact ⟨rfl, rfl⟩))
    (fun os started H enc _ => lifted os started H enc)

theorem proved : Rows.StoreCodesSaid := over
#print axioms proved
end Go.Proofs.Ytbbjklenpgkooaa.storeCodes

/-
  Of nobody's disk there is no store, and one that nobody opened has nothing: 'mooringlaw09.StoreNobody' returns true and leaves its arguments as they were.
  Conditions: none.
-/
import Derived.Test.YtbbjklenpgkooaaRows
import Derived.WalkKit
import Derived.ProofKit
import Derived.OpenShut
import Derived.SizedLaws
import Derived.ShutString
import Derived.ChangeOld
import Derived.Below
import Derived.Test.YtbbjklenpgkooaaJ01
import Derived.Test.YtbbjklenpgkooaaJ11
import Derived.ChangeMaps5
import Derived.Test.YtbbjklenpgkooaaJ14
namespace Go.Proofs.Ytbbjklenpgkooaa.storeNobody
open Go.ChangeShapes Go.WideShapes Go.ChangeAt Go.RowKit By Go.ChangeMaps
open Dk Wi St Go.Shelf
attribute [local go_sem] Oper.semAt_some
set_option linter.unusedVariables false
set_option linter.unusedSimpArgs false
set_option maxRecDepth 100000

theorem own : ownKnob Try.prog.godebug = none := by kernel_rfl
theorem laidOut : laidOutB Try.prog = true := by kernel_rfl

theorem jopen_no (w : World) : Calls Try.prog 29 #[.pointer none] w fun e w' => e = .returned (.tuple #[.pointer none, .int .i64 1]) ∧ w' = w := by
  have hS : Calls Try.prog 50 #[.pointer none] w fun e w' => e = .returned (.int .i64 ((0 : Nat) : Int)) ∧ w' = w := size_nil w
  go_enter Try.func29, Try.ntmps29
  go_wp2_with ((go_at_call 50; refine hS.mono ?_; rintro e w' ⟨rfl, hw⟩; subst w'; clear hS))
  go_ret2
  exact ⟨rfl, rfl⟩

theorem open_no (w : World) : Calls Try.prog 10 #[.pointer none] w fun e w' => e = .returned (.tuple #[.pointer none, .int .i64 1]) ∧ w' = w := by
  have hJ := jopen_no w
  go_enter Try.func10, Try.ntmps10
  go_wp2_with ((go_at_call 29; refine hJ.mono ?_; rintro e w' ⟨rfl, hw⟩; subst w'; clear hJ))
  go_ret2
  exact ⟨rfl, rfl⟩

def Shut (v : Option Addr) (w : World) : Prop := v = none ∨ ∃ g, v = some ⟨g, 0, none⟩ ∧ w.cell? ⟨g, 0, none⟩ = some (.pointer none)

theorem Shut.below {v : Option Addr} {w w' : World} (h : Shut v w) (hb : Below w.heap.size w w') : Shut v w' := by
  rcases h with h | ⟨g, h1, h2⟩
  · exact .inl h
  · exact .inr ⟨g, h1, (hb.cell (p := ⟨g, 0, none⟩) (cell_lt' h2)).trans h2⟩

theorem shut_open {v : Option Addr} {w : World} (h : Shut v w) : Calls Try.prog 34 #[.pointer v] w fun e w' => e = .returned (.bool false) ∧ w' = w := by
  rcases h with rfl | ⟨g, rfl, h2⟩
  · go_enter Try.func34, Try.ntmps34
    go_wp2_with fail
    go_ret
    exact ⟨rfl, rfl⟩
  · go_enter Try.func34, Try.ntmps34
    go_wp2_with fail
    go_ret
    exact ⟨rfl, rfl⟩

theorem shut_get {v : Option Addr} {w : World} (h : Shut v w) (s : ByteArray) : Calls Try.prog 11 #[.pointer v, .string s] w fun e w' => e = .returned (.tuple #[.slice none 0 0, .bool false]) ∧ w' = w := by
  have hO := shut_open h
  clear h
  go_enter Try.func11, Try.ntmps11
  go_wp2_with (go_at_call 34; refine hO.mono ?_; rintro e w' ⟨rfl, hw⟩; subst w'; clear hO)
  go_ret2
  exact ⟨rfl, rfl⟩

theorem shut_apply {v : Option Addr} {w : World} (h : Shut v w) (a : Option Addr) (n c : Nat) : Calls Try.prog 12 #[.pointer v, .slice a n c] w fun e w' => e = .returned (.int .i64 1) ∧ w' = w := by
  have hO := shut_open h
  clear h
  go_enter Try.func12, Try.ntmps12
  go_wp2_with (go_at_call 34; refine hO.mono ?_; rintro e w' ⟨rfl, hw⟩; subst w'; clear hO)
  go_ret
  exact ⟨rfl, rfl⟩

theorem shut_len {v : Option Addr} {w : World} (h : Shut v w) : Calls Try.prog 13 #[.pointer v] w fun e w' => e = .returned (.int .i64 0) ∧ w' = w := by
  have hO := shut_open h
  clear h
  go_enter Try.func13, Try.ntmps13
  go_wp2_with (go_at_call 34; refine hO.mono ?_; rintro e w' ⟨rfl, hw⟩; subst w'; clear hO)
  go_ret
  exact ⟨rfl, rfl⟩

theorem shut_batches {v : Option Addr} {w : World} (h : Shut v w) : Calls Try.prog 15 #[.pointer v] w fun e w' => e = .returned (.int .i64 0) ∧ w' = w := by
  have hO := shut_open h
  clear h
  go_enter Try.func15, Try.ntmps15
  go_wp2_with (go_at_call 34; refine hO.mono ?_; rintro e w' ⟨rfl, hw⟩; subst w'; clear hO)
  go_ret
  exact ⟨rfl, rfl⟩

theorem shut_all1 {v : Option Addr} {w : World} (h : Shut v w) (l : Nat) (Bs Bp : Nat) (hB : w.cell? ⟨Bs, 0, none⟩ = some (.pointer v)) :
    Calls Try.prog 43 #[.func (.yield l) #[] #[], .pointer (some ⟨Bs, 0, none⟩), .pointer (some ⟨Bp, 0, none⟩)] w fun e w' => e = .returned (.tuple #[]) ∧ w' = w := by
  have hO := shut_open h
  clear h
  go_enter Try.func43, Try.ntmps43
  go_wp2_with (go_at_call 34; refine hO.mono ?_; rintro e w' ⟨rfl, hw⟩; subst w'; clear hO)
  refine bodyPost_ret (results_none rfl _ _ _) rfl ?_
  exact ⟨rfl, rfl⟩

theorem shut_stops {v : Option Addr} {w : World} (h : Shut v w) (n : Nat) (Bs Bp : Nat) (hB : w.cell? ⟨Bs, 0, none⟩ = some (.pointer v)) (Kp : World → World → Prop) :
    SeqStopsK Fence.wide n Try.prog 43 #[.pointer (some ⟨Bs, 0, none⟩), .pointer (some ⟨Bp, 0, none⟩)] (fun _ : Unit => #[Value.string ⟨#[]⟩, Value.slice none 0 0]) Kp (fun ys => ys = []) (fun _ => False) 0 w := fun l J Jx W hW _ _ hY h0 => by
  refine callsIn_wide.2 ?_
  exact (shut_all1 (h.below hW) l Bs Bp ((hW.cell (p := ⟨Bs, 0, none⟩) (cell_lt' hB)).trans hB)).mono fun e W' ⟨e1, e2⟩ => ⟨⟨_, e1⟩, .inl ⟨[], rfl, by rw [e2]; exact h0⟩⟩

set_option maxHeartbeats 2000000 in
theorem shut_many {v : Option Addr} {w : World} (h : Shut v w) : Calls Try.prog 14 #[.pointer v] w fun e w' => e = .returned (.int .i64 0) ∧ Below w.heap.size w w' := by
  have hM := all_make v ⟨#[]⟩ (w.alloc (.cells #[.int .i64 0] 3))
  refine (callsIn_wide (n := 5)).1 ?_
  refine callsIn_of_wp_marks Try.func14 rfl trivial ?_ rfl
  refine wpIn_wide.2 ?_
  simp only [Try.ntmps14, List.size_toArray, List.length_cons, List.length_nil, Nat.reduceAdd, Nat.reduceSub, Array.replicate_succ, Array.replicate_zero, List.push_toArray, List.append_toArray, List.nil_append, List.cons_append]
  go_wp2_with (go_at_call 24; refine hM.mono ?_; rintro e w' ⟨rfl, hw⟩; subst w'; clear hM)
  have bN := ((Boxed.new w 3 (.int .i64 0)).alloc (.cells #[.pointer v] 32)).alloc (.cells #[.string ⟨#[]⟩] 9)
  have bS := (Boxed.new (w.alloc (.cells #[.int .i64 0] 3)) 32 (.pointer v)).alloc (.cells #[.string ⟨#[]⟩] 9)
  simp only [World.size_alloc] at bS
  have hB0 : Below w.heap.size w (((w.alloc (.cells #[.int .i64 0] 3)).alloc (.cells #[.pointer v] 32)).alloc (.cells #[.string ⟨#[]⟩] 9)) := (((Below.refl _ w).alloc (Nat.le_refl _) _).alloc (by simp) _).alloc (by simp; omega) _
  have hsz : (((w.alloc (.cells #[.int .i64 0] 3)).alloc (.cells #[.pointer v] 32)).alloc (.cells #[.string ⟨#[]⟩] 9)).heap.size = w.heap.size + 3 := by simp
  obtain ⟨W0, hW0⟩ : ∃ W0, ((w.alloc (.cells #[.int .i64 0] 3)).alloc (.cells #[.pointer v] 32)).alloc (.cells #[.string ⟨#[]⟩] 9) = W0 := ⟨_, rfl⟩
  rw [hW0] at bN bS hB0 hsz ⊢
  clear hW0
  refine (wpIn_wide (n := 5)).1 ?_
  refine wpIn_rangeFunc_ownG rfl (by omega) (gf := 43) (lb := #[.pointer (some ⟨w.heap.size + 1, 0, none⟩), .pointer (some ⟨w.heap.size + 1 + 1, 0, none⟩)]) rfl trivial (enters_of Try.func43 (by kernel_rfl) rfl)
    (shut_stops (h.below hB0) _ (w.heap.size + 1) (w.heap.size + 1 + 1) bS.cell (Below W0.heap.size)) belowK_t (belowK_b (Nat.le_refl _)) (Below.refl _ _) (fun _ => rfl)
    (fun pre W => Below W0.heap.size W0 W)
    (fun _ _ _ => False)
    (ownFrom_below (Nat.le_refl _) (Nat.le_refl _))
    (fun _ _ _ _ _ hs _ _ => hs)
    (Below.refl _ _)
    (fun x => { tmps := #[.pointer v, undef, .int .i64 0, .pointer (some ⟨w.heap.size, 0, none⟩), .pointer v, .func (.func 43) #[] #[.pointer (some ⟨w.heap.size + 1, 0, none⟩), .pointer (some ⟨w.heap.size + 1 + 1, 0, none⟩)], .string ⟨#[]⟩, .slice none 0 0, undef, undef, undef], defers := [] }) ?assign ?body ?done ?stop
  case assign =>
    intro l x W K hK
    gi_wp2
    simpa using hK
  case body =>
    rintro l pre x W _ hlt
    exact absurd hlt (Nat.not_lt_zero _)
  case done =>
    rintro D ys W hD rfl q4 hK
    have hbW : Below w.heap.size w W := hB0.trans (q4.mono (by omega))
    have bN' : Boxed W w.heap.size 3 (.int .i64 0) := (q4.block w.heap.size (by omega)).trans bN
    have hnc := bN'.cell
    have HF := hid (And.intro hbW hK)
    clear hbW bN' q4 hK
    go_wp2_with fail
    obtain ⟨z1, z2⟩ := HF.out
    refine ⟨by simp, .inl ⟨_, _, rfl, run_takeDeferred z2, ?_⟩⟩
    exact ⟨_, results_tmp rfl _ _ _, rfl, z1.trans (belowK_b (w := w) (Nat.le_refl _) W D _ _ (by omega) z2 rfl rfl)⟩
  case stop =>
    rintro D c pre W _ h _ _
    exact h.elim

set_option maxHeartbeats 2000000 in
theorem walk (a : Option Addr) (len cap : Nat) (V : Nat → AV) (s : ByteArray) (w : World) (h : ActsIn w a len cap V) (hs : s.size ≤ 140737488351232) :
    Calls Try.prog 4 #[.slice a len cap, .string s] w fun e w' => e = .returned (.bool true) ∧ Below w.heap.size w w' := by
  clear h
  have HAll : Hid (∀ v u, Shut v u → Calls Try.prog 11 #[.pointer v, .string s] u (fun e u2 => e = .returned (.tuple #[.slice none 0 0, .bool false]) ∧ u2 = u) ∧ Calls Try.prog 12 #[.pointer v, .slice a len cap] u (fun e u2 => e = .returned (.int .i64 1) ∧ u2 = u) ∧ Calls Try.prog 13 #[.pointer v] u (fun e u2 => e = .returned (.int .i64 0) ∧ u2 = u) ∧
      Calls Try.prog 14 #[.pointer v] u (fun e u2 => e = .returned (.int .i64 0) ∧ Hid (Below u.heap.size u u2) ∧ Calls Try.prog 15 #[.pointer v] u2 (fun e u3 => e = .returned (.int .i64 0) ∧ u3 = u2))) := fun v u hv =>
    ⟨shut_get hv s, shut_apply hv a len cap, shut_len hv, (shut_many hv).mono fun e u2 ⟨e1, b2⟩ => ⟨e1, b2, shut_batches (hv.below b2)⟩⟩
  go_enter Try.func4, Try.ntmps4
  go_wp2_with (first
    | (go_at_call 7; refine (sawake _).mono ?_; rintro e w1 ⟨rfl, hb1⟩; have hO := open_no w1)
    | (go_at_call 10; refine hO.mono ?_; rintro e w' ⟨rfl, hw⟩; subst w'; clear hO))
  go_loopw [7] (fun i wr => ∃ k : Nat, k ≤ 2 ∧ i = .int .i64 k ∧ Hid (Below w.heap.size w wr)) (fun i _ => 2 - (intOf i).toNat)
  case atStart => exact ⟨0, by omega, rfl, hb1⟩
  case round =>
    obtain ⟨k, hk, rfl, HB⟩ := hrel
    obtain rfl | rfl | rfl : k = 0 ∨ k = 1 ∨ k = 2 := by omega
    · obtain ⟨h1, h2, h3, h4⟩ := HAll.out none wr (.inl rfl)
      clear HAll hb1
      go_wp2_with (first
        | (go_at_call 11; refine h1.mono ?_; rintro e w' ⟨rfl, hw⟩; subst w'; clear h1)
        | (go_at_call 12; refine h2.mono ?_; rintro e w' ⟨rfl, hw⟩; subst w'; clear h2)
        | (go_at_call 13; refine h3.mono ?_; rintro e w' ⟨rfl, hw⟩; subst w'; clear h3)
        | (go_at_call 14; refine h4.mono ?_; rintro e w2 ⟨rfl, HB2, h5⟩; clear h4)
        | (go_at_call 15; refine h5.mono ?_; rintro e w' ⟨rfl, hw⟩; subst w'; clear h5))
      go_roundw
      case rel => exact ⟨1, by omega, by go_num, HB.out.trans (HB2.out.mono HB.out.size)⟩
      case measure => simp [intOf]
    · have hb0 : Below wr.heap.size wr (wr.alloc (.cells #[.pointer none, .map none] 38)) := (Below.refl _ _).alloc (Nat.le_refl _) _
      obtain ⟨h1, h2, h3, h4⟩ := HAll.out (some ⟨wr.heap.size, 0, none⟩) (wr.alloc (.cells #[.pointer none, .map none] 38)) (.inr ⟨wr.heap.size, rfl, by simp⟩)
      have HB1 := hid (HB.out.trans (hb0.mono HB.out.size))
      clear HAll hb1 hb0
      go_wp2_with (first
        | (go_at_call 11; refine h1.mono ?_; rintro e w' ⟨rfl, hw⟩; subst w'; clear h1)
        | (go_at_call 12; refine h2.mono ?_; rintro e w' ⟨rfl, hw⟩; subst w'; clear h2)
        | (go_at_call 13; refine h3.mono ?_; rintro e w' ⟨rfl, hw⟩; subst w'; clear h3)
        | (go_at_call 14; refine h4.mono ?_; rintro e w2 ⟨rfl, HB2, h5⟩; clear h4)
        | (go_at_call 15; refine h5.mono ?_; rintro e w' ⟨rfl, hw⟩; subst w'; clear h5))
      go_roundw
      case rel => exact ⟨2, by omega, by go_num, HB1.out.trans (HB2.out.mono HB1.out.size)⟩
      case measure => simp [intOf]
    · go_wp2_with fail
      go_ret
      exact ⟨rfl, HB.out⟩

set_option maxRecDepth 100000 in
theorem lifted (os : Os) (started : os.Started) (H : Type) (enc : TypeId × Value → H) :
    ReturnsInHanded {} Try.checked os 4 .any (Rows.storeNobodySpec.pre6 enc Try.prog Try.f4 Rows.storeNobodyRow.domain false) (Rows.storeNobodySpec.post enc Try.prog Try.f4 false true false false) := by
  refine returnsInHanded_of_change_sized (C := Try.checked) own started (by kernel_rfl) Try.func4
    (ChangeSpec.witness6 (enc := enc) (C := Try.checked) false ⟨#[], #[.slice none 0 0, .string ⟨#[]⟩], []⟩ 8 (by kernel_rfl) (by kernel_rfl) (by kernel_rfl) (by kernel_rfl)) ?_
  intro W base args ds gs before hval0 hW hcnd hsz0 _
  have hsz : (DataW.weightsEach Try.prog (Try.f4.params.toList ++ Rows.storeNobodySpec.plain.varTypes Try.prog) (ds ++ gs)).all (· ≤ reachBytes) = true := hsz0
  have hval : ∀ (j : Nat) t v, Try.f4.params[j]? = some t → args[j]? = some v → Value.okWide Try.prog W .any base t v := hval0
  have hW' := hW
  obtain ⟨p, q, hA0, hV, rfl, hfz, hnd⟩ := hW
  have hA : DataW.TrodAll enc Try.prog W 0 (fun _ => true) true Try.f4.params.toList args.toList ds p := hA0
  rw [Try.params4] at hA hval hsz
  obtain ⟨v0, vs0, d0, ds0, p0, q0, hargs, rfl, rfl, h0, r0⟩ := trodAll_cons hA
  obtain ⟨v1, vs1, d1, ds1, p1, q1, rfl, rfl, rfl, h1, r1⟩ := trodAll_cons r0
  obtain ⟨rfl, rfl, rfl⟩ := trodAll_nil r1
  obtain rfl : args = #[v0, v1] := by cases args; simp_all
  obtain ⟨rfl, rfl⟩ := trodVars_none hV
  have k0 := h0
  have lt0 : ∀ x ∈ p0, x.block < W.heap.size := by obtain ⟨m, hm⟩ := k0; exact DataW.trod_lt m _ _ _ hm
  have s0 : ∀ x ∈ d0.weights Try.prog 22, x ≤ reachBytes := fun x hx => by
    have := List.all_eq_true.1 hsz x (DataW.weights_mem_each (j := 0) rfl rfl x hx)
    simpa using this
  obtain ⟨b0, nn0, cc0, rfl⟩ := okWide_slice Try.underlying22 (hval 0 22 v0 rfl rfl)
  obtain ⟨fu0, hf0⟩ := h0
  obtain ⟨a0, len0, cap0, V0, e0, w0⟩ := pacts_in hf0 s0
  simp [Value.cells] at e0
  obtain ⟨rfl, rfl, rfl⟩ := e0
  obtain ⟨a1, rfl, rfl, rfl, w1⟩ := open_string Try.underlying9 (hval 1 9 v1 rfl rfl) h1
  have s1 : a1.size ≤ 140737488351232 := by have h := sized_string hsz (j := 1) rfl rfl; have e : a1.data.toList.length = a1.size := Array.length_toList; unfold reachBytes at h; omega
  clear hA0 hval0
  refine (walk b0 nn0 cc0 V0 a1 W w0 s1).mono fun e W' ⟨he, bel⟩ => ?_
  subst he
  exact ⟨_, rfl, _, _, _, [], _, [], hW', trodAll_mk1 (shut_bool Try.underlying4 _), (trodAll_cons_mk (Below.trod laidOut (by kernel_rfl) (of_decide_eq_true (by kernel_rfl)) k0 bel lt0) (trodAll_cons_mk (shut_string Try.underlying9 w1) trodAll_mk0)), rfl, bel.frame _, fun h => by cases h⟩

theorem over : Rows.storeNobodyRow.holds Try.pinned (OpenSpec.ofChange Rows.storeNobodySpec) :=
  OpenClaim.holds_of_wide 4 Try.f4 rfl rfl rfl rfl rfl rfl rfl ⟨rfl, rfl, rfl, rfl, rfl⟩ rfl rfl rfl rfl rfl (by kernel_rfl) Try.func4 (by kernel_rfl)
    (of_decide_eq_true (by kernel_rfl)) (by unfold Func.isWrapper; first | (rw [if_pos (by decide +kernel)]; kernel_rfl) | (rw [if_neg (by decide +kernel)]; exact ⟨rfl, rfl⟩))
    (fun os started H enc _ => lifted os started H enc)

theorem proved : Rows.StoreNobodySaid := over
#print axioms proved
end Go.Proofs.Ytbbjklenpgkooaa.storeNobody

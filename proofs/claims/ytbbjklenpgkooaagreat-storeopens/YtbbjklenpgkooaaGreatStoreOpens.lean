/-
  Of any records, which store they are, or that they are none: 'mooringlaw09.StoreOpens' returns true and leaves its argument as it was.
  Conditions: none.
-/
import Derived.Test.YtbbjklenpgkooaaGreatRows
import Derived.WalkKit
import Derived.ProofKit
import Derived.OpenShut
import Derived.SizedLaws
import Derived.ShutString
import Derived.ChangeOld
import Derived.Below
import Derived.Test.YtbbjklenpgkooaaGreatJ01
import Derived.Test.YtbbjklenpgkooaaGreatJ11
import Derived.ChangeMaps5
import Derived.Test.YtbbjklenpgkooaaGreatJ20
import Derived.Test.YtbbjklenpgkooaaGreatJ16
namespace Go.Proofs.YtbbjklenpgkooaaGreat.storeOpens
open Go.ChangeShapes Go.WideShapes Go.ChangeAt Go.RowKit By Go.ChangeMaps
open Wi St Dk Su Jo
set_option linter.unusedVariables false
set_option linter.unusedSimpArgs false
set_option maxRecDepth 100000

theorem own : ownKnob Tryz.prog.godebug = none := by kernel_rfl
theorem laidOut : laidOutB Tryz.prog = true := by kernel_rfl

theorem bytes_below {w w' : World} {x : Option Addr} {n c : Nat} {f : Nat → Nat} (h : BytesIn w x n c f) (t : Below w.heap.size w w') : BytesIn w' x n c f := ⟨h.row.below t, h.lt, h.le, h.small, h.nil⟩

set_option maxHeartbeats 8000000 in
theorem walk (a : Option Addr) (len cap : Nat) (X : Nat → LV) (w : World) (h : ListsIn w a len cap X) :
    Calls Tryz.prog 5 #[.slice a len cap] w fun e w' => e = .returned (.bool true) ∧ Below w.heap.size w w' := by
  haveI : Inhabited PR := ⟨⟨ByteArray.empty, none, 0, 0⟩⟩
  haveI : ∀ pre s : ByteArray, Decidable (Beg pre s) := fun pre s => inferInstanceAs (Decidable ((nat s).take pre.size = nat pre))
  obtain ⟨N, hN1, hN2, hN3⟩ : ∃ N, N ≤ len ∧ N ≤ 40 ∧ (N = len ∨ (N = 40 ∧ 40 < len)) := by
    by_cases h40 : len ≤ 40
    · exact ⟨len, Nat.le_refl _, h40, .inl rfl⟩
    · exact ⟨40, by omega, Nat.le_refl _, .inr ⟨rfl, by omega⟩⟩
  have hls := h.small
  have HLI := hid h
  clear h
  go_enter Tryz.func5, Tryz.ntmps5
  go_wp2_with (go_at_call 6; refine (sawake _).mono ?_; rintro e w9 ⟨rfl, hb9⟩)
  have H0 : Hid (OI w9 ((w9.alloc (.cells #[] 54)).alloc (.cells #[] 22)) X 0 true w9.heap.size 0 0 (fun _ => noAV) (.slice (some ⟨w9.heap.size + 1, 0, none⟩) 0 0) 0) := OI.start w9 X
  have HB9 := hid hb9
  clear hb9
  go_loopw [3, 4, 5, 6] (fun ks fi du ii wr => ∃ (i kg km kc : Nat) (fine : Bool) (xR : Option Addr) (cR T : Nat) (K : Nat → AV), i ≤ N ∧ T ≤ 40 * i ∧ ks = .slice (some ⟨kg, 0, none⟩) km kc ∧ fi = .bool fine ∧ du = .slice xR T cR ∧ ii = .int .i64 (i : Int) ∧ Hid (OI w9 wr X i fine kg km kc K (.slice xR T cR) T)) (fun _ _ _ ii _ => N - (intOf ii).toNat)
  case atStart => exact ⟨0, w9.heap.size, 0, 0, true, _, 0, 0, _, Nat.zero_le _, by omega, rfl, rfl, rfl, rfl, H0.out⟩
  case round =>
    clear H0
    obtain ⟨i, kg, km, kc, fine, xR, cR, T, K, hi, hT, rfl, rfl, rfl, rfl, HO⟩ := hrel
    by_cases hiN : i < N
    · have hil : (i : Int) < (len : Int) := by omega
      have hi40 : (i : Int) < 40 := by omega
      rcases HLI.out.row with h0 | ⟨b, o, rfl, hbl, hc⟩
      · omega
      have f0 := hc i (by omega)
      have hbw : Below w.heap.size w wr := HB9.out.trans (HO.out.bel.mono HB9.out.size)
      have k0 := (hbw.cell (p := ⟨b, o + i, none⟩) hbl).trans f0
      by_cases hlong : 2000 < (X i).n
      · have hlong' : (2000 : Int) < ((X i).n : Int) := by omega
        have HF := hid hbw
        clear hc f0 hbw HO
        generalize (X i).n = Xn at *
        go_wp2_with fail
        go_ret
        exact ⟨rfl, HF.out⟩
      · have hlong' : ¬ (2000 : Int) < ((X i).n : Int) := by omega
        have hM := HO.out.next (bytes_below (HLI.out.elt i (by omega)) HB9.out) (by omega) (by omega) (by omega)
        have hp40 : pcs (X i).n ≤ 40 := by unfold pcs; split <;> omega
        have hwrap : IntKind.i64.wrap ((i : Int) + 1) = (i : Int) + 1 := by rw [IntKind.wrap_i64]; omega
        have HCL : Hid (∀ v, Below w9.heap.size w9 v → v.cell? ⟨b, o + i, none⟩ = some (.slice (X i).x (X i).n (X i).c)) := fun v hv => by
          have hbv : Below w.heap.size w v := HB9.out.trans (hv.mono HB9.out.size)
          exact (hbv.cell (p := ⟨b, o + i, none⟩) hbl).trans f0
        clear hc f0 hbw HO hlong HLI
        generalize pcs (X i).n = Pn at *
        cases fine
        all_goals
          go_wp2_with (first
            | (go_at_call 16; refine hM.mono ?_; rintro e w1 ⟨y, cy, rfl, x', c', w2, hap, hb2, cc, hcc, hDc⟩; clear hM; have k1 := HCL.out w2 hb2; clear HCL hb2)
            | (at_builtin; refine wpList_append_run rfl _ _ 46 rfl _ _ rfl rfl hap ?_; clear hap; rcases hcc with rfl | rfl)
            | (go_at_call 8; refine hDc.mono ?_; rintro e w3 ⟨a3, m3, c3, rfl, hDn⟩; clear hDc)
            | (go_at_call 15; refine hDn.mono ?_; rintro e w4 ⟨kg', km', kc', ok, rfl, HN⟩; clear hDn))
        all_goals
          go_roundw
          case rel => obtain ⟨K', hO⟩ := HN.out; exact ⟨i + 1, kg', km', kc', _, x', c', _, K', by omega, by omega, rfl, rfl, rfl, by go_num, hid (by simpa using hO)⟩
          case measure => simp [intOf]; omega
    · obtain rfl : i = N := by omega
      obtain ⟨wo, hwo⟩ : ∃ wo, wo = wr := ⟨_, rfl⟩
      subst hwo
      obtain ⟨A', C', S, st, d1, d2, d3⟩ := HO.out.dump
      have hT2 : T ≤ 1600 := by omega
      have hNw := dnew (T + 1) ((T : Int) + 1) (by omega) wo (by omega) (by omega)
      have hbw : Below w.heap.size w wo := HB9.out.trans (HO.out.bel.mono HB9.out.size)
      have HW : Hid (∀ p v F A D k, Dsk wo.heap.size wo v F p (T + 1) k (fun _ => 0) A D → (∀ j, j < k → A j = j) → (∀ j, j < k → D j = S j) → k < T → ∃ g, xR = some ⟨g, 0, none⟩ ∧ v.cell? ⟨g, k, none⟩ = some (.slice (A' k) 64 (C' k)) ∧
          Calls Tryz.prog 20 #[.pointer (some ⟨p, 0, none⟩), .int .i64 (k : Int), .slice (A' k) 64 (C' k)] v fun e v2 => e = .returned (.int .i64 0) ∧ Hid (∃ F A D, Dsk wo.heap.size wo v2 F p (T + 1) (k + 1) (fun _ => 0) A D ∧ (∀ j, j < k + 1 → A j = j) ∧ (∀ j, j < k + 1 → D j = S j))) := fun p v F A D k hd hA hD hk => by
        have d1v := d1.below hd.bel
        obtain ⟨x5, c5, e5, _, _, hcell⟩ := d1v.form
        injection e5 with e5 _ _
        subst e5
        obtain ⟨g, hg, hcg⟩ := hcell k hk
        have helt := d1v.elt k hk
        refine ⟨g, hg, hcg, (dwrite wo.heap.size p (T + 1) k k (C' k) F (fun _ => 0) A (S k) D (A' k) (k : Int) rfl wo v hd (by omega) helt.row helt.lt (by omega)).mono fun e v2 ⟨e1, _, e3⟩ => ⟨e1, _, _, _, e3, fun j hj => ?_, fun j hj => ?_⟩⟩
        · by_cases e : j < k
          · rw [ext_old A k k e]; exact hA j e
          · obtain rfl : j = k := by omega
            rw [ext_new]
        · by_cases e : j < k
          · rw [ext_old D k _ e]; exact hD j e
          · obtain rfl : j = k := by omega
            rw [ext_new]
      have HOp : Hid (∀ p v F A D, Dsk wo.heap.size wo v F p (T + 1) T (fun _ => 0) A D → (∀ j, j < T → A j = j) → (∀ j, j < T → D j = S j) → Calls Tryz.prog 11 #[.pointer (some ⟨p, 0, none⟩)] v fun e v2 => Below w.heap.size w v2 ∧
          ((fine = false ∧ e = .returned (.tuple #[.pointer none, .int .i64 5])) ∨ (fine = true ∧ ∃ sp, e = .returned (.tuple #[.pointer (some ⟨sp, 0, none⟩), .int .i64 0]) ∧
            Calls Tryz.prog 13 #[.pointer (some ⟨sp, 0, none⟩), .slice (some ⟨kg, 0, none⟩) km kc, .string ⟨#[]⟩] v2 fun e v3 => e = .returned (.bool true) ∧ Below w.heap.size w v3))) := fun p v F A D hd hA hD => by
        have hbv : Below w.heap.size w v := hbw.trans (hd.bel.mono hbw.size)
        have hv := hd.bel
        rw [d3] at hd hA hD
        refine (opens_any hd hA hD d2 (by omega)).mono fun e v2 ⟨e1, e2⟩ => ?_
        have hb2 : Below w.heap.size w v2 := hbv.trans (e1.mono hbv.size)
        refine ⟨hb2, ?_⟩
        obtain ⟨Mx, hKM, hfi⟩ := HO.out.km_
        cases hfine : fine with
        | false =>
          left
          refine ⟨rfl, ?_⟩
          rcases e2 with ⟨sp, jp, mb, nb, Dm, M, U, q1, q2, _⟩ | ⟨_, q⟩
          · exact absurd q2 (HO.out.no hfine M)
          · exact q
        | true =>
          right
          refine ⟨rfl, ?_⟩
          rcases e2 with ⟨sp, jp, mb, nb, Dm, M, U, q1, q2, q3, q4⟩ | ⟨q, _⟩
          · refine ⟨sp, q1, ?_⟩
            have : M = Mx := After.unique _ _ q2 (hfi hfine)
            subst this
            have hb3 : Below wo.heap.size wo v2 := hv.trans (e1.mono hv.size)
            have hfew := HO.out.few
            have hact : ActsAt v2 (some ⟨kg, 0, none⟩) km K := ⟨.inr ⟨kg, 0, rfl, by have := HO.out.kl; have := hb3.size; omega, HO.out.cells.turns (Turns.of_below (F := fun _ => False) hb3) HO.out.kl (fun h => h)⟩, fun j hj => (HO.out.act j hj).below hb3⟩
            exact (ssame_any q4 (by omega) _ km kc K hact (by omega) hKM ⟨#[]⟩ (by show (0 : Nat) ≤ _; omega)).mono fun e v3 ⟨e3, e4⟩ => ⟨e3, hb2.trans (e4.mono hb2.size)⟩
          · exact absurd (hfi hfine) (q Mx)
      have hx : ¬ (i : Int) < (len : Int) ∨ ((i : Int) < (len : Int) ∧ ¬ (i : Int) < 40) := by
        rcases hN3 with e | ⟨e, e'⟩
        · exact .inl (by omega)
        · exact .inr ⟨by omega, by omega⟩
      clear d1 d2 d3 hbw HO HLI HB9 hN3
      rcases hx with hx | ⟨hx1, hx2⟩
      all_goals
        go_wp2_with (go_at_call 10; refine hNw.mono ?_; rintro e v0 ⟨p, F0, rfl, hd0⟩; clear hNw; have HD0 := hid hd0; clear hd0)
        go_loopw [13] (fun j v => ∃ (k : Nat), k ≤ T ∧ j = .int .i64 (k : Int) ∧ Hid (∃ F A D, Dsk wo.heap.size wo v F p (T + 1) k (fun _ => 0) A D ∧ (∀ j, j < k → A j = j) ∧ (∀ j, j < k → D j = S j))) (fun j _ => T - (intOf j).toNat)
        case atStart => exact ⟨0, Nat.zero_le _, rfl, _, _, _, HD0.out, (fun j hj => by omega), (fun j hj => by omega)⟩
        case round =>
          clear HD0
          obtain ⟨k, hk, rfl, HR⟩ := hrel
          by_cases hkT : k < T
          · have hkT' : (k : Int) < (T : Int) := by omega
            obtain ⟨F, A, D, r1, r2, r3⟩ := HR.out
            obtain ⟨g, rfl, hcg, hWr⟩ := HW.out p wr F A D k r1 r2 r3 hkT
            clear r1 r2 r3 HR HW HOp
            go_wp2_with (go_at_call 20; refine hWr.mono ?_; rintro e v2 ⟨rfl, HN⟩; clear hWr)
            go_roundw
            case rel => exact ⟨k + 1, by omega, by go_num, HN.out⟩
            case measure => simp [intOf]; omega
          · obtain rfl : k = T := by omega
            obtain ⟨F, A, D, r1, r2, r3⟩ := HR.out
            have hOp := HOp.out p wr F A D r1 r2 r3
            clear r1 r2 r3 HR HW HOp
            go_wp2_with (first
              | (go_at_call 11; refine hOp.mono ?_; rintro e v2 ⟨hb2, (⟨rfl, rfl⟩ | ⟨rfl, sp, rfl, hSm⟩)⟩ <;> clear hOp)
              | (go_at_call 13; refine hSm.mono ?_; rintro e v3 ⟨rfl, hb3⟩; clear hSm))
            · go_ret
              exact ⟨rfl, hb2⟩
            · go_ret
              exact ⟨rfl, hb3⟩

set_option maxRecDepth 100000 in
theorem lifted (os : Os) (started : os.Started) (H : Type) (enc : TypeId × Value → H) :
    ReturnsInHanded {} Tryz.checked os 5 .any (Rows.storeOpensSpec.pre6 enc Tryz.prog Tryz.f5 Rows.storeOpensRow.domain false) (Rows.storeOpensSpec.post enc Tryz.prog Tryz.f5 false true false false) := by
  refine returnsInHanded_of_change_sized (C := Tryz.checked) own started (by kernel_rfl) Tryz.func5
    (ChangeSpec.witness6 (enc := enc) (C := Tryz.checked) false ⟨#[], #[.slice none 0 0], []⟩ 8 (by kernel_rfl) (by kernel_rfl) (by kernel_rfl) (by kernel_rfl)) ?_
  intro W base args ds gs before hval0 hW hcnd hsz0 _
  have hsz : (DataW.weightsEach Tryz.prog (Tryz.f5.params.toList ++ Rows.storeOpensSpec.plain.varTypes Tryz.prog) (ds ++ gs)).all (· ≤ reachBytes) = true := hsz0
  have hval : ∀ (j : Nat) t v, Tryz.f5.params[j]? = some t → args[j]? = some v → Value.okWide Tryz.prog W .any base t v := hval0
  have hW' := hW
  obtain ⟨p, q, hA0, hV, rfl, hfz, hnd⟩ := hW
  have hA : DataW.TrodAll enc Tryz.prog W 0 (fun _ => true) true Tryz.f5.params.toList args.toList ds p := hA0
  rw [Tryz.params5] at hA hval hsz
  obtain ⟨v0, vs0, d0, ds0, p0, q0, hargs, rfl, rfl, h0, r0⟩ := trodAll_cons hA
  obtain ⟨rfl, rfl, rfl⟩ := trodAll_nil r0
  obtain rfl : args = #[v0] := by cases args; simp_all
  obtain ⟨rfl, rfl⟩ := trodVars_none hV
  have k0 := h0
  have lt0 : ∀ x ∈ p0, x.block < W.heap.size := by obtain ⟨m, hm⟩ := k0; exact DataW.trod_lt m _ _ _ hm
  have s0 : ∀ x ∈ d0.weights Tryz.prog 46, x ≤ reachBytes := fun x hx => by
    have := List.all_eq_true.1 hsz x (DataW.weights_mem_each (j := 0) rfl rfl x hx)
    simpa using this
  obtain ⟨b0, nn0, cc0, rfl⟩ := okWide_slice Tryz.underlying46 (hval 0 46 v0 rfl rfl)
  obtain ⟨fu0, hf0⟩ := h0
  obtain ⟨a0, len0, cap0, V0, e0, w0⟩ := lists_in hf0 s0
  simp [Value.cells] at e0
  obtain ⟨rfl, rfl, rfl⟩ := e0
  clear hA0 hval0
  refine (walk b0 nn0 cc0 V0 W w0).mono fun e W' ⟨he, bel⟩ => ?_
  subst he
  exact ⟨_, rfl, _, _, _, [], _, [], hW', trodAll_mk1 (shut_bool Tryz.underlying4 _), (trodAll_cons_mk (Below.trod laidOut (by kernel_rfl) (of_decide_eq_true (by kernel_rfl)) k0 bel lt0) trodAll_mk0), rfl, bel.frame _, fun h => by cases h⟩

theorem over : Rows.storeOpensRow.holds Tryz.pinned (OpenSpec.ofChange Rows.storeOpensSpec) :=
  OpenClaim.holds_of_wide 5 Tryz.f5 rfl rfl rfl rfl rfl rfl rfl ⟨rfl, rfl, rfl, rfl, rfl⟩ rfl rfl rfl rfl rfl (by kernel_rfl) Tryz.func5 (by kernel_rfl)
    (of_decide_eq_true (by kernel_rfl)) (by unfold Func.isWrapper; first | (rw [if_pos (by decide +kernel)]; kernel_rfl) | (rw [if_neg (by decide +kernel)]; exact ⟨rfl, rfl⟩))
    (fun os started H enc _ => lifted os started H enc)

theorem proved : Rows.StoreOpensSaid := over
#print axioms proved
end Go.Proofs.YtbbjklenpgkooaaGreat.storeOpens

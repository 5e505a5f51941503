/-
  Whatever batches come and whenever it crashes, a store's keys are those that the batches leave that were done: 'mooringlaw09.StoreActs' returns true and leaves its arguments as they were.
  Conditions: the bulk of what is handed in is at most 1,048,576 (the statement's second form).
-/
import Derived.Test.YtbbjklenpgkooaaGreatRows
import Derived.WalkKit
import Derived.ProofKit
import Derived.OpenShut
import Derived.SizedLaws
import Derived.ShutString
import Derived.ChangeOld
import Derived.Below
import Derived.JoinedCond
import Derived.Test.YtbbjklenpgkooaaGreatJ01
import Derived.Test.YtbbjklenpgkooaaGreatJ11
import Derived.ChangeMaps5
import Derived.Test.YtbbjklenpgkooaaGreatJ20
import Derived.Test.YtbbjklenpgkooaaGreatJ16
namespace Go.Proofs.YtbbjklenpgkooaaGreat.storeActs
open Go.ChangeShapes Go.WideShapes Go.ChangeAt Go.RowKit By Go.ChangeMaps
open Wi St Dk Su Jo
set_option linter.unusedVariables false
set_option linter.unusedSimpArgs false
set_option maxRecDepth 100000

theorem own : ownKnob Tryz.prog.godebug = none := by kernel_rfl
theorem laidOut : laidOutB Tryz.prog = true := by kernel_rfl

theorem item_below {w w' : World} {v : IV} (h : ItemIn w v) (t : Below w.heap.size w w') : ItemIn w' v := ⟨h.cut.below t, h.cutl, ⟨h.acts.at_.below t, h.acts.le, h.acts.nil, h.acts.small⟩, h.few⟩

set_option maxHeartbeats 16000000 in
theorem walk (z : Int) (a : Option Addr) (len cap : Nat) (I : Nat → IV) (pre : ByteArray) (w : World) (hz : (Lit.int .i64 z).wf = true) (h : ItemsIn w a len cap I) (hlen : len ≤ 1048576) (hpre : pre.size ≤ 1048576) :
    Calls Tryz.prog 4 #[.int .i64 z, .slice a len cap, .string pre] w fun e w' => e = .returned (.bool true) ∧ Below w.heap.size w w' := by
  haveI : Inhabited PR := ⟨⟨ByteArray.empty, none, 0, 0⟩⟩
  haveI : ∀ pre s : ByteArray, Decidable (Beg pre s) := fun pre s => inferInstanceAs (Decidable ((nat s).take pre.size = nat pre))
  by_cases hno : z < 1 ∨ 4096 < z
  · have hNo := fun v => new_no z v hno
    clear h
    go_enter Tryz.func4, Tryz.ntmps4
    go_wp2_with (first
      | (go_at_call 6; refine (sawake _).mono ?_; rintro e w9 ⟨rfl, hb9⟩)
      | (go_at_call 10; refine (hNo _).mono ?_; rintro e w1 ⟨rfl, hw⟩; subst w1))
    go_ret
    exact ⟨rfl, hb9⟩
  · obtain ⟨n, rfl⟩ : ∃ n : Nat, z = (n : Int) := ⟨z.toNat, by omega⟩
    have hn1 : 1 ≤ n := by omega
    have hn2 : n ≤ 4096 := by omega
    have hNw := fun v => dnew n (n : Int) rfl v hn1 hn2
    clear hno hz
    by_cases hbig : 200 < n
    · have hbig' : (200 : Int) < (n : Int) := by omega
      clear h
      go_enter Tryz.func4, Tryz.ntmps4
      go_wp2_with (first
        | (go_at_call 6; refine (sawake _).mono ?_; rintro e w9 ⟨rfl, hb9⟩)
        | (go_at_call 10; refine (hNw _).mono ?_; rintro e w1 ⟨p, F, rfl, hd⟩))
      go_ret
      exact ⟨rfl, hb9.trans (hd.bel.mono hb9.size)⟩
    · have hbig' : ¬ (200 : Int) < (n : Int) := by omega
      obtain ⟨N, hN1, hN2, hN3⟩ : ∃ N, N ≤ len ∧ N ≤ 60 ∧ (N = len ∨ (N = 60 ∧ 60 < len)) := by
        by_cases h60 : len ≤ 60
        · exact ⟨len, Nat.le_refl _, h60, .inl rfl⟩
        · exact ⟨60, by omega, Nat.le_refl _, .inr ⟨rfl, by omega⟩⟩
      have HI := hid h
      have HO : Hid (∀ w9 w1 p F, Dsk w9.heap.size w9 w1 F p n 0 (fun _ => 0) (fun _ => 0) (fun _ _ => 0) → Calls Tryz.prog 11 #[.pointer (some ⟨p, 0, none⟩)] w1 fun e w2 => ∃ sp, e = .returned (.tuple #[.pointer (some ⟨sp, 0, none⟩), .int .i64 0]) ∧ Hid (∃ jp mb g Kp, AI w9 (w2.alloc (.cells #[] 54)) p n sp jp mb 0 0 g (fun _ => none) Kp w2.heap.size 0 0 (fun _ => noAV) 0)) := fun w9 w1 p F hd =>
        (open_new hd (by omega)).mono fun e w2 ⟨sq, jq, mq, g', K', e1, e2, e3, e4, e5⟩ => ⟨sq, e1, jq, mq, g', K', e4.below ((Below.refl _ _).alloc (Nat.le_refl _) _), by omega, by omega, (fun j hj => by omega), by simp, (fun j hj => by omega), (fun j hj => by omega), (fun h => absurd rfl h), (fun a b h1 h2 => by omega), ⟨(fun j hj => by omega), (fun s hs => by cases hs), (fun a b h1 h2 => by omega)⟩, by omega⟩
      clear h
      go_enter Tryz.func4, Tryz.ntmps4
      go_wp2_with (first
        | (go_at_call 6; refine (sawake _).mono ?_; rintro e w9 ⟨rfl, hb9⟩; have HB9 := hid hb9; clear hb9)
        | (go_at_call 10; refine (hNw _).mono ?_; rintro e w1 ⟨p, F, rfl, hd⟩; clear hNw; have hOp := HO.out _ _ _ _ hd; clear HO hd)
        | (go_at_call 11; refine hOp.mono ?_; rintro e w2 ⟨sp, rfl, H0⟩; clear hOp))
      go_loopw [8, 9, 10, 11, 12, 13] (fun er s ks rm bt ii wr => ∃ (i sp kg km kc m r : Nat), i ≤ N ∧ er = .int .i64 0 ∧ s = .pointer (some ⟨sp, 0, none⟩) ∧ ks = .slice (some ⟨kg, 0, none⟩) km kc ∧ rm = .int .i64 (r : Int) ∧ bt = .int .i64 (m : Int) ∧ ii = .int .i64 (i : Int) ∧ r ≤ 200 ∧ m ≤ i ∧ Hid (∃ u jp mb g M Kp K, r + u = n ∧ AI w9 wr p n sp jp mb m u g M Kp kg km kc K i)) (fun _ _ _ _ _ ii _ => N - (intOf ii).toNat)
      case atStart => obtain ⟨jp, mb, g, Kp, h0⟩ := H0.out; exact ⟨0, sp, w2.heap.size, 0, 0, 0, n, Nat.zero_le _, rfl, rfl, rfl, rfl, rfl, rfl, by omega, Nat.le_refl _, 0, jp, mb, g, _, Kp, _, rfl, h0⟩
      case round =>
        clear H0
        obtain ⟨i, sp, kg, km, kc, m, r, hi, rfl, rfl, rfl, rfl, rfl, rfl, hr, hmi, HA⟩ := hrel
        by_cases hiN : i < N
        · have hil : (i : Int) < (len : Int) := by omega
          have hi60 : (i : Int) < 60 := by omega
          obtain ⟨u, jp, mb, g, M, Kp, K, hru, hA⟩ := HA.out
          rcases HI.out.row with h0 | ⟨b, o, rfl, hbl, hc⟩
          · omega
          obtain ⟨f0, f1, f2⟩ := hc i (by omega)
          have hv9 := item_below (HI.out.item i (by omega)) HB9.out
          have HCL : Hid (∀ v, Below w9.heap.size w9 v → v.cell? ⟨b, o + i * 3, none⟩ = some (.bool (I i).crash) ∧ v.cell? ⟨b, o + i * 3 + 1, none⟩ = some (.slice (I i).u (I i).l (I i).k) ∧ v.cell? ⟨b, o + i * 3 + 2, none⟩ = some (.slice (I i).a (I i).len (I i).cap)) := fun v hv => by
            have hbv : Below w.heap.size w v := HB9.out.trans (hv.mono HB9.out.size)
            exact ⟨(hbv.cell (p := ⟨b, o + i * 3, none⟩) hbl).trans f0, (hbv.cell (p := ⟨b, o + i * 3 + 1, none⟩) hbl).trans f1, (hbv.cell (p := ⟨b, o + i * 3 + 2, none⟩) hbl).trans f2⟩
          obtain ⟨k0, k1, k2⟩ := HCL.out wr hA.al.bel
          by_cases hcr : (I i).crash = true
          · rw [hcr] at k0
            have hC := hA.crash_ (by omega) (I i).u (I i).l (I i).k (I i).h hv9.cut hv9.cutl pre (by omega)
            clear hc f0 f1 f2 hv9 HA hA HCL hcr k2
            generalize (I i).u = Iu at *
            generalize (I i).l = Il at *
            generalize (I i).k = Ik at *
            go_wp2_with (first
              | (go_at_call 12; refine hC.mono ?_; rintro e w1 ⟨rfl, hOp⟩; clear hC)
              | (go_at_call 11; refine hOp.mono ?_; rintro e w2 ⟨sq, rfl, hSm⟩; clear hOp)
              | (go_at_call 13; refine hSm.mono ?_; rintro e w3 ⟨rfl, HN⟩; clear hSm))
            go_roundw
            case rel => obtain ⟨jq, mq, g', Kp', hN⟩ := HN.out; exact ⟨i + 1, sq, kg, km, kc, m, r, by omega, rfl, rfl, rfl, rfl, rfl, by go_num, hr, by omega, u, jq, mq, g', M, Kp', K, hru, hN⟩
            case measure => simp [intOf]; omega
          · have hcr' : (I i).crash = false := by simpa using hcr
            rw [hcr'] at k0 HCL
            obtain ⟨c, ob, hS⟩ := enc_says (pas (I i).V (I i).len)
            obtain ⟨zz, did, hCm⟩ := comes M (pas (I i).V (I i).len) c ob u n
            have hlow : (I i).len ≠ 0 → ∀ ad, (I i).a = some ad → ad.block < w9.heap.size := fun h0 ad ha => by
              rcases hv9.acts.at_.row with h1 | ⟨b', o', e', h2, _⟩
              · exact absurd h1 h0
              · rw [ha] at e'
                injection e' with e'
                subst e'
                exact h2
            have hE := hA.batch (by omega) (I i) hv9 hlow pre (by omega) c ob hS zz did hCm
            have hpk : pcs ob.length ≤ 255 ∨ c ≠ 0 ∨ True := .inr (.inr trivial)
            clear hc f0 f1 f2 hv9 HA hA hcr hcr' k1 hlow hpk
            have hp0 := pcs_pos ob.length
            have hpb : pcs ob.length ≤ 1048576 := by
              have h1 : ob.length ≤ 13005 := by
                rcases hS with ⟨_, _, q⟩ | ⟨_, _, _, q⟩ | ⟨_, q, _, q2⟩
                · rw [q]; simp
                · rw [q]; simp
                · rw [q2]; exact q
              have := pcs_le h1
              omega
            rcases hCm with ⟨c1, rfl, rfl⟩ | ⟨rfl, c2, rfl, rfl⟩ | ⟨rfl, c2, c3, rfl, rfl⟩ | ⟨rfl, c2, c3, rfl, rfl⟩
            · simp only [Bool.false_eq_true, if_false] at hE
              have hc1 : ((zz : Int) != 0) = true := by simp; omega
              have hc0 : ((zz : Int) == 0) = false := by simp; omega
              clear hS
              generalize pcs ob.length = pk at *
              go_wp2_with (first
                | (go_at_call 14; refine hE.mono ?_; rintro e w1 ⟨x1, l1, cx1, rfl, hb1, hDn⟩; clear hE; obtain ⟨s0, s1, s2⟩ := HCL.out w1 hb1; clear hb1)
                | (go_at_call 15; refine hDn.mono ?_; rintro e w2 ⟨g2, n2, c2', ok, rfl, hok, hMk⟩; clear hDn; clear hok)
                | (go_at_call 16; refine hMk.mono ?_; rintro e w3 ⟨y3, cy3, rfl, hb3, hAp⟩; clear hMk; obtain ⟨u0, u1, u2⟩ := HCL.out w3 hb3; clear hb3)
                | (go_at_call 17; refine hAp.mono ?_; rintro e w4 ⟨rfl, hSm⟩; clear hAp)
                | (go_at_call 13; refine hSm.mono ?_; rintro e w5 ⟨rfl, hBt⟩; clear hSm)
                | (go_at_call 18; refine hBt.mono ?_; rintro e w6 ⟨rfl, hPd⟩; clear hBt)
                | (go_at_call 19; refine hPd.mono ?_; rintro e w7 ⟨rfl, HN⟩; clear hPd))
              go_roundw
              case rel => obtain ⟨K', hN⟩ := HN.out; exact ⟨i + 1, sp, kg, km, kc, m, r, by omega, rfl, rfl, rfl, rfl, rfl, by go_num, hr, by omega, u, jp, mb, g, M, Kp, K', hru, hN⟩
              case measure => simp [intOf]; omega
            · simp only [Bool.false_eq_true, if_false] at hE
              clear hS
              have HCan := hid c2
              clear c2
              generalize pcs ob.length = pk at *
              go_wp2_with (first
                | (go_at_call 14; refine hE.mono ?_; rintro e w1 ⟨x1, l1, cx1, rfl, hb1, hDn⟩; clear hE; obtain ⟨s0, s1, s2⟩ := HCL.out w1 hb1; clear hb1)
                | (go_at_call 15; refine hDn.mono ?_; rintro e w2 ⟨g2, n2, c2', ok, rfl, hok, hMk⟩; clear hDn; (have hok2 : ok = false := Bool.eq_false_iff.2 (fun hh => HCan.out (hok.1 hh)); subst hok2; clear hok))
                | (go_at_call 16; refine hMk.mono ?_; rintro e w3 ⟨y3, cy3, rfl, hb3, hAp⟩; clear hMk; obtain ⟨u0, u1, u2⟩ := HCL.out w3 hb3; clear hb3)
                | (go_at_call 17; refine hAp.mono ?_; rintro e w4 ⟨rfl, hSm⟩; clear hAp)
                | (go_at_call 13; refine hSm.mono ?_; rintro e w5 ⟨rfl, hBt⟩; clear hSm)
                | (go_at_call 18; refine hBt.mono ?_; rintro e w6 ⟨rfl, hPd⟩; clear hBt)
                | (go_at_call 19; refine hPd.mono ?_; rintro e w7 ⟨rfl, HN⟩; clear hPd))
              go_roundw
              case rel => obtain ⟨K', hN⟩ := HN.out; exact ⟨i + 1, sp, kg, km, kc, m, r, by omega, rfl, rfl, rfl, rfl, rfl, by go_num, hr, by omega, u, jp, mb, g, M, Kp, K', hru, hN⟩
              case measure => simp [intOf]; omega
            · simp only [Bool.false_eq_true, if_false] at hE
              have hfit : (r : Int) < ((pcs ob.length : Nat) : Int) := by omega
              clear hS
              have HCan := hid c2
              clear c2
              clear c3
              generalize pcs ob.length = pk at *
              go_wp2_with (first
                | (go_at_call 14; refine hE.mono ?_; rintro e w1 ⟨x1, l1, cx1, rfl, hb1, hDn⟩; clear hE; obtain ⟨s0, s1, s2⟩ := HCL.out w1 hb1; clear hb1)
                | (go_at_call 15; refine hDn.mono ?_; rintro e w2 ⟨g2, n2, c2', ok, rfl, hok, hMk⟩; clear hDn; (obtain rfl : ok = true := hok.2 HCan.out; clear hok))
                | (go_at_call 16; refine hMk.mono ?_; rintro e w3 ⟨y3, cy3, rfl, hb3, hAp⟩; clear hMk; obtain ⟨u0, u1, u2⟩ := HCL.out w3 hb3; clear hb3)
                | (go_at_call 17; refine hAp.mono ?_; rintro e w4 ⟨rfl, hSm⟩; clear hAp)
                | (go_at_call 13; refine hSm.mono ?_; rintro e w5 ⟨rfl, hBt⟩; clear hSm)
                | (go_at_call 18; refine hBt.mono ?_; rintro e w6 ⟨rfl, hPd⟩; clear hBt)
                | (go_at_call 19; refine hPd.mono ?_; rintro e w7 ⟨rfl, HN⟩; clear hPd))
              go_roundw
              case rel => obtain ⟨K', hN⟩ := HN.out; exact ⟨i + 1, sp, kg, km, kc, m, r, by omega, rfl, rfl, rfl, rfl, rfl, by go_num, hr, by omega, u, jp, mb, g, M, Kp, K', hru, hN⟩
              case measure => simp [intOf]; omega
            · simp only [if_true] at hE
              have hfit : ¬ (r : Int) < ((pcs ob.length : Nat) : Int) := by omega
              obtain ⟨r2, hr2⟩ : ∃ r2, r2 = r - pcs ob.length := ⟨_, rfl⟩
              have hsub : (r : Int) - ((pcs ob.length : Nat) : Int) = (r2 : Int) := by omega
              have HR2 : Hid (r2 + (u + pcs ob.length) = n) := by show _ = _; omega
              clear hr2
              clear hS
              have HCan := hid c2
              clear c2
              clear c3
              generalize pcs ob.length = pk at *
              go_wp2_with (first
                | (go_at_call 14; refine hE.mono ?_; rintro e w1 ⟨x1, l1, cx1, rfl, hb1, hDn⟩; clear hE; obtain ⟨s0, s1, s2⟩ := HCL.out w1 hb1; clear hb1)
                | (go_at_call 15; refine hDn.mono ?_; rintro e w2 ⟨g2, n2, c2', ok, rfl, hok, hMk⟩; clear hDn; (obtain rfl : ok = true := hok.2 HCan.out; clear hok))
                | (go_at_call 16; refine hMk.mono ?_; rintro e w3 ⟨y3, cy3, rfl, hb3, hAp⟩; clear hMk; obtain ⟨u0, u1, u2⟩ := HCL.out w3 hb3; clear hb3)
                | (go_at_call 17; refine hAp.mono ?_; rintro e w4 ⟨rfl, hSm⟩; clear hAp)
                | (go_at_call 13; refine hSm.mono ?_; rintro e w5 ⟨rfl, hBt⟩; clear hSm)
                | (go_at_call 18; refine hBt.mono ?_; rintro e w6 ⟨rfl, hPd⟩; clear hBt)
                | (go_at_call 19; refine hPd.mono ?_; rintro e w7 ⟨rfl, HN⟩; clear hPd))
              go_roundw
              case rel => obtain ⟨jp', mb', g', M', Kp', K', hN⟩ := HN.out; exact ⟨i + 1, sp, g2, n2, c2', m + 1, r2, by omega, rfl, rfl, rfl, by go_num, by go_num, by go_num, by omega, by omega, _, jp', mb', g', M', Kp', K', HR2.out, hN⟩
              case measure => simp [intOf]; omega
        · obtain rfl : i = N := by omega
          have hx : ¬ (i : Int) < (len : Int) ∨ ((i : Int) < (len : Int) ∧ ¬ (i : Int) < 60) := by
            rcases hN3 with e | ⟨e, e'⟩
            · exact .inl (by omega)
            · exact .inr ⟨by omega, by omega⟩
          have HF : Hid (Below w.heap.size w wr) := by
            obtain ⟨u, jp, mb, g, M, Kp, K, hru, hA⟩ := HA.out
            exact HB9.out.trans (hA.al.bel.mono HB9.out.size)
          clear HA HI HB9 hN3
          rcases hx with hx | ⟨hx1, hx2⟩
          all_goals
            go_wp2_with fail
            go_ret
            exact ⟨rfl, HF.out⟩

set_option maxRecDepth 100000 in
theorem lifted (os : Os) (started : os.Started) (H : Type) (enc : TypeId × Value → H) (F : Stop.Interp) :
    ReturnsInHanded {} Tryz.checked os 4 .any ((Rows.OpenSpec.upto Rows.storeActsSpec).pre6 enc Tryz.prog Tryz.f4 Rows.storeActsUptoRow.domain false) (((Rows.OpenSpec.upto Rows.storeActsSpec).at F).post enc Tryz.prog Tryz.f4 false true false false) := by
  refine returnsInHanded_of_cond (C := Tryz.checked) (s := Rows.OpenSpec.upto Rows.storeActsSpec) (k := Rows.uptoSmall) rfl own started (by kernel_rfl) Tryz.func4
    (OpenSpec.witness (enc := enc) (C := Tryz.checked) (s := Rows.OpenSpec.upto Rows.storeActsSpec) (k := Rows.uptoSmall) rfl false ⟨#[], #[.int .i64 0, .slice none 0 0, .string ⟨#[]⟩], []⟩ 8 (by kernel_rfl) (by kernel_rfl) (by kernel_rfl)
      (x := ([.lit (.int .i64 0), .nil, .lit (.string [])], [], [])) (by kernel_rfl) rfl (by kernel_rfl)) ?_
  intro W base args ds gs before hval0 hW _ hk0 _
  have hk : Rows.uptoBulkAll (ds ++ gs) ≤ 1048576 := of_decide_eq_true hk0
  have hval : ∀ (j : Nat) t v, Tryz.f4.params[j]? = some t → args[j]? = some v → Value.okWide Tryz.prog W .any base t v := hval0
  have hW' := hW
  obtain ⟨p, q, hA0, hV, rfl, hfz, hnd⟩ := hW
  have hA : DataW.TrodAll enc Tryz.prog W 0 (fun _ => true) true Tryz.f4.params.toList args.toList ds p := hA0
  rw [Tryz.params4] at hA hval
  obtain ⟨v0, vs0, d0, ds0, p0, q0, hargs, rfl, rfl, h0, r0⟩ := trodAll_cons hA
  obtain ⟨v1, vs1, d1, ds1, p1, q1, rfl, rfl, rfl, h1, r1⟩ := trodAll_cons r0
  obtain ⟨v2, vs2, d2, ds2, p2, q2, rfl, rfl, rfl, h2, r2⟩ := trodAll_cons r1
  obtain ⟨rfl, rfl, rfl⟩ := trodAll_nil r2
  obtain rfl : args = #[v0, v1, v2] := by cases args; simp_all
  obtain ⟨rfl, rfl⟩ := trodVars_none hV
  simp only [List.append_nil, Rows.uptoBulkAll] at hk
  obtain ⟨a0, rfl, rfl, rfl, w0⟩ := open_int Tryz.underlying3 (hval 0 3 v0 rfl rfl) h0
  have k1 := h1
  have lt1 : ∀ x ∈ p1, x.block < W.heap.size := by obtain ⟨m, hm⟩ := k1; exact DataW.trod_lt m _ _ _ hm
  have s1 : Rows.uptoBulk d1 ≤ 1048576 := by omega
  obtain ⟨b1, nn1, cc1, rfl⟩ := okWide_slice Tryz.underlying30 (hval 1 30 v1 rfl rfl)
  obtain ⟨fu1, hf1⟩ := h1
  obtain ⟨a1, len1, cap1, V1, e1, w1, m1⟩ := items_in_upto hf1 s1
  simp [Value.cells] at e1
  obtain ⟨rfl, rfl, rfl⟩ := e1
  obtain ⟨a2, rfl, rfl, rfl, w2⟩ := open_string Tryz.underlying9 (hval 2 9 v2 rfl rfl) h2
  have s2 : a2.size ≤ 1048576 := by have e : a2.data.toList.length = a2.size := Array.length_toList; simp only [Rows.uptoBulk] at hk; omega
  clear hA0 hval0
  refine (walk a0 b1 nn1 cc1 V1 a2 W w0 w1 m1 s2).mono fun e W' ⟨he, bel⟩ => ?_
  subst he
  exact ⟨_, rfl, _, _, _, [], _, [], hW', trodAll_mk1 (shut_bool Tryz.underlying4 _), (trodAll_cons_mk (shut_int Tryz.underlying3 w0) (trodAll_cons_mk (Below.trod laidOut (by kernel_rfl) (of_decide_eq_true (by kernel_rfl)) k1 bel lt1) (trodAll_cons_mk (shut_string Tryz.underlying9 w2) trodAll_mk0))), rfl, bel.frame _, fun h => by cases h⟩

theorem over : Rows.storeActsUptoRow.holds Tryz.pinned (Rows.OpenSpec.upto Rows.storeActsSpec) :=
  OpenClaim.holds_of_cond 4 Tryz.f4 rfl rfl rfl rfl rfl rfl rfl ⟨rfl, rfl, rfl, rfl, rfl⟩ rfl rfl rfl rfl rfl (by kernel_rfl) Tryz.func4 (by kernel_rfl)
    (of_decide_eq_true (by kernel_rfl)) (by unfold Func.isWrapper; first | (rw [if_pos (by decide +kernel)]; kernel_rfl) | (rw [if_neg (by decide +kernel)]; exact ⟨rfl, rfl⟩))
    (fun os started H enc _ F => lifted os started H enc F)

theorem proved : Rows.StoreActsUptoSaid := over
#print axioms proved
end Go.Proofs.YtbbjklenpgkooaaGreat.storeActs

/-
  The statements' own check that a record is read again; a journal's records as the statements list them; lists that are alike.
  Conditions: none.
-/
import Derived.Test.YthfpljfndnjcnaaJoLife
namespace Go.Proofs.Ythfpljfndnjcnaa
open Go.RowKit By Dk Su Jo
set_option linter.unusedVariables false
set_option linter.unusedSimpArgs false

theorem Life.down {B : Nat} {w0 w : World} {K : Nat → Prop} {V : Nat → Nat → Nat} {p n jp g m : Nat} {st : Nat → Nat} {ms : Nat} {ln : Nat → Nat} {ft : Nat → Nat → Nat} {F : Nat → Prop} {f A : Nat → Nat} {D : Nat → Nat → Nat} {R : Value} {Aa : Nat → Option Addr} {C : Nat → Nat}
    (h : Life B w0 w K V p n jp g m st ms ln ft F 0 f A D R Aa C) : Down B w0 w F p n g m st ln ft f A D := by
  have e := h.hV
  rw [vw_zero] at e
  have i := h.inv
  have e0 := vw_zero f A D
  have r := i.recs
  have t := i.top
  have s := i.same
  rw [e0] at r t s
  exact ⟨h.jd.dsk, r, t, s, by rw [← e]; exact h.alike, h.n3⟩

theorem elt_make {w w1 : World} (h : Blk w1 w.heap.size 5 60 (fun _ => .int .u8 0)) : Elt w1 (some ⟨w.heap.size, 0, none⟩) 60 60 (fun _ => 0) :=
  ⟨(h.congr fun k hk => by simp).row, (fun e => by cases e), Nat.le_refl _, by omega, fun _ => by omega, fun ad e => by cases e; exact h.lt⟩

set_option maxHeartbeats 2000000 in
set_option maxRecDepth 100000 in
theorem jawake (w : World) : Calls Try.prog 9 #[] w fun e w' => e = .returned (.bool true) ∧ Below w.heap.size w w' := by
  have hN := dnew 8 8 rfl w (by omega) (by omega)
  have hmk : ∀ v : World, ∃ w1, (Instr.makeSlice 31 (.int .i64 60) (.int .i64 60)).run Try.prog v = .ok (.slice (some ⟨v.heap.size, 0, none⟩) 60 60) w1 ∧ Hid (Blk w1 v.heap.size 5 60 (fun _ => .int .u8 0) ∧ Below v.heap.size v w1) := fun v => by
    obtain ⟨w1, h1, h2, h3, h4⟩ := make_blk v 60 (by omega)
    exact ⟨w1, h1, h2, h3⟩
  have HMK := hid hmk
  clear hmk
  go_enter Try.func9, Try.ntmps9
  go_wp2_with (first
    | (go_at_call 8; refine hN.mono ?_; rintro e w1 ⟨p, F, rfl, d1⟩; clear hN
       have hO1 := (down_new d1 (by omega) (fun _ => 0) (fun _ _ => 0)).open_ (by omega) d1.size
       clear d1)
    | (go_at_call 10; refine hO1.mono ?_; rintro e w2 ⟨jp, G, K, R, Aa, C, rfl, hb2, htop, hG0, hKF, ln', ft', hl, _⟩; clear hO1
       obtain rfl : G = 0 := by omega
       obtain ⟨w3, hm3, HM3⟩ := HMK.out w2
       have hl3 := hl.below HM3.out.2
       have hP := hl3.put_ok (some ⟨w2.heap.size, 0, none⟩) 60 60 (fun _ => 0) (elt_make HM3.out.1).w (fun _ ad e hK => by cases e; have := (hl.foot _ hK).2; simp at this) (by omega) (by show 0 + 2 ≤ 8; omega) (by omega)
       clear hb2 htop hG0 hKF hl hl3 HMK)
    | (go_at_call 22; refine hP.mono ?_; rintro e w4 ⟨rfl, K4, V4, F4, A4, D4, R4, Aa4, C4, hl4, _, _, _, hv4⟩; clear hP
       have HV := hid (hv4 0 (pcs_pos 60))
       have hS := hl4.sync
       clear hl4 hv4)
    | (go_at_call 11; refine hS.mono ?_; rintro e w5 ⟨rfl, t5, hl5⟩; clear hS
       have hVf := hl5.hV
       rw [vw_zero] at hVf
       have HVF := hid hVf
       have hO2 := hl5.down.open_ (by omega) hl5.jd.dsk.size
       clear hl5 t5 hVf)
    | (go_at_call 10; refine hO2.mono ?_; rintro e w6 ⟨jq, G, K6, R6, Aa6, C6, rfl, hb6, htop, hG, hKF, ln6, ft6, hl6, hal⟩; clear hO2
       have hG1 : G = 1 := by
         have h1 := htop.le 0 (by omega)
         rw [← HVF.out] at h1
         have e0 : V4 0 = mkS 1 1 60 (fun _ => 0) 0 := HV.out
         rw [e0, mk_gen (by omega)] at h1
         have := h1 (mk_ok (pcs_pos 60) (by omega))
         omega
       subst hG1
       have hln : ln6 0 = 60 := (hal 0 (by omega)).1
       have hget := hl6.jd.jn.get 0 0 rfl (by omega)
       rw [hln] at hget
       have HL6 := hid hl6
       clear hb6 htop hG hKF hl6 hal)
    | (go_at_call 27; refine hget.mono ?_; rintro e w7 ⟨y7, c7, rfl, hb7, _, _⟩; clear hget
       have hl7 := HL6.out.below hb7
       have hgen : Calls Try.prog 17 #[.pointer (some ⟨jq, 0, none⟩)] w7 fun e w' => e = .returned (.int .i64 2) ∧ w' = w7 := hl7.jd.jn.gen
       have hlen : Calls Try.prog 23 #[.pointer (some ⟨jq, 0, none⟩)] w7 fun e w' => e = .returned (.int .i64 1) ∧ w' = w7 := hl7.jd.jn.len
       have HB7 := hid hl7.jd.dsk.bel
       clear hb7 hl7 HL6)
    | (go_at_call 17; refine hgen.mono ?_; rintro e w' ⟨rfl, hw⟩; subst w'; clear hgen)
    | (go_at_call 23; refine hlen.mono ?_; rintro e w' ⟨rfl, hw⟩; subst w'; clear hlen))
  go_ret
  exact ⟨rfl, HB7.out⟩

end Go.Proofs.Ythfpljfndnjcnaa

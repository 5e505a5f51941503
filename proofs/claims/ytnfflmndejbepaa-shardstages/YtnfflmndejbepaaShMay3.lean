/-
  CheckShard, nextMay and Check.
  Conditions: what they are handed lies in memory.
-/
import Derived.Test.YtnfflmndejbepaaShMay2
namespace Go.Proofs.Ytnfflmndejbepaa.Sh
set_option linter.unusedSectionVars false
variable [Inhabited DZ]
open Go.RowKit By Fl
set_option linter.unusedVariables false
set_option linter.unusedSimpArgs false
set_option maxRecDepth 100000

theorem undosMay_all {w : World} {F G : Nat → Prop} {x y : Option Addr} {n c m d : Nat} {U : List UV} {L : List Ent} (hu : Us w F x n c U) (he : Es w G y m d L) :
    Calls Try.prog 48 #[.slice x n c, .slice y m d] w fun e w' => e = .returned (.bool (bz ((U.map pU).length ≤ L.length ∧ UOk (U.map pU) L))) ∧ Below w.heap.size w w' := by
  have h1 := hu.len
  have h2 := he.len
  by_cases h : n ≤ m
  · rw [bz_congr (q := UOk (U.map pU) L) ⟨fun h => h.2, fun k => ⟨by rw [List.length_map]; omega, k⟩⟩]
    exact undosMay_any hu he h
  · rw [bz_false fun k => by have := k.1; rw [List.length_map] at this; omega]
    exact undosMay_no (by omega)

def zSV : SV := ⟨0, 0, none, 0, 0, [], none, 0, 0, [], none, 0, 0, []⟩
theorem zSV_at (w : World) (F : Nat → Prop) : SAt w F zSV := ⟨Lis.empty w F, Lis.empty w F, Lis.empty w F⟩
theorem zSV_is : pS zSV = zS := rfl

/- A box that holds a shard. -/
structure SFacts (w1 : World) (p : Nat) (v : SV) (W : World) : Prop where
  b : Below w1.heap.size w1 W
  c0 : W.cell? ⟨p, 0, none⟩ = some (.int .i64 v.pl)
  c1 : W.cell? ⟨p, 1, none⟩ = some (.int .i64 v.si)
  c2 : W.cell? ⟨p, 2, none⟩ = some (.slice v.x1 v.n1 v.c1)
  c3 : W.cell? ⟨p, 3, none⟩ = some (.slice v.x2 v.n2 v.c2)
  c4 : W.cell? ⟨p, 4, none⟩ = some (.slice v.x3 v.n3 v.c3)
theorem SFacts.below {w1 W W' : World} {p : Nat} {v : SV} (h : SFacts w1 p v W) (k : Below W.heap.size W W') : SFacts w1 p v W' := ⟨on h.b k, keep k h.c0, keep k h.c1, keep k h.c2, keep k h.c3, keep k h.c4⟩
theorem SFacts.new (w : World) (v : SV) : SFacts (w.alloc (.cells (SCells v) 26)) w.heap.size v (w.alloc (.cells (SCells v) 26)) := by
  refine ⟨Below.refl _ _, ?_, ?_, ?_, ?_, ?_⟩ <;> unfold SCells <;> go_simp

theorem okS_bits {s : Shd} (h0 : s.si ≠ 0) {t1 t2 tI tL tU : Bool} (h1 : t1 = decide ((0 : Int) ≤ s.si ∧ s.si ≤ 1048576)) (h2 : t2 = decide ((0 : Int) ≤ s.pl ∧ s.pl ≤ 31)) (hI : tI = bz (IOk s.its)) (hL : tL = bz (LOk s.log)) (hU : tU = bz (s.und.length ≤ s.log.length ∧ UOk s.und s.log)) :
    bz (okS s) = (t1 && t2 && tI && tL && tU) := by
  refine bz_eq ?_
  rw [okS_si h0, h1, h2, hI, hL, hU]
  simp only [Bool.and_eq_true, decide_eq_true_eq]
  constructor
  · rintro ⟨⟨⟨⟨a, b⟩, c⟩, d⟩, e⟩
    exact ⟨by omega, b, (bz_of e).1, bz_of c, bz_of d, (bz_of e).2⟩
  · rintro ⟨a, b, c, d, e, f⟩
    exact ⟨⟨⟨⟨by omega, b⟩, bz_true d⟩, bz_true e⟩, bz_true ⟨c, f⟩⟩

theorem okS_zero {s : Shd} (h : s = zS) : decide ((0 : Int) ≤ s.si ∧ s.si ≤ 1048576) = true ∧ decide ((0 : Int) ≤ s.pl ∧ s.pl ≤ 31) = true ∧ bz (IOk s.its) = true ∧ bz (LOk s.log) = true ∧ bz (s.und.length ≤ s.log.length ∧ UOk s.und s.log) = true := by
  subst h
  exact ⟨by decide, by decide, bz_true iok_nil, bz_true lok_nil, bz_true ⟨Nat.le_refl _, uok_nil _⟩⟩

set_option maxHeartbeats 6400000 in
theorem checkShard_any {w : World} {F : Nat → Prop} {v : SV} (h : SAt w F v) : Calls Try.prog 16 #[vS v] w fun e w' => e = .returned (.int .i64 (er (bz (okS (pS v))))) ∧ Below w.heap.size w w' := by
  obtain ⟨w1, hw1⟩ : ∃ w1, w1 = w.alloc (.cells (SCells v) 26) := ⟨_, rfl⟩
  have bb : Below w.heap.size w w1 := by rw [hw1]; exact al _ _
  have hF : SFacts w1 w.heap.size v w1 := by rw [hw1]; exact SFacts.new w v
  obtain ⟨t1, h1⟩ : ∃ t, t = decide ((0 : Int) ≤ v.si ∧ v.si ≤ 1048576) := ⟨_, rfl⟩
  obtain ⟨t2, h2⟩ : ∃ t, t = decide ((0 : Int) ≤ v.pl ∧ v.pl ≤ 31) := ⟨_, rfl⟩
  obtain ⟨tI, hI⟩ : ∃ t, t = bz (IOk (v.I.map pI)) := ⟨_, rfl⟩
  obtain ⟨tL, hL⟩ : ∃ t, t = bz (LOk v.E) := ⟨_, rfl⟩
  obtain ⟨tU, hU⟩ : ∃ t, t = bz ((v.U.map pU).length ≤ v.E.length ∧ UOk (v.U.map pU) v.E) := ⟨_, rfl⟩
  obtain ⟨tS, hS⟩ : ∃ t, t = bz (pS v = pS zSV) := ⟨_, rfl⟩
  have HC1 : Hid (∀ W, Calls Try.prog 42 #[.int .i64 v.si, .int .i64 0, .int .i64 1048576] W fun e w' => e = .returned (.bool t1) ∧ w' = W) := fun W => by rw [h1]; exact within_any _ _ _ W
  have HC2 : Hid (∀ W, Calls Try.prog 42 #[.int .i64 v.pl, .int .i64 0, .int .i64 31] W fun e w' => e = .returned (.bool t2) ∧ w' = W) := fun W => by rw [h2]; exact within_any _ _ _ W
  have HC3 : Hid (∀ W, Below w1.heap.size w1 W → Calls Try.prog 46 #[.slice v.x1 v.n1 v.c1] W fun e w' => e = .returned (.bool tI) ∧ Below W.heap.size W w') := fun W hW => by rw [hI]; exact itemsMay_any (Is.below h.i (on bb hW))
  have HC4 : Hid (∀ W, Below w1.heap.size w1 W → Calls Try.prog 47 #[.slice v.x2 v.n2 v.c2] W fun e w' => e = .returned (.bool tL) ∧ Below W.heap.size W w') := fun W hW => by rw [hL]; exact logMay_any (Es.below h.e (on bb hW))
  have HC5 : Hid (∀ W, Below w1.heap.size w1 W → Calls Try.prog 48 #[.slice v.x3 v.n3 v.c3, .slice v.x2 v.n2 v.c2] W fun e w' => e = .returned (.bool tU) ∧ Below W.heap.size W w') := fun W hW => by rw [hU]; exact undosMay_all (Us.below h.u (on bb hW)) (Es.below h.e (on bb hW))
  have hC0 : Calls Try.prog 45 #[vS v, vS zSV] w1 fun e w' => e = .returned (.bool tS) ∧ Below w1.heap.size w1 w' := by rw [hS]; exact sameShard_any (h.below bb) (zSV_at w1 F)
  obtain ⟨R, hR⟩ : ∃ R, R = bz (okS (pS v)) := ⟨_, rfl⟩
  have HR0 : Hid (v.si ≠ 0 → R = (t1 && t2 && tI && tL && tU)) := fun h0 => by rw [hR]; exact okS_bits h0 h1 h2 hI hL hU
  have HR1 : Hid (v.si = 0 → R = tS) := fun h0 => by rw [hR, hS]; exact bz_congr (okS_si0 (s := pS v) h0)
  have HR2 : Hid (tS = true → t1 = true ∧ t2 = true ∧ tI = true ∧ tL = true ∧ tU = true) := fun hs => by
    rw [hS] at hs
    rw [h1, h2, hI, hL, hU]
    exact okS_zero (s := pS v) (bz_of hs)
  rw [← hR]
  have HB := hid bb
  have HW := hid hw1
  obtain ⟨z0, hz0⟩ : ∃ t, (v.si == 0) = t := ⟨_, rfl⟩
  have HZ : Hid (z0 = true ↔ v.si = 0) := hid (by rw [← hz0]; simp)
  clear h h1 h2 hI hL hU hS hR bb
  obtain ⟨pl, si, x1, n1, c1, I, x2, n2, c2, E, x3, n3, c3, U⟩ := v
  unfold vS zSV at hC0
  unfold vS
  unfold SCells at hw1 HW
  obtain ⟨_, f0, f1, f2, f3, f4⟩ := id hF
  dsimp only at *
  have HF := hid hF
  clear hF
  subst hw1
  have hF := HF.out
  cases z0 with
  | true =>
    have e0 : si = 0 := HZ.out.1 rfl
    subst e0
    cases tS with
    | false =>
      have e1 : R = false := HR1.out rfl
      subst e1
      go_enter Try.func16, Try.ntmps16
      go_wp2_with (go_at_call 45; refine hC0.mono ?_; rintro e w2 ⟨rfl, hb⟩)
      go_ret
      exact ⟨rfl, on HB.out hb⟩
    | true =>
      have e1 : R = true := HR1.out rfl
      subst e1
      obtain ⟨rfl, rfl, rfl, rfl, rfl⟩ := HR2.out rfl
      go_enter Try.func16, Try.ntmps16
      go_wp2_with (first
        | (go_at_call 45; refine hC0.mono ?_; rintro e w2 ⟨rfl, hb⟩; clear hC0; replace hF := hF.below hb; obtain ⟨_, c0, c1, c2, c3, c4⟩ := id hF)
        | (go_at_call 42; (with_reducible first | refine (HC1.out _).mono ?_ | refine (HC2.out _).mono ?_); rintro e w1 ⟨rfl, hw⟩; subst w1)
        | (go_at_call 46; refine (HC3.out _ hF.b).mono ?_; rintro e w2 ⟨rfl, hb⟩; replace hF := hF.below hb; obtain ⟨_, c0, c1, c2, c3, c4⟩ := id hF)
        | (go_at_call 47; refine (HC4.out _ hF.b).mono ?_; rintro e w2 ⟨rfl, hb⟩; replace hF := hF.below hb; obtain ⟨_, c0, c1, c2, c3, c4⟩ := id hF)
        | (go_at_call 48; refine (HC5.out _ hF.b).mono ?_; rintro e w2 ⟨rfl, hb⟩; replace hF := hF.below hb; obtain ⟨_, c0, c1, c2, c3, c4⟩ := id hF))
      go_ret
      exact ⟨by rfl, on HB.out hF.b⟩
  | false =>
    have e0 : R = (t1 && t2 && tI && tL && tU) := HR0.out fun h => by have := HZ.out.2 h; cases this
    subst e0
    cases t1
    · go_enter Try.func16, Try.ntmps16
      go_wp2_with (first
        | (go_at_call 42; (with_reducible first | refine (HC1.out _).mono ?_ | refine (HC2.out _).mono ?_); rintro e w1 ⟨rfl, hw⟩; subst w1)
        | (go_at_call 46; refine (HC3.out _ hF.b).mono ?_; rintro e w2 ⟨rfl, hb⟩; replace hF := hF.below hb; obtain ⟨_, c0, c1, c2, c3, c4⟩ := id hF)
        | (go_at_call 47; refine (HC4.out _ hF.b).mono ?_; rintro e w2 ⟨rfl, hb⟩; replace hF := hF.below hb; obtain ⟨_, c0, c1, c2, c3, c4⟩ := id hF)
        | (go_at_call 48; refine (HC5.out _ hF.b).mono ?_; rintro e w2 ⟨rfl, hb⟩; replace hF := hF.below hb; obtain ⟨_, c0, c1, c2, c3, c4⟩ := id hF))
      go_ret
      exact ⟨by rfl, on HB.out hF.b⟩
    cases t2
    · go_enter Try.func16, Try.ntmps16
      go_wp2_with (first
        | (go_at_call 42; (with_reducible first | refine (HC1.out _).mono ?_ | refine (HC2.out _).mono ?_); rintro e w1 ⟨rfl, hw⟩; subst w1)
        | (go_at_call 46; refine (HC3.out _ hF.b).mono ?_; rintro e w2 ⟨rfl, hb⟩; replace hF := hF.below hb; obtain ⟨_, c0, c1, c2, c3, c4⟩ := id hF)
        | (go_at_call 47; refine (HC4.out _ hF.b).mono ?_; rintro e w2 ⟨rfl, hb⟩; replace hF := hF.below hb; obtain ⟨_, c0, c1, c2, c3, c4⟩ := id hF)
        | (go_at_call 48; refine (HC5.out _ hF.b).mono ?_; rintro e w2 ⟨rfl, hb⟩; replace hF := hF.below hb; obtain ⟨_, c0, c1, c2, c3, c4⟩ := id hF))
      go_ret
      exact ⟨by rfl, on HB.out hF.b⟩
    cases tI
    · go_enter Try.func16, Try.ntmps16
      go_wp2_with (first
        | (go_at_call 42; (with_reducible first | refine (HC1.out _).mono ?_ | refine (HC2.out _).mono ?_); rintro e w1 ⟨rfl, hw⟩; subst w1)
        | (go_at_call 46; refine (HC3.out _ hF.b).mono ?_; rintro e w2 ⟨rfl, hb⟩; replace hF := hF.below hb; obtain ⟨_, c0, c1, c2, c3, c4⟩ := id hF)
        | (go_at_call 47; refine (HC4.out _ hF.b).mono ?_; rintro e w2 ⟨rfl, hb⟩; replace hF := hF.below hb; obtain ⟨_, c0, c1, c2, c3, c4⟩ := id hF)
        | (go_at_call 48; refine (HC5.out _ hF.b).mono ?_; rintro e w2 ⟨rfl, hb⟩; replace hF := hF.below hb; obtain ⟨_, c0, c1, c2, c3, c4⟩ := id hF))
      go_ret
      exact ⟨by rfl, on HB.out hF.b⟩
    cases tL
    · go_enter Try.func16, Try.ntmps16
      go_wp2_with (first
        | (go_at_call 42; (with_reducible first | refine (HC1.out _).mono ?_ | refine (HC2.out _).mono ?_); rintro e w1 ⟨rfl, hw⟩; subst w1)
        | (go_at_call 46; refine (HC3.out _ hF.b).mono ?_; rintro e w2 ⟨rfl, hb⟩; replace hF := hF.below hb; obtain ⟨_, c0, c1, c2, c3, c4⟩ := id hF)
        | (go_at_call 47; refine (HC4.out _ hF.b).mono ?_; rintro e w2 ⟨rfl, hb⟩; replace hF := hF.below hb; obtain ⟨_, c0, c1, c2, c3, c4⟩ := id hF)
        | (go_at_call 48; refine (HC5.out _ hF.b).mono ?_; rintro e w2 ⟨rfl, hb⟩; replace hF := hF.below hb; obtain ⟨_, c0, c1, c2, c3, c4⟩ := id hF))
      go_ret
      exact ⟨by rfl, on HB.out hF.b⟩
    cases tU
    · go_enter Try.func16, Try.ntmps16
      go_wp2_with (first
        | (go_at_call 42; (with_reducible first | refine (HC1.out _).mono ?_ | refine (HC2.out _).mono ?_); rintro e w1 ⟨rfl, hw⟩; subst w1)
        | (go_at_call 46; refine (HC3.out _ hF.b).mono ?_; rintro e w2 ⟨rfl, hb⟩; replace hF := hF.below hb; obtain ⟨_, c0, c1, c2, c3, c4⟩ := id hF)
        | (go_at_call 47; refine (HC4.out _ hF.b).mono ?_; rintro e w2 ⟨rfl, hb⟩; replace hF := hF.below hb; obtain ⟨_, c0, c1, c2, c3, c4⟩ := id hF)
        | (go_at_call 48; refine (HC5.out _ hF.b).mono ?_; rintro e w2 ⟨rfl, hb⟩; replace hF := hF.below hb; obtain ⟨_, c0, c1, c2, c3, c4⟩ := id hF))
      go_ret
      exact ⟨by rfl, on HB.out hF.b⟩
    · go_enter Try.func16, Try.ntmps16
      go_wp2_with (first
        | (go_at_call 42; (with_reducible first | refine (HC1.out _).mono ?_ | refine (HC2.out _).mono ?_); rintro e w1 ⟨rfl, hw⟩; subst w1)
        | (go_at_call 46; refine (HC3.out _ hF.b).mono ?_; rintro e w2 ⟨rfl, hb⟩; replace hF := hF.below hb; obtain ⟨_, c0, c1, c2, c3, c4⟩ := id hF)
        | (go_at_call 47; refine (HC4.out _ hF.b).mono ?_; rintro e w2 ⟨rfl, hb⟩; replace hF := hF.below hb; obtain ⟨_, c0, c1, c2, c3, c4⟩ := id hF)
        | (go_at_call 48; refine (HC5.out _ hF.b).mono ?_; rintro e w2 ⟨rfl, hb⟩; replace hF := hF.below hb; obtain ⟨_, c0, c1, c2, c3, c4⟩ := id hF))
      go_ret
      exact ⟨by rfl, on HB.out hF.b⟩

end Go.Proofs.Ytnfflmndejbepaa.Sh

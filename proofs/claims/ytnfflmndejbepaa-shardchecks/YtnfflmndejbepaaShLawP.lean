/-
  What the laws are told of each call, alike of the program's and the document's.
  Conditions: what lies in memory came in, or a call told it.
-/
import Derived.Test.YtnfflmndejbepaaJShAwk
import Derived.Test.YtnfflmndejbepaaShBk
import Derived.Test.YtnfflmndejbepaaShRBk
import Derived.Test.YtnfflmndejbepaaShCom
import Derived.Test.YtnfflmndejbepaaShRStg
import Derived.Test.YtnfflmndejbepaaShRCom
import Derived.Test.YtnfflmndejbepaaShRWr
import Derived.Test.YtnfflmndejbepaaShRSm
import Derived.Test.YtnfflmndejbepaaJShWrP
namespace Go.Proofs.Ytnfflmndejbepaa.Sh
set_option linter.unusedSectionVars false
variable [Inhabited DZ]
open Go.RowKit By Fl
set_option linter.unusedVariables false
set_option linter.unusedSimpArgs false
set_option maxRecDepth 100000

/- A holder and a number told; it leans on what lies below B, or is new. -/
def LT (B : Nat) (w : World) (P : Hld × Int) (r : Ending) (w' : World) : Prop := ∃ v', r = .returned (.tuple #[vH v', .int .i64 P.2]) ∧ Hid (HAt w' (fun q => q < B ∨ New w w' q) v' ∧ pH v' = P.1 ∧ Below w.heap.size w w')

theorem OwH.toHF {w : World} {G0 Gl : Nat → Prop} {GN : Nat → Nat → Prop} {v : HV} (h : OwH w G0 Gl GN v) : HAt w (AllG G0 Gl GN) v :=
  ⟨h.now.toS.weak fun _ q => .inl q, own_lis srow h.own h.ln (fun g hg => .inr (.inl (h.gl g hg))) fun a ha => by
    obtain ⟨i, hi⟩ := List.mem_iff_getElem?.1 ha
    exact (h.nx i a hi).toS.weak fun _ q => .inr (.inr ⟨i, q⟩)⟩

theorem Tells.law {B : Nat} {w : World} {P : Hld × Int} {r : Ending} {w' : World} (h : Tells w P.1 P.2 r w') : LT B w P r w' := by
  obtain ⟨v', h1, h2⟩ := h
  obtain ⟨_, _, _, o, e, b, q⟩ := h2.out
  exact ⟨v', h1, hid ⟨o.toHF.weak fun k hk => .inr (q k hk), e, b⟩⟩
theorem RTells.law {B : Nat} {w : World} {P : Hld × Int} {r : Ending} {w' : World} (h : RTells w (fun q => q < B) P.1 P.2 r w') : LT B w P r w' := h
theorem RTells.law2 {B : Nat} {w : World} {P : Hld × Int} {r : Ending} {w' : World} (h : RTells w (fun q => q < B ∨ q < B) P.1 P.2 r w') : LT B w P r w' := by
  obtain ⟨v', h1, h2⟩ := h
  exact ⟨v', h1, hid ⟨h2.out.1.weak fun k hk => hk.imp (fun h => h.elim id id) id, h2.out.2⟩⟩

section
variable {B : Nat} {w : World} {F G : Nat → Prop} {v : HV} {s : SV}
theorem l_ask (since : Int) (h : HAt w F v) : Calls Try.prog 28 #[vH v, .int .i64 since] w (LT B w (askP (pH v) since)) := (ask_any since h).mono fun _ _ h => h.law
theorem l_rask (since : Int) (h : HAt w (fun q => q < B) v) : Calls Try.prog 29 #[vH v, .int .i64 since] w (LT B w (askP (pH v) since)) := (rask_any since h).mono fun _ _ h => h.law
theorem l_act (since : Int) (h : HAt w F v) : Calls Try.prog 33 #[vH v, .int .i64 since] w (LT B w (actP (pH v) since)) := (activate_any since h).mono fun _ _ h => h.law
theorem l_ract (since : Int) (h : HAt w (fun q => q < B) v) : Calls Try.prog 34 #[vH v, .int .i64 since] w (LT B w (actP (pH v) since)) := (ract_any since h).mono fun _ _ h => h.law
theorem l_stage (h : HAt w F v) (hs : SAt w G s) : Calls Try.prog 30 #[vH v, vS s] w (LT B w (stageP (pH v) (pS s))) := (stage_any h hs).mono fun _ _ h => h.law
theorem l_rstage (h : HAt w (fun q => q < B) v) (hs : SAt w (fun q => q < B) s) : Calls Try.prog 31 #[vH v, vS s] w (LT B w (stageP (pH v) (pS s))) := (rstage_any h hs).mono fun _ _ h => h.law2
theorem l_write (since : Int) (e : Ent) (c : CV) (h : HAt w F v) (he : e.nm.size ≤ 1048576) (hc : CAt w G c) (hsm : Small (pH v)) : Calls Try.prog 35 #[vH v, .int .i64 since, vE e, vC c] w (LT B w (writeP (pH v) since e (pC c))) := (write_any since e c h he hc hsm).mono fun _ _ h => h.law
theorem l_rwrite (since : Int) (e : Ent) (c : CV) (h : HAt w (fun q => q < B) v) (he : e.nm.size ≤ 1048576) (hc : CAt w (fun q => q < B) c) (hsm : Small (pH v)) : Calls Try.prog 36 #[vH v, .int .i64 since, vE e, vC c] w (LT B w (writeP (pH v) since e (pC c))) := (rwrite_any since e c h he hc hsm).mono fun _ _ h => h.law2
theorem l_commit (since head : Int) (h : HAt w F v) : Calls Try.prog 37 #[vH v, .int .i64 since, .int .i64 head] w (LT B w (commitP (pH v) since head)) := (commit_any since head h).mono fun _ _ h => h.law
theorem l_rcommit (since head : Int) (h : HAt w (fun q => q < B) v) (hsm : Small (pH v)) : Calls Try.prog 38 #[vH v, .int .i64 since, .int .i64 head] w (LT B w (commitP (pH v) since head)) := (rcommit_any since head h hsm).mono fun _ _ h => h.law
end

section
variable {w : World}
/- What is alike. -/
theorem same_yes {a b : HV} {z : Int} {F G : Nat → Prop} (ha : HAt w F a) (hb : HAt w G b) (he : pH a = pH b) : Calls Try.prog 32 #[vH a, .int .i64 z, vH b, .int .i64 z] w fun r w' => r = .returned (.bool true) ∧ Below w.heap.size w w' := by
  obtain ⟨b1, s1, h0, h1⟩ := two_boxes w (HCells a) (HCells b) 29
  have hS := rsame_any (ha.below b1) (hb.below b1)
  rw [bz_true he] at hS
  obtain ⟨w1, hw1⟩ : ∃ w1, w1 = (w.alloc (.cells (HCells a) 29)).alloc (.cells (HCells b) 29) := ⟨_, rfl⟩
  rw [← hw1] at b1 s1 h0 h1 hS
  obtain ⟨a0, a1, a2, a3, a4, a5, a6⟩ := hcells h0
  obtain ⟨c0, c1, c2, c3, c4, c5, c6⟩ := hcells h1
  have HB := hid b1
  have HW := hid hw1
  unfold vH at hS ⊢
  unfold HCells at hw1
  clear h0 h1 b1 s1 ha hb he
  go_enter Try.func32, Try.ntmps32
  go_upto_region 1 with (fail)
  rw [← hw1]
  clear hw1
  go_wp2_with (go_at_call 57; refine hS.mono ?_; rintro r w2 ⟨rfl, b2⟩; clear hS)
  go_ret
  exact ⟨rfl, on HB.out b2⟩
end

end Go.Proofs.Ytnfflmndejbepaa.Sh

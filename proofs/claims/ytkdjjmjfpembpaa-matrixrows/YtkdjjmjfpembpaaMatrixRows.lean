/-
  For any list of rows of bytes, any list of places and any number package matrix tells the identity, the rows that the list names, and the rank, as the document does, or refuses as it does: 'mooringlaw02.MatrixRows' returns true and leaves its arguments as they were.
  Conditions: none.
-/
import Derived.Test.YtkdjjmjfpembpaaRows
import Derived.WalkKit
import Derived.ProofKit
import Derived.OpenShut
import Derived.SizedLaws
import Derived.ShutString
import Derived.ChangeOld
import Derived.Below
import Derived.Test.YtkdjjmjfpembpaaMxLaw
import Derived.Test.YtkdjjmjfpembpaaMxWant
namespace Go.Proofs.Ytkdjjmjfpembpaa.matrixRows
open Go.ChangeShapes Go.WideShapes Go.ChangeAt Go.RowKit
open Gf
set_option linter.unusedVariables false

theorem own : ownKnob Try.prog.godebug = none := by kernel_rfl
theorem laidOut : laidOutB Try.prog = true := by kernel_rfl

theorem below_from_drewN {B m : Nat} {w x : World} (h : Below B (w.drewN m) x) : Below B w x := ⟨h.os, h.tape, h.output, h.size, h.block⟩

theorem ranks (f : Nat → Nat → Nat) (n m : Nat) : (rnk n f m).1 = (red n f m).1 :=
  (red_rnk n m f f (fun s _ j hj => rfl) m (Nat.le_refl _)).1.symm

set_option maxHeartbeats 4000000 in
set_option maxRecDepth 100000 in
theorem dark_lo (x : Option Addr) (n c : Nat) (A : Nat → Option Addr) (L C : Nat → Nat) (f : Nat → Nat → Nat) (y : Option Addr) (p c' : Nat) (lv : Nat → Int) (z : Int) (w W0 : World) (HW0 : Hid (W0 = w)) (HB0 : Below W0.heap.size W0 w) (hg : IsGrid W0 x n A L C f) (hi : IntsAt W0 y p lv) (hp : p ≤ 17592186043904) (hnil : y = none → p = 0 ∧ c' = 0) (hz : z < 1) (hd : ¬ LightN n L) :
    Calls Try.prog 4 #[.slice x n c, .slice y p c', .int .i64 z] w fun e w' => e = .returned (.bool true) ∧ Below w.heap.size w w' := by
  have g1 : ¬ (1 ≤ z) := by omega
  have hid := ident_no z w (.inl hz)
  have hl : ∀ v, Below W0.heap.size W0 v → Calls Try.prog 8 #[.slice x n c] v fun e w' => e = .returned (.bool false) ∧ w' = v := fun v hv => light_any x n c false A L C v (hg.below hv).1 ⟨fun h => (by cases h), fun h => absurd h hd⟩
  clear hg hi hd hnil
  go_enter Try.func4, Try.ntmps4
  go_wp2_with (first
    | (go_at_call 16; refine hid.mono ?_; rintro e w' ⟨rfl, rfl⟩; clear hid; have hbB := HB0)
    | (go_at_call 13; refine (errno_any false _).mono ?_; rintro e x1 ⟨rfl, rfl⟩)
    | (go_at_call 8; first | (refine (hl _ hbB).mono ?_; rintro e x4 ⟨rfl, rfl⟩) | (refine (hl _ (below_drewN' hbB _)).mono ?_; rintro e x4 ⟨rfl, rfl⟩))
    | (go_at_call 9; refine (awake_any _).mono ?_; rintro e x6 ⟨rfl, hb6⟩))
  go_ret
  have hfin := hbB.trans (by first | exact hb6.mono hbB.size | exact below_from_drewN (hb6.mono (by exact hbB.size)))
  rw [HW0.out] at hfin
  exact ⟨rfl, hfin⟩

set_option maxHeartbeats 4000000 in
set_option maxRecDepth 100000 in
theorem s1a_lo (x : Option Addr) (n c : Nat) (A : Nat → Option Addr) (L C : Nat → Nat) (f : Nat → Nat → Nat) (y : Option Addr) (p c' : Nat) (lv : Nat → Int) (z : Int) (w W0 : World) (HW0 : Hid (W0 = w)) (HB0 : Below W0.heap.size W0 w) (hg : IsGrid W0 x n A L C f) (hi : IntsAt W0 y p lv) (hp : p ≤ 17592186043904) (hnil : y = none → p = 0 ∧ c' = 0) (hz : z < 1) (hlt : LightN n L) (hm : ¬ MayN n L) (hq : p = 0) :
    Calls Try.prog 4 #[.slice x n c, .slice y p c', .int .i64 z] w fun e w' => e = .returned (.bool true) ∧ Below w.heap.size w w' := by
  have g1 : ¬ (1 ≤ z) := by omega
  have hid := ident_no z w (.inl hz)
  have hl : ∀ v, Below W0.heap.size W0 v → Calls Try.prog 8 #[.slice x n c] v fun e w' => e = .returned (.bool true) ∧ w' = v := fun v hv => light_any x n c true A L C v (hg.below hv).1 ⟨fun _ => hlt, fun _ => rfl⟩
  have HI : Hid (IntsAt W0 y p lv ∧ p ≤ 17592186043904 ∧ (y = none → p = 0 ∧ c' = 0)) := ⟨hi, hp, hnil⟩
  have hro : ∀ v, Below W0.heap.size W0 v → ∀ y' cy, Calls Try.prog 18 #[.slice x n c, .slice y' p cy] v fun e w' => e = .returned (.tuple #[.slice none 0 0, .int .i64 1]) ∧ w' = v := fun v hv y' cy => rows_out x y' n p c cy A L C v (hg.below hv).1 (.inl hm)
  have hrk : ∀ v, Below W0.heap.size W0 v → Calls Try.prog 19 #[.slice x n c] v fun e w' => e = .returned (.tuple #[.int .i64 0, .int .i64 1]) ∧ w' = v := fun v hv => rank_no x n c A L C v (hg.below hv).1 hm
  have hmy : ∀ v, Below W0.heap.size W0 v → Calls Try.prog 14 #[.slice x n c] v fun e w' => e = .returned (.bool false) ∧ ∃ k, w' = v.drewN k := fun v hv => may_any x n c false A L C v (hg.below hv).1 (fun k => absurd k hm) (fun _ => rfl)
  subst hq
  clear hg hi hlt hnil hm
  go_enter Try.func4, Try.ntmps4
  go_wp2_with (first
    | (go_at_call 16; refine hid.mono ?_; rintro e w' ⟨rfl, rfl⟩; clear hid; have hbB := HB0)
    | (go_at_call 13; refine (errno_any false _).mono ?_; rintro e x1 ⟨rfl, rfl⟩)
    | (go_at_call 8; first | (refine (hl _ hbB).mono ?_; rintro e x4 ⟨rfl, rfl⟩) | (refine (hl _ (below_drewN' hbB _)).mono ?_; rintro e x4 ⟨rfl, rfl⟩))
    | (go_at_call 14; first | (refine (hmy _ hbB).mono ?_; rintro e x5 ⟨rfl, m5, rfl⟩) | (refine (hmy _ (below_drewN' hbB _)).mono ?_; rintro e x5 ⟨rfl, m5, rfl⟩)))
  have HA : Hid (∀ m, Below W0.heap.size W0 ((_root_.Go.World.drewN _ m).alloc (.cells #[] 34))) := fun m => (below_drewN' hbB m).alloc (by exact hbB.size) _
  clear hbB
  go_loopw [9, 10, 11] (fun s9 _ s11 wr => s9 = .bool false ∧ s11 = .int .i64 0 ∧ Hid (Below W0.heap.size W0 wr)) (fun _ _ _ _ => 0)
  case atStart => exact ⟨rfl, rfl, HA.out _⟩
  case round =>
    clear HA
    obtain ⟨rfl, rfl, HWB⟩ := hrel
    obtain ⟨y5, c5, w5, hrun, hb5', hi5⟩ := ints_copy wr y 0 c' lv (HI.out.1.below (Nat.le_refl _) HWB.out) HI.out.2.1 (fun e => ⟨rfl, (HI.out.2.2 e).2⟩)
    have hb5 := HWB.out.trans (hb5'.mono HWB.out.size)
    clear hb5' HI hi5
    go_wp2_with (first
      | (at_builtin; refine wpList_append_run rfl _ _ 31 rfl _ _ rfl rfl hrun ?_; clear hrun)
      | (go_at_call 18; refine (hro _ hb5 _ _).mono ?_; rintro e x11 ⟨rfl, rfl⟩; clear hro)
      | (go_at_call 19; refine (hrk _ hb5).mono ?_; rintro e x7 ⟨rfl, rfl⟩; clear hrk)
      | (go_at_call 14; refine (hmy _ hb5).mono ?_; rintro e x9 ⟨rfl, m9, rfl⟩; clear hmy)
      | (go_at_call 13; refine (errno_any _ _).mono ?_; rintro e x8 ⟨rfl, rfl⟩)
      | (go_at_call 9; refine (awake_any _).mono ?_; rintro e x6 ⟨rfl, hb6⟩))
    go_ret
    have hfin := hb5.trans (below_from_drewN (hb6.mono (by exact hb5.size)))
    rw [HW0.out] at hfin
    exact ⟨rfl, hfin⟩

set_option maxHeartbeats 4000000 in
set_option maxRecDepth 100000 in
theorem s1b_lo (x : Option Addr) (n c : Nat) (A : Nat → Option Addr) (L C : Nat → Nat) (f : Nat → Nat → Nat) (y : Option Addr) (p c' : Nat) (lv : Nat → Int) (z : Int) (w W0 : World) (HW0 : Hid (W0 = w)) (HB0 : Below W0.heap.size W0 w) (hg : IsGrid W0 x n A L C f) (hi : IntsAt W0 y p lv) (hp : p ≤ 17592186043904) (hnil : y = none → p = 0 ∧ c' = 0) (hz : z < 1) (hlt : LightN n L) (hm : ¬ MayN n L) (hq : 0 < p) :
    Calls Try.prog 4 #[.slice x n c, .slice y p c', .int .i64 z] w fun e w' => e = .returned (.bool true) ∧ Below w.heap.size w w' := by
  have g1 : ¬ (1 ≤ z) := by omega
  have hid := ident_no z w (.inl hz)
  have hl : ∀ v, Below W0.heap.size W0 v → Calls Try.prog 8 #[.slice x n c] v fun e w' => e = .returned (.bool true) ∧ w' = v := fun v hv => light_any x n c true A L C v (hg.below hv).1 ⟨fun _ => hlt, fun _ => rfl⟩
  have HI : Hid (IntsAt W0 y p lv ∧ p ≤ 17592186043904 ∧ (y = none → p = 0 ∧ c' = 0)) := ⟨hi, hp, hnil⟩
  have hro : ∀ v, Below W0.heap.size W0 v → ∀ y' cy, Calls Try.prog 18 #[.slice x n c, .slice y' p cy] v fun e w' => e = .returned (.tuple #[.slice none 0 0, .int .i64 1]) ∧ w' = v := fun v hv y' cy => rows_out x y' n p c cy A L C v (hg.below hv).1 (.inl hm)
  have hrk : ∀ v, Below W0.heap.size W0 v → Calls Try.prog 19 #[.slice x n c] v fun e w' => e = .returned (.tuple #[.int .i64 0, .int .i64 1]) ∧ w' = v := fun v hv => rank_no x n c A L C v (hg.below hv).1 hm
  have hmy : ∀ v, Below W0.heap.size W0 v → Calls Try.prog 14 #[.slice x n c] v fun e w' => e = .returned (.bool false) ∧ ∃ k, w' = v.drewN k := fun v hv => may_any x n c false A L C v (hg.below hv).1 (fun k => absurd k hm) (fun _ => rfl)
  have hq1 : (0 : Int) < (p : Int) := by omega
  clear hg hi hlt hnil hm
  go_enter Try.func4, Try.ntmps4
  go_wp2_with (first
    | (go_at_call 16; refine hid.mono ?_; rintro e w' ⟨rfl, rfl⟩; clear hid; have hbB := HB0)
    | (go_at_call 13; refine (errno_any false _).mono ?_; rintro e x1 ⟨rfl, rfl⟩)
    | (go_at_call 8; first | (refine (hl _ hbB).mono ?_; rintro e x4 ⟨rfl, rfl⟩) | (refine (hl _ (below_drewN' hbB _)).mono ?_; rintro e x4 ⟨rfl, rfl⟩))
    | (go_at_call 14; first | (refine (hmy _ hbB).mono ?_; rintro e x5 ⟨rfl, m5, rfl⟩) | (refine (hmy _ (below_drewN' hbB _)).mono ?_; rintro e x5 ⟨rfl, m5, rfl⟩)))
  have HA : Hid (∀ m, Below W0.heap.size W0 ((_root_.Go.World.drewN _ m).alloc (.cells #[] 34))) := fun m => (below_drewN' hbB m).alloc (by exact hbB.size) _
  clear hbB
  go_loopw [9, 10, 11] (fun s9 _ s11 wr => s9 = .bool false ∧ s11 = .int .i64 0 ∧ Hid (Below W0.heap.size W0 wr)) (fun _ _ _ _ => 0)
  case atStart => exact ⟨rfl, rfl, HA.out _⟩
  case round =>
    clear HA
    obtain ⟨rfl, rfl, HWB⟩ := hrel
    obtain ⟨y5, c5, w5, hrun, hb5', hi5⟩ := ints_copy wr y p c' lv (HI.out.1.below (Nat.le_refl _) HWB.out) HI.out.2.1 HI.out.2.2
    have hb5 := HWB.out.trans (hb5'.mono HWB.out.size)
    clear hb5' HI hi5
    go_wp2_with (first
      | (at_builtin; refine wpList_append_run rfl _ _ 31 rfl _ _ rfl rfl hrun ?_; clear hrun)
      | (go_at_call 18; refine (hro _ hb5 _ _).mono ?_; rintro e x11 ⟨rfl, rfl⟩; clear hro)
      | (go_at_call 19; refine (hrk _ hb5).mono ?_; rintro e x7 ⟨rfl, rfl⟩; clear hrk)
      | (go_at_call 14; refine (hmy _ hb5).mono ?_; rintro e x9 ⟨rfl, m9, rfl⟩; clear hmy)
      | (go_at_call 13; refine (errno_any _ _).mono ?_; rintro e x8 ⟨rfl, rfl⟩)
      | (go_at_call 9; refine (awake_any _).mono ?_; rintro e x6 ⟨rfl, hb6⟩))
    go_ret
    have hfin := hb5.trans (below_from_drewN (hb6.mono (by exact hb5.size)))
    rw [HW0.out] at hfin
    exact ⟨rfl, hfin⟩

set_option maxHeartbeats 4000000 in
set_option maxRecDepth 100000 in
theorem s2_lo (x : Option Addr) (n c : Nat) (A : Nat → Option Addr) (L C : Nat → Nat) (f : Nat → Nat → Nat) (y : Option Addr) (p c' : Nat) (lv : Nat → Int) (z : Int) (w W0 : World) (HW0 : Hid (W0 = w)) (HB0 : Below W0.heap.size W0 w) (hg : IsGrid W0 x n A L C f) (hi : IntsAt W0 y p lv) (hp : p ≤ 17592186043904) (hnil : y = none → p = 0 ∧ c' = 0) (hz : z < 1) (hlt : LightN n L) (hm : MayN n L) (hq : p = 0) :
    Calls Try.prog 4 #[.slice x n c, .slice y p c', .int .i64 z] w fun e w' => e = .returned (.bool true) ∧ Below w.heap.size w w' := by
  have g1 : ¬ (1 ≤ z) := by omega
  have hid := ident_no z w (.inl hz)
  have hl : ∀ v, Below W0.heap.size W0 v → Calls Try.prog 8 #[.slice x n c] v fun e w' => e = .returned (.bool true) ∧ w' = v := fun v hv => light_any x n c true A L C v (hg.below hv).1 ⟨fun _ => hlt, fun _ => rfl⟩
  have HI : Hid (IntsAt W0 y p lv ∧ p ≤ 17592186043904 ∧ (y = none → p = 0 ∧ c' = 0)) := ⟨hi, hp, hnil⟩
  have hro : ∀ v, Below W0.heap.size W0 v → ∀ y' cy, Calls Try.prog 18 #[.slice x n c, .slice y' p cy] v fun e w' => e = .returned (.tuple #[.slice none 0 0, .int .i64 1]) ∧ w' = v := fun v hv y' cy => rows_out x y' n p c cy A L C v (hg.below hv).1 (.inr (by omega))
  have hmy : ∀ v, Below W0.heap.size W0 v → Calls Try.prog 14 #[.slice x n c] v fun e w' => e = .returned (.bool true) ∧ ∃ k, w' = v.drewN k := fun v hv => may_any x n c true A L C v (hg.below hv).1 (fun _ => rfl) (fun k => absurd hm k)
  obtain ⟨b, o, G, O, rfl, hM⟩ := grid_mat hg hm
  have hrk : ∀ v, Below W0.heap.size W0 v → Calls Try.prog 19 #[.slice (some ⟨b, o, none⟩) n c] v fun e w' => e = .returned (.tuple #[.int .i64 ((red n f (L 0)).1 : Int), .int .i64 0]) ∧ Below v.heap.size v w' := fun v hv => rank_yes b o n (L 0) c G O C f v (hM.below (Nat.le_refl _) hv) hm.1 hm.2.1 hm.2.2.1 hm.2.2.2.1
  have hrr : ∀ v, Below W0.heap.size W0 v → Calls Try.prog 20 #[.slice (some ⟨b, o, none⟩) n c] v fun e w' => e = .returned (.int .i64 ((red n f (L 0)).1 : Int)) ∧ Below v.heap.size v w' := fun v hv => by
    have := rrank_any b o n (L 0) c G O C f v (hM.below (Nat.le_refl _) hv) hm.1 hm.2.1 hm.2.2.1 hm.2.2.2.1
    rwa [ranks] at this
  generalize (red n f (L 0)).1 = R at hrk hrr
  subst hq
  clear hg hi hlt hnil hm hM
  go_enter Try.func4, Try.ntmps4
  go_wp2_with (first
    | (go_at_call 16; refine hid.mono ?_; rintro e w' ⟨rfl, rfl⟩; clear hid; have hbB := HB0)
    | (go_at_call 13; refine (errno_any false _).mono ?_; rintro e x1 ⟨rfl, rfl⟩)
    | (go_at_call 8; first | (refine (hl _ hbB).mono ?_; rintro e x4 ⟨rfl, rfl⟩) | (refine (hl _ (below_drewN' hbB _)).mono ?_; rintro e x4 ⟨rfl, rfl⟩))
    | (go_at_call 14; first | (refine (hmy _ hbB).mono ?_; rintro e x5 ⟨rfl, m5, rfl⟩) | (refine (hmy _ (below_drewN' hbB _)).mono ?_; rintro e x5 ⟨rfl, m5, rfl⟩)))
  have HA : Hid (∀ m, Below W0.heap.size W0 ((_root_.Go.World.drewN _ m).alloc (.cells #[] 34))) := fun m => (below_drewN' hbB m).alloc (by exact hbB.size) _
  clear hbB
  go_loopw [9, 10, 11] (fun s9 _ s11 wr => s9 = .bool false ∧ s11 = .int .i64 0 ∧ Hid (Below W0.heap.size W0 wr)) (fun _ _ _ _ => 0)
  case atStart => exact ⟨rfl, rfl, HA.out _⟩
  case round =>
    clear HA
    obtain ⟨rfl, rfl, HWB⟩ := hrel
    obtain ⟨y5, c5, w5, hrun, hb5', hi5⟩ := ints_copy wr y 0 c' lv (HI.out.1.below (Nat.le_refl _) HWB.out) HI.out.2.1 (fun e => ⟨rfl, (HI.out.2.2 e).2⟩)
    have hb5 := HWB.out.trans (hb5'.mono HWB.out.size)
    clear hb5' HI hi5
    go_wp2_with (first
      | (at_builtin; refine wpList_append_run rfl _ _ 31 rfl _ _ rfl rfl hrun ?_; clear hrun)
      | (go_at_call 18; refine (hro _ hb5 _ _).mono ?_; rintro e x11 ⟨rfl, rfl⟩; clear hro)
      | (go_at_call 19; refine (hrk _ hb5).mono ?_; rintro e x7 ⟨rfl, hb7⟩; clear hrk; have hb07 := hb5.trans (hb7.mono hb5.size))
      | (go_at_call 14; first | (refine (hmy _ hb07).mono ?_; rintro e x9 ⟨rfl, m9, rfl⟩) | (refine (hmy _ (below_drewN' hb07 _)).mono ?_; rintro e x9 ⟨rfl, m9, rfl⟩))
      | (go_at_call 20; refine (hrr _ (below_drewN' hb07 _)).mono ?_; rintro e x10 ⟨rfl, hb10⟩; have hb010 := hb07.trans (below_from_drewN (hb10.mono (by exact hb07.size))))
      | (go_at_call 13; refine (errno_any _ _).mono ?_; rintro e x8 ⟨rfl, rfl⟩)
      | (go_at_call 9; refine (awake_any _).mono ?_; rintro e x6 ⟨rfl, hb6⟩))
    go_ret
    have hfin := hb010.trans (hb6.mono (by exact hb010.size))
    rw [HW0.out] at hfin
    exact ⟨rfl, hfin⟩

set_option maxHeartbeats 4000000 in
set_option maxRecDepth 100000 in
theorem s3_lo (x : Option Addr) (n c : Nat) (A : Nat → Option Addr) (L C : Nat → Nat) (f : Nat → Nat → Nat) (y : Option Addr) (p c' : Nat) (lv : Nat → Int) (z : Int) (w W0 : World) (HW0 : Hid (W0 = w)) (HB0 : Below W0.heap.size W0 w) (hg : IsGrid W0 x n A L C f) (hi : IntsAt W0 y p lv) (hp : p ≤ 17592186043904) (hnil : y = none → p = 0 ∧ c' = 0) (hz : z < 1) (hlt : LightN n L) (hm : MayN n L) (hq : 255 < p) :
    Calls Try.prog 4 #[.slice x n c, .slice y p c', .int .i64 z] w fun e w' => e = .returned (.bool true) ∧ Below w.heap.size w w' := by
  have g1 : ¬ (1 ≤ z) := by omega
  have hid := ident_no z w (.inl hz)
  have hl : ∀ v, Below W0.heap.size W0 v → Calls Try.prog 8 #[.slice x n c] v fun e w' => e = .returned (.bool true) ∧ w' = v := fun v hv => light_any x n c true A L C v (hg.below hv).1 ⟨fun _ => hlt, fun _ => rfl⟩
  have HI : Hid (IntsAt W0 y p lv ∧ p ≤ 17592186043904 ∧ (y = none → p = 0 ∧ c' = 0)) := ⟨hi, hp, hnil⟩
  have hro : ∀ v, Below W0.heap.size W0 v → ∀ y' cy, Calls Try.prog 18 #[.slice x n c, .slice y' p cy] v fun e w' => e = .returned (.tuple #[.slice none 0 0, .int .i64 1]) ∧ w' = v := fun v hv y' cy => rows_out x y' n p c cy A L C v (hg.below hv).1 (.inr (by omega))
  have hmy : ∀ v, Below W0.heap.size W0 v → Calls Try.prog 14 #[.slice x n c] v fun e w' => e = .returned (.bool true) ∧ ∃ k, w' = v.drewN k := fun v hv => may_any x n c true A L C v (hg.below hv).1 (fun _ => rfl) (fun k => absurd hm k)
  obtain ⟨b, o, G, O, rfl, hM⟩ := grid_mat hg hm
  have hrk : ∀ v, Below W0.heap.size W0 v → Calls Try.prog 19 #[.slice (some ⟨b, o, none⟩) n c] v fun e w' => e = .returned (.tuple #[.int .i64 ((red n f (L 0)).1 : Int), .int .i64 0]) ∧ Below v.heap.size v w' := fun v hv => rank_yes b o n (L 0) c G O C f v (hM.below (Nat.le_refl _) hv) hm.1 hm.2.1 hm.2.2.1 hm.2.2.2.1
  have hrr : ∀ v, Below W0.heap.size W0 v → Calls Try.prog 20 #[.slice (some ⟨b, o, none⟩) n c] v fun e w' => e = .returned (.int .i64 ((red n f (L 0)).1 : Int)) ∧ Below v.heap.size v w' := fun v hv => by
    have := rrank_any b o n (L 0) c G O C f v (hM.below (Nat.le_refl _) hv) hm.1 hm.2.1 hm.2.2.1 hm.2.2.2.1
    rwa [ranks] at this
  generalize (red n f (L 0)).1 = R at hrk hrr
  have hq1 : decide ((0 : Int) < (p : Int)) = true := by simp; omega
  have hq2 : decide ((p : Int) ≤ 255) = false := by simp; omega
  clear hg hi hlt hnil hm hM
  go_enter Try.func4, Try.ntmps4
  go_wp2_with (first
    | (go_at_call 16; refine hid.mono ?_; rintro e w' ⟨rfl, rfl⟩; clear hid; have hbB := HB0)
    | (go_at_call 13; refine (errno_any false _).mono ?_; rintro e x1 ⟨rfl, rfl⟩)
    | (go_at_call 8; first | (refine (hl _ hbB).mono ?_; rintro e x4 ⟨rfl, rfl⟩) | (refine (hl _ (below_drewN' hbB _)).mono ?_; rintro e x4 ⟨rfl, rfl⟩))
    | (go_at_call 14; first | (refine (hmy _ hbB).mono ?_; rintro e x5 ⟨rfl, m5, rfl⟩) | (refine (hmy _ (below_drewN' hbB _)).mono ?_; rintro e x5 ⟨rfl, m5, rfl⟩)))
  have HA : Hid (∀ m, Below W0.heap.size W0 ((_root_.Go.World.drewN _ m).alloc (.cells #[] 34))) := fun m => (below_drewN' hbB m).alloc (by exact hbB.size) _
  clear hbB
  go_loopw [9, 10, 11] (fun s9 _ s11 wr => s9 = .bool false ∧ s11 = .int .i64 0 ∧ Hid (Below W0.heap.size W0 wr)) (fun _ _ _ _ => 0)
  case atStart => exact ⟨rfl, rfl, HA.out _⟩
  case round =>
    clear HA
    obtain ⟨rfl, rfl, HWB⟩ := hrel
    obtain ⟨y5, c5, w5, hrun, hb5', hi5⟩ := ints_copy wr y p c' lv (HI.out.1.below (Nat.le_refl _) HWB.out) HI.out.2.1 HI.out.2.2
    have hb5 := HWB.out.trans (hb5'.mono HWB.out.size)
    clear hb5' HI hi5
    go_wp2_with (first
      | (at_builtin; refine wpList_append_run rfl _ _ 31 rfl _ _ rfl rfl hrun ?_; clear hrun)
      | (go_at_call 18; refine (hro _ hb5 _ _).mono ?_; rintro e x11 ⟨rfl, rfl⟩; clear hro)
      | (go_at_call 19; refine (hrk _ hb5).mono ?_; rintro e x7 ⟨rfl, hb7⟩; clear hrk; have hb07 := hb5.trans (hb7.mono hb5.size))
      | (go_at_call 14; first | (refine (hmy _ hb07).mono ?_; rintro e x9 ⟨rfl, m9, rfl⟩) | (refine (hmy _ (below_drewN' hb07 _)).mono ?_; rintro e x9 ⟨rfl, m9, rfl⟩))
      | (go_at_call 20; refine (hrr _ (below_drewN' hb07 _)).mono ?_; rintro e x10 ⟨rfl, hb10⟩; have hb010 := hb07.trans (below_from_drewN (hb10.mono (by exact hb07.size))))
      | (go_at_call 13; refine (errno_any _ _).mono ?_; rintro e x8 ⟨rfl, rfl⟩)
      | (go_at_call 9; refine (awake_any _).mono ?_; rintro e x6 ⟨rfl, hb6⟩))
    go_ret
    have hfin := hb010.trans (hb6.mono (by exact hb010.size))
    rw [HW0.out] at hfin
    exact ⟨rfl, hfin⟩

set_option maxHeartbeats 4000000 in
set_option maxRecDepth 100000 in
theorem s4_lo (x : Option Addr) (n c : Nat) (A : Nat → Option Addr) (L C : Nat → Nat) (f : Nat → Nat → Nat) (y : Option Addr) (p c' : Nat) (lv : Nat → Int) (z : Int) (w W0 : World) (HW0 : Hid (W0 = w)) (HB0 : Below W0.heap.size W0 w) (hg : IsGrid W0 x n A L C f) (hi : IntsAt W0 y p lv) (hp : p ≤ 17592186043904) (hnil : y = none → p = 0 ∧ c' = 0) (hz : z < 1) (hlt : LightN n L) (hm : MayN n L) (g : Nat → Nat) (hp1 : 1 ≤ p) (hp2 : p ≤ 255) (hlv : ∀ i, i < p → lv i = (g i : Int)) (hgn : ∀ i, i < p → g i < n) :
    Calls Try.prog 4 #[.slice x n c, .slice y p c', .int .i64 z] w fun e w' => e = .returned (.bool true) ∧ Below w.heap.size w w' := by
  have g1 : ¬ (1 ≤ z) := by omega
  have hid := ident_no z w (.inl hz)
  have hl : ∀ v, Below W0.heap.size W0 v → Calls Try.prog 8 #[.slice x n c] v fun e w' => e = .returned (.bool true) ∧ w' = v := fun v hv => light_any x n c true A L C v (hg.below hv).1 ⟨fun _ => hlt, fun _ => rfl⟩
  have HI : Hid (IntsAt W0 y p lv ∧ p ≤ 17592186043904 ∧ (y = none → p = 0 ∧ c' = 0)) := ⟨hi, hp, hnil⟩
  have hmy : ∀ v, Below W0.heap.size W0 v → Calls Try.prog 14 #[.slice x n c] v fun e w' => e = .returned (.bool true) ∧ ∃ k, w' = v.drewN k := fun v hv => may_any x n c true A L C v (hg.below hv).1 (fun _ => rfl) (fun k => absurd hm k)
  obtain ⟨b, o, G, O, rfl, hM⟩ := grid_mat hg hm
  have hrk : ∀ v, Below W0.heap.size W0 v → Calls Try.prog 19 #[.slice (some ⟨b, o, none⟩) n c] v fun e w' => e = .returned (.tuple #[.int .i64 ((red n f (L 0)).1 : Int), .int .i64 0]) ∧ Below v.heap.size v w' := fun v hv => rank_yes b o n (L 0) c G O C f v (hM.below (Nat.le_refl _) hv) hm.1 hm.2.1 hm.2.2.1 hm.2.2.2.1
  have hrr : ∀ v, Below W0.heap.size W0 v → Calls Try.prog 20 #[.slice (some ⟨b, o, none⟩) n c] v fun e w' => e = .returned (.int .i64 ((red n f (L 0)).1 : Int)) ∧ Below v.heap.size v w' := fun v hv => by
    have := rrank_any b o n (L 0) c G O C f v (hM.below (Nat.le_refl _) hv) hm.1 hm.2.1 hm.2.2.1 hm.2.2.2.1
    rwa [ranks] at this
  generalize (red n f (L 0)).1 = R at hrk hrr
  have hq1 : decide ((0 : Int) < (p : Int)) = true := by simp; omega
  have hq2 : decide ((p : Int) ≤ 255) = true := by simp; omega
  obtain ⟨m, hm0⟩ : ∃ m, m = L 0 := ⟨_, rfl⟩
  rw [← hm0] at hM
  have hm1 : 1 ≤ m := by rw [hm0]; exact hm.2.2.1
  have hm2 : m ≤ 255 := by rw [hm0]; exact hm.2.2.2.1
  have hn1 := hm.1
  have hn2 := hm.2.1
  have HM : Hid (Mat W0 b o n m G O C f) := hM
  have HLV : Hid ((∀ i, i < p → lv i = (g i : Int)) ∧ ∀ i, i < p → g i < n) := ⟨hlv, hgn⟩
  clear hm0 hlv hgn
  clear hg hi hlt hnil hm hM
  go_enter Try.func4, Try.ntmps4
  go_wp2_with (first
    | (go_at_call 16; refine hid.mono ?_; rintro e w' ⟨rfl, rfl⟩; clear hid; have hbB := HB0)
    | (go_at_call 13; refine (errno_any false _).mono ?_; rintro e x1 ⟨rfl, rfl⟩)
    | (go_at_call 8; first | (refine (hl _ hbB).mono ?_; rintro e x4 ⟨rfl, rfl⟩) | (refine (hl _ (below_drewN' hbB _)).mono ?_; rintro e x4 ⟨rfl, rfl⟩))
    | (go_at_call 14; first | (refine (hmy _ hbB).mono ?_; rintro e x5 ⟨rfl, m5, rfl⟩) | (refine (hmy _ (below_drewN' hbB _)).mono ?_; rintro e x5 ⟨rfl, m5, rfl⟩)))
  have HA : Hid (∀ q, Want W0 ((_root_.Go.World.drewN _ q).alloc (.cells #[] 34)) (.slice (some ⟨(_root_.Go.World.drewN _ q).heap.size, 0, none⟩) 0 0) 0 m G O C g) := fun q => want_start (below_drewN' hbB q) m G O C g
  clear hbB
  go_loopw [9, 10, 11] (fun s9 V s11 wr => ∃ k : Nat, k ≤ p ∧ s9 = .bool true ∧ s11 = .int .i64 k ∧ Hid (Want W0 wr V k m G O C g)) (fun _ _ i _ => p - (intOf i).toNat)
  case atStart => exact ⟨0, by omega, rfl, rfl, HA.out _⟩
  case round =>
    clear HA
    obtain ⟨k, hk, rfl, rfl, HW⟩ := hrel
    by_cases hlt : k < p
    · have hkp : (k : Int) < (p : Int) := by omega
      have hgk := HLV.out.2 k hlt
      have hlk := HLV.out.1 k hlt
      rcases HI.out.1.below (Nat.le_refl _) HW.out.below with h0 | ⟨lb, lo, hy, _, hc⟩
      · omega
      · subst hy
        have c1 := hc k hlt
        rw [hlk] at c1
        have c2 := (HM.out.below (Nat.le_refl _) HW.out.below).top (g k) hgk
        have q1 : decide ((0 : Int) ≤ (g k : Int)) = true := by simp
        have q2 : (g k : Int) < (n : Int) := by omega
        obtain ⟨V', w3, hrun, ho3, hb3⟩ := push_top wr W0.heap.size _ k m G O C g HW.out.own (by omega) HW.out.below.size
        have HN : Hid (Want W0 w3 V' (k + 1) m G O C g) := ⟨HW.out.below.trans hb3, ho3⟩
        clear hc hlk ho3 hb3 HW hmy hrk hrr hl
        go_wp2_with (at_builtin; refine wpList_append_run rfl _ _ 22 rfl _ _ rfl rfl hrun ?_; clear hrun)
        go_roundw
        case rel => exact ⟨k + 1, by omega, rfl, by go_num, HN⟩
        case measure => simp [intOf]; omega
    · obtain rfl : k = p := by omega
      obtain ⟨Bw, cw, hV, hMw⟩ := want_mat HW.out HM.out (by omega) HLV.out.2
      subst hV
      have HWB : Hid (Below W0.heap.size W0 wr) := HW.out.below
      obtain ⟨y5, c5, w5, hrun, hb5', hi5⟩ := ints_copy wr y k c' lv (HI.out.1.below (Nat.le_refl _) HWB.out) HI.out.2.1 HI.out.2.2
      have hb5 := HWB.out.trans (hb5'.mono HWB.out.size)
      have hMw5 := hMw.below (Nat.le_refl _) hb5'
      rcases hi5 with h0 | ⟨lb, lo, hy5, hlb, hc5⟩
      · omega
      · subst hy5
        have hrows := rows_yes b o lb lo n m k c c5 G O C f g w5 (HM.out.below (Nat.le_refl _) hb5) hn1 hn2 hm1 hm2 hp1 hp2 hlb (fun i hi => by rw [hc5 i hi, HLV.out.1 i hi]) HLV.out.2
        clear hb5' HI HW HWB hMw hc5
        go_wp2_with (first
      | (at_builtin; refine wpList_append_run rfl _ _ 31 rfl _ _ rfl rfl hrun ?_; clear hrun)
      | (go_at_call 18; refine hrows.mono ?_; rintro e x11 ⟨hb11, By, Gy, Cy, rfl, ho11⟩; clear hrows; have hb5o := hb5; clear hb5; have hb5 := hb5o.trans (hb11.mono hb5o.size); have hMw6 := hMw5.below (Nat.le_refl _) hb11; clear hMw5)
      | (go_at_call 19; refine (hrk _ hb5).mono ?_; rintro e x7 ⟨rfl, hb7⟩; clear hrk; have hb07 := hb5.trans (hb7.mono hb5.size))
      | (go_at_call 14; first | (refine (hmy _ hb07).mono ?_; rintro e x9 ⟨rfl, m9, rfl⟩) | (refine (hmy _ (below_drewN' hb07 _)).mono ?_; rintro e x9 ⟨rfl, m9, rfl⟩))
      | (go_at_call 20; refine (hrr _ (below_drewN' hb07 _)).mono ?_; rintro e x10 ⟨rfl, hb10⟩; have hb010 := hb07.trans (below_from_drewN (hb10.mono (by exact hb07.size))))
      | (go_at_call 13; refine (errno_any _ _).mono ?_; rintro e x8 ⟨rfl, rfl⟩)
      | (go_at_call 15; refine (same_rows By 0 Bw 0 k m k cw Gy (fun _ => 0) Cy _ _ _ (fun r => f (g r)) (fun r => f (g r)) _ (by omega) (ho11.mat.below (Nat.le_refl _) hb7) (hMw6.below (Nat.le_refl _) hb7) (fun _ _ _ _ => rfl)).mono ?_; rintro e x12 ⟨rfl, m12, rfl⟩)
      | (go_at_call 9; refine (awake_any _).mono ?_; rintro e x6 ⟨rfl, hb6⟩))
        go_ret
        have hfin := hb010.trans (hb6.mono (by exact hb010.size))
        rw [HW0.out] at hfin
        exact ⟨rfl, hfin⟩

set_option maxHeartbeats 4000000 in
set_option maxRecDepth 100000 in
theorem s5_lo (x : Option Addr) (n c : Nat) (A : Nat → Option Addr) (L C : Nat → Nat) (f : Nat → Nat → Nat) (y : Option Addr) (p c' : Nat) (lv : Nat → Int) (z : Int) (w W0 : World) (HW0 : Hid (W0 = w)) (HB0 : Below W0.heap.size W0 w) (hg : IsGrid W0 x n A L C f) (hi : IntsAt W0 y p lv) (hp : p ≤ 17592186043904) (hnil : y = none → p = 0 ∧ c' = 0) (hz : z < 1) (hlt : LightN n L) (hm : MayN n L) (g : Nat → Nat) (i0 : Nat) (hp1 : 1 ≤ p) (hp2 : p ≤ 255) (hi0 : i0 < p) (hlv : ∀ i, i < i0 → lv i = (g i : Int)) (hgn : ∀ i, i < i0 → g i < n) (hbad : lv i0 < 0 ∨ (n : Int) ≤ lv i0) :
    Calls Try.prog 4 #[.slice x n c, .slice y p c', .int .i64 z] w fun e w' => e = .returned (.bool true) ∧ Below w.heap.size w w' := by
  have g1 : ¬ (1 ≤ z) := by omega
  have hid := ident_no z w (.inl hz)
  have hl : ∀ v, Below W0.heap.size W0 v → Calls Try.prog 8 #[.slice x n c] v fun e w' => e = .returned (.bool true) ∧ w' = v := fun v hv => light_any x n c true A L C v (hg.below hv).1 ⟨fun _ => hlt, fun _ => rfl⟩
  have HI : Hid (IntsAt W0 y p lv ∧ p ≤ 17592186043904 ∧ (y = none → p = 0 ∧ c' = 0)) := ⟨hi, hp, hnil⟩
  have hro : ∀ v, Below W0.heap.size W0 v → ∀ y' cy, IntsAt v y' p lv → Calls Try.prog 18 #[.slice x n c, .slice y' p cy] v fun e w' => e = .returned (.tuple #[.slice none 0 0, .int .i64 1]) ∧ w' = v := fun v hv y' cy hy => by
    rcases hy with h0 | ⟨lb, lo, rfl, _, hc⟩
    · omega
    · exact rows_bad x lb lo n p c cy A L C lv v (hg.below hv).1 hm hp1 hp2 hc i0 hi0 hbad
  have hmy : ∀ v, Below W0.heap.size W0 v → Calls Try.prog 14 #[.slice x n c] v fun e w' => e = .returned (.bool true) ∧ ∃ k, w' = v.drewN k := fun v hv => may_any x n c true A L C v (hg.below hv).1 (fun _ => rfl) (fun k => absurd hm k)
  obtain ⟨b, o, G, O, rfl, hM⟩ := grid_mat hg hm
  have hrk : ∀ v, Below W0.heap.size W0 v → Calls Try.prog 19 #[.slice (some ⟨b, o, none⟩) n c] v fun e w' => e = .returned (.tuple #[.int .i64 ((red n f (L 0)).1 : Int), .int .i64 0]) ∧ Below v.heap.size v w' := fun v hv => rank_yes b o n (L 0) c G O C f v (hM.below (Nat.le_refl _) hv) hm.1 hm.2.1 hm.2.2.1 hm.2.2.2.1
  have hrr : ∀ v, Below W0.heap.size W0 v → Calls Try.prog 20 #[.slice (some ⟨b, o, none⟩) n c] v fun e w' => e = .returned (.int .i64 ((red n f (L 0)).1 : Int)) ∧ Below v.heap.size v w' := fun v hv => by
    have := rrank_any b o n (L 0) c G O C f v (hM.below (Nat.le_refl _) hv) hm.1 hm.2.1 hm.2.2.1 hm.2.2.2.1
    rwa [ranks] at this
  generalize (red n f (L 0)).1 = R at hrk hrr
  have hq1 : decide ((0 : Int) < (p : Int)) = true := by simp; omega
  have hq2 : decide ((p : Int) ≤ 255) = true := by simp; omega
  obtain ⟨m, hm0⟩ : ∃ m, m = L 0 := ⟨_, rfl⟩
  rw [← hm0] at hM
  have hm1 : 1 ≤ m := by rw [hm0]; exact hm.2.2.1
  have hm2 : m ≤ 255 := by rw [hm0]; exact hm.2.2.2.1
  have hn1 := hm.1
  have hn2 := hm.2.1
  have HM : Hid (Mat W0 b o n m G O C f) := hM
  have HLV : Hid ((∀ i, i < i0 → lv i = (g i : Int)) ∧ (∀ i, i < i0 → g i < n) ∧ (lv i0 < 0 ∨ (n : Int) ≤ lv i0)) := ⟨hlv, hgn, hbad⟩
  clear hm0 hlv hgn hbad
  clear hg hi hlt hnil hm hM
  go_enter Try.func4, Try.ntmps4
  go_wp2_with (first
    | (go_at_call 16; refine hid.mono ?_; rintro e w' ⟨rfl, rfl⟩; clear hid; have hbB := HB0)
    | (go_at_call 13; refine (errno_any false _).mono ?_; rintro e x1 ⟨rfl, rfl⟩)
    | (go_at_call 8; first | (refine (hl _ hbB).mono ?_; rintro e x4 ⟨rfl, rfl⟩) | (refine (hl _ (below_drewN' hbB _)).mono ?_; rintro e x4 ⟨rfl, rfl⟩))
    | (go_at_call 14; first | (refine (hmy _ hbB).mono ?_; rintro e x5 ⟨rfl, m5, rfl⟩) | (refine (hmy _ (below_drewN' hbB _)).mono ?_; rintro e x5 ⟨rfl, m5, rfl⟩)))
  have HA : Hid (∀ q, Want W0 ((_root_.Go.World.drewN _ q).alloc (.cells #[] 34)) (.slice (some ⟨(_root_.Go.World.drewN _ q).heap.size, 0, none⟩) 0 0) 0 m G O C g) := fun q => want_start (below_drewN' hbB q) m G O C g
  clear hbB
  go_loopw [9, 10, 11] (fun s9 V s11 wr => ∃ (k : Nat) (t : Bool), k ≤ i0 + 1 ∧ s9 = .bool t ∧ s11 = .int .i64 k ∧ Hid ((t = true ∧ k ≤ i0 ∧ Want W0 wr V k m G O C g) ∨ (t = false ∧ k = i0 + 1 ∧ Below W0.heap.size W0 wr))) (fun _ _ i _ => i0 + 1 - (intOf i).toNat)
  case atStart => exact ⟨0, true, by omega, rfl, rfl, .inl ⟨rfl, by omega, HA.out _⟩⟩
  case round =>
    clear HA
    obtain ⟨k, t, hk, rfl, rfl, HH⟩ := hrel
    rcases HH.out with ⟨rfl, hki, hW⟩ | ⟨rfl, hki, hB⟩
    · have hkp : (k : Int) < (p : Int) := by omega
      rcases HI.out.1.below (Nat.le_refl _) hW.below with h0 | ⟨lb, lo, hy, _, hc⟩
      · omega
      · subst hy
        have c1 := hc k (by omega)
        by_cases hlt : k < i0
        · have hgk := HLV.out.2.1 k hlt
          have hlk := HLV.out.1 k hlt
          rw [hlk] at c1
          have c2 := (HM.out.below (Nat.le_refl _) hW.below).top (g k) hgk
          have q1 : decide ((0 : Int) ≤ (g k : Int)) = true := by simp
          have q2 : (g k : Int) < (n : Int) := by omega
          obtain ⟨V', w3, hrun, ho3, hb3⟩ := push_top wr W0.heap.size _ k m G O C g hW.own (by omega) hW.below.size
          have HN : Hid ((true = true ∧ k + 1 ≤ i0 ∧ Want W0 w3 V' (k + 1) m G O C g) ∨ (true = false ∧ k + 1 = i0 + 1 ∧ Below W0.heap.size W0 w3)) := .inl ⟨rfl, by omega, hW.below.trans hb3, ho3⟩
          clear hc hlk ho3 hb3 hW HH hmy hrk hrr hl hro
          go_wp2_with (at_builtin; refine wpList_append_run rfl _ _ 22 rfl _ _ rfl rfl hrun ?_; clear hrun)
          go_roundw
          case rel => exact ⟨k + 1, true, by omega, rfl, by go_num, HN⟩
          case measure => simp [intOf]; omega
        · obtain rfl : k = i0 := by omega
          have HN : ∀ v : Value, Hid ((false = true ∧ k + 1 ≤ k ∧ Want W0 wr v (k + 1) m G O C g) ∨ (false = false ∧ k + 1 = k + 1 ∧ Below W0.heap.size W0 wr)) := fun v => .inr ⟨rfl, rfl, hW.below⟩
          by_cases e1 : lv k < 0
          · have q1 : decide ((0 : Int) ≤ lv k) = false := by simp; omega
            clear hc hW HH hmy hrk hrr hl hro
            go_wp2_with fail
            go_roundw
            case rel => exact ⟨k + 1, false, by omega, rfl, by go_num, HN _⟩
            case measure => first | (simp [intOf]; done) | (simp [intOf]; omega)
          · have q1 : decide ((0 : Int) ≤ lv k) = true := by simp; omega
            have q2 : ¬ (lv k < (n : Int)) := by have := HLV.out.2.2; omega
            have q3 : decide (lv k < (n : Int)) = false := by simp; omega
            clear hc hW HH hmy hrk hrr hl hro q2
            go_wp2_with fail
            go_roundw
            case rel => exact ⟨k + 1, false, by omega, rfl, by go_num, HN _⟩
            case measure => first | (simp [intOf]; done) | (simp [intOf]; omega)
    · have HWB : Hid (Below W0.heap.size W0 wr) := hB
      obtain ⟨y5, c5, w5, hrun, hb5', hi5⟩ := ints_copy wr y p c' lv (HI.out.1.below (Nat.le_refl _) HWB.out) HI.out.2.1 HI.out.2.2
      have hb5 := HWB.out.trans (hb5'.mono HWB.out.size)
      have hro5 := hro w5 hb5 y5 c5 hi5
      have hcond : ((k : Int) < (p : Int)) ∨ ¬ ((k : Int) < (p : Int)) := by omega
      clear hb5' HI hi5 HH hB HLV hro HM
      rcases hcond with hcond | hcond
      · go_wp2_with (first
          | (at_builtin; refine wpList_append_run rfl _ _ 31 rfl _ _ rfl rfl hrun ?_; clear hrun)
          | (go_at_call 18; refine hro5.mono ?_; rintro e x11 ⟨rfl, rfl⟩; clear hro5)
          | (go_at_call 19; refine (hrk _ hb5).mono ?_; rintro e x7 ⟨rfl, hb7⟩; clear hrk; have hb07 := hb5.trans (hb7.mono hb5.size))
          | (go_at_call 14; first | (refine (hmy _ hb07).mono ?_; rintro e x9 ⟨rfl, m9, rfl⟩) | (refine (hmy _ (below_drewN' hb07 _)).mono ?_; rintro e x9 ⟨rfl, m9, rfl⟩))
          | (go_at_call 20; refine (hrr _ (below_drewN' hb07 _)).mono ?_; rintro e x10 ⟨rfl, hb10⟩; have hb010 := hb07.trans (below_from_drewN (hb10.mono (by exact hb07.size))))
          | (go_at_call 13; refine (errno_any _ _).mono ?_; rintro e x8 ⟨rfl, rfl⟩)
          | (go_at_call 9; refine (awake_any _).mono ?_; rintro e x6 ⟨rfl, hb6⟩))
        go_ret
        have hfin := hb010.trans (hb6.mono (by exact hb010.size))
        rw [HW0.out] at hfin
        exact ⟨rfl, hfin⟩
      · go_wp2_with (first
          | (at_builtin; refine wpList_append_run rfl _ _ 31 rfl _ _ rfl rfl hrun ?_; clear hrun)
          | (go_at_call 18; refine hro5.mono ?_; rintro e x11 ⟨rfl, rfl⟩; clear hro5)
          | (go_at_call 19; refine (hrk _ hb5).mono ?_; rintro e x7 ⟨rfl, hb7⟩; clear hrk; have hb07 := hb5.trans (hb7.mono hb5.size))
          | (go_at_call 14; first | (refine (hmy _ hb07).mono ?_; rintro e x9 ⟨rfl, m9, rfl⟩) | (refine (hmy _ (below_drewN' hb07 _)).mono ?_; rintro e x9 ⟨rfl, m9, rfl⟩))
          | (go_at_call 20; refine (hrr _ (below_drewN' hb07 _)).mono ?_; rintro e x10 ⟨rfl, hb10⟩; have hb010 := hb07.trans (below_from_drewN (hb10.mono (by exact hb07.size))))
          | (go_at_call 13; refine (errno_any _ _).mono ?_; rintro e x8 ⟨rfl, rfl⟩)
          | (go_at_call 9; refine (awake_any _).mono ?_; rintro e x6 ⟨rfl, hb6⟩))
        go_ret
        have hfin := hb010.trans (hb6.mono (by exact hb010.size))
        rw [HW0.out] at hfin
        exact ⟨rfl, hfin⟩

set_option maxHeartbeats 4000000 in
set_option maxRecDepth 100000 in
theorem dark_hi (x : Option Addr) (n c : Nat) (A : Nat → Option Addr) (L C : Nat → Nat) (f : Nat → Nat → Nat) (y : Option Addr) (p c' : Nat) (lv : Nat → Int) (z : Int) (w W0 : World) (HW0 : Hid (W0 = w)) (HB0 : Below W0.heap.size W0 w) (hg : IsGrid W0 x n A L C f) (hi : IntsAt W0 y p lv) (hp : p ≤ 17592186043904) (hnil : y = none → p = 0 ∧ c' = 0) (hz : 255 < z) (hd : ¬ LightN n L) :
    Calls Try.prog 4 #[.slice x n c, .slice y p c', .int .i64 z] w fun e w' => e = .returned (.bool true) ∧ Below w.heap.size w w' := by
  have g1 : 1 ≤ z := by omega
  have g2 : decide (z ≤ 255) = false := by simp; omega
  have hid := ident_no z w (.inr hz)
  have hl : ∀ v, Below W0.heap.size W0 v → Calls Try.prog 8 #[.slice x n c] v fun e w' => e = .returned (.bool false) ∧ w' = v := fun v hv => light_any x n c false A L C v (hg.below hv).1 ⟨fun h => (by cases h), fun h => absurd h hd⟩
  clear hg hi hd hnil
  go_enter Try.func4, Try.ntmps4
  go_wp2_with (first
    | (go_at_call 16; refine hid.mono ?_; rintro e w' ⟨rfl, rfl⟩; clear hid; have hbB := HB0)
    | (go_at_call 13; refine (errno_any false _).mono ?_; rintro e x1 ⟨rfl, rfl⟩)
    | (go_at_call 8; first | (refine (hl _ hbB).mono ?_; rintro e x4 ⟨rfl, rfl⟩) | (refine (hl _ (below_drewN' hbB _)).mono ?_; rintro e x4 ⟨rfl, rfl⟩))
    | (go_at_call 9; refine (awake_any _).mono ?_; rintro e x6 ⟨rfl, hb6⟩))
  go_ret
  have hfin := hbB.trans (by first | exact hb6.mono hbB.size | exact below_from_drewN (hb6.mono (by exact hbB.size)))
  rw [HW0.out] at hfin
  exact ⟨rfl, hfin⟩

set_option maxHeartbeats 4000000 in
set_option maxRecDepth 100000 in
theorem s1a_hi (x : Option Addr) (n c : Nat) (A : Nat → Option Addr) (L C : Nat → Nat) (f : Nat → Nat → Nat) (y : Option Addr) (p c' : Nat) (lv : Nat → Int) (z : Int) (w W0 : World) (HW0 : Hid (W0 = w)) (HB0 : Below W0.heap.size W0 w) (hg : IsGrid W0 x n A L C f) (hi : IntsAt W0 y p lv) (hp : p ≤ 17592186043904) (hnil : y = none → p = 0 ∧ c' = 0) (hz : 255 < z) (hlt : LightN n L) (hm : ¬ MayN n L) (hq : p = 0) :
    Calls Try.prog 4 #[.slice x n c, .slice y p c', .int .i64 z] w fun e w' => e = .returned (.bool true) ∧ Below w.heap.size w w' := by
  have g1 : 1 ≤ z := by omega
  have g2 : decide (z ≤ 255) = false := by simp; omega
  have hid := ident_no z w (.inr hz)
  have hl : ∀ v, Below W0.heap.size W0 v → Calls Try.prog 8 #[.slice x n c] v fun e w' => e = .returned (.bool true) ∧ w' = v := fun v hv => light_any x n c true A L C v (hg.below hv).1 ⟨fun _ => hlt, fun _ => rfl⟩
  have HI : Hid (IntsAt W0 y p lv ∧ p ≤ 17592186043904 ∧ (y = none → p = 0 ∧ c' = 0)) := ⟨hi, hp, hnil⟩
  have hro : ∀ v, Below W0.heap.size W0 v → ∀ y' cy, Calls Try.prog 18 #[.slice x n c, .slice y' p cy] v fun e w' => e = .returned (.tuple #[.slice none 0 0, .int .i64 1]) ∧ w' = v := fun v hv y' cy => rows_out x y' n p c cy A L C v (hg.below hv).1 (.inl hm)
  have hrk : ∀ v, Below W0.heap.size W0 v → Calls Try.prog 19 #[.slice x n c] v fun e w' => e = .returned (.tuple #[.int .i64 0, .int .i64 1]) ∧ w' = v := fun v hv => rank_no x n c A L C v (hg.below hv).1 hm
  have hmy : ∀ v, Below W0.heap.size W0 v → Calls Try.prog 14 #[.slice x n c] v fun e w' => e = .returned (.bool false) ∧ ∃ k, w' = v.drewN k := fun v hv => may_any x n c false A L C v (hg.below hv).1 (fun k => absurd k hm) (fun _ => rfl)
  subst hq
  clear hg hi hlt hnil hm
  go_enter Try.func4, Try.ntmps4
  go_wp2_with (first
    | (go_at_call 16; refine hid.mono ?_; rintro e w' ⟨rfl, rfl⟩; clear hid; have hbB := HB0)
    | (go_at_call 13; refine (errno_any false _).mono ?_; rintro e x1 ⟨rfl, rfl⟩)
    | (go_at_call 8; first | (refine (hl _ hbB).mono ?_; rintro e x4 ⟨rfl, rfl⟩) | (refine (hl _ (below_drewN' hbB _)).mono ?_; rintro e x4 ⟨rfl, rfl⟩))
    | (go_at_call 14; first | (refine (hmy _ hbB).mono ?_; rintro e x5 ⟨rfl, m5, rfl⟩) | (refine (hmy _ (below_drewN' hbB _)).mono ?_; rintro e x5 ⟨rfl, m5, rfl⟩)))
  have HA : Hid (∀ m, Below W0.heap.size W0 ((_root_.Go.World.drewN _ m).alloc (.cells #[] 34))) := fun m => (below_drewN' hbB m).alloc (by exact hbB.size) _
  clear hbB
  go_loopw [9, 10, 11] (fun s9 _ s11 wr => s9 = .bool false ∧ s11 = .int .i64 0 ∧ Hid (Below W0.heap.size W0 wr)) (fun _ _ _ _ => 0)
  case atStart => exact ⟨rfl, rfl, HA.out _⟩
  case round =>
    clear HA
    obtain ⟨rfl, rfl, HWB⟩ := hrel
    obtain ⟨y5, c5, w5, hrun, hb5', hi5⟩ := ints_copy wr y 0 c' lv (HI.out.1.below (Nat.le_refl _) HWB.out) HI.out.2.1 (fun e => ⟨rfl, (HI.out.2.2 e).2⟩)
    have hb5 := HWB.out.trans (hb5'.mono HWB.out.size)
    clear hb5' HI hi5
    go_wp2_with (first
      | (at_builtin; refine wpList_append_run rfl _ _ 31 rfl _ _ rfl rfl hrun ?_; clear hrun)
      | (go_at_call 18; refine (hro _ hb5 _ _).mono ?_; rintro e x11 ⟨rfl, rfl⟩; clear hro)
      | (go_at_call 19; refine (hrk _ hb5).mono ?_; rintro e x7 ⟨rfl, rfl⟩; clear hrk)
      | (go_at_call 14; refine (hmy _ hb5).mono ?_; rintro e x9 ⟨rfl, m9, rfl⟩; clear hmy)
      | (go_at_call 13; refine (errno_any _ _).mono ?_; rintro e x8 ⟨rfl, rfl⟩)
      | (go_at_call 9; refine (awake_any _).mono ?_; rintro e x6 ⟨rfl, hb6⟩))
    go_ret
    have hfin := hb5.trans (below_from_drewN (hb6.mono (by exact hb5.size)))
    rw [HW0.out] at hfin
    exact ⟨rfl, hfin⟩

set_option maxHeartbeats 4000000 in
set_option maxRecDepth 100000 in
theorem s1b_hi (x : Option Addr) (n c : Nat) (A : Nat → Option Addr) (L C : Nat → Nat) (f : Nat → Nat → Nat) (y : Option Addr) (p c' : Nat) (lv : Nat → Int) (z : Int) (w W0 : World) (HW0 : Hid (W0 = w)) (HB0 : Below W0.heap.size W0 w) (hg : IsGrid W0 x n A L C f) (hi : IntsAt W0 y p lv) (hp : p ≤ 17592186043904) (hnil : y = none → p = 0 ∧ c' = 0) (hz : 255 < z) (hlt : LightN n L) (hm : ¬ MayN n L) (hq : 0 < p) :
    Calls Try.prog 4 #[.slice x n c, .slice y p c', .int .i64 z] w fun e w' => e = .returned (.bool true) ∧ Below w.heap.size w w' := by
  have g1 : 1 ≤ z := by omega
  have g2 : decide (z ≤ 255) = false := by simp; omega
  have hid := ident_no z w (.inr hz)
  have hl : ∀ v, Below W0.heap.size W0 v → Calls Try.prog 8 #[.slice x n c] v fun e w' => e = .returned (.bool true) ∧ w' = v := fun v hv => light_any x n c true A L C v (hg.below hv).1 ⟨fun _ => hlt, fun _ => rfl⟩
  have HI : Hid (IntsAt W0 y p lv ∧ p ≤ 17592186043904 ∧ (y = none → p = 0 ∧ c' = 0)) := ⟨hi, hp, hnil⟩
  have hro : ∀ v, Below W0.heap.size W0 v → ∀ y' cy, Calls Try.prog 18 #[.slice x n c, .slice y' p cy] v fun e w' => e = .returned (.tuple #[.slice none 0 0, .int .i64 1]) ∧ w' = v := fun v hv y' cy => rows_out x y' n p c cy A L C v (hg.below hv).1 (.inl hm)
  have hrk : ∀ v, Below W0.heap.size W0 v → Calls Try.prog 19 #[.slice x n c] v fun e w' => e = .returned (.tuple #[.int .i64 0, .int .i64 1]) ∧ w' = v := fun v hv => rank_no x n c A L C v (hg.below hv).1 hm
  have hmy : ∀ v, Below W0.heap.size W0 v → Calls Try.prog 14 #[.slice x n c] v fun e w' => e = .returned (.bool false) ∧ ∃ k, w' = v.drewN k := fun v hv => may_any x n c false A L C v (hg.below hv).1 (fun k => absurd k hm) (fun _ => rfl)
  have hq1 : (0 : Int) < (p : Int) := by omega
  clear hg hi hlt hnil hm
  go_enter Try.func4, Try.ntmps4
  go_wp2_with (first
    | (go_at_call 16; refine hid.mono ?_; rintro e w' ⟨rfl, rfl⟩; clear hid; have hbB := HB0)
    | (go_at_call 13; refine (errno_any false _).mono ?_; rintro e x1 ⟨rfl, rfl⟩)
    | (go_at_call 8; first | (refine (hl _ hbB).mono ?_; rintro e x4 ⟨rfl, rfl⟩) | (refine (hl _ (below_drewN' hbB _)).mono ?_; rintro e x4 ⟨rfl, rfl⟩))
    | (go_at_call 14; first | (refine (hmy _ hbB).mono ?_; rintro e x5 ⟨rfl, m5, rfl⟩) | (refine (hmy _ (below_drewN' hbB _)).mono ?_; rintro e x5 ⟨rfl, m5, rfl⟩)))
  have HA : Hid (∀ m, Below W0.heap.size W0 ((_root_.Go.World.drewN _ m).alloc (.cells #[] 34))) := fun m => (below_drewN' hbB m).alloc (by exact hbB.size) _
  clear hbB
  go_loopw [9, 10, 11] (fun s9 _ s11 wr => s9 = .bool false ∧ s11 = .int .i64 0 ∧ Hid (Below W0.heap.size W0 wr)) (fun _ _ _ _ => 0)
  case atStart => exact ⟨rfl, rfl, HA.out _⟩
  case round =>
    clear HA
    obtain ⟨rfl, rfl, HWB⟩ := hrel
    obtain ⟨y5, c5, w5, hrun, hb5', hi5⟩ := ints_copy wr y p c' lv (HI.out.1.below (Nat.le_refl _) HWB.out) HI.out.2.1 HI.out.2.2
    have hb5 := HWB.out.trans (hb5'.mono HWB.out.size)
    clear hb5' HI hi5
    go_wp2_with (first
      | (at_builtin; refine wpList_append_run rfl _ _ 31 rfl _ _ rfl rfl hrun ?_; clear hrun)
      | (go_at_call 18; refine (hro _ hb5 _ _).mono ?_; rintro e x11 ⟨rfl, rfl⟩; clear hro)
      | (go_at_call 19; refine (hrk _ hb5).mono ?_; rintro e x7 ⟨rfl, rfl⟩; clear hrk)
      | (go_at_call 14; refine (hmy _ hb5).mono ?_; rintro e x9 ⟨rfl, m9, rfl⟩; clear hmy)
      | (go_at_call 13; refine (errno_any _ _).mono ?_; rintro e x8 ⟨rfl, rfl⟩)
      | (go_at_call 9; refine (awake_any _).mono ?_; rintro e x6 ⟨rfl, hb6⟩))
    go_ret
    have hfin := hb5.trans (below_from_drewN (hb6.mono (by exact hb5.size)))
    rw [HW0.out] at hfin
    exact ⟨rfl, hfin⟩

set_option maxHeartbeats 4000000 in
set_option maxRecDepth 100000 in
theorem s2_hi (x : Option Addr) (n c : Nat) (A : Nat → Option Addr) (L C : Nat → Nat) (f : Nat → Nat → Nat) (y : Option Addr) (p c' : Nat) (lv : Nat → Int) (z : Int) (w W0 : World) (HW0 : Hid (W0 = w)) (HB0 : Below W0.heap.size W0 w) (hg : IsGrid W0 x n A L C f) (hi : IntsAt W0 y p lv) (hp : p ≤ 17592186043904) (hnil : y = none → p = 0 ∧ c' = 0) (hz : 255 < z) (hlt : LightN n L) (hm : MayN n L) (hq : p = 0) :
    Calls Try.prog 4 #[.slice x n c, .slice y p c', .int .i64 z] w fun e w' => e = .returned (.bool true) ∧ Below w.heap.size w w' := by
  have g1 : 1 ≤ z := by omega
  have g2 : decide (z ≤ 255) = false := by simp; omega
  have hid := ident_no z w (.inr hz)
  have hl : ∀ v, Below W0.heap.size W0 v → Calls Try.prog 8 #[.slice x n c] v fun e w' => e = .returned (.bool true) ∧ w' = v := fun v hv => light_any x n c true A L C v (hg.below hv).1 ⟨fun _ => hlt, fun _ => rfl⟩
  have HI : Hid (IntsAt W0 y p lv ∧ p ≤ 17592186043904 ∧ (y = none → p = 0 ∧ c' = 0)) := ⟨hi, hp, hnil⟩
  have hro : ∀ v, Below W0.heap.size W0 v → ∀ y' cy, Calls Try.prog 18 #[.slice x n c, .slice y' p cy] v fun e w' => e = .returned (.tuple #[.slice none 0 0, .int .i64 1]) ∧ w' = v := fun v hv y' cy => rows_out x y' n p c cy A L C v (hg.below hv).1 (.inr (by omega))
  have hmy : ∀ v, Below W0.heap.size W0 v → Calls Try.prog 14 #[.slice x n c] v fun e w' => e = .returned (.bool true) ∧ ∃ k, w' = v.drewN k := fun v hv => may_any x n c true A L C v (hg.below hv).1 (fun _ => rfl) (fun k => absurd hm k)
  obtain ⟨b, o, G, O, rfl, hM⟩ := grid_mat hg hm
  have hrk : ∀ v, Below W0.heap.size W0 v → Calls Try.prog 19 #[.slice (some ⟨b, o, none⟩) n c] v fun e w' => e = .returned (.tuple #[.int .i64 ((red n f (L 0)).1 : Int), .int .i64 0]) ∧ Below v.heap.size v w' := fun v hv => rank_yes b o n (L 0) c G O C f v (hM.below (Nat.le_refl _) hv) hm.1 hm.2.1 hm.2.2.1 hm.2.2.2.1
  have hrr : ∀ v, Below W0.heap.size W0 v → Calls Try.prog 20 #[.slice (some ⟨b, o, none⟩) n c] v fun e w' => e = .returned (.int .i64 ((red n f (L 0)).1 : Int)) ∧ Below v.heap.size v w' := fun v hv => by
    have := rrank_any b o n (L 0) c G O C f v (hM.below (Nat.le_refl _) hv) hm.1 hm.2.1 hm.2.2.1 hm.2.2.2.1
    rwa [ranks] at this
  generalize (red n f (L 0)).1 = R at hrk hrr
  subst hq
  clear hg hi hlt hnil hm hM
  go_enter Try.func4, Try.ntmps4
  go_wp2_with (first
    | (go_at_call 16; refine hid.mono ?_; rintro e w' ⟨rfl, rfl⟩; clear hid; have hbB := HB0)
    | (go_at_call 13; refine (errno_any false _).mono ?_; rintro e x1 ⟨rfl, rfl⟩)
    | (go_at_call 8; first | (refine (hl _ hbB).mono ?_; rintro e x4 ⟨rfl, rfl⟩) | (refine (hl _ (below_drewN' hbB _)).mono ?_; rintro e x4 ⟨rfl, rfl⟩))
    | (go_at_call 14; first | (refine (hmy _ hbB).mono ?_; rintro e x5 ⟨rfl, m5, rfl⟩) | (refine (hmy _ (below_drewN' hbB _)).mono ?_; rintro e x5 ⟨rfl, m5, rfl⟩)))
  have HA : Hid (∀ m, Below W0.heap.size W0 ((_root_.Go.World.drewN _ m).alloc (.cells #[] 34))) := fun m => (below_drewN' hbB m).alloc (by exact hbB.size) _
  clear hbB
  go_loopw [9, 10, 11] (fun s9 _ s11 wr => s9 = .bool false ∧ s11 = .int .i64 0 ∧ Hid (Below W0.heap.size W0 wr)) (fun _ _ _ _ => 0)
  case atStart => exact ⟨rfl, rfl, HA.out _⟩
  case round =>
    clear HA
    obtain ⟨rfl, rfl, HWB⟩ := hrel
    obtain ⟨y5, c5, w5, hrun, hb5', hi5⟩ := ints_copy wr y 0 c' lv (HI.out.1.below (Nat.le_refl _) HWB.out) HI.out.2.1 (fun e => ⟨rfl, (HI.out.2.2 e).2⟩)
    have hb5 := HWB.out.trans (hb5'.mono HWB.out.size)
    clear hb5' HI hi5
    go_wp2_with (first
      | (at_builtin; refine wpList_append_run rfl _ _ 31 rfl _ _ rfl rfl hrun ?_; clear hrun)
      | (go_at_call 18; refine (hro _ hb5 _ _).mono ?_; rintro e x11 ⟨rfl, rfl⟩; clear hro)
      | (go_at_call 19; refine (hrk _ hb5).mono ?_; rintro e x7 ⟨rfl, hb7⟩; clear hrk; have hb07 := hb5.trans (hb7.mono hb5.size))
      | (go_at_call 14; first | (refine (hmy _ hb07).mono ?_; rintro e x9 ⟨rfl, m9, rfl⟩) | (refine (hmy _ (below_drewN' hb07 _)).mono ?_; rintro e x9 ⟨rfl, m9, rfl⟩))
      | (go_at_call 20; refine (hrr _ (below_drewN' hb07 _)).mono ?_; rintro e x10 ⟨rfl, hb10⟩; have hb010 := hb07.trans (below_from_drewN (hb10.mono (by exact hb07.size))))
      | (go_at_call 13; refine (errno_any _ _).mono ?_; rintro e x8 ⟨rfl, rfl⟩)
      | (go_at_call 9; refine (awake_any _).mono ?_; rintro e x6 ⟨rfl, hb6⟩))
    go_ret
    have hfin := hb010.trans (hb6.mono (by exact hb010.size))
    rw [HW0.out] at hfin
    exact ⟨rfl, hfin⟩

set_option maxHeartbeats 4000000 in
set_option maxRecDepth 100000 in
theorem s3_hi (x : Option Addr) (n c : Nat) (A : Nat → Option Addr) (L C : Nat → Nat) (f : Nat → Nat → Nat) (y : Option Addr) (p c' : Nat) (lv : Nat → Int) (z : Int) (w W0 : World) (HW0 : Hid (W0 = w)) (HB0 : Below W0.heap.size W0 w) (hg : IsGrid W0 x n A L C f) (hi : IntsAt W0 y p lv) (hp : p ≤ 17592186043904) (hnil : y = none → p = 0 ∧ c' = 0) (hz : 255 < z) (hlt : LightN n L) (hm : MayN n L) (hq : 255 < p) :
    Calls Try.prog 4 #[.slice x n c, .slice y p c', .int .i64 z] w fun e w' => e = .returned (.bool true) ∧ Below w.heap.size w w' := by
  have g1 : 1 ≤ z := by omega
  have g2 : decide (z ≤ 255) = false := by simp; omega
  have hid := ident_no z w (.inr hz)
  have hl : ∀ v, Below W0.heap.size W0 v → Calls Try.prog 8 #[.slice x n c] v fun e w' => e = .returned (.bool true) ∧ w' = v := fun v hv => light_any x n c true A L C v (hg.below hv).1 ⟨fun _ => hlt, fun _ => rfl⟩
  have HI : Hid (IntsAt W0 y p lv ∧ p ≤ 17592186043904 ∧ (y = none → p = 0 ∧ c' = 0)) := ⟨hi, hp, hnil⟩
  have hro : ∀ v, Below W0.heap.size W0 v → ∀ y' cy, Calls Try.prog 18 #[.slice x n c, .slice y' p cy] v fun e w' => e = .returned (.tuple #[.slice none 0 0, .int .i64 1]) ∧ w' = v := fun v hv y' cy => rows_out x y' n p c cy A L C v (hg.below hv).1 (.inr (by omega))
  have hmy : ∀ v, Below W0.heap.size W0 v → Calls Try.prog 14 #[.slice x n c] v fun e w' => e = .returned (.bool true) ∧ ∃ k, w' = v.drewN k := fun v hv => may_any x n c true A L C v (hg.below hv).1 (fun _ => rfl) (fun k => absurd hm k)
  obtain ⟨b, o, G, O, rfl, hM⟩ := grid_mat hg hm
  have hrk : ∀ v, Below W0.heap.size W0 v → Calls Try.prog 19 #[.slice (some ⟨b, o, none⟩) n c] v fun e w' => e = .returned (.tuple #[.int .i64 ((red n f (L 0)).1 : Int), .int .i64 0]) ∧ Below v.heap.size v w' := fun v hv => rank_yes b o n (L 0) c G O C f v (hM.below (Nat.le_refl _) hv) hm.1 hm.2.1 hm.2.2.1 hm.2.2.2.1
  have hrr : ∀ v, Below W0.heap.size W0 v → Calls Try.prog 20 #[.slice (some ⟨b, o, none⟩) n c] v fun e w' => e = .returned (.int .i64 ((red n f (L 0)).1 : Int)) ∧ Below v.heap.size v w' := fun v hv => by
    have := rrank_any b o n (L 0) c G O C f v (hM.below (Nat.le_refl _) hv) hm.1 hm.2.1 hm.2.2.1 hm.2.2.2.1
    rwa [ranks] at this
  generalize (red n f (L 0)).1 = R at hrk hrr
  have hq1 : decide ((0 : Int) < (p : Int)) = true := by simp; omega
  have hq2 : decide ((p : Int) ≤ 255) = false := by simp; omega
  clear hg hi hlt hnil hm hM
  go_enter Try.func4, Try.ntmps4
  go_wp2_with (first
    | (go_at_call 16; refine hid.mono ?_; rintro e w' ⟨rfl, rfl⟩; clear hid; have hbB := HB0)
    | (go_at_call 13; refine (errno_any false _).mono ?_; rintro e x1 ⟨rfl, rfl⟩)
    | (go_at_call 8; first | (refine (hl _ hbB).mono ?_; rintro e x4 ⟨rfl, rfl⟩) | (refine (hl _ (below_drewN' hbB _)).mono ?_; rintro e x4 ⟨rfl, rfl⟩))
    | (go_at_call 14; first | (refine (hmy _ hbB).mono ?_; rintro e x5 ⟨rfl, m5, rfl⟩) | (refine (hmy _ (below_drewN' hbB _)).mono ?_; rintro e x5 ⟨rfl, m5, rfl⟩)))
  have HA : Hid (∀ m, Below W0.heap.size W0 ((_root_.Go.World.drewN _ m).alloc (.cells #[] 34))) := fun m => (below_drewN' hbB m).alloc (by exact hbB.size) _
  clear hbB
  go_loopw [9, 10, 11] (fun s9 _ s11 wr => s9 = .bool false ∧ s11 = .int .i64 0 ∧ Hid (Below W0.heap.size W0 wr)) (fun _ _ _ _ => 0)
  case atStart => exact ⟨rfl, rfl, HA.out _⟩
  case round =>
    clear HA
    obtain ⟨rfl, rfl, HWB⟩ := hrel
    obtain ⟨y5, c5, w5, hrun, hb5', hi5⟩ := ints_copy wr y p c' lv (HI.out.1.below (Nat.le_refl _) HWB.out) HI.out.2.1 HI.out.2.2
    have hb5 := HWB.out.trans (hb5'.mono HWB.out.size)
    clear hb5' HI hi5
    go_wp2_with (first
      | (at_builtin; refine wpList_append_run rfl _ _ 31 rfl _ _ rfl rfl hrun ?_; clear hrun)
      | (go_at_call 18; refine (hro _ hb5 _ _).mono ?_; rintro e x11 ⟨rfl, rfl⟩; clear hro)
      | (go_at_call 19; refine (hrk _ hb5).mono ?_; rintro e x7 ⟨rfl, hb7⟩; clear hrk; have hb07 := hb5.trans (hb7.mono hb5.size))
      | (go_at_call 14; first | (refine (hmy _ hb07).mono ?_; rintro e x9 ⟨rfl, m9, rfl⟩) | (refine (hmy _ (below_drewN' hb07 _)).mono ?_; rintro e x9 ⟨rfl, m9, rfl⟩))
      | (go_at_call 20; refine (hrr _ (below_drewN' hb07 _)).mono ?_; rintro e x10 ⟨rfl, hb10⟩; have hb010 := hb07.trans (below_from_drewN (hb10.mono (by exact hb07.size))))
      | (go_at_call 13; refine (errno_any _ _).mono ?_; rintro e x8 ⟨rfl, rfl⟩)
      | (go_at_call 9; refine (awake_any _).mono ?_; rintro e x6 ⟨rfl, hb6⟩))
    go_ret
    have hfin := hb010.trans (hb6.mono (by exact hb010.size))
    rw [HW0.out] at hfin
    exact ⟨rfl, hfin⟩

set_option maxHeartbeats 4000000 in
set_option maxRecDepth 100000 in
theorem s4_hi (x : Option Addr) (n c : Nat) (A : Nat → Option Addr) (L C : Nat → Nat) (f : Nat → Nat → Nat) (y : Option Addr) (p c' : Nat) (lv : Nat → Int) (z : Int) (w W0 : World) (HW0 : Hid (W0 = w)) (HB0 : Below W0.heap.size W0 w) (hg : IsGrid W0 x n A L C f) (hi : IntsAt W0 y p lv) (hp : p ≤ 17592186043904) (hnil : y = none → p = 0 ∧ c' = 0) (hz : 255 < z) (hlt : LightN n L) (hm : MayN n L) (g : Nat → Nat) (hp1 : 1 ≤ p) (hp2 : p ≤ 255) (hlv : ∀ i, i < p → lv i = (g i : Int)) (hgn : ∀ i, i < p → g i < n) :
    Calls Try.prog 4 #[.slice x n c, .slice y p c', .int .i64 z] w fun e w' => e = .returned (.bool true) ∧ Below w.heap.size w w' := by
  have g1 : 1 ≤ z := by omega
  have g2 : decide (z ≤ 255) = false := by simp; omega
  have hid := ident_no z w (.inr hz)
  have hl : ∀ v, Below W0.heap.size W0 v → Calls Try.prog 8 #[.slice x n c] v fun e w' => e = .returned (.bool true) ∧ w' = v := fun v hv => light_any x n c true A L C v (hg.below hv).1 ⟨fun _ => hlt, fun _ => rfl⟩
  have HI : Hid (IntsAt W0 y p lv ∧ p ≤ 17592186043904 ∧ (y = none → p = 0 ∧ c' = 0)) := ⟨hi, hp, hnil⟩
  have hmy : ∀ v, Below W0.heap.size W0 v → Calls Try.prog 14 #[.slice x n c] v fun e w' => e = .returned (.bool true) ∧ ∃ k, w' = v.drewN k := fun v hv => may_any x n c true A L C v (hg.below hv).1 (fun _ => rfl) (fun k => absurd hm k)
  obtain ⟨b, o, G, O, rfl, hM⟩ := grid_mat hg hm
  have hrk : ∀ v, Below W0.heap.size W0 v → Calls Try.prog 19 #[.slice (some ⟨b, o, none⟩) n c] v fun e w' => e = .returned (.tuple #[.int .i64 ((red n f (L 0)).1 : Int), .int .i64 0]) ∧ Below v.heap.size v w' := fun v hv => rank_yes b o n (L 0) c G O C f v (hM.below (Nat.le_refl _) hv) hm.1 hm.2.1 hm.2.2.1 hm.2.2.2.1
  have hrr : ∀ v, Below W0.heap.size W0 v → Calls Try.prog 20 #[.slice (some ⟨b, o, none⟩) n c] v fun e w' => e = .returned (.int .i64 ((red n f (L 0)).1 : Int)) ∧ Below v.heap.size v w' := fun v hv => by
    have := rrank_any b o n (L 0) c G O C f v (hM.below (Nat.le_refl _) hv) hm.1 hm.2.1 hm.2.2.1 hm.2.2.2.1
    rwa [ranks] at this
  generalize (red n f (L 0)).1 = R at hrk hrr
  have hq1 : decide ((0 : Int) < (p : Int)) = true := by simp; omega
  have hq2 : decide ((p : Int) ≤ 255) = true := by simp; omega
  obtain ⟨m, hm0⟩ : ∃ m, m = L 0 := ⟨_, rfl⟩
  rw [← hm0] at hM
  have hm1 : 1 ≤ m := by rw [hm0]; exact hm.2.2.1
  have hm2 : m ≤ 255 := by rw [hm0]; exact hm.2.2.2.1
  have hn1 := hm.1
  have hn2 := hm.2.1
  have HM : Hid (Mat W0 b o n m G O C f) := hM
  have HLV : Hid ((∀ i, i < p → lv i = (g i : Int)) ∧ ∀ i, i < p → g i < n) := ⟨hlv, hgn⟩
  clear hm0 hlv hgn
  clear hg hi hlt hnil hm hM
  go_enter Try.func4, Try.ntmps4
  go_wp2_with (first
    | (go_at_call 16; refine hid.mono ?_; rintro e w' ⟨rfl, rfl⟩; clear hid; have hbB := HB0)
    | (go_at_call 13; refine (errno_any false _).mono ?_; rintro e x1 ⟨rfl, rfl⟩)
    | (go_at_call 8; first | (refine (hl _ hbB).mono ?_; rintro e x4 ⟨rfl, rfl⟩) | (refine (hl _ (below_drewN' hbB _)).mono ?_; rintro e x4 ⟨rfl, rfl⟩))
    | (go_at_call 14; first | (refine (hmy _ hbB).mono ?_; rintro e x5 ⟨rfl, m5, rfl⟩) | (refine (hmy _ (below_drewN' hbB _)).mono ?_; rintro e x5 ⟨rfl, m5, rfl⟩)))
  have HA : Hid (∀ q, Want W0 ((_root_.Go.World.drewN _ q).alloc (.cells #[] 34)) (.slice (some ⟨(_root_.Go.World.drewN _ q).heap.size, 0, none⟩) 0 0) 0 m G O C g) := fun q => want_start (below_drewN' hbB q) m G O C g
  clear hbB
  go_loopw [9, 10, 11] (fun s9 V s11 wr => ∃ k : Nat, k ≤ p ∧ s9 = .bool true ∧ s11 = .int .i64 k ∧ Hid (Want W0 wr V k m G O C g)) (fun _ _ i _ => p - (intOf i).toNat)
  case atStart => exact ⟨0, by omega, rfl, rfl, HA.out _⟩
  case round =>
    clear HA
    obtain ⟨k, hk, rfl, rfl, HW⟩ := hrel
    by_cases hlt : k < p
    · have hkp : (k : Int) < (p : Int) := by omega
      have hgk := HLV.out.2 k hlt
      have hlk := HLV.out.1 k hlt
      rcases HI.out.1.below (Nat.le_refl _) HW.out.below with h0 | ⟨lb, lo, hy, _, hc⟩
      · omega
      · subst hy
        have c1 := hc k hlt
        rw [hlk] at c1
        have c2 := (HM.out.below (Nat.le_refl _) HW.out.below).top (g k) hgk
        have q1 : decide ((0 : Int) ≤ (g k : Int)) = true := by simp
        have q2 : (g k : Int) < (n : Int) := by omega
        obtain ⟨V', w3, hrun, ho3, hb3⟩ := push_top wr W0.heap.size _ k m G O C g HW.out.own (by omega) HW.out.below.size
        have HN : Hid (Want W0 w3 V' (k + 1) m G O C g) := ⟨HW.out.below.trans hb3, ho3⟩
        clear hc hlk ho3 hb3 HW hmy hrk hrr hl
        go_wp2_with (at_builtin; refine wpList_append_run rfl _ _ 22 rfl _ _ rfl rfl hrun ?_; clear hrun)
        go_roundw
        case rel => exact ⟨k + 1, by omega, rfl, by go_num, HN⟩
        case measure => simp [intOf]; omega
    · obtain rfl : k = p := by omega
      obtain ⟨Bw, cw, hV, hMw⟩ := want_mat HW.out HM.out (by omega) HLV.out.2
      subst hV
      have HWB : Hid (Below W0.heap.size W0 wr) := HW.out.below
      obtain ⟨y5, c5, w5, hrun, hb5', hi5⟩ := ints_copy wr y k c' lv (HI.out.1.below (Nat.le_refl _) HWB.out) HI.out.2.1 HI.out.2.2
      have hb5 := HWB.out.trans (hb5'.mono HWB.out.size)
      have hMw5 := hMw.below (Nat.le_refl _) hb5'
      rcases hi5 with h0 | ⟨lb, lo, hy5, hlb, hc5⟩
      · omega
      · subst hy5
        have hrows := rows_yes b o lb lo n m k c c5 G O C f g w5 (HM.out.below (Nat.le_refl _) hb5) hn1 hn2 hm1 hm2 hp1 hp2 hlb (fun i hi => by rw [hc5 i hi, HLV.out.1 i hi]) HLV.out.2
        clear hb5' HI HW HWB hMw hc5
        go_wp2_with (first
      | (at_builtin; refine wpList_append_run rfl _ _ 31 rfl _ _ rfl rfl hrun ?_; clear hrun)
      | (go_at_call 18; refine hrows.mono ?_; rintro e x11 ⟨hb11, By, Gy, Cy, rfl, ho11⟩; clear hrows; have hb5o := hb5; clear hb5; have hb5 := hb5o.trans (hb11.mono hb5o.size); have hMw6 := hMw5.below (Nat.le_refl _) hb11; clear hMw5)
      | (go_at_call 19; refine (hrk _ hb5).mono ?_; rintro e x7 ⟨rfl, hb7⟩; clear hrk; have hb07 := hb5.trans (hb7.mono hb5.size))
      | (go_at_call 14; first | (refine (hmy _ hb07).mono ?_; rintro e x9 ⟨rfl, m9, rfl⟩) | (refine (hmy _ (below_drewN' hb07 _)).mono ?_; rintro e x9 ⟨rfl, m9, rfl⟩))
      | (go_at_call 20; refine (hrr _ (below_drewN' hb07 _)).mono ?_; rintro e x10 ⟨rfl, hb10⟩; have hb010 := hb07.trans (below_from_drewN (hb10.mono (by exact hb07.size))))
      | (go_at_call 13; refine (errno_any _ _).mono ?_; rintro e x8 ⟨rfl, rfl⟩)
      | (go_at_call 15; refine (same_rows By 0 Bw 0 k m k cw Gy (fun _ => 0) Cy _ _ _ (fun r => f (g r)) (fun r => f (g r)) _ (by omega) (ho11.mat.below (Nat.le_refl _) hb7) (hMw6.below (Nat.le_refl _) hb7) (fun _ _ _ _ => rfl)).mono ?_; rintro e x12 ⟨rfl, m12, rfl⟩)
      | (go_at_call 9; refine (awake_any _).mono ?_; rintro e x6 ⟨rfl, hb6⟩))
        go_ret
        have hfin := hb010.trans (hb6.mono (by exact hb010.size))
        rw [HW0.out] at hfin
        exact ⟨rfl, hfin⟩

set_option maxHeartbeats 4000000 in
set_option maxRecDepth 100000 in
theorem s5_hi (x : Option Addr) (n c : Nat) (A : Nat → Option Addr) (L C : Nat → Nat) (f : Nat → Nat → Nat) (y : Option Addr) (p c' : Nat) (lv : Nat → Int) (z : Int) (w W0 : World) (HW0 : Hid (W0 = w)) (HB0 : Below W0.heap.size W0 w) (hg : IsGrid W0 x n A L C f) (hi : IntsAt W0 y p lv) (hp : p ≤ 17592186043904) (hnil : y = none → p = 0 ∧ c' = 0) (hz : 255 < z) (hlt : LightN n L) (hm : MayN n L) (g : Nat → Nat) (i0 : Nat) (hp1 : 1 ≤ p) (hp2 : p ≤ 255) (hi0 : i0 < p) (hlv : ∀ i, i < i0 → lv i = (g i : Int)) (hgn : ∀ i, i < i0 → g i < n) (hbad : lv i0 < 0 ∨ (n : Int) ≤ lv i0) :
    Calls Try.prog 4 #[.slice x n c, .slice y p c', .int .i64 z] w fun e w' => e = .returned (.bool true) ∧ Below w.heap.size w w' := by
  have g1 : 1 ≤ z := by omega
  have g2 : decide (z ≤ 255) = false := by simp; omega
  have hid := ident_no z w (.inr hz)
  have hl : ∀ v, Below W0.heap.size W0 v → Calls Try.prog 8 #[.slice x n c] v fun e w' => e = .returned (.bool true) ∧ w' = v := fun v hv => light_any x n c true A L C v (hg.below hv).1 ⟨fun _ => hlt, fun _ => rfl⟩
  have HI : Hid (IntsAt W0 y p lv ∧ p ≤ 17592186043904 ∧ (y = none → p = 0 ∧ c' = 0)) := ⟨hi, hp, hnil⟩
  have hro : ∀ v, Below W0.heap.size W0 v → ∀ y' cy, IntsAt v y' p lv → Calls Try.prog 18 #[.slice x n c, .slice y' p cy] v fun e w' => e = .returned (.tuple #[.slice none 0 0, .int .i64 1]) ∧ w' = v := fun v hv y' cy hy => by
    rcases hy with h0 | ⟨lb, lo, rfl, _, hc⟩
    · omega
    · exact rows_bad x lb lo n p c cy A L C lv v (hg.below hv).1 hm hp1 hp2 hc i0 hi0 hbad
  have hmy : ∀ v, Below W0.heap.size W0 v → Calls Try.prog 14 #[.slice x n c] v fun e w' => e = .returned (.bool true) ∧ ∃ k, w' = v.drewN k := fun v hv => may_any x n c true A L C v (hg.below hv).1 (fun _ => rfl) (fun k => absurd hm k)
  obtain ⟨b, o, G, O, rfl, hM⟩ := grid_mat hg hm
  have hrk : ∀ v, Below W0.heap.size W0 v → Calls Try.prog 19 #[.slice (some ⟨b, o, none⟩) n c] v fun e w' => e = .returned (.tuple #[.int .i64 ((red n f (L 0)).1 : Int), .int .i64 0]) ∧ Below v.heap.size v w' := fun v hv => rank_yes b o n (L 0) c G O C f v (hM.below (Nat.le_refl _) hv) hm.1 hm.2.1 hm.2.2.1 hm.2.2.2.1
  have hrr : ∀ v, Below W0.heap.size W0 v → Calls Try.prog 20 #[.slice (some ⟨b, o, none⟩) n c] v fun e w' => e = .returned (.int .i64 ((red n f (L 0)).1 : Int)) ∧ Below v.heap.size v w' := fun v hv => by
    have := rrank_any b o n (L 0) c G O C f v (hM.below (Nat.le_refl _) hv) hm.1 hm.2.1 hm.2.2.1 hm.2.2.2.1
    rwa [ranks] at this
  generalize (red n f (L 0)).1 = R at hrk hrr
  have hq1 : decide ((0 : Int) < (p : Int)) = true := by simp; omega
  have hq2 : decide ((p : Int) ≤ 255) = true := by simp; omega
  obtain ⟨m, hm0⟩ : ∃ m, m = L 0 := ⟨_, rfl⟩
  rw [← hm0] at hM
  have hm1 : 1 ≤ m := by rw [hm0]; exact hm.2.2.1
  have hm2 : m ≤ 255 := by rw [hm0]; exact hm.2.2.2.1
  have hn1 := hm.1
  have hn2 := hm.2.1
  have HM : Hid (Mat W0 b o n m G O C f) := hM
  have HLV : Hid ((∀ i, i < i0 → lv i = (g i : Int)) ∧ (∀ i, i < i0 → g i < n) ∧ (lv i0 < 0 ∨ (n : Int) ≤ lv i0)) := ⟨hlv, hgn, hbad⟩
  clear hm0 hlv hgn hbad
  clear hg hi hlt hnil hm hM
  go_enter Try.func4, Try.ntmps4
  go_wp2_with (first
    | (go_at_call 16; refine hid.mono ?_; rintro e w' ⟨rfl, rfl⟩; clear hid; have hbB := HB0)
    | (go_at_call 13; refine (errno_any false _).mono ?_; rintro e x1 ⟨rfl, rfl⟩)
    | (go_at_call 8; first | (refine (hl _ hbB).mono ?_; rintro e x4 ⟨rfl, rfl⟩) | (refine (hl _ (below_drewN' hbB _)).mono ?_; rintro e x4 ⟨rfl, rfl⟩))
    | (go_at_call 14; first | (refine (hmy _ hbB).mono ?_; rintro e x5 ⟨rfl, m5, rfl⟩) | (refine (hmy _ (below_drewN' hbB _)).mono ?_; rintro e x5 ⟨rfl, m5, rfl⟩)))
  have HA : Hid (∀ q, Want W0 ((_root_.Go.World.drewN _ q).alloc (.cells #[] 34)) (.slice (some ⟨(_root_.Go.World.drewN _ q).heap.size, 0, none⟩) 0 0) 0 m G O C g) := fun q => want_start (below_drewN' hbB q) m G O C g
  clear hbB
  go_loopw [9, 10, 11] (fun s9 V s11 wr => ∃ (k : Nat) (t : Bool), k ≤ i0 + 1 ∧ s9 = .bool t ∧ s11 = .int .i64 k ∧ Hid ((t = true ∧ k ≤ i0 ∧ Want W0 wr V k m G O C g) ∨ (t = false ∧ k = i0 + 1 ∧ Below W0.heap.size W0 wr))) (fun _ _ i _ => i0 + 1 - (intOf i).toNat)
  case atStart => exact ⟨0, true, by omega, rfl, rfl, .inl ⟨rfl, by omega, HA.out _⟩⟩
  case round =>
    clear HA
    obtain ⟨k, t, hk, rfl, rfl, HH⟩ := hrel
    rcases HH.out with ⟨rfl, hki, hW⟩ | ⟨rfl, hki, hB⟩
    · have hkp : (k : Int) < (p : Int) := by omega
      rcases HI.out.1.below (Nat.le_refl _) hW.below with h0 | ⟨lb, lo, hy, _, hc⟩
      · omega
      · subst hy
        have c1 := hc k (by omega)
        by_cases hlt : k < i0
        · have hgk := HLV.out.2.1 k hlt
          have hlk := HLV.out.1 k hlt
          rw [hlk] at c1
          have c2 := (HM.out.below (Nat.le_refl _) hW.below).top (g k) hgk
          have q1 : decide ((0 : Int) ≤ (g k : Int)) = true := by simp
          have q2 : (g k : Int) < (n : Int) := by omega
          obtain ⟨V', w3, hrun, ho3, hb3⟩ := push_top wr W0.heap.size _ k m G O C g hW.own (by omega) hW.below.size
          have HN : Hid ((true = true ∧ k + 1 ≤ i0 ∧ Want W0 w3 V' (k + 1) m G O C g) ∨ (true = false ∧ k + 1 = i0 + 1 ∧ Below W0.heap.size W0 w3)) := .inl ⟨rfl, by omega, hW.below.trans hb3, ho3⟩
          clear hc hlk ho3 hb3 hW HH hmy hrk hrr hl hro
          go_wp2_with (at_builtin; refine wpList_append_run rfl _ _ 22 rfl _ _ rfl rfl hrun ?_; clear hrun)
          go_roundw
          case rel => exact ⟨k + 1, true, by omega, rfl, by go_num, HN⟩
          case measure => simp [intOf]; omega
        · obtain rfl : k = i0 := by omega
          have HN : ∀ v : Value, Hid ((false = true ∧ k + 1 ≤ k ∧ Want W0 wr v (k + 1) m G O C g) ∨ (false = false ∧ k + 1 = k + 1 ∧ Below W0.heap.size W0 wr)) := fun v => .inr ⟨rfl, rfl, hW.below⟩
          by_cases e1 : lv k < 0
          · have q1 : decide ((0 : Int) ≤ lv k) = false := by simp; omega
            clear hc hW HH hmy hrk hrr hl hro
            go_wp2_with fail
            go_roundw
            case rel => exact ⟨k + 1, false, by omega, rfl, by go_num, HN _⟩
            case measure => first | (simp [intOf]; done) | (simp [intOf]; omega)
          · have q1 : decide ((0 : Int) ≤ lv k) = true := by simp; omega
            have q2 : ¬ (lv k < (n : Int)) := by have := HLV.out.2.2; omega
            have q3 : decide (lv k < (n : Int)) = false := by simp; omega
            clear hc hW HH hmy hrk hrr hl hro q2
            go_wp2_with fail
            go_roundw
            case rel => exact ⟨k + 1, false, by omega, rfl, by go_num, HN _⟩
            case measure => first | (simp [intOf]; done) | (simp [intOf]; omega)
    · have HWB : Hid (Below W0.heap.size W0 wr) := hB
      obtain ⟨y5, c5, w5, hrun, hb5', hi5⟩ := ints_copy wr y p c' lv (HI.out.1.below (Nat.le_refl _) HWB.out) HI.out.2.1 HI.out.2.2
      have hb5 := HWB.out.trans (hb5'.mono HWB.out.size)
      have hro5 := hro w5 hb5 y5 c5 hi5
      have hcond : ((k : Int) < (p : Int)) ∨ ¬ ((k : Int) < (p : Int)) := by omega
      clear hb5' HI hi5 HH hB HLV hro HM
      rcases hcond with hcond | hcond
      · go_wp2_with (first
          | (at_builtin; refine wpList_append_run rfl _ _ 31 rfl _ _ rfl rfl hrun ?_; clear hrun)
          | (go_at_call 18; refine hro5.mono ?_; rintro e x11 ⟨rfl, rfl⟩; clear hro5)
          | (go_at_call 19; refine (hrk _ hb5).mono ?_; rintro e x7 ⟨rfl, hb7⟩; clear hrk; have hb07 := hb5.trans (hb7.mono hb5.size))
          | (go_at_call 14; first | (refine (hmy _ hb07).mono ?_; rintro e x9 ⟨rfl, m9, rfl⟩) | (refine (hmy _ (below_drewN' hb07 _)).mono ?_; rintro e x9 ⟨rfl, m9, rfl⟩))
          | (go_at_call 20; refine (hrr _ (below_drewN' hb07 _)).mono ?_; rintro e x10 ⟨rfl, hb10⟩; have hb010 := hb07.trans (below_from_drewN (hb10.mono (by exact hb07.size))))
          | (go_at_call 13; refine (errno_any _ _).mono ?_; rintro e x8 ⟨rfl, rfl⟩)
          | (go_at_call 9; refine (awake_any _).mono ?_; rintro e x6 ⟨rfl, hb6⟩))
        go_ret
        have hfin := hb010.trans (hb6.mono (by exact hb010.size))
        rw [HW0.out] at hfin
        exact ⟨rfl, hfin⟩
      · go_wp2_with (first
          | (at_builtin; refine wpList_append_run rfl _ _ 31 rfl _ _ rfl rfl hrun ?_; clear hrun)
          | (go_at_call 18; refine hro5.mono ?_; rintro e x11 ⟨rfl, rfl⟩; clear hro5)
          | (go_at_call 19; refine (hrk _ hb5).mono ?_; rintro e x7 ⟨rfl, hb7⟩; clear hrk; have hb07 := hb5.trans (hb7.mono hb5.size))
          | (go_at_call 14; first | (refine (hmy _ hb07).mono ?_; rintro e x9 ⟨rfl, m9, rfl⟩) | (refine (hmy _ (below_drewN' hb07 _)).mono ?_; rintro e x9 ⟨rfl, m9, rfl⟩))
          | (go_at_call 20; refine (hrr _ (below_drewN' hb07 _)).mono ?_; rintro e x10 ⟨rfl, hb10⟩; have hb010 := hb07.trans (below_from_drewN (hb10.mono (by exact hb07.size))))
          | (go_at_call 13; refine (errno_any _ _).mono ?_; rintro e x8 ⟨rfl, rfl⟩)
          | (go_at_call 9; refine (awake_any _).mono ?_; rintro e x6 ⟨rfl, hb6⟩))
        go_ret
        have hfin := hb010.trans (hb6.mono (by exact hb010.size))
        rw [HW0.out] at hfin
        exact ⟨rfl, hfin⟩

set_option maxHeartbeats 4000000 in
set_option maxRecDepth 100000 in
theorem dark_ok (x : Option Addr) (n c : Nat) (A : Nat → Option Addr) (L C : Nat → Nat) (f : Nat → Nat → Nat) (y : Option Addr) (p c' : Nat) (lv : Nat → Int) (z : Int) (w W0 : World) (HW0 : Hid (W0 = w)) (HB0 : Below W0.heap.size W0 w) (hg : IsGrid W0 x n A L C f) (hi : IntsAt W0 y p lv) (hp : p ≤ 17592186043904) (hnil : y = none → p = 0 ∧ c' = 0) (k0 : Nat) (hz : z = k0) (h1 : 1 ≤ k0) (h2 : k0 ≤ 255) (hd : ¬ LightN n L) :
    Calls Try.prog 4 #[.slice x n c, .slice y p c', .int .i64 z] w fun e w' => e = .returned (.bool true) ∧ Below w.heap.size w w' := by
  subst hz
  have g1 : (1 : Int) ≤ (k0 : Int) := by omega
  have g2 : (k0 : Int) ≤ 255 := by omega
  have hid := ident_yes k0 w h1 h2
  have hl : ∀ v, Below W0.heap.size W0 v → Calls Try.prog 8 #[.slice x n c] v fun e w' => e = .returned (.bool false) ∧ w' = v := fun v hv => light_any x n c false A L C v (hg.below hv).1 ⟨fun h => (by cases h), fun h => absurd h hd⟩
  clear hg hi hd hnil
  go_enter Try.func4, Try.ntmps4
  go_wp2_with (first
    | (go_at_call 16; refine hid.mono ?_; rintro e x1 ⟨hb1, B1, G1, C1, rfl, ho1⟩; clear hid)
    | (go_at_call 13; refine (errno_any true _).mono ?_; rintro e x0 ⟨rfl, hx0⟩; subst hx0)
    | (go_at_call 17; refine (rident_any k0 _ h1 h2).mono ?_; rintro e x2 ⟨V2, G2, C2, rfl, hgr⟩; have hb2 := hgr.below; obtain ⟨B2, c2, hV, ho2⟩ := grow_own hgr (by omega); subst hV; clear hgr; have hbB := (HB0.trans (hb1.mono HB0.size)).trans (hb2.mono (Nat.le_trans HB0.size hb1.size)); have hs1 := same_rows B1 0 B2 0 k0 k0 k0 c2 G1 (fun _ => 0) C1 G2 (fun _ => 0) C2 delta delta _ (by omega) (ho1.mat.below (Nat.le_refl _) hb2) ho2.mat (fun _ _ _ _ => rfl); clear ho1 ho2 hb1 hb2)
    | (go_at_call 15; refine hs1.mono ?_; rintro e x3 ⟨rfl, m3, rfl⟩; clear hs1)
    | (go_at_call 8; first | (refine (hl _ hbB).mono ?_; rintro e x4 ⟨rfl, rfl⟩) | (refine (hl _ (below_drewN' hbB _)).mono ?_; rintro e x4 ⟨rfl, rfl⟩))
    | (go_at_call 9; refine (awake_any _).mono ?_; rintro e x6 ⟨rfl, hb6⟩))
  go_ret
  have hfin := hbB.trans (by first | exact hb6.mono hbB.size | exact below_from_drewN (hb6.mono (by exact hbB.size)))
  rw [HW0.out] at hfin
  exact ⟨rfl, hfin⟩

set_option maxHeartbeats 4000000 in
set_option maxRecDepth 100000 in
theorem s1a_ok (x : Option Addr) (n c : Nat) (A : Nat → Option Addr) (L C : Nat → Nat) (f : Nat → Nat → Nat) (y : Option Addr) (p c' : Nat) (lv : Nat → Int) (z : Int) (w W0 : World) (HW0 : Hid (W0 = w)) (HB0 : Below W0.heap.size W0 w) (hg : IsGrid W0 x n A L C f) (hi : IntsAt W0 y p lv) (hp : p ≤ 17592186043904) (hnil : y = none → p = 0 ∧ c' = 0) (k0 : Nat) (hz : z = k0) (h1 : 1 ≤ k0) (h2 : k0 ≤ 255) (hlt : LightN n L) (hm : ¬ MayN n L) (hq : p = 0) :
    Calls Try.prog 4 #[.slice x n c, .slice y p c', .int .i64 z] w fun e w' => e = .returned (.bool true) ∧ Below w.heap.size w w' := by
  subst hz
  have g1 : (1 : Int) ≤ (k0 : Int) := by omega
  have g2 : (k0 : Int) ≤ 255 := by omega
  have hid := ident_yes k0 w h1 h2
  have hl : ∀ v, Below W0.heap.size W0 v → Calls Try.prog 8 #[.slice x n c] v fun e w' => e = .returned (.bool true) ∧ w' = v := fun v hv => light_any x n c true A L C v (hg.below hv).1 ⟨fun _ => hlt, fun _ => rfl⟩
  have HI : Hid (IntsAt W0 y p lv ∧ p ≤ 17592186043904 ∧ (y = none → p = 0 ∧ c' = 0)) := ⟨hi, hp, hnil⟩
  have hro : ∀ v, Below W0.heap.size W0 v → ∀ y' cy, Calls Try.prog 18 #[.slice x n c, .slice y' p cy] v fun e w' => e = .returned (.tuple #[.slice none 0 0, .int .i64 1]) ∧ w' = v := fun v hv y' cy => rows_out x y' n p c cy A L C v (hg.below hv).1 (.inl hm)
  have hrk : ∀ v, Below W0.heap.size W0 v → Calls Try.prog 19 #[.slice x n c] v fun e w' => e = .returned (.tuple #[.int .i64 0, .int .i64 1]) ∧ w' = v := fun v hv => rank_no x n c A L C v (hg.below hv).1 hm
  have hmy : ∀ v, Below W0.heap.size W0 v → Calls Try.prog 14 #[.slice x n c] v fun e w' => e = .returned (.bool false) ∧ ∃ k, w' = v.drewN k := fun v hv => may_any x n c false A L C v (hg.below hv).1 (fun k => absurd k hm) (fun _ => rfl)
  subst hq
  clear hg hi hlt hnil hm
  go_enter Try.func4, Try.ntmps4
  go_wp2_with (first
    | (go_at_call 16; refine hid.mono ?_; rintro e x1 ⟨hb1, B1, G1, C1, rfl, ho1⟩; clear hid)
    | (go_at_call 13; refine (errno_any true _).mono ?_; rintro e x0 ⟨rfl, hx0⟩; subst hx0)
    | (go_at_call 17; refine (rident_any k0 _ h1 h2).mono ?_; rintro e x2 ⟨V2, G2, C2, rfl, hgr⟩; have hb2 := hgr.below; obtain ⟨B2, c2, hV, ho2⟩ := grow_own hgr (by omega); subst hV; clear hgr; have hbB := (HB0.trans (hb1.mono HB0.size)).trans (hb2.mono (Nat.le_trans HB0.size hb1.size)); have hs1 := same_rows B1 0 B2 0 k0 k0 k0 c2 G1 (fun _ => 0) C1 G2 (fun _ => 0) C2 delta delta _ (by omega) (ho1.mat.below (Nat.le_refl _) hb2) ho2.mat (fun _ _ _ _ => rfl); clear ho1 ho2 hb1 hb2)
    | (go_at_call 15; refine hs1.mono ?_; rintro e x3 ⟨rfl, m3, rfl⟩; clear hs1)
    | (go_at_call 8; first | (refine (hl _ hbB).mono ?_; rintro e x4 ⟨rfl, rfl⟩) | (refine (hl _ (below_drewN' hbB _)).mono ?_; rintro e x4 ⟨rfl, rfl⟩))
    | (go_at_call 14; first | (refine (hmy _ hbB).mono ?_; rintro e x5 ⟨rfl, m5, rfl⟩) | (refine (hmy _ (below_drewN' hbB _)).mono ?_; rintro e x5 ⟨rfl, m5, rfl⟩)))
  have HA : Hid (∀ m, Below W0.heap.size W0 ((_root_.Go.World.drewN _ m).alloc (.cells #[] 34))) := fun m => (below_drewN' hbB m).alloc (by exact hbB.size) _
  clear hbB
  go_loopw [9, 10, 11] (fun s9 _ s11 wr => s9 = .bool false ∧ s11 = .int .i64 0 ∧ Hid (Below W0.heap.size W0 wr)) (fun _ _ _ _ => 0)
  case atStart => exact ⟨rfl, rfl, HA.out _⟩
  case round =>
    clear HA
    obtain ⟨rfl, rfl, HWB⟩ := hrel
    obtain ⟨y5, c5, w5, hrun, hb5', hi5⟩ := ints_copy wr y 0 c' lv (HI.out.1.below (Nat.le_refl _) HWB.out) HI.out.2.1 (fun e => ⟨rfl, (HI.out.2.2 e).2⟩)
    have hb5 := HWB.out.trans (hb5'.mono HWB.out.size)
    clear hb5' HI hi5
    go_wp2_with (first
      | (at_builtin; refine wpList_append_run rfl _ _ 31 rfl _ _ rfl rfl hrun ?_; clear hrun)
      | (go_at_call 18; refine (hro _ hb5 _ _).mono ?_; rintro e x11 ⟨rfl, rfl⟩; clear hro)
      | (go_at_call 19; refine (hrk _ hb5).mono ?_; rintro e x7 ⟨rfl, rfl⟩; clear hrk)
      | (go_at_call 14; refine (hmy _ hb5).mono ?_; rintro e x9 ⟨rfl, m9, rfl⟩; clear hmy)
      | (go_at_call 13; refine (errno_any _ _).mono ?_; rintro e x8 ⟨rfl, rfl⟩)
      | (go_at_call 9; refine (awake_any _).mono ?_; rintro e x6 ⟨rfl, hb6⟩))
    go_ret
    have hfin := hb5.trans (below_from_drewN (hb6.mono (by exact hb5.size)))
    rw [HW0.out] at hfin
    exact ⟨rfl, hfin⟩

set_option maxHeartbeats 4000000 in
set_option maxRecDepth 100000 in
theorem s1b_ok (x : Option Addr) (n c : Nat) (A : Nat → Option Addr) (L C : Nat → Nat) (f : Nat → Nat → Nat) (y : Option Addr) (p c' : Nat) (lv : Nat → Int) (z : Int) (w W0 : World) (HW0 : Hid (W0 = w)) (HB0 : Below W0.heap.size W0 w) (hg : IsGrid W0 x n A L C f) (hi : IntsAt W0 y p lv) (hp : p ≤ 17592186043904) (hnil : y = none → p = 0 ∧ c' = 0) (k0 : Nat) (hz : z = k0) (h1 : 1 ≤ k0) (h2 : k0 ≤ 255) (hlt : LightN n L) (hm : ¬ MayN n L) (hq : 0 < p) :
    Calls Try.prog 4 #[.slice x n c, .slice y p c', .int .i64 z] w fun e w' => e = .returned (.bool true) ∧ Below w.heap.size w w' := by
  subst hz
  have g1 : (1 : Int) ≤ (k0 : Int) := by omega
  have g2 : (k0 : Int) ≤ 255 := by omega
  have hid := ident_yes k0 w h1 h2
  have hl : ∀ v, Below W0.heap.size W0 v → Calls Try.prog 8 #[.slice x n c] v fun e w' => e = .returned (.bool true) ∧ w' = v := fun v hv => light_any x n c true A L C v (hg.below hv).1 ⟨fun _ => hlt, fun _ => rfl⟩
  have HI : Hid (IntsAt W0 y p lv ∧ p ≤ 17592186043904 ∧ (y = none → p = 0 ∧ c' = 0)) := ⟨hi, hp, hnil⟩
  have hro : ∀ v, Below W0.heap.size W0 v → ∀ y' cy, Calls Try.prog 18 #[.slice x n c, .slice y' p cy] v fun e w' => e = .returned (.tuple #[.slice none 0 0, .int .i64 1]) ∧ w' = v := fun v hv y' cy => rows_out x y' n p c cy A L C v (hg.below hv).1 (.inl hm)
  have hrk : ∀ v, Below W0.heap.size W0 v → Calls Try.prog 19 #[.slice x n c] v fun e w' => e = .returned (.tuple #[.int .i64 0, .int .i64 1]) ∧ w' = v := fun v hv => rank_no x n c A L C v (hg.below hv).1 hm
  have hmy : ∀ v, Below W0.heap.size W0 v → Calls Try.prog 14 #[.slice x n c] v fun e w' => e = .returned (.bool false) ∧ ∃ k, w' = v.drewN k := fun v hv => may_any x n c false A L C v (hg.below hv).1 (fun k => absurd k hm) (fun _ => rfl)
  have hq1 : (0 : Int) < (p : Int) := by omega
  clear hg hi hlt hnil hm
  go_enter Try.func4, Try.ntmps4
  go_wp2_with (first
    | (go_at_call 16; refine hid.mono ?_; rintro e x1 ⟨hb1, B1, G1, C1, rfl, ho1⟩; clear hid)
    | (go_at_call 13; refine (errno_any true _).mono ?_; rintro e x0 ⟨rfl, hx0⟩; subst hx0)
    | (go_at_call 17; refine (rident_any k0 _ h1 h2).mono ?_; rintro e x2 ⟨V2, G2, C2, rfl, hgr⟩; have hb2 := hgr.below; obtain ⟨B2, c2, hV, ho2⟩ := grow_own hgr (by omega); subst hV; clear hgr; have hbB := (HB0.trans (hb1.mono HB0.size)).trans (hb2.mono (Nat.le_trans HB0.size hb1.size)); have hs1 := same_rows B1 0 B2 0 k0 k0 k0 c2 G1 (fun _ => 0) C1 G2 (fun _ => 0) C2 delta delta _ (by omega) (ho1.mat.below (Nat.le_refl _) hb2) ho2.mat (fun _ _ _ _ => rfl); clear ho1 ho2 hb1 hb2)
    | (go_at_call 15; refine hs1.mono ?_; rintro e x3 ⟨rfl, m3, rfl⟩; clear hs1)
    | (go_at_call 8; first | (refine (hl _ hbB).mono ?_; rintro e x4 ⟨rfl, rfl⟩) | (refine (hl _ (below_drewN' hbB _)).mono ?_; rintro e x4 ⟨rfl, rfl⟩))
    | (go_at_call 14; first | (refine (hmy _ hbB).mono ?_; rintro e x5 ⟨rfl, m5, rfl⟩) | (refine (hmy _ (below_drewN' hbB _)).mono ?_; rintro e x5 ⟨rfl, m5, rfl⟩)))
  have HA : Hid (∀ m, Below W0.heap.size W0 ((_root_.Go.World.drewN _ m).alloc (.cells #[] 34))) := fun m => (below_drewN' hbB m).alloc (by exact hbB.size) _
  clear hbB
  go_loopw [9, 10, 11] (fun s9 _ s11 wr => s9 = .bool false ∧ s11 = .int .i64 0 ∧ Hid (Below W0.heap.size W0 wr)) (fun _ _ _ _ => 0)
  case atStart => exact ⟨rfl, rfl, HA.out _⟩
  case round =>
    clear HA
    obtain ⟨rfl, rfl, HWB⟩ := hrel
    obtain ⟨y5, c5, w5, hrun, hb5', hi5⟩ := ints_copy wr y p c' lv (HI.out.1.below (Nat.le_refl _) HWB.out) HI.out.2.1 HI.out.2.2
    have hb5 := HWB.out.trans (hb5'.mono HWB.out.size)
    clear hb5' HI hi5
    go_wp2_with (first
      | (at_builtin; refine wpList_append_run rfl _ _ 31 rfl _ _ rfl rfl hrun ?_; clear hrun)
      | (go_at_call 18; refine (hro _ hb5 _ _).mono ?_; rintro e x11 ⟨rfl, rfl⟩; clear hro)
      | (go_at_call 19; refine (hrk _ hb5).mono ?_; rintro e x7 ⟨rfl, rfl⟩; clear hrk)
      | (go_at_call 14; refine (hmy _ hb5).mono ?_; rintro e x9 ⟨rfl, m9, rfl⟩; clear hmy)
      | (go_at_call 13; refine (errno_any _ _).mono ?_; rintro e x8 ⟨rfl, rfl⟩)
      | (go_at_call 9; refine (awake_any _).mono ?_; rintro e x6 ⟨rfl, hb6⟩))
    go_ret
    have hfin := hb5.trans (below_from_drewN (hb6.mono (by exact hb5.size)))
    rw [HW0.out] at hfin
    exact ⟨rfl, hfin⟩

set_option maxHeartbeats 4000000 in
set_option maxRecDepth 100000 in
theorem s2_ok (x : Option Addr) (n c : Nat) (A : Nat → Option Addr) (L C : Nat → Nat) (f : Nat → Nat → Nat) (y : Option Addr) (p c' : Nat) (lv : Nat → Int) (z : Int) (w W0 : World) (HW0 : Hid (W0 = w)) (HB0 : Below W0.heap.size W0 w) (hg : IsGrid W0 x n A L C f) (hi : IntsAt W0 y p lv) (hp : p ≤ 17592186043904) (hnil : y = none → p = 0 ∧ c' = 0) (k0 : Nat) (hz : z = k0) (h1 : 1 ≤ k0) (h2 : k0 ≤ 255) (hlt : LightN n L) (hm : MayN n L) (hq : p = 0) :
    Calls Try.prog 4 #[.slice x n c, .slice y p c', .int .i64 z] w fun e w' => e = .returned (.bool true) ∧ Below w.heap.size w w' := by
  subst hz
  have g1 : (1 : Int) ≤ (k0 : Int) := by omega
  have g2 : (k0 : Int) ≤ 255 := by omega
  have hid := ident_yes k0 w h1 h2
  have hl : ∀ v, Below W0.heap.size W0 v → Calls Try.prog 8 #[.slice x n c] v fun e w' => e = .returned (.bool true) ∧ w' = v := fun v hv => light_any x n c true A L C v (hg.below hv).1 ⟨fun _ => hlt, fun _ => rfl⟩
  have HI : Hid (IntsAt W0 y p lv ∧ p ≤ 17592186043904 ∧ (y = none → p = 0 ∧ c' = 0)) := ⟨hi, hp, hnil⟩
  have hro : ∀ v, Below W0.heap.size W0 v → ∀ y' cy, Calls Try.prog 18 #[.slice x n c, .slice y' p cy] v fun e w' => e = .returned (.tuple #[.slice none 0 0, .int .i64 1]) ∧ w' = v := fun v hv y' cy => rows_out x y' n p c cy A L C v (hg.below hv).1 (.inr (by omega))
  have hmy : ∀ v, Below W0.heap.size W0 v → Calls Try.prog 14 #[.slice x n c] v fun e w' => e = .returned (.bool true) ∧ ∃ k, w' = v.drewN k := fun v hv => may_any x n c true A L C v (hg.below hv).1 (fun _ => rfl) (fun k => absurd hm k)
  obtain ⟨b, o, G, O, rfl, hM⟩ := grid_mat hg hm
  have hrk : ∀ v, Below W0.heap.size W0 v → Calls Try.prog 19 #[.slice (some ⟨b, o, none⟩) n c] v fun e w' => e = .returned (.tuple #[.int .i64 ((red n f (L 0)).1 : Int), .int .i64 0]) ∧ Below v.heap.size v w' := fun v hv => rank_yes b o n (L 0) c G O C f v (hM.below (Nat.le_refl _) hv) hm.1 hm.2.1 hm.2.2.1 hm.2.2.2.1
  have hrr : ∀ v, Below W0.heap.size W0 v → Calls Try.prog 20 #[.slice (some ⟨b, o, none⟩) n c] v fun e w' => e = .returned (.int .i64 ((red n f (L 0)).1 : Int)) ∧ Below v.heap.size v w' := fun v hv => by
    have := rrank_any b o n (L 0) c G O C f v (hM.below (Nat.le_refl _) hv) hm.1 hm.2.1 hm.2.2.1 hm.2.2.2.1
    rwa [ranks] at this
  generalize (red n f (L 0)).1 = R at hrk hrr
  subst hq
  clear hg hi hlt hnil hm hM
  go_enter Try.func4, Try.ntmps4
  go_wp2_with (first
    | (go_at_call 16; refine hid.mono ?_; rintro e x1 ⟨hb1, B1, G1, C1, rfl, ho1⟩; clear hid)
    | (go_at_call 13; refine (errno_any true _).mono ?_; rintro e x0 ⟨rfl, hx0⟩; subst hx0)
    | (go_at_call 17; refine (rident_any k0 _ h1 h2).mono ?_; rintro e x2 ⟨V2, G2, C2, rfl, hgr⟩; have hb2 := hgr.below; obtain ⟨B2, c2, hV, ho2⟩ := grow_own hgr (by omega); subst hV; clear hgr; have hbB := (HB0.trans (hb1.mono HB0.size)).trans (hb2.mono (Nat.le_trans HB0.size hb1.size)); have hs1 := same_rows B1 0 B2 0 k0 k0 k0 c2 G1 (fun _ => 0) C1 G2 (fun _ => 0) C2 delta delta _ (by omega) (ho1.mat.below (Nat.le_refl _) hb2) ho2.mat (fun _ _ _ _ => rfl); clear ho1 ho2 hb1 hb2)
    | (go_at_call 15; refine hs1.mono ?_; rintro e x3 ⟨rfl, m3, rfl⟩; clear hs1)
    | (go_at_call 8; first | (refine (hl _ hbB).mono ?_; rintro e x4 ⟨rfl, rfl⟩) | (refine (hl _ (below_drewN' hbB _)).mono ?_; rintro e x4 ⟨rfl, rfl⟩))
    | (go_at_call 14; first | (refine (hmy _ hbB).mono ?_; rintro e x5 ⟨rfl, m5, rfl⟩) | (refine (hmy _ (below_drewN' hbB _)).mono ?_; rintro e x5 ⟨rfl, m5, rfl⟩)))
  have HA : Hid (∀ m, Below W0.heap.size W0 ((_root_.Go.World.drewN _ m).alloc (.cells #[] 34))) := fun m => (below_drewN' hbB m).alloc (by exact hbB.size) _
  clear hbB
  go_loopw [9, 10, 11] (fun s9 _ s11 wr => s9 = .bool false ∧ s11 = .int .i64 0 ∧ Hid (Below W0.heap.size W0 wr)) (fun _ _ _ _ => 0)
  case atStart => exact ⟨rfl, rfl, HA.out _⟩
  case round =>
    clear HA
    obtain ⟨rfl, rfl, HWB⟩ := hrel
    obtain ⟨y5, c5, w5, hrun, hb5', hi5⟩ := ints_copy wr y 0 c' lv (HI.out.1.below (Nat.le_refl _) HWB.out) HI.out.2.1 (fun e => ⟨rfl, (HI.out.2.2 e).2⟩)
    have hb5 := HWB.out.trans (hb5'.mono HWB.out.size)
    clear hb5' HI hi5
    go_wp2_with (first
      | (at_builtin; refine wpList_append_run rfl _ _ 31 rfl _ _ rfl rfl hrun ?_; clear hrun)
      | (go_at_call 18; refine (hro _ hb5 _ _).mono ?_; rintro e x11 ⟨rfl, rfl⟩; clear hro)
      | (go_at_call 19; refine (hrk _ hb5).mono ?_; rintro e x7 ⟨rfl, hb7⟩; clear hrk; have hb07 := hb5.trans (hb7.mono hb5.size))
      | (go_at_call 14; first | (refine (hmy _ hb07).mono ?_; rintro e x9 ⟨rfl, m9, rfl⟩) | (refine (hmy _ (below_drewN' hb07 _)).mono ?_; rintro e x9 ⟨rfl, m9, rfl⟩))
      | (go_at_call 20; refine (hrr _ (below_drewN' hb07 _)).mono ?_; rintro e x10 ⟨rfl, hb10⟩; have hb010 := hb07.trans (below_from_drewN (hb10.mono (by exact hb07.size))))
      | (go_at_call 13; refine (errno_any _ _).mono ?_; rintro e x8 ⟨rfl, rfl⟩)
      | (go_at_call 9; refine (awake_any _).mono ?_; rintro e x6 ⟨rfl, hb6⟩))
    go_ret
    have hfin := hb010.trans (hb6.mono (by exact hb010.size))
    rw [HW0.out] at hfin
    exact ⟨rfl, hfin⟩

set_option maxHeartbeats 4000000 in
set_option maxRecDepth 100000 in
theorem s3_ok (x : Option Addr) (n c : Nat) (A : Nat → Option Addr) (L C : Nat → Nat) (f : Nat → Nat → Nat) (y : Option Addr) (p c' : Nat) (lv : Nat → Int) (z : Int) (w W0 : World) (HW0 : Hid (W0 = w)) (HB0 : Below W0.heap.size W0 w) (hg : IsGrid W0 x n A L C f) (hi : IntsAt W0 y p lv) (hp : p ≤ 17592186043904) (hnil : y = none → p = 0 ∧ c' = 0) (k0 : Nat) (hz : z = k0) (h1 : 1 ≤ k0) (h2 : k0 ≤ 255) (hlt : LightN n L) (hm : MayN n L) (hq : 255 < p) :
    Calls Try.prog 4 #[.slice x n c, .slice y p c', .int .i64 z] w fun e w' => e = .returned (.bool true) ∧ Below w.heap.size w w' := by
  subst hz
  have g1 : (1 : Int) ≤ (k0 : Int) := by omega
  have g2 : (k0 : Int) ≤ 255 := by omega
  have hid := ident_yes k0 w h1 h2
  have hl : ∀ v, Below W0.heap.size W0 v → Calls Try.prog 8 #[.slice x n c] v fun e w' => e = .returned (.bool true) ∧ w' = v := fun v hv => light_any x n c true A L C v (hg.below hv).1 ⟨fun _ => hlt, fun _ => rfl⟩
  have HI : Hid (IntsAt W0 y p lv ∧ p ≤ 17592186043904 ∧ (y = none → p = 0 ∧ c' = 0)) := ⟨hi, hp, hnil⟩
  have hro : ∀ v, Below W0.heap.size W0 v → ∀ y' cy, Calls Try.prog 18 #[.slice x n c, .slice y' p cy] v fun e w' => e = .returned (.tuple #[.slice none 0 0, .int .i64 1]) ∧ w' = v := fun v hv y' cy => rows_out x y' n p c cy A L C v (hg.below hv).1 (.inr (by omega))
  have hmy : ∀ v, Below W0.heap.size W0 v → Calls Try.prog 14 #[.slice x n c] v fun e w' => e = .returned (.bool true) ∧ ∃ k, w' = v.drewN k := fun v hv => may_any x n c true A L C v (hg.below hv).1 (fun _ => rfl) (fun k => absurd hm k)
  obtain ⟨b, o, G, O, rfl, hM⟩ := grid_mat hg hm
  have hrk : ∀ v, Below W0.heap.size W0 v → Calls Try.prog 19 #[.slice (some ⟨b, o, none⟩) n c] v fun e w' => e = .returned (.tuple #[.int .i64 ((red n f (L 0)).1 : Int), .int .i64 0]) ∧ Below v.heap.size v w' := fun v hv => rank_yes b o n (L 0) c G O C f v (hM.below (Nat.le_refl _) hv) hm.1 hm.2.1 hm.2.2.1 hm.2.2.2.1
  have hrr : ∀ v, Below W0.heap.size W0 v → Calls Try.prog 20 #[.slice (some ⟨b, o, none⟩) n c] v fun e w' => e = .returned (.int .i64 ((red n f (L 0)).1 : Int)) ∧ Below v.heap.size v w' := fun v hv => by
    have := rrank_any b o n (L 0) c G O C f v (hM.below (Nat.le_refl _) hv) hm.1 hm.2.1 hm.2.2.1 hm.2.2.2.1
    rwa [ranks] at this
  generalize (red n f (L 0)).1 = R at hrk hrr
  have hq1 : decide ((0 : Int) < (p : Int)) = true := by simp; omega
  have hq2 : decide ((p : Int) ≤ 255) = false := by simp; omega
  clear hg hi hlt hnil hm hM
  go_enter Try.func4, Try.ntmps4
  go_wp2_with (first
    | (go_at_call 16; refine hid.mono ?_; rintro e x1 ⟨hb1, B1, G1, C1, rfl, ho1⟩; clear hid)
    | (go_at_call 13; refine (errno_any true _).mono ?_; rintro e x0 ⟨rfl, hx0⟩; subst hx0)
    | (go_at_call 17; refine (rident_any k0 _ h1 h2).mono ?_; rintro e x2 ⟨V2, G2, C2, rfl, hgr⟩; have hb2 := hgr.below; obtain ⟨B2, c2, hV, ho2⟩ := grow_own hgr (by omega); subst hV; clear hgr; have hbB := (HB0.trans (hb1.mono HB0.size)).trans (hb2.mono (Nat.le_trans HB0.size hb1.size)); have hs1 := same_rows B1 0 B2 0 k0 k0 k0 c2 G1 (fun _ => 0) C1 G2 (fun _ => 0) C2 delta delta _ (by omega) (ho1.mat.below (Nat.le_refl _) hb2) ho2.mat (fun _ _ _ _ => rfl); clear ho1 ho2 hb1 hb2)
    | (go_at_call 15; refine hs1.mono ?_; rintro e x3 ⟨rfl, m3, rfl⟩; clear hs1)
    | (go_at_call 8; first | (refine (hl _ hbB).mono ?_; rintro e x4 ⟨rfl, rfl⟩) | (refine (hl _ (below_drewN' hbB _)).mono ?_; rintro e x4 ⟨rfl, rfl⟩))
    | (go_at_call 14; first | (refine (hmy _ hbB).mono ?_; rintro e x5 ⟨rfl, m5, rfl⟩) | (refine (hmy _ (below_drewN' hbB _)).mono ?_; rintro e x5 ⟨rfl, m5, rfl⟩)))
  have HA : Hid (∀ m, Below W0.heap.size W0 ((_root_.Go.World.drewN _ m).alloc (.cells #[] 34))) := fun m => (below_drewN' hbB m).alloc (by exact hbB.size) _
  clear hbB
  go_loopw [9, 10, 11] (fun s9 _ s11 wr => s9 = .bool false ∧ s11 = .int .i64 0 ∧ Hid (Below W0.heap.size W0 wr)) (fun _ _ _ _ => 0)
  case atStart => exact ⟨rfl, rfl, HA.out _⟩
  case round =>
    clear HA
    obtain ⟨rfl, rfl, HWB⟩ := hrel
    obtain ⟨y5, c5, w5, hrun, hb5', hi5⟩ := ints_copy wr y p c' lv (HI.out.1.below (Nat.le_refl _) HWB.out) HI.out.2.1 HI.out.2.2
    have hb5 := HWB.out.trans (hb5'.mono HWB.out.size)
    clear hb5' HI hi5
    go_wp2_with (first
      | (at_builtin; refine wpList_append_run rfl _ _ 31 rfl _ _ rfl rfl hrun ?_; clear hrun)
      | (go_at_call 18; refine (hro _ hb5 _ _).mono ?_; rintro e x11 ⟨rfl, rfl⟩; clear hro)
      | (go_at_call 19; refine (hrk _ hb5).mono ?_; rintro e x7 ⟨rfl, hb7⟩; clear hrk; have hb07 := hb5.trans (hb7.mono hb5.size))
      | (go_at_call 14; first | (refine (hmy _ hb07).mono ?_; rintro e x9 ⟨rfl, m9, rfl⟩) | (refine (hmy _ (below_drewN' hb07 _)).mono ?_; rintro e x9 ⟨rfl, m9, rfl⟩))
      | (go_at_call 20; refine (hrr _ (below_drewN' hb07 _)).mono ?_; rintro e x10 ⟨rfl, hb10⟩; have hb010 := hb07.trans (below_from_drewN (hb10.mono (by exact hb07.size))))
      | (go_at_call 13; refine (errno_any _ _).mono ?_; rintro e x8 ⟨rfl, rfl⟩)
      | (go_at_call 9; refine (awake_any _).mono ?_; rintro e x6 ⟨rfl, hb6⟩))
    go_ret
    have hfin := hb010.trans (hb6.mono (by exact hb010.size))
    rw [HW0.out] at hfin
    exact ⟨rfl, hfin⟩

set_option maxHeartbeats 4000000 in
set_option maxRecDepth 100000 in
theorem s4_ok (x : Option Addr) (n c : Nat) (A : Nat → Option Addr) (L C : Nat → Nat) (f : Nat → Nat → Nat) (y : Option Addr) (p c' : Nat) (lv : Nat → Int) (z : Int) (w W0 : World) (HW0 : Hid (W0 = w)) (HB0 : Below W0.heap.size W0 w) (hg : IsGrid W0 x n A L C f) (hi : IntsAt W0 y p lv) (hp : p ≤ 17592186043904) (hnil : y = none → p = 0 ∧ c' = 0) (k0 : Nat) (hz : z = k0) (h1 : 1 ≤ k0) (h2 : k0 ≤ 255) (hlt : LightN n L) (hm : MayN n L) (g : Nat → Nat) (hp1 : 1 ≤ p) (hp2 : p ≤ 255) (hlv : ∀ i, i < p → lv i = (g i : Int)) (hgn : ∀ i, i < p → g i < n) :
    Calls Try.prog 4 #[.slice x n c, .slice y p c', .int .i64 z] w fun e w' => e = .returned (.bool true) ∧ Below w.heap.size w w' := by
  subst hz
  have g1 : (1 : Int) ≤ (k0 : Int) := by omega
  have g2 : (k0 : Int) ≤ 255 := by omega
  have hid := ident_yes k0 w h1 h2
  have hl : ∀ v, Below W0.heap.size W0 v → Calls Try.prog 8 #[.slice x n c] v fun e w' => e = .returned (.bool true) ∧ w' = v := fun v hv => light_any x n c true A L C v (hg.below hv).1 ⟨fun _ => hlt, fun _ => rfl⟩
  have HI : Hid (IntsAt W0 y p lv ∧ p ≤ 17592186043904 ∧ (y = none → p = 0 ∧ c' = 0)) := ⟨hi, hp, hnil⟩
  have hmy : ∀ v, Below W0.heap.size W0 v → Calls Try.prog 14 #[.slice x n c] v fun e w' => e = .returned (.bool true) ∧ ∃ k, w' = v.drewN k := fun v hv => may_any x n c true A L C v (hg.below hv).1 (fun _ => rfl) (fun k => absurd hm k)
  obtain ⟨b, o, G, O, rfl, hM⟩ := grid_mat hg hm
  have hrk : ∀ v, Below W0.heap.size W0 v → Calls Try.prog 19 #[.slice (some ⟨b, o, none⟩) n c] v fun e w' => e = .returned (.tuple #[.int .i64 ((red n f (L 0)).1 : Int), .int .i64 0]) ∧ Below v.heap.size v w' := fun v hv => rank_yes b o n (L 0) c G O C f v (hM.below (Nat.le_refl _) hv) hm.1 hm.2.1 hm.2.2.1 hm.2.2.2.1
  have hrr : ∀ v, Below W0.heap.size W0 v → Calls Try.prog 20 #[.slice (some ⟨b, o, none⟩) n c] v fun e w' => e = .returned (.int .i64 ((red n f (L 0)).1 : Int)) ∧ Below v.heap.size v w' := fun v hv => by
    have := rrank_any b o n (L 0) c G O C f v (hM.below (Nat.le_refl _) hv) hm.1 hm.2.1 hm.2.2.1 hm.2.2.2.1
    rwa [ranks] at this
  generalize (red n f (L 0)).1 = R at hrk hrr
  have hq1 : decide ((0 : Int) < (p : Int)) = true := by simp; omega
  have hq2 : decide ((p : Int) ≤ 255) = true := by simp; omega
  obtain ⟨m, hm0⟩ : ∃ m, m = L 0 := ⟨_, rfl⟩
  rw [← hm0] at hM
  have hm1 : 1 ≤ m := by rw [hm0]; exact hm.2.2.1
  have hm2 : m ≤ 255 := by rw [hm0]; exact hm.2.2.2.1
  have hn1 := hm.1
  have hn2 := hm.2.1
  have HM : Hid (Mat W0 b o n m G O C f) := hM
  have HLV : Hid ((∀ i, i < p → lv i = (g i : Int)) ∧ ∀ i, i < p → g i < n) := ⟨hlv, hgn⟩
  clear hm0 hlv hgn
  clear hg hi hlt hnil hm hM
  go_enter Try.func4, Try.ntmps4
  go_wp2_with (first
    | (go_at_call 16; refine hid.mono ?_; rintro e x1 ⟨hb1, B1, G1, C1, rfl, ho1⟩; clear hid)
    | (go_at_call 13; refine (errno_any true _).mono ?_; rintro e x0 ⟨rfl, hx0⟩; subst hx0)
    | (go_at_call 17; refine (rident_any k0 _ h1 h2).mono ?_; rintro e x2 ⟨V2, G2, C2, rfl, hgr⟩; have hb2 := hgr.below; obtain ⟨B2, c2, hV, ho2⟩ := grow_own hgr (by omega); subst hV; clear hgr; have hbB := (HB0.trans (hb1.mono HB0.size)).trans (hb2.mono (Nat.le_trans HB0.size hb1.size)); have hs1 := same_rows B1 0 B2 0 k0 k0 k0 c2 G1 (fun _ => 0) C1 G2 (fun _ => 0) C2 delta delta _ (by omega) (ho1.mat.below (Nat.le_refl _) hb2) ho2.mat (fun _ _ _ _ => rfl); clear ho1 ho2 hb1 hb2)
    | (go_at_call 15; refine hs1.mono ?_; rintro e x3 ⟨rfl, m3, rfl⟩; clear hs1)
    | (go_at_call 8; first | (refine (hl _ hbB).mono ?_; rintro e x4 ⟨rfl, rfl⟩) | (refine (hl _ (below_drewN' hbB _)).mono ?_; rintro e x4 ⟨rfl, rfl⟩))
    | (go_at_call 14; first | (refine (hmy _ hbB).mono ?_; rintro e x5 ⟨rfl, m5, rfl⟩) | (refine (hmy _ (below_drewN' hbB _)).mono ?_; rintro e x5 ⟨rfl, m5, rfl⟩)))
  have HA : Hid (∀ q, Want W0 ((_root_.Go.World.drewN _ q).alloc (.cells #[] 34)) (.slice (some ⟨(_root_.Go.World.drewN _ q).heap.size, 0, none⟩) 0 0) 0 m G O C g) := fun q => want_start (below_drewN' hbB q) m G O C g
  clear hbB
  go_loopw [9, 10, 11] (fun s9 V s11 wr => ∃ k : Nat, k ≤ p ∧ s9 = .bool true ∧ s11 = .int .i64 k ∧ Hid (Want W0 wr V k m G O C g)) (fun _ _ i _ => p - (intOf i).toNat)
  case atStart => exact ⟨0, by omega, rfl, rfl, HA.out _⟩
  case round =>
    clear HA
    obtain ⟨k, hk, rfl, rfl, HW⟩ := hrel
    by_cases hlt : k < p
    · have hkp : (k : Int) < (p : Int) := by omega
      have hgk := HLV.out.2 k hlt
      have hlk := HLV.out.1 k hlt
      rcases HI.out.1.below (Nat.le_refl _) HW.out.below with h0 | ⟨lb, lo, hy, _, hc⟩
      · omega
      · subst hy
        have c1 := hc k hlt
        rw [hlk] at c1
        have c2 := (HM.out.below (Nat.le_refl _) HW.out.below).top (g k) hgk
        have q1 : decide ((0 : Int) ≤ (g k : Int)) = true := by simp
        have q2 : (g k : Int) < (n : Int) := by omega
        obtain ⟨V', w3, hrun, ho3, hb3⟩ := push_top wr W0.heap.size _ k m G O C g HW.out.own (by omega) HW.out.below.size
        have HN : Hid (Want W0 w3 V' (k + 1) m G O C g) := ⟨HW.out.below.trans hb3, ho3⟩
        clear hc hlk ho3 hb3 HW hmy hrk hrr hl
        go_wp2_with (at_builtin; refine wpList_append_run rfl _ _ 22 rfl _ _ rfl rfl hrun ?_; clear hrun)
        go_roundw
        case rel => exact ⟨k + 1, by omega, rfl, by go_num, HN⟩
        case measure => simp [intOf]; omega
    · obtain rfl : k = p := by omega
      obtain ⟨Bw, cw, hV, hMw⟩ := want_mat HW.out HM.out (by omega) HLV.out.2
      subst hV
      have HWB : Hid (Below W0.heap.size W0 wr) := HW.out.below
      obtain ⟨y5, c5, w5, hrun, hb5', hi5⟩ := ints_copy wr y k c' lv (HI.out.1.below (Nat.le_refl _) HWB.out) HI.out.2.1 HI.out.2.2
      have hb5 := HWB.out.trans (hb5'.mono HWB.out.size)
      have hMw5 := hMw.below (Nat.le_refl _) hb5'
      rcases hi5 with h0 | ⟨lb, lo, hy5, hlb, hc5⟩
      · omega
      · subst hy5
        have hrows := rows_yes b o lb lo n m k c c5 G O C f g w5 (HM.out.below (Nat.le_refl _) hb5) hn1 hn2 hm1 hm2 hp1 hp2 hlb (fun i hi => by rw [hc5 i hi, HLV.out.1 i hi]) HLV.out.2
        clear hb5' HI HW HWB hMw hc5
        go_wp2_with (first
      | (at_builtin; refine wpList_append_run rfl _ _ 31 rfl _ _ rfl rfl hrun ?_; clear hrun)
      | (go_at_call 18; refine hrows.mono ?_; rintro e x11 ⟨hb11, By, Gy, Cy, rfl, ho11⟩; clear hrows; have hb5o := hb5; clear hb5; have hb5 := hb5o.trans (hb11.mono hb5o.size); have hMw6 := hMw5.below (Nat.le_refl _) hb11; clear hMw5)
      | (go_at_call 19; refine (hrk _ hb5).mono ?_; rintro e x7 ⟨rfl, hb7⟩; clear hrk; have hb07 := hb5.trans (hb7.mono hb5.size))
      | (go_at_call 14; first | (refine (hmy _ hb07).mono ?_; rintro e x9 ⟨rfl, m9, rfl⟩) | (refine (hmy _ (below_drewN' hb07 _)).mono ?_; rintro e x9 ⟨rfl, m9, rfl⟩))
      | (go_at_call 20; refine (hrr _ (below_drewN' hb07 _)).mono ?_; rintro e x10 ⟨rfl, hb10⟩; have hb010 := hb07.trans (below_from_drewN (hb10.mono (by exact hb07.size))))
      | (go_at_call 13; refine (errno_any _ _).mono ?_; rintro e x8 ⟨rfl, rfl⟩)
      | (go_at_call 15; refine (same_rows By 0 Bw 0 k m k cw Gy (fun _ => 0) Cy _ _ _ (fun r => f (g r)) (fun r => f (g r)) _ (by omega) (ho11.mat.below (Nat.le_refl _) hb7) (hMw6.below (Nat.le_refl _) hb7) (fun _ _ _ _ => rfl)).mono ?_; rintro e x12 ⟨rfl, m12, rfl⟩)
      | (go_at_call 9; refine (awake_any _).mono ?_; rintro e x6 ⟨rfl, hb6⟩))
        go_ret
        have hfin := hb010.trans (hb6.mono (by exact hb010.size))
        rw [HW0.out] at hfin
        exact ⟨rfl, hfin⟩

set_option maxHeartbeats 4000000 in
set_option maxRecDepth 100000 in
theorem s5_ok (x : Option Addr) (n c : Nat) (A : Nat → Option Addr) (L C : Nat → Nat) (f : Nat → Nat → Nat) (y : Option Addr) (p c' : Nat) (lv : Nat → Int) (z : Int) (w W0 : World) (HW0 : Hid (W0 = w)) (HB0 : Below W0.heap.size W0 w) (hg : IsGrid W0 x n A L C f) (hi : IntsAt W0 y p lv) (hp : p ≤ 17592186043904) (hnil : y = none → p = 0 ∧ c' = 0) (k0 : Nat) (hz : z = k0) (h1 : 1 ≤ k0) (h2 : k0 ≤ 255) (hlt : LightN n L) (hm : MayN n L) (g : Nat → Nat) (i0 : Nat) (hp1 : 1 ≤ p) (hp2 : p ≤ 255) (hi0 : i0 < p) (hlv : ∀ i, i < i0 → lv i = (g i : Int)) (hgn : ∀ i, i < i0 → g i < n) (hbad : lv i0 < 0 ∨ (n : Int) ≤ lv i0) :
    Calls Try.prog 4 #[.slice x n c, .slice y p c', .int .i64 z] w fun e w' => e = .returned (.bool true) ∧ Below w.heap.size w w' := by
  subst hz
  have g1 : (1 : Int) ≤ (k0 : Int) := by omega
  have g2 : (k0 : Int) ≤ 255 := by omega
  have hid := ident_yes k0 w h1 h2
  have hl : ∀ v, Below W0.heap.size W0 v → Calls Try.prog 8 #[.slice x n c] v fun e w' => e = .returned (.bool true) ∧ w' = v := fun v hv => light_any x n c true A L C v (hg.below hv).1 ⟨fun _ => hlt, fun _ => rfl⟩
  have HI : Hid (IntsAt W0 y p lv ∧ p ≤ 17592186043904 ∧ (y = none → p = 0 ∧ c' = 0)) := ⟨hi, hp, hnil⟩
  have hro : ∀ v, Below W0.heap.size W0 v → ∀ y' cy, IntsAt v y' p lv → Calls Try.prog 18 #[.slice x n c, .slice y' p cy] v fun e w' => e = .returned (.tuple #[.slice none 0 0, .int .i64 1]) ∧ w' = v := fun v hv y' cy hy => by
    rcases hy with h0 | ⟨lb, lo, rfl, _, hc⟩
    · omega
    · exact rows_bad x lb lo n p c cy A L C lv v (hg.below hv).1 hm hp1 hp2 hc i0 hi0 hbad
  have hmy : ∀ v, Below W0.heap.size W0 v → Calls Try.prog 14 #[.slice x n c] v fun e w' => e = .returned (.bool true) ∧ ∃ k, w' = v.drewN k := fun v hv => may_any x n c true A L C v (hg.below hv).1 (fun _ => rfl) (fun k => absurd hm k)
  obtain ⟨b, o, G, O, rfl, hM⟩ := grid_mat hg hm
  have hrk : ∀ v, Below W0.heap.size W0 v → Calls Try.prog 19 #[.slice (some ⟨b, o, none⟩) n c] v fun e w' => e = .returned (.tuple #[.int .i64 ((red n f (L 0)).1 : Int), .int .i64 0]) ∧ Below v.heap.size v w' := fun v hv => rank_yes b o n (L 0) c G O C f v (hM.below (Nat.le_refl _) hv) hm.1 hm.2.1 hm.2.2.1 hm.2.2.2.1
  have hrr : ∀ v, Below W0.heap.size W0 v → Calls Try.prog 20 #[.slice (some ⟨b, o, none⟩) n c] v fun e w' => e = .returned (.int .i64 ((red n f (L 0)).1 : Int)) ∧ Below v.heap.size v w' := fun v hv => by
    have := rrank_any b o n (L 0) c G O C f v (hM.below (Nat.le_refl _) hv) hm.1 hm.2.1 hm.2.2.1 hm.2.2.2.1
    rwa [ranks] at this
  generalize (red n f (L 0)).1 = R at hrk hrr
  have hq1 : decide ((0 : Int) < (p : Int)) = true := by simp; omega
  have hq2 : decide ((p : Int) ≤ 255) = true := by simp; omega
  obtain ⟨m, hm0⟩ : ∃ m, m = L 0 := ⟨_, rfl⟩
  rw [← hm0] at hM
  have hm1 : 1 ≤ m := by rw [hm0]; exact hm.2.2.1
  have hm2 : m ≤ 255 := by rw [hm0]; exact hm.2.2.2.1
  have hn1 := hm.1
  have hn2 := hm.2.1
  have HM : Hid (Mat W0 b o n m G O C f) := hM
  have HLV : Hid ((∀ i, i < i0 → lv i = (g i : Int)) ∧ (∀ i, i < i0 → g i < n) ∧ (lv i0 < 0 ∨ (n : Int) ≤ lv i0)) := ⟨hlv, hgn, hbad⟩
  clear hm0 hlv hgn hbad
  clear hg hi hlt hnil hm hM
  go_enter Try.func4, Try.ntmps4
  go_wp2_with (first
    | (go_at_call 16; refine hid.mono ?_; rintro e x1 ⟨hb1, B1, G1, C1, rfl, ho1⟩; clear hid)
    | (go_at_call 13; refine (errno_any true _).mono ?_; rintro e x0 ⟨rfl, hx0⟩; subst hx0)
    | (go_at_call 17; refine (rident_any k0 _ h1 h2).mono ?_; rintro e x2 ⟨V2, G2, C2, rfl, hgr⟩; have hb2 := hgr.below; obtain ⟨B2, c2, hV, ho2⟩ := grow_own hgr (by omega); subst hV; clear hgr; have hbB := (HB0.trans (hb1.mono HB0.size)).trans (hb2.mono (Nat.le_trans HB0.size hb1.size)); have hs1 := same_rows B1 0 B2 0 k0 k0 k0 c2 G1 (fun _ => 0) C1 G2 (fun _ => 0) C2 delta delta _ (by omega) (ho1.mat.below (Nat.le_refl _) hb2) ho2.mat (fun _ _ _ _ => rfl); clear ho1 ho2 hb1 hb2)
    | (go_at_call 15; refine hs1.mono ?_; rintro e x3 ⟨rfl, m3, rfl⟩; clear hs1)
    | (go_at_call 8; first | (refine (hl _ hbB).mono ?_; rintro e x4 ⟨rfl, rfl⟩) | (refine (hl _ (below_drewN' hbB _)).mono ?_; rintro e x4 ⟨rfl, rfl⟩))
    | (go_at_call 14; first | (refine (hmy _ hbB).mono ?_; rintro e x5 ⟨rfl, m5, rfl⟩) | (refine (hmy _ (below_drewN' hbB _)).mono ?_; rintro e x5 ⟨rfl, m5, rfl⟩)))
  have HA : Hid (∀ q, Want W0 ((_root_.Go.World.drewN _ q).alloc (.cells #[] 34)) (.slice (some ⟨(_root_.Go.World.drewN _ q).heap.size, 0, none⟩) 0 0) 0 m G O C g) := fun q => want_start (below_drewN' hbB q) m G O C g
  clear hbB
  go_loopw [9, 10, 11] (fun s9 V s11 wr => ∃ (k : Nat) (t : Bool), k ≤ i0 + 1 ∧ s9 = .bool t ∧ s11 = .int .i64 k ∧ Hid ((t = true ∧ k ≤ i0 ∧ Want W0 wr V k m G O C g) ∨ (t = false ∧ k = i0 + 1 ∧ Below W0.heap.size W0 wr))) (fun _ _ i _ => i0 + 1 - (intOf i).toNat)
  case atStart => exact ⟨0, true, by omega, rfl, rfl, .inl ⟨rfl, by omega, HA.out _⟩⟩
  case round =>
    clear HA
    obtain ⟨k, t, hk, rfl, rfl, HH⟩ := hrel
    rcases HH.out with ⟨rfl, hki, hW⟩ | ⟨rfl, hki, hB⟩
    · have hkp : (k : Int) < (p : Int) := by omega
      rcases HI.out.1.below (Nat.le_refl _) hW.below with h0 | ⟨lb, lo, hy, _, hc⟩
      · omega
      · subst hy
        have c1 := hc k (by omega)
        by_cases hlt : k < i0
        · have hgk := HLV.out.2.1 k hlt
          have hlk := HLV.out.1 k hlt
          rw [hlk] at c1
          have c2 := (HM.out.below (Nat.le_refl _) hW.below).top (g k) hgk
          have q1 : decide ((0 : Int) ≤ (g k : Int)) = true := by simp
          have q2 : (g k : Int) < (n : Int) := by omega
          obtain ⟨V', w3, hrun, ho3, hb3⟩ := push_top wr W0.heap.size _ k m G O C g hW.own (by omega) hW.below.size
          have HN : Hid ((true = true ∧ k + 1 ≤ i0 ∧ Want W0 w3 V' (k + 1) m G O C g) ∨ (true = false ∧ k + 1 = i0 + 1 ∧ Below W0.heap.size W0 w3)) := .inl ⟨rfl, by omega, hW.below.trans hb3, ho3⟩
          clear hc hlk ho3 hb3 hW HH hmy hrk hrr hl hro
          go_wp2_with (at_builtin; refine wpList_append_run rfl _ _ 22 rfl _ _ rfl rfl hrun ?_; clear hrun)
          go_roundw
          case rel => exact ⟨k + 1, true, by omega, rfl, by go_num, HN⟩
          case measure => simp [intOf]; omega
        · obtain rfl : k = i0 := by omega
          have HN : ∀ v : Value, Hid ((false = true ∧ k + 1 ≤ k ∧ Want W0 wr v (k + 1) m G O C g) ∨ (false = false ∧ k + 1 = k + 1 ∧ Below W0.heap.size W0 wr)) := fun v => .inr ⟨rfl, rfl, hW.below⟩
          by_cases e1 : lv k < 0
          · have q1 : decide ((0 : Int) ≤ lv k) = false := by simp; omega
            clear hc hW HH hmy hrk hrr hl hro
            go_wp2_with fail
            go_roundw
            case rel => exact ⟨k + 1, false, by omega, rfl, by go_num, HN _⟩
            case measure => first | (simp [intOf]; done) | (simp [intOf]; omega)
          · have q1 : decide ((0 : Int) ≤ lv k) = true := by simp; omega
            have q2 : ¬ (lv k < (n : Int)) := by have := HLV.out.2.2; omega
            have q3 : decide (lv k < (n : Int)) = false := by simp; omega
            clear hc hW HH hmy hrk hrr hl hro q2
            go_wp2_with fail
            go_roundw
            case rel => exact ⟨k + 1, false, by omega, rfl, by go_num, HN _⟩
            case measure => first | (simp [intOf]; done) | (simp [intOf]; omega)
    · have HWB : Hid (Below W0.heap.size W0 wr) := hB
      obtain ⟨y5, c5, w5, hrun, hb5', hi5⟩ := ints_copy wr y p c' lv (HI.out.1.below (Nat.le_refl _) HWB.out) HI.out.2.1 HI.out.2.2
      have hb5 := HWB.out.trans (hb5'.mono HWB.out.size)
      have hro5 := hro w5 hb5 y5 c5 hi5
      have hcond : ((k : Int) < (p : Int)) ∨ ¬ ((k : Int) < (p : Int)) := by omega
      clear hb5' HI hi5 HH hB HLV hro HM
      rcases hcond with hcond | hcond
      · go_wp2_with (first
          | (at_builtin; refine wpList_append_run rfl _ _ 31 rfl _ _ rfl rfl hrun ?_; clear hrun)
          | (go_at_call 18; refine hro5.mono ?_; rintro e x11 ⟨rfl, rfl⟩; clear hro5)
          | (go_at_call 19; refine (hrk _ hb5).mono ?_; rintro e x7 ⟨rfl, hb7⟩; clear hrk; have hb07 := hb5.trans (hb7.mono hb5.size))
          | (go_at_call 14; first | (refine (hmy _ hb07).mono ?_; rintro e x9 ⟨rfl, m9, rfl⟩) | (refine (hmy _ (below_drewN' hb07 _)).mono ?_; rintro e x9 ⟨rfl, m9, rfl⟩))
          | (go_at_call 20; refine (hrr _ (below_drewN' hb07 _)).mono ?_; rintro e x10 ⟨rfl, hb10⟩; have hb010 := hb07.trans (below_from_drewN (hb10.mono (by exact hb07.size))))
          | (go_at_call 13; refine (errno_any _ _).mono ?_; rintro e x8 ⟨rfl, rfl⟩)
          | (go_at_call 9; refine (awake_any _).mono ?_; rintro e x6 ⟨rfl, hb6⟩))
        go_ret
        have hfin := hb010.trans (hb6.mono (by exact hb010.size))
        rw [HW0.out] at hfin
        exact ⟨rfl, hfin⟩
      · go_wp2_with (first
          | (at_builtin; refine wpList_append_run rfl _ _ 31 rfl _ _ rfl rfl hrun ?_; clear hrun)
          | (go_at_call 18; refine hro5.mono ?_; rintro e x11 ⟨rfl, rfl⟩; clear hro5)
          | (go_at_call 19; refine (hrk _ hb5).mono ?_; rintro e x7 ⟨rfl, hb7⟩; clear hrk; have hb07 := hb5.trans (hb7.mono hb5.size))
          | (go_at_call 14; first | (refine (hmy _ hb07).mono ?_; rintro e x9 ⟨rfl, m9, rfl⟩) | (refine (hmy _ (below_drewN' hb07 _)).mono ?_; rintro e x9 ⟨rfl, m9, rfl⟩))
          | (go_at_call 20; refine (hrr _ (below_drewN' hb07 _)).mono ?_; rintro e x10 ⟨rfl, hb10⟩; have hb010 := hb07.trans (below_from_drewN (hb10.mono (by exact hb07.size))))
          | (go_at_call 13; refine (errno_any _ _).mono ?_; rintro e x8 ⟨rfl, rfl⟩)
          | (go_at_call 9; refine (awake_any _).mono ?_; rintro e x6 ⟨rfl, hb6⟩))
        go_ret
        have hfin := hb010.trans (hb6.mono (by exact hb010.size))
        rw [HW0.out] at hfin
        exact ⟨rfl, hfin⟩

theorem first_bad (lv : Nat → Int) (n : Nat) : ∀ p, (∀ i, i < p → 0 ≤ lv i ∧ lv i < n) ∨ ∃ i0, i0 < p ∧ (lv i0 < 0 ∨ (n : Int) ≤ lv i0) ∧ ∀ i, i < i0 → 0 ≤ lv i ∧ lv i < n
  | 0 => .inl fun i hi => by omega
  | p + 1 => by
    rcases first_bad lv n p with h | ⟨i0, h1, h2, h3⟩
    · by_cases e : 0 ≤ lv p ∧ lv p < n
      · refine .inl fun i hi => ?_
        by_cases ei : i = p
        · subst ei; exact e
        · exact h i (by omega)
      · exact .inr ⟨p, by omega, by omega, h⟩
    · exact .inr ⟨i0, by omega, h2, h3⟩

theorem all_lo (x : Option Addr) (n c : Nat) (A : Nat → Option Addr) (L C : Nat → Nat) (f : Nat → Nat → Nat) (y : Option Addr) (p c' : Nat) (lv : Nat → Int) (z : Int) (w W0 : World) (HW0 : Hid (W0 = w)) (HB0 : Below W0.heap.size W0 w) (hg : IsGrid W0 x n A L C f) (hi : IntsAt W0 y p lv) (hp : p ≤ 17592186043904) (hnil : y = none → p = 0 ∧ c' = 0) (hz : z < 1) :
    Calls Try.prog 4 #[.slice x n c, .slice y p c', .int .i64 z] w fun e w' => e = .returned (.bool true) ∧ Below w.heap.size w w' := by
  by_cases hlt : LightN n L
  · by_cases hm : MayN n L
    · by_cases hq : p = 0
      · exact s2_lo x n c A L C f y p c' lv z w W0 HW0 HB0 hg hi hp hnil hz hlt hm hq
      · by_cases hq2 : 255 < p
        · exact s3_lo x n c A L C f y p c' lv z w W0 HW0 HB0 hg hi hp hnil hz hlt hm hq2
        · rcases first_bad lv n p with h | ⟨i0, e1, e2, e3⟩
          · exact s4_lo x n c A L C f y p c' lv z w W0 HW0 HB0 hg hi hp hnil hz hlt hm (fun i => (lv i).toNat) (by omega) (by omega) (fun i hi => by have := h i hi; omega) (fun i hi => by have := h i hi; omega)
          · exact s5_lo x n c A L C f y p c' lv z w W0 HW0 HB0 hg hi hp hnil hz hlt hm (fun i => (lv i).toNat) i0 (by omega) (by omega) e1 (fun i hi => by have := e3 i hi; omega) (fun i hi => by have := e3 i hi; omega) e2
    · by_cases hq : p = 0
      · exact s1a_lo x n c A L C f y p c' lv z w W0 HW0 HB0 hg hi hp hnil hz hlt hm hq
      · exact s1b_lo x n c A L C f y p c' lv z w W0 HW0 HB0 hg hi hp hnil hz hlt hm (by omega)
  · exact dark_lo x n c A L C f y p c' lv z w W0 HW0 HB0 hg hi hp hnil hz hlt

theorem all_hi (x : Option Addr) (n c : Nat) (A : Nat → Option Addr) (L C : Nat → Nat) (f : Nat → Nat → Nat) (y : Option Addr) (p c' : Nat) (lv : Nat → Int) (z : Int) (w W0 : World) (HW0 : Hid (W0 = w)) (HB0 : Below W0.heap.size W0 w) (hg : IsGrid W0 x n A L C f) (hi : IntsAt W0 y p lv) (hp : p ≤ 17592186043904) (hnil : y = none → p = 0 ∧ c' = 0) (hz : 255 < z) :
    Calls Try.prog 4 #[.slice x n c, .slice y p c', .int .i64 z] w fun e w' => e = .returned (.bool true) ∧ Below w.heap.size w w' := by
  by_cases hlt : LightN n L
  · by_cases hm : MayN n L
    · by_cases hq : p = 0
      · exact s2_hi x n c A L C f y p c' lv z w W0 HW0 HB0 hg hi hp hnil hz hlt hm hq
      · by_cases hq2 : 255 < p
        · exact s3_hi x n c A L C f y p c' lv z w W0 HW0 HB0 hg hi hp hnil hz hlt hm hq2
        · rcases first_bad lv n p with h | ⟨i0, e1, e2, e3⟩
          · exact s4_hi x n c A L C f y p c' lv z w W0 HW0 HB0 hg hi hp hnil hz hlt hm (fun i => (lv i).toNat) (by omega) (by omega) (fun i hi => by have := h i hi; omega) (fun i hi => by have := h i hi; omega)
          · exact s5_hi x n c A L C f y p c' lv z w W0 HW0 HB0 hg hi hp hnil hz hlt hm (fun i => (lv i).toNat) i0 (by omega) (by omega) e1 (fun i hi => by have := e3 i hi; omega) (fun i hi => by have := e3 i hi; omega) e2
    · by_cases hq : p = 0
      · exact s1a_hi x n c A L C f y p c' lv z w W0 HW0 HB0 hg hi hp hnil hz hlt hm hq
      · exact s1b_hi x n c A L C f y p c' lv z w W0 HW0 HB0 hg hi hp hnil hz hlt hm (by omega)
  · exact dark_hi x n c A L C f y p c' lv z w W0 HW0 HB0 hg hi hp hnil hz hlt

theorem all_ok (x : Option Addr) (n c : Nat) (A : Nat → Option Addr) (L C : Nat → Nat) (f : Nat → Nat → Nat) (y : Option Addr) (p c' : Nat) (lv : Nat → Int) (z : Int) (w W0 : World) (HW0 : Hid (W0 = w)) (HB0 : Below W0.heap.size W0 w) (hg : IsGrid W0 x n A L C f) (hi : IntsAt W0 y p lv) (hp : p ≤ 17592186043904) (hnil : y = none → p = 0 ∧ c' = 0) (k0 : Nat) (hz : z = k0) (h1 : 1 ≤ k0) (h2 : k0 ≤ 255) :
    Calls Try.prog 4 #[.slice x n c, .slice y p c', .int .i64 z] w fun e w' => e = .returned (.bool true) ∧ Below w.heap.size w w' := by
  by_cases hlt : LightN n L
  · by_cases hm : MayN n L
    · by_cases hq : p = 0
      · exact s2_ok x n c A L C f y p c' lv z w W0 HW0 HB0 hg hi hp hnil k0 hz h1 h2 hlt hm hq
      · by_cases hq2 : 255 < p
        · exact s3_ok x n c A L C f y p c' lv z w W0 HW0 HB0 hg hi hp hnil k0 hz h1 h2 hlt hm hq2
        · rcases first_bad lv n p with h | ⟨i0, e1, e2, e3⟩
          · exact s4_ok x n c A L C f y p c' lv z w W0 HW0 HB0 hg hi hp hnil k0 hz h1 h2 hlt hm (fun i => (lv i).toNat) (by omega) (by omega) (fun i hi => by have := h i hi; omega) (fun i hi => by have := h i hi; omega)
          · exact s5_ok x n c A L C f y p c' lv z w W0 HW0 HB0 hg hi hp hnil k0 hz h1 h2 hlt hm (fun i => (lv i).toNat) i0 (by omega) (by omega) e1 (fun i hi => by have := e3 i hi; omega) (fun i hi => by have := e3 i hi; omega) e2
    · by_cases hq : p = 0
      · exact s1a_ok x n c A L C f y p c' lv z w W0 HW0 HB0 hg hi hp hnil k0 hz h1 h2 hlt hm hq
      · exact s1b_ok x n c A L C f y p c' lv z w W0 HW0 HB0 hg hi hp hnil k0 hz h1 h2 hlt hm (by omega)
  · exact dark_ok x n c A L C f y p c' lv z w W0 HW0 HB0 hg hi hp hnil k0 hz h1 h2 hlt

theorem walk (a0 : Option Addr) (len0 cap0 : Nat) (A0 : Nat → Option Addr) (L0 C0 : Nat → Nat) (f0 : Nat → Nat → Nat) (a1 : Option Addr) (len1 cap1 : Nat) (g1 : Nat → Int) (a2 : Int) (w : World) (w0 : IsGrid w a0 len0 A0 L0 C0 f0) (w1 : IntsAt w a1 len1 g1 ∧ len1 ≤ 17592186043904 ∧ (a1 = none → len1 = 0 ∧ cap1 = 0)) (w2 : (Lit.int .i64 a2).wf = true) :
    Calls Try.prog 4 #[.slice a0 len0 cap0, .slice a1 len1 cap1, .int .i64 a2] w fun e w' => e = .returned (.bool true) ∧ Below w.heap.size w w' := by
  obtain ⟨hi, hp, hnil⟩ := w1
  have HW0 : Hid (w = w) := rfl
  have HB0 := Below.refl w.heap.size w
  by_cases e1 : a2 < 1
  · exact all_lo a0 len0 cap0 A0 L0 C0 f0 a1 len1 cap1 g1 a2 w w HW0 HB0 w0 hi hp hnil e1
  · by_cases e2 : 255 < a2
    · exact all_hi a0 len0 cap0 A0 L0 C0 f0 a1 len1 cap1 g1 a2 w w HW0 HB0 w0 hi hp hnil e2
    · exact all_ok a0 len0 cap0 A0 L0 C0 f0 a1 len1 cap1 g1 a2 w w HW0 HB0 w0 hi hp hnil a2.toNat (by omega) (by omega) (by omega)

set_option maxRecDepth 100000 in
theorem lifted (os : Os) (started : os.Started) (H : Type) (enc : TypeId × Value → H) :
    ReturnsInHanded {} Try.checked os 4 .any (Rows.matrixRowsSpec.pre6 enc Try.prog Try.f4 Rows.matrixRowsRow.domain false) (Rows.matrixRowsSpec.post enc Try.prog Try.f4 false true false false) := by
  refine returnsInHanded_of_change_sized (C := Try.checked) own started (by kernel_rfl) Try.func4
    (ChangeSpec.witness6 (enc := enc) (C := Try.checked) false ⟨#[], #[.slice none 0 0, .slice none 0 0, .int .i64 0], []⟩ 8 (by kernel_rfl) (by kernel_rfl) (by kernel_rfl) (by kernel_rfl)) ?_
  intro W base args ds gs before hval0 hW hcnd hsz0 _
  have hsz : (DataW.weightsEach Try.prog (Try.f4.params.toList ++ Rows.matrixRowsSpec.plain.varTypes Try.prog) (ds ++ gs)).all (· ≤ reachBytes) = true := hsz0
  have hval : ∀ (j : Nat) t v, Try.f4.params[j]? = some t → args[j]? = some v → Value.okWide Try.prog W .any base t v := hval0
  have hW' := hW
  obtain ⟨p, q, hA0, hV, rfl, hfz, hnd⟩ := hW
  have hA : DataW.TrodAll enc Try.prog W 0 (fun _ => true) true Try.f4.params.toList args.toList ds p := hA0
  rw [Try.params4] at hA hval hsz
  obtain ⟨v0, vs0, d0, ds0, p0, q0, hargs, rfl, rfl, h0, r0⟩ := trodAll_cons hA
  obtain ⟨v1, vs1, d1, ds1, p1, q1, rfl, rfl, rfl, h1, r1⟩ := trodAll_cons r0
  obtain ⟨v2, vs2, d2, ds2, p2, q2, rfl, rfl, rfl, h2, r2⟩ := trodAll_cons r1
  obtain ⟨rfl, rfl, rfl⟩ := trodAll_nil r2
  obtain rfl : args = #[v0, v1, v2] := by cases args; simp_all
  obtain ⟨rfl, rfl⟩ := trodVars_none hV
  obtain ⟨a0, len0, cap0, rfl⟩ := okWide_slice Try.underlying22 (hval 0 22 v0 rfl rfl)
  have k0 := h0
  have lt0 : ∀ x ∈ p0, x.block < W.heap.size := by obtain ⟨m, hm⟩ := k0; exact DataW.trod_lt m _ _ _ hm
  obtain ⟨A0, L0, C0, f0, w0⟩ := grid_of h0
  obtain ⟨a1, len1, cap1, rfl⟩ := okWide_slice Try.underlying31 (hval 1 31 v1 rfl rfl)
  have k1 := h1
  have lt1 : ∀ x ∈ p1, x.block < W.heap.size := by obtain ⟨m, hm⟩ := k1; exact DataW.trod_lt m _ _ _ hm
  obtain ⟨g1, w1⟩ := ints_of h1 (fun es sp e => by
    have hr := sized_slice hsz (j := 1) (t := 31) (e := 3) rfl (congrArg some e) Try.underlying31
    rw [show Try.prog.bytesOf 3 = 8 by kernel_rfl] at hr
    exact hr)
  obtain ⟨a2, rfl, rfl, rfl, w2⟩ := open_int Try.underlying3 (hval 2 3 v2 rfl rfl) h2
  clear hA0 hval0
  refine (walk a0 len0 cap0 A0 L0 C0 f0 a1 len1 cap1 g1 a2 W w0 w1 w2).mono fun e W' ⟨he, bel⟩ => ?_
  subst he
  exact ⟨_, rfl, _, _, _, [], _, [], hW', trodAll_mk1 (shut_bool Try.underlying4 _), (trodAll_cons_mk (Below.trod laidOut (by kernel_rfl) (of_decide_eq_true (by kernel_rfl)) k0 bel lt0) (trodAll_cons_mk (Below.trod laidOut (by kernel_rfl) (of_decide_eq_true (by kernel_rfl)) k1 bel lt1) (trodAll_cons_mk (shut_int Try.underlying3 w2) trodAll_mk0))), rfl, bel.frame _, fun h => by cases h⟩

theorem over : Rows.matrixRowsRow.holds Try.pinned (OpenSpec.ofChange Rows.matrixRowsSpec) :=
  OpenClaim.holds_of_wide 4 Try.f4 rfl rfl rfl rfl rfl rfl rfl ⟨rfl, rfl, rfl, rfl, rfl⟩ rfl rfl rfl rfl rfl (by kernel_rfl) Try.func4 (by kernel_rfl)
    (of_decide_eq_true (by kernel_rfl)) (by unfold Func.isWrapper; first | (rw [if_pos (by decide +kernel)]; kernel_rfl) | (rw [if_neg (by decide +kernel)]; exact ⟨rfl, rfl⟩))
    (fun os started H enc _ => lifted os started H enc)

theorem proved : Rows.MatrixRowsSaid := over
#print axioms proved
end Go.Proofs.Ytkdjjmjfpembpaa.matrixRows

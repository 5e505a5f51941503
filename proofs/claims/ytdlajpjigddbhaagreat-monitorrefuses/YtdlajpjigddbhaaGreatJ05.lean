/-
  2 texts of this proof, one behind the other: BaPick, WiPlain.
-/
import Derived.Test.YtdlajpjigddbhaaGreatJ04
import Derived.WalkKit
/-
  Which value must be asked for: Pick.
  Conditions: the list lies in memory.
-/
namespace Go.Proofs.YtdlajpjigddbhaaGreat.Ba
open Go.RowKit By Fl
set_option linter.unusedVariables false
set_option linter.unusedSimpArgs false
set_option maxRecDepth 100000

theorem ltb_iff (a b : Bt) : ltb a b = true ↔ lt a b := by
  unfold ltb lt
  by_cases h : a.1 = b.1
  · rw [if_pos h]
    simp only [decide_eq_true_eq]
    omega
  · rw [if_neg h]
    simp only [decide_eq_true_eq]
    omega

def Top (V : Nat → AccV) (k m : Nat) : Prop := (V m).a ≠ z0 ∧ ∀ j, j < k → (V j).a = z0 ∨ le (V j).a (V m).a
def Pk (V : Nat → AccV) (n : Nat) (d : List Nat) : Prop := (∀ i, i < n → (V i).a = z0) ∨ ∃ i, i < n ∧ d = (V i).d ∧ Top V n i

theorem Top.same {V : Nat → AccV} {k m : Nat} (h : Top V k m) (hk : (V k).a = z0 ∨ ¬ lt (V m).a (V k).a) : Top V (k + 1) m := by
  refine ⟨h.1, fun j hj => ?_⟩
  by_cases e : j = k
  · subst e
    rcases hk with hk | hk
    · exact .inl hk
    · exact .inr hk
  · exact h.2 j (by omega)

theorem Top.more {V : Nat → AccV} {k m : Nat} (h : Top V k m) (hz : (V k).a ≠ z0) (hk : lt (V m).a (V k).a) : Top V (k + 1) k := by
  refine ⟨hz, fun j hj => ?_⟩
  by_cases e : j = k
  · subst e
    exact .inr (le_refl _)
  · rcases h.2 j (by omega) with q | q
    · exact .inl q
    · exact .inr (le_trans q (lt_le hk))

theorem Top.first {V : Nat → AccV} {k : Nat} (h : ∀ j, j < k → (V j).a = z0) (hz : (V k).a ≠ z0) : Top V (k + 1) k := by
  refine ⟨hz, fun j hj => ?_⟩
  by_cases e : j = k
  · subst e
    exact .inr (le_refl _)
  · exact .inl (h j (by omega))

set_option maxHeartbeats 4000000 in
theorem pick_any (x : Option Addr) (n c : Nat) (V : Nat → AccV) (ox : Option Addr) (on_ oc : Nat) (ol : List Nat) (w : World) (h : Accs w x n V) (ho : Sl w ox on_ oc ol) (hon : on_ ≤ 140737488355328) :
    Calls Tryz.prog 151 #[.slice x n c, .slice ox on_ oc] w fun e w' => ∃ (y : Option Addr) (m cy : Nat) (d : List Nat), e = .returned (.slice y m cy) ∧ Hid (Vl w w' y m cy d ∧ m ≤ 140737488355328 ∧ Pk V n d) := by
  have HA : Hid (Accs w x n V) := h
  have HO : Hid (Sl w ox on_ oc ol ∧ on_ ≤ 140737488355328) := ⟨ho, hon⟩
  have hnz : (n : Int) ≤ 1000 := by have := h.small; omega
  clear h ho hon
  go_enter Tryz.func151, Tryz.ntmps151
  go_wp2_with fail
  go_loopw [5, 10, 6, 7] (fun hi i _ _ wr => ∃ k : Nat, k ≤ n ∧ i = .int .i64 k ∧ Hid (Below w.heap.size w wr) ∧ ((hi = .int .i64 (-1) ∧ Hid (∀ j, j < k → (V j).a = z0)) ∨ ∃ m : Nat, hi = .int .i64 m ∧ m < k ∧ Hid (Top V k m))) (fun _ i _ _ _ => n - (intOf i).toNat)
  case atStart => exact ⟨0, by omega, rfl, Below.refl _ _, .inl ⟨rfl, fun j hj => by omega⟩⟩
  case round =>
    obtain ⟨k, hk, rfl, HB, hhi⟩ := hrel
    by_cases hlt : k < n
    · have hkn : (k : Int) < (n : Int) := by omega
      have hA := HA.out.below HB.out
      obtain ⟨b, o, rfl, hb, hc⟩ := hA.row.resolve_left (by omega)
      obtain ⟨c0, c1, c2, c3, c4⟩ := hc k hlt
      have hN := fun W => none_any (V k).a W
      cases hz : zb (V k).a with
      | true =>
        rw [hz] at hN
        have HZ : Hid ((V k).a = z0) := (zb_iff _).1 hz
        clear hz hA hc hb HA HO
        dsimp only [bt] at hN
        generalize (V k).p.1 = p1 at *
        generalize (V k).p.2 = p2 at *
        generalize (V k).a.1 = a1 at *
        generalize (V k).a.2 = a2 at *
        generalize (V k).x = vx at *
        generalize (V k).n = vn at *
        generalize (V k).c = vc at *
        rcases hhi with ⟨rfl, HH⟩ | ⟨m, rfl, hm, HH⟩
        · go_wp2_with (first
            | (
               go_at_call 160; refine (hN _).mono ?_; rintro e w1 ⟨rfl, hb1⟩; clear hN
               have B1 := on (al _ _) hb1
               clear hb1))
          go_roundw
          case rel =>
            refine ⟨k + 1, by omega, by go_num, on HB.out B1, .inl ⟨rfl, fun j hj => ?_⟩⟩
            by_cases e : j = k
            · subst e
              exact HZ.out
            · exact HH.out j (by omega)
          case measure => simp [intOf]; omega
        · go_wp2_with (first
            | (
               go_at_call 160; refine (hN _).mono ?_; rintro e w1 ⟨rfl, hb1⟩; clear hN
               have B1 := on (al _ _) hb1
               clear hb1))
          go_roundw
          case rel => exact ⟨k + 1, by omega, by go_num, on HB.out B1, .inr ⟨m, rfl, by omega, HH.out.same (.inl HZ.out)⟩⟩
          case measure => simp [intOf]; omega
      | false =>
        rw [hz] at hN
        have HZ : Hid ((V k).a ≠ z0) := fun e => by rw [(zb_iff _).2 e] at hz; cases hz
        clear hz
        rcases hhi with ⟨rfl, HH⟩ | ⟨m, rfl, hm, HH⟩
        · clear hA hc hb HA HO
          dsimp only [bt] at hN
          generalize (V k).p.1 = p1 at *
          generalize (V k).p.2 = p2 at *
          generalize (V k).a.1 = a1 at *
          generalize (V k).a.2 = a2 at *
          generalize (V k).x = vx at *
          generalize (V k).n = vn at *
          generalize (V k).c = vc at *
          go_wp2_with (first
            | (
               go_at_call 160; refine (hN _).mono ?_; rintro e w1 ⟨rfl, hb1⟩; clear hN
               have B1 := on (al _ _) hb1
               clear hb1))
          refine wp_region_held_drew (S := fun v => True) (by kernel_rfl) trivial (fun hHeld => ?_)
          refine wpAnyH_take (i := 0) (v := ?_) rfl (by kernel_rfl) (by kernel_rfl) (by kernel_rfl) (fun _ _ _ h => h) (Or.inl ⟨by rfl, ?_⟩) (by assumption) ?_
          case refine_2 => (intro w hSw; (try dsimp only at hSw); go_simp; (try with_reducible rfl))
          (try simp only [Act.put, List.getElem_toArray, List.getElem_cons_succ, List.getElem_cons_zero, List.setIfInBounds_toArray, List.set_cons_zero, List.set_cons_succ])
          refine wpAnyH_take (i := 1) (v := ?_) rfl (by kernel_rfl) (by kernel_rfl) (by kernel_rfl) (fun _ _ _ h => h) (Or.inl ⟨by rfl, ?_⟩) (by assumption) ?_
          case refine_2 => (intro w hSw; (try dsimp only at hSw); go_simp; (try with_reducible rfl))
          (try simp only [Act.put, List.getElem_toArray, List.getElem_cons_succ, List.getElem_cons_zero, List.setIfInBounds_toArray, List.set_cons_zero, List.set_cons_succ])
          refine wpAnyH_take (i := 2) (v := ?_) rfl (by kernel_rfl) (by kernel_rfl) (by kernel_rfl) (fun _ _ _ h => h) (Or.inl ⟨by rfl, ?_⟩) (by assumption) ?_
          case refine_2 => (intro w hSw; (try dsimp only at hSw); go_simp; (try with_reducible rfl))
          (try simp only [Act.put, List.getElem_toArray, List.getElem_cons_succ, List.getElem_cons_zero, List.setIfInBounds_toArray, List.set_cons_zero, List.set_cons_succ])
          refine wpAnyH_take (i := 3) (v := undef) rfl (by kernel_rfl) (by kernel_rfl) (by kernel_rfl) (fun _ _ _ h => h) (Or.inr ⟨by rfl, rfl⟩) (by assumption) ?_
          (try simp only [Act.put, List.getElem_toArray, List.getElem_cons_succ, List.getElem_cons_zero, List.setIfInBounds_toArray, List.set_cons_zero, List.set_cons_succ])
          refine wpAnyH_take (i := 4) (v := undef) rfl (by kernel_rfl) (by kernel_rfl) (by kernel_rfl) (fun _ _ _ h => h) (Or.inr ⟨by rfl, rfl⟩) (by assumption) ?_
          (try simp only [Act.put, List.getElem_toArray, List.getElem_cons_succ, List.getElem_cons_zero, List.setIfInBounds_toArray, List.set_cons_zero, List.set_cons_succ])
          refine wpAnyH_take (i := 5) (v := undef) rfl (by kernel_rfl) (by kernel_rfl) (by kernel_rfl) (fun _ _ _ h => h) (Or.inr ⟨by rfl, rfl⟩) (by assumption) ?_
          (try simp only [Act.put, List.getElem_toArray, List.getElem_cons_succ, List.getElem_cons_zero, List.setIfInBounds_toArray, List.set_cons_zero, List.set_cons_succ])
          refine wpAnyH_take (i := 6) (v := undef) rfl (by kernel_rfl) (by kernel_rfl) (by kernel_rfl) (fun _ _ _ h => h) (Or.inr ⟨by rfl, rfl⟩) (by assumption) ?_
          (try simp only [Act.put, List.getElem_toArray, List.getElem_cons_succ, List.getElem_cons_zero, List.setIfInBounds_toArray, List.set_cons_zero, List.set_cons_succ])
          refine wpAnyH_take (i := 7) (v := undef) rfl (by kernel_rfl) (by kernel_rfl) (by kernel_rfl) (fun _ _ _ h => h) (Or.inr ⟨by rfl, rfl⟩) (by assumption) ?_
          (try simp only [Act.put, List.getElem_toArray, List.getElem_cons_succ, List.getElem_cons_zero, List.setIfInBounds_toArray, List.set_cons_zero, List.set_cons_succ])
          refine wpAnyH_take (i := 8) (v := undef) rfl (by kernel_rfl) (by kernel_rfl) (by kernel_rfl) (fun _ _ _ h => h) (Or.inr ⟨by rfl, rfl⟩) (by assumption) ?_
          (try simp only [Act.put, List.getElem_toArray, List.getElem_cons_succ, List.getElem_cons_zero, List.setIfInBounds_toArray, List.set_cons_zero, List.set_cons_succ])
          refine wpAnyH_take (i := 9) (v := undef) rfl (by kernel_rfl) (by kernel_rfl) (by kernel_rfl) (fun _ _ _ h => h) (Or.inr ⟨by rfl, rfl⟩) (by assumption) ?_
          (try simp only [Act.put, List.getElem_toArray, List.getElem_cons_succ, List.getElem_cons_zero, List.setIfInBounds_toArray, List.set_cons_zero, List.set_cons_succ])
          refine wpAnyH_take (i := 10) (v := undef) rfl (by kernel_rfl) (by kernel_rfl) (by kernel_rfl) (fun _ _ _ h => h) (Or.inr ⟨by rfl, rfl⟩) (by assumption) ?_
          (try simp only [Act.put, List.getElem_toArray, List.getElem_cons_succ, List.getElem_cons_zero, List.setIfInBounds_toArray, List.set_cons_zero, List.set_cons_succ])
          refine wpAnyH_take (i := 11) (v := ?_) rfl (by kernel_rfl) (by kernel_rfl) (by kernel_rfl) (fun _ _ _ h => h) (Or.inl ⟨by rfl, ?_⟩) (by assumption) ?_
          case refine_2 => (intro w hSw; (try dsimp only at hSw); go_simp; (try with_reducible rfl))
          (try simp only [Act.put, List.getElem_toArray, List.getElem_cons_succ, List.getElem_cons_zero, List.setIfInBounds_toArray, List.set_cons_zero, List.set_cons_succ])
          refine wpAnyH_done (by kernel_rfl) ?_ _
          go_wp2_with fail
          go_roundw
          case rel => exact ⟨k + 1, by omega, by go_num, on HB.out B1.drew, .inr ⟨k, rfl, by omega, Top.first HH.out HZ.out⟩⟩
          case measure => simp [intOf]; omega
        · have hmn : (m : Int) < (n : Int) := by omega
          have hm0 : ¬ (m : Int) < 0 := by omega
          obtain ⟨d0, d1, d2, d3, d4⟩ := hc m (by omega)
          have hL := fun W => less_any (V m).a (V k).a W
          have e0 : Hid (ltb (V m).a (V k).a = true ↔ lt (V m).a (V k).a) := ltb_iff _ _
          clear hA hc hb HA HO d0 d1 d4
          generalize ltb (V m).a (V k).a = t at *
          cases t with
          | true =>
            dsimp only [bt] at hN hL
            generalize (V k).p.1 = p1 at *
            generalize (V k).p.2 = p2 at *
            generalize (V m).a.1 = m1 at *
            generalize (V m).a.2 = m2 at *
            generalize (V k).a.1 = a1 at *
            generalize (V k).a.2 = a2 at *
            generalize (V k).x = vx at *
            generalize (V k).n = vn at *
            generalize (V k).c = vc at *
            go_wp2_with (first
              | (
                 go_at_call 160; refine (hN _).mono ?_; rintro e w1 ⟨rfl, hb1⟩; clear hN
                 have k0 := keep hb1 (b := wr.heap.size) (o := 0) (x := .int .i64 p1) (by first | assumption | go_simp)
                 have k1 := keep hb1 (b := wr.heap.size) (o := 1) (x := .int .i64 p2) (by first | assumption | go_simp)
                 have k2 := keep hb1 (b := wr.heap.size) (o := 2) (x := .int .i64 a1) (by first | assumption | go_simp)
                 have k3 := keep hb1 (b := wr.heap.size) (o := 3) (x := .int .i64 a2) (by first | assumption | go_simp)
                 have k4 := keep hb1 (b := wr.heap.size) (o := 4) (x := .slice vx vn vc) (by first | assumption | go_simp)
                 have B1 := on (al _ _) hb1
                 have q2 : w1.drew.cell? ⟨b, o + m * 5 + 2, none⟩ = some (.int .i64 m1) := keep B1.drew d2
                 have q3 : w1.drew.cell? ⟨b, o + m * 5 + 3, none⟩ = some (.int .i64 m2) := keep B1.drew d3
                 have j2 : w1.drew.cell? ⟨wr.heap.size, 2, none⟩ = some (.int .i64 a1) := k2
                 have j3 : w1.drew.cell? ⟨wr.heap.size, 3, none⟩ = some (.int .i64 a2) := k3
                 clear hb1 k0 k1 k2 k3 k4))
            clear c0 c1 c2 c3 c4 d2 d3
            refine wp_region_held_drew (S := fun v => v.cell? ⟨b, o + m * 5 + 2, none⟩ = some (.int .i64 m1) ∧ v.cell? ⟨b, o + m * 5 + 3, none⟩ = some (.int .i64 m2) ∧ v.cell? ⟨wr.heap.size, 2, none⟩ = some (.int .i64 a1) ∧ v.cell? ⟨wr.heap.size, 3, none⟩ = some (.int .i64 a2)) (by kernel_rfl) ⟨q2, q3, j2, j3⟩ (fun hHeld => ?_)
            have B2 : Below wr.heap.size wr w1.drew := B1.drew
            generalize w1.drew = wD at *
            refine wpAnyH_take (i := 0) (v := ?_) rfl (by kernel_rfl) (by kernel_rfl) (by kernel_rfl) (fun _ _ _ h => h) (Or.inl ⟨by rfl, ?_⟩) (by assumption) ?_
            case refine_2 => (intro w hSw; (try dsimp only at hSw); go_simp; (try with_reducible rfl))
            (try simp only [Act.put, List.getElem_toArray, List.getElem_cons_succ, List.getElem_cons_zero, List.setIfInBounds_toArray, List.set_cons_zero, List.set_cons_succ])
            refine wpAnyH_take (i := 1) (v := ?_) rfl (by kernel_rfl) (by kernel_rfl) (by kernel_rfl) (fun _ _ _ h => h) (Or.inl ⟨by rfl, ?_⟩) (by assumption) ?_
            case refine_2 => (intro w hSw; (try dsimp only at hSw); go_simp; (try with_reducible rfl))
            (try simp only [Act.put, List.getElem_toArray, List.getElem_cons_succ, List.getElem_cons_zero, List.setIfInBounds_toArray, List.set_cons_zero, List.set_cons_succ])
            refine wpAnyH_take (i := 2) (v := ?_) rfl (by kernel_rfl) (by kernel_rfl) (by kernel_rfl) (fun _ _ _ h => h) (Or.inl ⟨by rfl, ?_⟩) (by assumption) ?_
            case refine_2 => (intro w hSw; (try dsimp only at hSw); go_simp; (try with_reducible rfl))
            (try simp only [Act.put, List.getElem_toArray, List.getElem_cons_succ, List.getElem_cons_zero, List.setIfInBounds_toArray, List.set_cons_zero, List.set_cons_succ])
            refine wpAnyH_take (i := 3) (v := ?_) rfl (by kernel_rfl) (by kernel_rfl) (by kernel_rfl) (fun _ _ _ h => h) (Or.inl ⟨by rfl, ?_⟩) (by assumption) ?_
            case refine_2 => (intro w hSw; (try dsimp only at hSw); go_simp; (try with_reducible rfl))
            (try simp only [Act.put, List.getElem_toArray, List.getElem_cons_succ, List.getElem_cons_zero, List.setIfInBounds_toArray, List.set_cons_zero, List.set_cons_succ])
            refine wpAnyH_take (i := 4) (v := ?_) rfl (by kernel_rfl) (by kernel_rfl) (by kernel_rfl) (fun _ _ _ h => h) (Or.inl ⟨by rfl, ?_⟩) (by assumption) ?_
            case refine_2 => (intro w hSw; (try dsimp only at hSw); go_simp; (try with_reducible rfl))
            (try simp only [Act.put, List.getElem_toArray, List.getElem_cons_succ, List.getElem_cons_zero, List.setIfInBounds_toArray, List.set_cons_zero, List.set_cons_succ])
            refine wpAnyH_take (i := 5) (v := ?_) rfl (by kernel_rfl) (by kernel_rfl) (by kernel_rfl) (fun _ _ _ h => h) (Or.inl ⟨by rfl, ?_⟩) (by assumption) ?_
            case refine_2 => (intro w hSw; (try dsimp only at hSw); go_simp; (try with_reducible rfl))
            (try simp only [Act.put, List.getElem_toArray, List.getElem_cons_succ, List.getElem_cons_zero, List.setIfInBounds_toArray, List.set_cons_zero, List.set_cons_succ])
            refine wpAnyH_take (i := 6) (v := ?_) rfl (by kernel_rfl) (by kernel_rfl) (by kernel_rfl) (fun _ _ _ h => h) (Or.inl ⟨by rfl, ?_⟩) (by assumption) ?_
            case refine_2 => (intro w hSw; (try dsimp only at hSw); go_simp; (try with_reducible rfl))
            (try simp only [Act.put, List.getElem_toArray, List.getElem_cons_succ, List.getElem_cons_zero, List.setIfInBounds_toArray, List.set_cons_zero, List.set_cons_succ])
            refine wpAnyH_take (i := 7) (v := ?_) rfl (by kernel_rfl) (by kernel_rfl) (by kernel_rfl) (fun _ _ _ h => h) (Or.inl ⟨by rfl, ?_⟩) (by assumption) ?_
            case refine_2 => (intro w hSw; (try dsimp only at hSw); go_simp; (try with_reducible rfl))
            (try simp only [Act.put, List.getElem_toArray, List.getElem_cons_succ, List.getElem_cons_zero, List.setIfInBounds_toArray, List.set_cons_zero, List.set_cons_succ])
            refine wpAnyH_take (i := 8) (v := ?_) rfl (by kernel_rfl) (by kernel_rfl) (by kernel_rfl) (fun _ _ _ h => h) (Or.inl ⟨by rfl, ?_⟩) (by assumption) ?_
            case refine_2 => (intro w hSw; (try dsimp only at hSw); go_simp; (try with_reducible rfl))
            (try simp only [Act.put, List.getElem_toArray, List.getElem_cons_succ, List.getElem_cons_zero, List.setIfInBounds_toArray, List.set_cons_zero, List.set_cons_succ])
            refine wpAnyH_take (i := 9) (v := ?_) rfl (by kernel_rfl) (by kernel_rfl) (by kernel_rfl) (fun _ _ _ h => h) (Or.inl ⟨by rfl, ?_⟩) (by assumption) ?_
            case refine_2 => (intro w hSw; (try dsimp only at hSw); go_simp; (try with_reducible rfl))
            (try simp only [Act.put, List.getElem_toArray, List.getElem_cons_succ, List.getElem_cons_zero, List.setIfInBounds_toArray, List.set_cons_zero, List.set_cons_succ])
            refine wpAnyH_ready (rs := [10]) (by kernel_rfl) (by simp) ?_
            refine AllReadyH.cons rfl (fun K hK => ?_) AllReadyH.nil
            go_simp
            refine (hL _).mono ?_
            rintro e w2 ⟨rfl, hb2⟩
            have B3 := on B2 hb2
            refine hK.out _ _ ⟨keep hb2 q2, keep hb2 q3, keep hb2 j2, keep hb2 j3⟩ (fun hHeld => ?_)
            clear hK K
            refine wpAnyH_take (i := 11) (v := ?_) rfl (by kernel_rfl) (by kernel_rfl) (by kernel_rfl) (fun _ _ _ h => h) (Or.inl ⟨by rfl, ?_⟩) (by assumption) ?_
            case refine_2 => (intro w hSw; (try dsimp only at hSw); go_simp; (try with_reducible rfl))
            (try simp only [Act.put, List.getElem_toArray, List.getElem_cons_succ, List.getElem_cons_zero, List.setIfInBounds_toArray, List.set_cons_zero, List.set_cons_succ])
            refine wpAnyH_done (by kernel_rfl) ?_ _
            clear q2 q3 j2 j3 hb2
            go_wp2_with fail
            go_roundw
            case rel => exact ⟨k + 1, by omega, by go_num, on HB.out B3, .inr ⟨k, rfl, by omega, HH.out.more HZ.out (e0.out.1 (by simp))⟩⟩
            case measure => simp [intOf]; omega
          | false =>
            dsimp only [bt] at hN hL
            generalize (V k).p.1 = p1 at *
            generalize (V k).p.2 = p2 at *
            generalize (V m).a.1 = m1 at *
            generalize (V m).a.2 = m2 at *
            generalize (V k).a.1 = a1 at *
            generalize (V k).a.2 = a2 at *
            generalize (V k).x = vx at *
            generalize (V k).n = vn at *
            generalize (V k).c = vc at *
            go_wp2_with (first
              | (
                 go_at_call 160; refine (hN _).mono ?_; rintro e w1 ⟨rfl, hb1⟩; clear hN
                 have k0 := keep hb1 (b := wr.heap.size) (o := 0) (x := .int .i64 p1) (by first | assumption | go_simp)
                 have k1 := keep hb1 (b := wr.heap.size) (o := 1) (x := .int .i64 p2) (by first | assumption | go_simp)
                 have k2 := keep hb1 (b := wr.heap.size) (o := 2) (x := .int .i64 a1) (by first | assumption | go_simp)
                 have k3 := keep hb1 (b := wr.heap.size) (o := 3) (x := .int .i64 a2) (by first | assumption | go_simp)
                 have k4 := keep hb1 (b := wr.heap.size) (o := 4) (x := .slice vx vn vc) (by first | assumption | go_simp)
                 have B1 := on (al _ _) hb1
                 have q2 : w1.drew.cell? ⟨b, o + m * 5 + 2, none⟩ = some (.int .i64 m1) := keep B1.drew d2
                 have q3 : w1.drew.cell? ⟨b, o + m * 5 + 3, none⟩ = some (.int .i64 m2) := keep B1.drew d3
                 have j2 : w1.drew.cell? ⟨wr.heap.size, 2, none⟩ = some (.int .i64 a1) := k2
                 have j3 : w1.drew.cell? ⟨wr.heap.size, 3, none⟩ = some (.int .i64 a2) := k3
                 clear hb1 k0 k1 k2 k3 k4))
            clear c0 c1 c2 c3 c4 d2 d3
            refine wp_region_held_drew (S := fun v => v.cell? ⟨b, o + m * 5 + 2, none⟩ = some (.int .i64 m1) ∧ v.cell? ⟨b, o + m * 5 + 3, none⟩ = some (.int .i64 m2) ∧ v.cell? ⟨wr.heap.size, 2, none⟩ = some (.int .i64 a1) ∧ v.cell? ⟨wr.heap.size, 3, none⟩ = some (.int .i64 a2)) (by kernel_rfl) ⟨q2, q3, j2, j3⟩ (fun hHeld => ?_)
            have B2 : Below wr.heap.size wr w1.drew := B1.drew
            generalize w1.drew = wD at *
            refine wpAnyH_take (i := 0) (v := ?_) rfl (by kernel_rfl) (by kernel_rfl) (by kernel_rfl) (fun _ _ _ h => h) (Or.inl ⟨by rfl, ?_⟩) (by assumption) ?_
            case refine_2 => (intro w hSw; (try dsimp only at hSw); go_simp; (try with_reducible rfl))
            (try simp only [Act.put, List.getElem_toArray, List.getElem_cons_succ, List.getElem_cons_zero, List.setIfInBounds_toArray, List.set_cons_zero, List.set_cons_succ])
            refine wpAnyH_take (i := 1) (v := ?_) rfl (by kernel_rfl) (by kernel_rfl) (by kernel_rfl) (fun _ _ _ h => h) (Or.inl ⟨by rfl, ?_⟩) (by assumption) ?_
            case refine_2 => (intro w hSw; (try dsimp only at hSw); go_simp; (try with_reducible rfl))
            (try simp only [Act.put, List.getElem_toArray, List.getElem_cons_succ, List.getElem_cons_zero, List.setIfInBounds_toArray, List.set_cons_zero, List.set_cons_succ])
            refine wpAnyH_take (i := 2) (v := ?_) rfl (by kernel_rfl) (by kernel_rfl) (by kernel_rfl) (fun _ _ _ h => h) (Or.inl ⟨by rfl, ?_⟩) (by assumption) ?_
            case refine_2 => (intro w hSw; (try dsimp only at hSw); go_simp; (try with_reducible rfl))
            (try simp only [Act.put, List.getElem_toArray, List.getElem_cons_succ, List.getElem_cons_zero, List.setIfInBounds_toArray, List.set_cons_zero, List.set_cons_succ])
            refine wpAnyH_take (i := 3) (v := ?_) rfl (by kernel_rfl) (by kernel_rfl) (by kernel_rfl) (fun _ _ _ h => h) (Or.inl ⟨by rfl, ?_⟩) (by assumption) ?_
            case refine_2 => (intro w hSw; (try dsimp only at hSw); go_simp; (try with_reducible rfl))
            (try simp only [Act.put, List.getElem_toArray, List.getElem_cons_succ, List.getElem_cons_zero, List.setIfInBounds_toArray, List.set_cons_zero, List.set_cons_succ])
            refine wpAnyH_take (i := 4) (v := ?_) rfl (by kernel_rfl) (by kernel_rfl) (by kernel_rfl) (fun _ _ _ h => h) (Or.inl ⟨by rfl, ?_⟩) (by assumption) ?_
            case refine_2 => (intro w hSw; (try dsimp only at hSw); go_simp; (try with_reducible rfl))
            (try simp only [Act.put, List.getElem_toArray, List.getElem_cons_succ, List.getElem_cons_zero, List.setIfInBounds_toArray, List.set_cons_zero, List.set_cons_succ])
            refine wpAnyH_take (i := 5) (v := ?_) rfl (by kernel_rfl) (by kernel_rfl) (by kernel_rfl) (fun _ _ _ h => h) (Or.inl ⟨by rfl, ?_⟩) (by assumption) ?_
            case refine_2 => (intro w hSw; (try dsimp only at hSw); go_simp; (try with_reducible rfl))
            (try simp only [Act.put, List.getElem_toArray, List.getElem_cons_succ, List.getElem_cons_zero, List.setIfInBounds_toArray, List.set_cons_zero, List.set_cons_succ])
            refine wpAnyH_take (i := 6) (v := ?_) rfl (by kernel_rfl) (by kernel_rfl) (by kernel_rfl) (fun _ _ _ h => h) (Or.inl ⟨by rfl, ?_⟩) (by assumption) ?_
            case refine_2 => (intro w hSw; (try dsimp only at hSw); go_simp; (try with_reducible rfl))
            (try simp only [Act.put, List.getElem_toArray, List.getElem_cons_succ, List.getElem_cons_zero, List.setIfInBounds_toArray, List.set_cons_zero, List.set_cons_succ])
            refine wpAnyH_take (i := 7) (v := ?_) rfl (by kernel_rfl) (by kernel_rfl) (by kernel_rfl) (fun _ _ _ h => h) (Or.inl ⟨by rfl, ?_⟩) (by assumption) ?_
            case refine_2 => (intro w hSw; (try dsimp only at hSw); go_simp; (try with_reducible rfl))
            (try simp only [Act.put, List.getElem_toArray, List.getElem_cons_succ, List.getElem_cons_zero, List.setIfInBounds_toArray, List.set_cons_zero, List.set_cons_succ])
            refine wpAnyH_take (i := 8) (v := ?_) rfl (by kernel_rfl) (by kernel_rfl) (by kernel_rfl) (fun _ _ _ h => h) (Or.inl ⟨by rfl, ?_⟩) (by assumption) ?_
            case refine_2 => (intro w hSw; (try dsimp only at hSw); go_simp; (try with_reducible rfl))
            (try simp only [Act.put, List.getElem_toArray, List.getElem_cons_succ, List.getElem_cons_zero, List.setIfInBounds_toArray, List.set_cons_zero, List.set_cons_succ])
            refine wpAnyH_take (i := 9) (v := ?_) rfl (by kernel_rfl) (by kernel_rfl) (by kernel_rfl) (fun _ _ _ h => h) (Or.inl ⟨by rfl, ?_⟩) (by assumption) ?_
            case refine_2 => (intro w hSw; (try dsimp only at hSw); go_simp; (try with_reducible rfl))
            (try simp only [Act.put, List.getElem_toArray, List.getElem_cons_succ, List.getElem_cons_zero, List.setIfInBounds_toArray, List.set_cons_zero, List.set_cons_succ])
            refine wpAnyH_ready (rs := [10]) (by kernel_rfl) (by simp) ?_
            refine AllReadyH.cons rfl (fun K hK => ?_) AllReadyH.nil
            go_simp
            refine (hL _).mono ?_
            rintro e w2 ⟨rfl, hb2⟩
            have B3 := on B2 hb2
            refine hK.out _ _ ⟨keep hb2 q2, keep hb2 q3, keep hb2 j2, keep hb2 j3⟩ (fun hHeld => ?_)
            clear hK K
            refine wpAnyH_take (i := 11) (v := ?_) rfl (by kernel_rfl) (by kernel_rfl) (by kernel_rfl) (fun _ _ _ h => h) (Or.inl ⟨by rfl, ?_⟩) (by assumption) ?_
            case refine_2 => (intro w hSw; (try dsimp only at hSw); go_simp; (try with_reducible rfl))
            (try simp only [Act.put, List.getElem_toArray, List.getElem_cons_succ, List.getElem_cons_zero, List.setIfInBounds_toArray, List.set_cons_zero, List.set_cons_succ])
            refine wpAnyH_done (by kernel_rfl) ?_ _
            clear q2 q3 j2 j3 hb2
            go_wp2_with fail
            go_roundw
            case rel => exact ⟨k + 1, by omega, by go_num, on HB.out B3, .inr ⟨m, rfl, by omega, HH.out.same (.inr (fun hh => by have := e0.out.2 hh; cases this))⟩⟩
            case measure => simp [intOf]; omega
    · obtain rfl : k = n := by omega
      rcases hhi with ⟨rfl, HH⟩ | ⟨m, rfl, hm, HH⟩
      · have hC := clone_vl ox on_ oc ol wr (HO.out.1.below HB.out) HO.out.2
        go_wp2_with (first
          | (
             go_at_call 109; refine hC.mono ?_; rintro e w2 ⟨y, cy, rfl, H2⟩; clear hC))
        go_ret
        exact ⟨y, on_, cy, ol, rfl, ⟨on HB.out H2.out.1, H2.out.2.1, fun a ha => ⟨Nat.le_trans HB.out.size (H2.out.2.2 a ha).1, (H2.out.2.2 a ha).2⟩⟩, HO.out.2, .inl HH.out⟩
      · have hmn : (m : Int) < (k : Int) := by omega
        have hm0 : ¬ (m : Int) < 0 := by omega
        have hA := HA.out.below HB.out
        obtain ⟨b, o, rfl, hb, hc⟩ := hA.row.resolve_left (by omega)
        have c4 := (hc m (by omega)).2.2.2.2
        have hC := clone_vl (V m).x (V m).n (V m).c (V m).d wr (hA.val m hm).1 (hA.val m hm).2
        have HS : Hid ((V m).n ≤ 140737488355328) := (hA.val m hm).2
        clear hA hc hb
        go_wp2_with (first
          | (
             go_at_call 109; refine hC.mono ?_; rintro e w2 ⟨y, cy, rfl, H2⟩; clear hC))
        go_ret
        exact ⟨y, (V m).n, cy, (V m).d, rfl, ⟨on HB.out H2.out.1, H2.out.2.1, fun a ha => ⟨Nat.le_trans HB.out.size (H2.out.2.2 a ha).1, (H2.out.2.2 a ha).2⟩⟩, HS.out, .inr ⟨m, hm, rfl, HH.out⟩⟩

end Go.Proofs.YtdlajpjigddbhaaGreat.Ba

/-
  Numbers and bytes in their one form, and what a reader finds in bytes: plain numbers and lists.
  Conditions: none. Nothing here names the program.
-/
namespace Go.Proofs.YtdlajpjigddbhaaGreat.Wi

/- A number without sign. -/
def uvF : Nat → Nat → List Nat
  | 0, n => [n]
  | k + 1, n => if n < 128 then [n] else (n % 128 + 128) :: uvF k (n / 128)

theorem uvF_enough : ∀ k m n, n ≤ k → n ≤ m → uvF k n = uvF m n
  | 0, 0, _, _, _ => rfl
  | 0, m + 1, n, h, _ => by
    obtain rfl : n = 0 := by omega
    rfl
  | k + 1, 0, n, _, h => by
    obtain rfl : n = 0 := by omega
    rfl
  | k + 1, m + 1, n, h1, h2 => by
    unfold uvF
    by_cases h : n < 128
    · rw [if_pos h, if_pos h]
    · rw [if_neg h, if_neg h, uvF_enough k m (n / 128) (by omega) (by omega)]

def uv (n : Nat) : List Nat := uvF n n

theorem uv_small {n : Nat} (h : n < 128) : uv n = [n] := by
  unfold uv
  cases n with
  | zero => rfl
  | succ n => unfold uvF; rw [if_pos h]

theorem uv_big {n : Nat} (h : 128 ≤ n) : uv n = (n % 128 + 128) :: uv (n / 128) := by
  unfold uv
  cases n with
  | zero => omega
  | succ n =>
    conv => lhs; unfold uvF
    rw [if_neg (by omega), uvF_enough n ((n + 1) / 128) ((n + 1) / 128) (by omega) (Nat.le_refl _)]

theorem uv_pos (n : Nat) : 0 < (uv n).length := by
  by_cases h : n < 128
  · rw [uv_small h]; simp
  · rw [uv_big (by omega)]; simp

theorem uv_len : ∀ k n, n < 128 ^ (k + 1) → (uv n).length ≤ k + 1
  | 0, n, h => by rw [uv_small (by omega)]; simp
  | k + 1, n, h => by
    by_cases h1 : n < 128
    · rw [uv_small h1]; simp
    · rw [uv_big (by omega)]
      have := uv_len k (n / 128) (by rw [Nat.div_lt_iff_lt_mul (by omega)]; rw [Nat.pow_succ] at h; exact h)
      simp only [List.length_cons]
      omega

theorem uv_ten {n : Nat} (h : n < 18446744073709551616) : (uv n).length ≤ 10 := uv_len 9 n (by omega)

theorem uv_lt (n : Nat) : ∀ v ∈ uv n, v < 256 := by
  induction n using Nat.strongRecOn with
  | ind n ih =>
    intro v hv
    by_cases h : n < 128
    · rw [uv_small h] at hv
      simp at hv
      omega
    · rw [uv_big (by omega)] at hv
      rcases List.mem_cons.1 hv with hv | hv
      · omega
      · exact ih (n / 128) (by omega) v hv

/- Bytes of a number, the lowest first. -/
def fx (n k : Nat) : List Nat := (List.range k).map fun i => n / 256 ^ i % 256

theorem fx_len (n k : Nat) : (fx n k).length = k := by simp [fx]

theorem fx_lt (n k : Nat) : ∀ v ∈ fx n k, v < 256 := by
  intro v hv
  simp only [fx, List.mem_map] at hv
  obtain ⟨i, _, rfl⟩ := hv
  exact Nat.mod_lt _ (by omega)

theorem fx_succ (n k : Nat) : fx n (k + 1) = fx n k ++ [n / 256 ^ k % 256] := by simp [fx, List.range_succ]

theorem fx_four (n : Nat) : fx n 4 = [n % 256, n / 256 % 256, n / 65536 % 256, n / 16777216 % 256] := by
  simp [fx, List.range_succ]

theorem fx_eight (n : Nat) : fx (n % 4294967296) 4 ++ fx (n / 4294967296) 4 = fx n 8 := by
  rw [fx_four, fx_four]
  simp only [fx, List.range_succ, List.range_zero]
  simp
  omega

theorem fx_low (n : Nat) : fx (n % 4294967296) 4 = fx n 4 := by
  rw [fx_four, fx_four]
  simp
  omega

def le : List Nat → Nat
  | [] => 0
  | v :: l => v + 256 * le l

theorem le_fx : ∀ k n, n < 256 ^ k → le (fx n k) = n
  | 0, n, h => by simp [fx, le]; omega
  | k + 1, n, h => by
    have e : fx n (k + 1) = (n % 256) :: fx (n / 256) k := by
      unfold fx
      rw [List.range_succ_eq_map, List.map_cons, List.map_map]
      congr 1
      · simp
      · refine List.map_congr_left fun i _ => ?_
        simp only [Function.comp]
        rw [Nat.pow_succ', Nat.div_div_eq_div_mul]
    rw [e, le, le_fx k (n / 256) (by rw [Nat.div_lt_iff_lt_mul (by omega)]; rw [Nat.pow_succ] at h; exact h)]
    omega

theorem le_lt : ∀ l : List Nat, (∀ v ∈ l, v < 256) → le l < 256 ^ l.length
  | [], _ => by simp [le]
  | v :: l, h => by
    have h1 := le_lt l (fun x hx => h x (List.mem_cons_of_mem _ hx))
    have h2 := h v List.mem_cons_self
    simp only [le, List.length_cons, Nat.pow_succ]
    omega

theorem le_snoc : ∀ (l : List Nat) (v : Nat), le (l ++ [v]) = le l + v * 256 ^ l.length
  | [], v => by simp [le]
  | x :: l, v => by
    simp only [List.cons_append, le, le_snoc l v, List.length_cons, Nat.pow_succ]
    have : 256 * (v * 256 ^ l.length) = v * (256 ^ l.length * 256) := by
      rw [← Nat.mul_assoc, Nat.mul_comm 256 v, Nat.mul_assoc, Nat.mul_comm 256 (256 ^ _)]
    omega

theorem le_take_succ (l : List Nat) (k : Nat) (h : k < l.length) : le (l.take (k + 1)) = le (l.take k) + l.getD k 0 * 256 ^ k := by
  rw [List.take_add_one, List.getElem?_eq_getElem h]
  simp only [Option.toList_some]
  rw [le_snoc, List.length_take, Nat.min_eq_left (by omega)]
  simp [List.getD, h]

/- Numbers with sign. -/
def zz (n : Int) : Nat := if n < 0 then (-(2 * n) - 1).toNat else (2 * n).toNat
def unzz (n : Nat) : Int := if n % 2 = 1 then -((n / 2 : Nat) : Int) - 1 else ((n / 2 : Nat) : Int)

theorem unzz_zz (n : Int) : unzz (zz n) = n := by
  unfold zz unzz
  split <;> split <;> omega

theorem zz_unzz (n : Nat) : zz (unzz n) = n := by
  unfold zz unzz
  split <;> split <;> omega

theorem zz_lt {n : Int} (h1 : -9223372036854775808 ≤ n) (h2 : n ≤ 9223372036854775807) : zz n < 18446744073709551616 := by
  unfold zz
  split <;> omega

/- The number that bytes begin with, and how many of them it has. -/
def leadF : List Nat → Nat → Nat → Option (Nat × Nat)
  | [], _, _ => none
  | v :: l, i, n => if 10 ≤ i then none else if 128 ≤ v then leadF l (i + 1) (n + (v - 128) * 128 ^ i) else if (0 < i ∧ v = 0) ∨ (i = 9 ∧ 1 < v) then none else some (n + v * 128 ^ i, i + 1)

def lead (l : List Nat) : Option (Nat × Nat) := leadF l 0 0

theorem leadF_ten (l : List Nat) (i n : Nat) (h : 10 ≤ i) : leadF l i n = none := by
  cases l with
  | nil => rfl
  | cons v l => rw [leadF, if_pos h]

theorem leadF_uv (r : List Nat) (N : Nat) : ∀ i acc, acc + N * 128 ^ i < 18446744073709551616 → i ≤ 9 → (i = 0 ∨ N ≠ 0) → leadF (uv N ++ r) i acc = some (acc + N * 128 ^ i, i + (uv N).length) := by
  induction N using Nat.strongRecOn with
  | ind N ih =>
    intro i acc h hi h0
    by_cases hN : N < 128
    · rw [uv_small hN]
      simp only [List.cons_append, List.nil_append, List.length_cons, List.length_nil]
      rw [leadF, if_neg (by omega), if_neg (by omega), if_neg]
      rintro (⟨h1, h2⟩ | ⟨h1, h2⟩)
      · omega
      · subst h1
        omega
    · rw [uv_big (by omega)]
      simp only [List.cons_append, List.length_cons]
      have hp : 128 * 128 ^ i ≤ N * 128 ^ i := Nat.mul_le_mul_right _ (by omega)
      have hi9 : i + 1 ≤ 9 := by
        by_cases e : i = 9
        · subst e; omega
        · omega
      have e : N * 128 ^ i = N % 128 * 128 ^ i + N / 128 * 128 ^ (i + 1) := by
        rw [Nat.pow_succ, Nat.mul_comm (128 ^ i) 128, ← Nat.mul_assoc, ← Nat.add_mul]
        congr 1
        omega
      rw [leadF, if_neg (by omega), if_pos (by omega), Nat.add_sub_cancel, ih (N / 128) (by omega) (i + 1) _ (by omega) hi9 (by omega)]
      congr 2 <;> omega

theorem lead_uv {n : Nat} (h : n < 18446744073709551616) (r : List Nat) : lead (uv n ++ r) = some (n, (uv n).length) := by
  have := leadF_uv r n 0 0 (by omega) (by omega) (.inl rfl)
  unfold lead
  simpa using this

theorem leadF_canon : ∀ (l : List Nat) (i acc n k : Nat), (∀ v ∈ l, v < 256) → acc < 128 ^ i → leadF l i acc = some (n, k) →
    ∃ N, n = acc + N * 128 ^ i ∧ k = i + (uv N).length ∧ l.take (uv N).length = uv N ∧ (uv N).length ≤ l.length ∧ n < 18446744073709551616 ∧ (0 < i → N ≠ 0)
  | [], _, _, _, _, _, _, h => by cases h
  | v :: l, i, acc, n, k, hl, ha, h => by
    have hv := hl v List.mem_cons_self
    rw [leadF] at h
    by_cases h10 : 10 ≤ i
    · rw [if_pos h10] at h; cases h
    · rw [if_neg h10] at h
      by_cases h128 : 128 ≤ v
      · rw [if_pos h128] at h
        have hacc : acc + (v - 128) * 128 ^ i < 128 ^ (i + 1) := by
          have : (v - 128) * 128 ^ i ≤ 127 * 128 ^ i := Nat.mul_le_mul_right _ (by omega)
          rw [Nat.pow_succ]
          omega
        obtain ⟨N, h1, h2, h3, h4, h5, h6⟩ := leadF_canon l (i + 1) _ n k (fun x hx => hl x (List.mem_cons_of_mem _ hx)) hacc h
        have hN : N ≠ 0 := h6 (by omega)
        have e : uv (N * 128 + (v - 128)) = v :: uv N := by
          rw [uv_big (by omega)]
          congr 1
          · omega
          · congr 1; omega
        refine ⟨N * 128 + (v - 128), ?_, by rw [e, h2]; simp; omega, by rw [e]; simp [h3], by rw [e]; simp; omega, h5, fun _ => by omega⟩
        rw [h1, Nat.add_mul, Nat.mul_assoc, ← Nat.pow_succ', Nat.add_comm (N * _), ← Nat.add_assoc]
      · rw [if_neg h128] at h
        by_cases hc : (0 < i ∧ v = 0) ∨ (i = 9 ∧ 1 < v)
        · rw [if_pos hc] at h; cases h
        · rw [if_neg hc] at h
          injection h with h
          injection h with h1 h2
          have e : uv v = [v] := uv_small (by omega)
          refine ⟨v, h1.symm, by rw [e, ← h2]; simp, by rw [e]; simp, by rw [e]; simp, ?_, fun h0 hv0 => hc (.inl ⟨h0, hv0⟩)⟩
          rw [← h1]
          by_cases h9 : i = 9
          · subst h9
            have : v ≤ 1 := by omega
            omega
          · have hp : 128 ^ i ≤ 128 ^ 8 := Nat.pow_le_pow_right (by omega) (by omega)
            have : v * 128 ^ i ≤ 127 * 128 ^ i := Nat.mul_le_mul_right _ (by omega)
            omega

theorem lead_canon {l : List Nat} {n k : Nat} (hl : ∀ v ∈ l, v < 256) (h : lead l = some (n, k)) : l.take k = uv n ∧ k = (uv n).length ∧ k ≤ l.length ∧ n < 18446744073709551616 := by
  obtain ⟨N, h1, h2, h3, h4, h5, _⟩ := leadF_canon l 0 0 n k hl (by omega) h
  have e : n = N := by simpa using h1
  subst e
  rw [Nat.zero_add] at h2
  exact ⟨by rw [h2]; exact h3, h2, by omega, h5⟩

theorem lead_pos {l : List Nat} {n k : Nat} (hl : ∀ v ∈ l, v < 256) (h : lead l = some (n, k)) : 0 < k := by
  have := (lead_canon hl h).2.1
  have h2 := uv_pos n
  omega

/- A reader: what is behind the place, and what was wrong first. What it tells, what is then behind the place, what was wrong. -/
def rUv (l : List Nat) (e : Nat) : Nat × List Nat × Nat :=
  if e ≠ 0 then (0, l, e) else match lead l with | none => (0, l, 5) | some (n, k) => (n, l.drop k, 0)

def rFx (s : Nat) (l : List Nat) (e : Nat) : Nat × List Nat × Nat :=
  if e ≠ 0 then (0, l, e) else if l.length < s then (0, l, 5) else (le (l.take s), l.drop s, 0)

def rNum (most : Int) (l : List Nat) (e : Nat) : Nat × List Nat × Nat :=
  if e ≠ 0 then (0, l, e) else if (rUv l e).2.2 ≠ 0 then (0, (rUv l e).2.1, (rUv l e).2.2) else if most < 0 ∨ most < ((rUv l e).1 : Int) then (0, l, 3) else rUv l e

def rBy (most : Int) (l : List Nat) (e : Nat) : List Nat × List Nat × Nat :=
  if e ≠ 0 then ([], l, e) else if (rNum most l e).2.2 ≠ 0 then ([], (rNum most l e).2.1, (rNum most l e).2.2)
  else if (rNum most l e).2.1.length < (rNum most l e).1 then ([], l, 5) else ((rNum most l e).2.1.take (rNum most l e).1, (rNum most l e).2.1.drop (rNum most l e).1, 0)

def rDone (l : List Nat) (e : Nat) : Nat := if e ≠ 0 then e else if 0 < l.length then 5 else 0

theorem rUv_bad {l : List Nat} {e : Nat} (h : e ≠ 0) : rUv l e = (0, l, e) := by unfold rUv; rw [if_pos h]
theorem rUv_no {l : List Nat} (h : lead l = none) : rUv l 0 = (0, l, 5) := by unfold rUv; rw [if_neg (by omega), h]
theorem rUv_yes {l : List Nat} {n k : Nat} (h : lead l = some (n, k)) : rUv l 0 = (n, l.drop k, 0) := by unfold rUv; rw [if_neg (by omega), h]

theorem rUv_lt (l : List Nat) (e : Nat) (hl : ∀ v ∈ l, v < 256) : (rUv l e).1 < 18446744073709551616 := by
  by_cases h : e = 0
  · subst h
    cases h2 : lead l with
    | none => rw [rUv_no h2]; show 0 < _; omega
    | some q => obtain ⟨n, k⟩ := q; rw [rUv_yes h2]; exact (lead_canon hl h2).2.2.2
  · rw [rUv_bad h]; show 0 < _; omega

/- Where the place is: what is left is what was left, but for some at its beginning. -/
theorem rUv_drop (l : List Nat) (e : Nat) : ∃ k, (rUv l e).2.1 = l.drop k := by
  by_cases h : e = 0
  · subst h
    cases h2 : lead l with
    | none => rw [rUv_no h2]; exact ⟨0, rfl⟩
    | some q => obtain ⟨n, k⟩ := q; rw [rUv_yes h2]; exact ⟨k, rfl⟩
  · rw [rUv_bad h]; exact ⟨0, rfl⟩

end Go.Proofs.YtdlajpjigddbhaaGreat.Wi

/-
  2 texts of this proof, one behind the other: BaPick, PxPickB.
-/
import Derived.Test.YtdbahebhodoooaaJ08
/-
  Which value must be asked for: Pick.
  Conditions: the list lies in memory.
-/
namespace Go.Proofs.Ytdbahebhodoooaa.Ba
open Go.RowKit By Fl
set_option linter.unusedVariables false
set_option linter.unusedSimpArgs false
set_option maxRecDepth 100000

theorem ltb_iff (a b : Bt) : ltb a b = true ↔ lt a b := by
  unfold ltb lt
  by_cases h : a.1 = b.1
  · rw [if_pos h]
    simp only [decide_eq_true_eq]
    omega
  · rw [if_neg h]
    simp only [decide_eq_true_eq]
    omega

def Top (V : Nat → AccV) (k m : Nat) : Prop := (V m).a ≠ z0 ∧ ∀ j, j < k → (V j).a = z0 ∨ le (V j).a (V m).a
def Pk (V : Nat → AccV) (n : Nat) (d : List Nat) : Prop := (∀ i, i < n → (V i).a = z0) ∨ ∃ i, i < n ∧ d = (V i).d ∧ Top V n i

theorem Top.same {V : Nat → AccV} {k m : Nat} (h : Top V k m) (hk : (V k).a = z0 ∨ ¬ lt (V m).a (V k).a) : Top V (k + 1) m := by
  refine ⟨h.1, fun j hj => ?_⟩
  by_cases e : j = k
  · subst e
    rcases hk with hk | hk
    · exact .inl hk
    · exact .inr hk
  · exact h.2 j (by omega)

theorem Top.more {V : Nat → AccV} {k m : Nat} (h : Top V k m) (hz : (V k).a ≠ z0) (hk : lt (V m).a (V k).a) : Top V (k + 1) k := by
  refine ⟨hz, fun j hj => ?_⟩
  by_cases e : j = k
  · subst e
    exact .inr (le_refl _)
  · rcases h.2 j (by omega) with q | q
    · exact .inl q
    · exact .inr (le_trans q (lt_le hk))

theorem Top.first {V : Nat → AccV} {k : Nat} (h : ∀ j, j < k → (V j).a = z0) (hz : (V k).a ≠ z0) : Top V (k + 1) k := by
  refine ⟨hz, fun j hj => ?_⟩
  by_cases e : j = k
  · subst e
    exact .inr (le_refl _)
  · exact .inl (h j (by omega))

set_option maxHeartbeats 4000000 in
theorem pick_any (x : Option Addr) (n c : Nat) (V : Nat → AccV) (ox : Option Addr) (on_ oc : Nat) (ol : List Nat) (w : World) (h : Accs w x n V) (ho : Sl w ox on_ oc ol) (hon : on_ ≤ 140737488355328) :
    Calls Try.prog 91 #[.slice x n c, .slice ox on_ oc] w fun e w' => ∃ (y : Option Addr) (m cy : Nat) (d : List Nat), e = .returned (.slice y m cy) ∧ Hid (Vl w w' y m cy d ∧ m ≤ 140737488355328 ∧ Pk V n d) := by
  have HA : Hid (Accs w x n V) := h
  have HO : Hid (Sl w ox on_ oc ol ∧ on_ ≤ 140737488355328) := ⟨ho, hon⟩
  have hnz : (n : Int) ≤ 1000 := by have := h.small; omega
  clear h ho hon
  go_enter Try.func91, Try.ntmps91
  go_wp2_with fail
  go_loopw [5, 10, 6, 7] (fun hi i _ _ wr => ∃ k : Nat, k ≤ n ∧ i = .int .i64 k ∧ Hid (Below w.heap.size w wr) ∧ ((hi = .int .i64 (-1) ∧ Hid (∀ j, j < k → (V j).a = z0)) ∨ ∃ m : Nat, hi = .int .i64 m ∧ m < k ∧ Hid (Top V k m))) (fun _ i _ _ _ => n - (intOf i).toNat)
  case atStart => exact ⟨0, by omega, rfl, Below.refl _ _, .inl ⟨rfl, fun j hj => by omega⟩⟩
  case round =>
    obtain ⟨k, hk, rfl, HB, hhi⟩ := hrel
    by_cases hlt : k < n
    · have hkn : (k : Int) < (n : Int) := by omega
      have hA := HA.out.below HB.out
      obtain ⟨b, o, rfl, hb, hc⟩ := hA.row.resolve_left (by omega)
      obtain ⟨c0, c1, c2, c3, c4⟩ := hc k hlt
      have hN := fun W => none_any (V k).a W
      cases hz : zb (V k).a with
      | true =>
        rw [hz] at hN
        have HZ : Hid ((V k).a = z0) := (zb_iff _).1 hz
        clear hz hA hc hb HA HO
        dsimp only [bt] at hN
        generalize (V k).p.1 = p1 at *
        generalize (V k).p.2 = p2 at *
        generalize (V k).a.1 = a1 at *
        generalize (V k).a.2 = a2 at *
        generalize (V k).x = vx at *
        generalize (V k).n = vn at *
        generalize (V k).c = vc at *
        rcases hhi with ⟨rfl, HH⟩ | ⟨m, rfl, hm, HH⟩
        · go_wp2_with (first
            | (
               go_at_call 95; refine (hN _).mono ?_; rintro e w1 ⟨rfl, hb1⟩; clear hN
               have B1 := on (al _ _) hb1
               clear hb1))
          go_roundw
          case rel =>
            refine ⟨k + 1, by omega, by go_num, on HB.out B1, .inl ⟨rfl, fun j hj => ?_⟩⟩
            by_cases e : j = k
            · subst e
              exact HZ.out
            · exact HH.out j (by omega)
          case measure => simp [intOf]; omega
        · go_wp2_with (first
            | (
               go_at_call 95; refine (hN _).mono ?_; rintro e w1 ⟨rfl, hb1⟩; clear hN
               have B1 := on (al _ _) hb1
               clear hb1))
          go_roundw
          case rel => exact ⟨k + 1, by omega, by go_num, on HB.out B1, .inr ⟨m, rfl, by omega, HH.out.same (.inl HZ.out)⟩⟩
          case measure => simp [intOf]; omega
      | false =>
        rw [hz] at hN
        have HZ : Hid ((V k).a ≠ z0) := fun e => by rw [(zb_iff _).2 e] at hz; cases hz
        clear hz
        rcases hhi with ⟨rfl, HH⟩ | ⟨m, rfl, hm, HH⟩
        · clear hA hc hb HA HO
          dsimp only [bt] at hN
          generalize (V k).p.1 = p1 at *
          generalize (V k).p.2 = p2 at *
          generalize (V k).a.1 = a1 at *
          generalize (V k).a.2 = a2 at *
          generalize (V k).x = vx at *
          generalize (V k).n = vn at *
          generalize (V k).c = vc at *
          go_wp2_with (first
            | (
               go_at_call 95; refine (hN _).mono ?_; rintro e w1 ⟨rfl, hb1⟩; clear hN
               have B1 := on (al _ _) hb1
               clear hb1))
          refine wp_region_held_drew (S := fun v => True) (by kernel_rfl) trivial (fun hHeld => ?_)
          refine wpAnyH_take (i := 0) (v := ?_) rfl (by kernel_rfl) (by kernel_rfl) (by kernel_rfl) (fun _ _ _ h => h) (Or.inl ⟨by rfl, ?_⟩) (by assumption) ?_
          case refine_2 => (intro w hSw; (try dsimp only at hSw); go_simp; (try with_reducible rfl))
          (try simp only [Act.put, List.getElem_toArray, List.getElem_cons_succ, List.getElem_cons_zero, List.setIfInBounds_toArray, List.set_cons_zero, List.set_cons_succ])
          refine wpAnyH_take (i := 1) (v := ?_) rfl (by kernel_rfl) (by kernel_rfl) (by kernel_rfl) (fun _ _ _ h => h) (Or.inl ⟨by rfl, ?_⟩) (by assumption) ?_
          case refine_2 => (intro w hSw; (try dsimp only at hSw); go_simp; (try with_reducible rfl))
          (try simp only [Act.put, List.getElem_toArray, List.getElem_cons_succ, List.getElem_cons_zero, List.setIfInBounds_toArray, List.set_cons_zero, List.set_cons_succ])
          refine wpAnyH_take (i := 2) (v := ?_) rfl (by kernel_rfl) (by kernel_rfl) (by kernel_rfl) (fun _ _ _ h => h) (Or.inl ⟨by rfl, ?_⟩) (by assumption) ?_
          case refine_2 => (intro w hSw; (try dsimp only at hSw); go_simp; (try with_reducible rfl))
          (try simp only [Act.put, List.getElem_toArray, List.getElem_cons_succ, List.getElem_cons_zero, List.setIfInBounds_toArray, List.set_cons_zero, List.set_cons_succ])
          refine wpAnyH_take (i := 3) (v := undef) rfl (by kernel_rfl) (by kernel_rfl) (by kernel_rfl) (fun _ _ _ h => h) (Or.inr ⟨by rfl, rfl⟩) (by assumption) ?_
          (try simp only [Act.put, List.getElem_toArray, List.getElem_cons_succ, List.getElem_cons_zero, List.setIfInBounds_toArray, List.set_cons_zero, List.set_cons_succ])
          refine wpAnyH_take (i := 4) (v := undef) rfl (by kernel_rfl) (by kernel_rfl) (by kernel_rfl) (fun _ _ _ h => h) (Or.inr ⟨by rfl, rfl⟩) (by assumption) ?_
          (try simp only [Act.put, List.getElem_toArray, List.getElem_cons_succ, List.getElem_cons_zero, List.setIfInBounds_toArray, List.set_cons_zero, List.set_cons_succ])
          refine wpAnyH_take (i := 5) (v := undef) rfl (by kernel_rfl) (by kernel_rfl) (by kernel_rfl) (fun _ _ _ h => h) (Or.inr ⟨by rfl, rfl⟩) (by assumption) ?_
          (try simp only [Act.put, List.getElem_toArray, List.getElem_cons_succ, List.getElem_cons_zero, List.setIfInBounds_toArray, List.set_cons_zero, List.set_cons_succ])
          refine wpAnyH_take (i := 6) (v := undef) rfl (by kernel_rfl) (by kernel_rfl) (by kernel_rfl) (fun _ _ _ h => h) (Or.inr ⟨by rfl, rfl⟩) (by assumption) ?_
          (try simp only [Act.put, List.getElem_toArray, List.getElem_cons_succ, List.getElem_cons_zero, List.setIfInBounds_toArray, List.set_cons_zero, List.set_cons_succ])
          refine wpAnyH_take (i := 7) (v := undef) rfl (by kernel_rfl) (by kernel_rfl) (by kernel_rfl) (fun _ _ _ h => h) (Or.inr ⟨by rfl, rfl⟩) (by assumption) ?_
          (try simp only [Act.put, List.getElem_toArray, List.getElem_cons_succ, List.getElem_cons_zero, List.setIfInBounds_toArray, List.set_cons_zero, List.set_cons_succ])
          refine wpAnyH_take (i := 8) (v := undef) rfl (by kernel_rfl) (by kernel_rfl) (by kernel_rfl) (fun _ _ _ h => h) (Or.inr ⟨by rfl, rfl⟩) (by assumption) ?_
          (try simp only [Act.put, List.getElem_toArray, List.getElem_cons_succ, List.getElem_cons_zero, List.setIfInBounds_toArray, List.set_cons_zero, List.set_cons_succ])
          refine wpAnyH_take (i := 9) (v := undef) rfl (by kernel_rfl) (by kernel_rfl) (by kernel_rfl) (fun _ _ _ h => h) (Or.inr ⟨by rfl, rfl⟩) (by assumption) ?_
          (try simp only [Act.put, List.getElem_toArray, List.getElem_cons_succ, List.getElem_cons_zero, List.setIfInBounds_toArray, List.set_cons_zero, List.set_cons_succ])
          refine wpAnyH_take (i := 10) (v := undef) rfl (by kernel_rfl) (by kernel_rfl) (by kernel_rfl) (fun _ _ _ h => h) (Or.inr ⟨by rfl, rfl⟩) (by assumption) ?_
          (try simp only [Act.put, List.getElem_toArray, List.getElem_cons_succ, List.getElem_cons_zero, List.setIfInBounds_toArray, List.set_cons_zero, List.set_cons_succ])
          refine wpAnyH_take (i := 11) (v := ?_) rfl (by kernel_rfl) (by kernel_rfl) (by kernel_rfl) (fun _ _ _ h => h) (Or.inl ⟨by rfl, ?_⟩) (by assumption) ?_
          case refine_2 => (intro w hSw; (try dsimp only at hSw); go_simp; (try with_reducible rfl))
          (try simp only [Act.put, List.getElem_toArray, List.getElem_cons_succ, List.getElem_cons_zero, List.setIfInBounds_toArray, List.set_cons_zero, List.set_cons_succ])
          refine wpAnyH_done (by kernel_rfl) ?_ _
          go_wp2_with fail
          go_roundw
          case rel => exact ⟨k + 1, by omega, by go_num, on HB.out B1.drew, .inr ⟨k, rfl, by omega, Top.first HH.out HZ.out⟩⟩
          case measure => simp [intOf]; omega
        · have hmn : (m : Int) < (n : Int) := by omega
          have hm0 : ¬ (m : Int) < 0 := by omega
          obtain ⟨d0, d1, d2, d3, d4⟩ := hc m (by omega)
          have hL := fun W => less_any (V m).a (V k).a W
          have e0 : Hid (ltb (V m).a (V k).a = true ↔ lt (V m).a (V k).a) := ltb_iff _ _
          clear hA hc hb HA HO d0 d1 d4
          generalize ltb (V m).a (V k).a = t at *
          cases t with
          | true =>
            dsimp only [bt] at hN hL
            generalize (V k).p.1 = p1 at *
            generalize (V k).p.2 = p2 at *
            generalize (V m).a.1 = m1 at *
            generalize (V m).a.2 = m2 at *
            generalize (V k).a.1 = a1 at *
            generalize (V k).a.2 = a2 at *
            generalize (V k).x = vx at *
            generalize (V k).n = vn at *
            generalize (V k).c = vc at *
            go_wp2_with (first
              | (
                 go_at_call 95; refine (hN _).mono ?_; rintro e w1 ⟨rfl, hb1⟩; clear hN
                 have k0 := keep hb1 (b := wr.heap.size) (o := 0) (x := .int .i64 p1) (by first | assumption | go_simp)
                 have k1 := keep hb1 (b := wr.heap.size) (o := 1) (x := .int .i64 p2) (by first | assumption | go_simp)
                 have k2 := keep hb1 (b := wr.heap.size) (o := 2) (x := .int .i64 a1) (by first | assumption | go_simp)
                 have k3 := keep hb1 (b := wr.heap.size) (o := 3) (x := .int .i64 a2) (by first | assumption | go_simp)
                 have k4 := keep hb1 (b := wr.heap.size) (o := 4) (x := .slice vx vn vc) (by first | assumption | go_simp)
                 have B1 := on (al _ _) hb1
                 have q2 : w1.drew.cell? ⟨b, o + m * 5 + 2, none⟩ = some (.int .i64 m1) := keep B1.drew d2
                 have q3 : w1.drew.cell? ⟨b, o + m * 5 + 3, none⟩ = some (.int .i64 m2) := keep B1.drew d3
                 have j2 : w1.drew.cell? ⟨wr.heap.size, 2, none⟩ = some (.int .i64 a1) := k2
                 have j3 : w1.drew.cell? ⟨wr.heap.size, 3, none⟩ = some (.int .i64 a2) := k3
                 clear hb1 k0 k1 k2 k3 k4))
            clear c0 c1 c2 c3 c4 d2 d3
            refine wp_region_held_drew (S := fun v => v.cell? ⟨b, o + m * 5 + 2, none⟩ = some (.int .i64 m1) ∧ v.cell? ⟨b, o + m * 5 + 3, none⟩ = some (.int .i64 m2) ∧ v.cell? ⟨wr.heap.size, 2, none⟩ = some (.int .i64 a1) ∧ v.cell? ⟨wr.heap.size, 3, none⟩ = some (.int .i64 a2)) (by kernel_rfl) ⟨q2, q3, j2, j3⟩ (fun hHeld => ?_)
            have B2 : Below wr.heap.size wr w1.drew := B1.drew
            generalize w1.drew = wD at *
            refine wpAnyH_take (i := 0) (v := ?_) rfl (by kernel_rfl) (by kernel_rfl) (by kernel_rfl) (fun _ _ _ h => h) (Or.inl ⟨by rfl, ?_⟩) (by assumption) ?_
            case refine_2 => (intro w hSw; (try dsimp only at hSw); go_simp; (try with_reducible rfl))
            (try simp only [Act.put, List.getElem_toArray, List.getElem_cons_succ, List.getElem_cons_zero, List.setIfInBounds_toArray, List.set_cons_zero, List.set_cons_succ])
            refine wpAnyH_take (i := 1) (v := ?_) rfl (by kernel_rfl) (by kernel_rfl) (by kernel_rfl) (fun _ _ _ h => h) (Or.inl ⟨by rfl, ?_⟩) (by assumption) ?_
            case refine_2 => (intro w hSw; (try dsimp only at hSw); go_simp; (try with_reducible rfl))
            (try simp only [Act.put, List.getElem_toArray, List.getElem_cons_succ, List.getElem_cons_zero, List.setIfInBounds_toArray, List.set_cons_zero, List.set_cons_succ])
            refine wpAnyH_take (i := 2) (v := ?_) rfl (by kernel_rfl) (by kernel_rfl) (by kernel_rfl) (fun _ _ _ h => h) (Or.inl ⟨by rfl, ?_⟩) (by assumption) ?_
            case refine_2 => (intro w hSw; (try dsimp only at hSw); go_simp; (try with_reducible rfl))
            (try simp only [Act.put, List.getElem_toArray, List.getElem_cons_succ, List.getElem_cons_zero, List.setIfInBounds_toArray, List.set_cons_zero, List.set_cons_succ])
            refine wpAnyH_take (i := 3) (v := ?_) rfl (by kernel_rfl) (by kernel_rfl) (by kernel_rfl) (fun _ _ _ h => h) (Or.inl ⟨by rfl, ?_⟩) (by assumption) ?_
            case refine_2 => (intro w hSw; (try dsimp only at hSw); go_simp; (try with_reducible rfl))
            (try simp only [Act.put, List.getElem_toArray, List.getElem_cons_succ, List.getElem_cons_zero, List.setIfInBounds_toArray, List.set_cons_zero, List.set_cons_succ])
            refine wpAnyH_take (i := 4) (v := ?_) rfl (by kernel_rfl) (by kernel_rfl) (by kernel_rfl) (fun _ _ _ h => h) (Or.inl ⟨by rfl, ?_⟩) (by assumption) ?_
            case refine_2 => (intro w hSw; (try dsimp only at hSw); go_simp; (try with_reducible rfl))
            (try simp only [Act.put, List.getElem_toArray, List.getElem_cons_succ, List.getElem_cons_zero, List.setIfInBounds_toArray, List.set_cons_zero, List.set_cons_succ])
            refine wpAnyH_take (i := 5) (v := ?_) rfl (by kernel_rfl) (by kernel_rfl) (by kernel_rfl) (fun _ _ _ h => h) (Or.inl ⟨by rfl, ?_⟩) (by assumption) ?_
            case refine_2 => (intro w hSw; (try dsimp only at hSw); go_simp; (try with_reducible rfl))
            (try simp only [Act.put, List.getElem_toArray, List.getElem_cons_succ, List.getElem_cons_zero, List.setIfInBounds_toArray, List.set_cons_zero, List.set_cons_succ])
            refine wpAnyH_take (i := 6) (v := ?_) rfl (by kernel_rfl) (by kernel_rfl) (by kernel_rfl) (fun _ _ _ h => h) (Or.inl ⟨by rfl, ?_⟩) (by assumption) ?_
            case refine_2 => (intro w hSw; (try dsimp only at hSw); go_simp; (try with_reducible rfl))
            (try simp only [Act.put, List.getElem_toArray, List.getElem_cons_succ, List.getElem_cons_zero, List.setIfInBounds_toArray, List.set_cons_zero, List.set_cons_succ])
            refine wpAnyH_take (i := 7) (v := ?_) rfl (by kernel_rfl) (by kernel_rfl) (by kernel_rfl) (fun _ _ _ h => h) (Or.inl ⟨by rfl, ?_⟩) (by assumption) ?_
            case refine_2 => (intro w hSw; (try dsimp only at hSw); go_simp; (try with_reducible rfl))
            (try simp only [Act.put, List.getElem_toArray, List.getElem_cons_succ, List.getElem_cons_zero, List.setIfInBounds_toArray, List.set_cons_zero, List.set_cons_succ])
            refine wpAnyH_take (i := 8) (v := ?_) rfl (by kernel_rfl) (by kernel_rfl) (by kernel_rfl) (fun _ _ _ h => h) (Or.inl ⟨by rfl, ?_⟩) (by assumption) ?_
            case refine_2 => (intro w hSw; (try dsimp only at hSw); go_simp; (try with_reducible rfl))
            (try simp only [Act.put, List.getElem_toArray, List.getElem_cons_succ, List.getElem_cons_zero, List.setIfInBounds_toArray, List.set_cons_zero, List.set_cons_succ])
            refine wpAnyH_take (i := 9) (v := ?_) rfl (by kernel_rfl) (by kernel_rfl) (by kernel_rfl) (fun _ _ _ h => h) (Or.inl ⟨by rfl, ?_⟩) (by assumption) ?_
            case refine_2 => (intro w hSw; (try dsimp only at hSw); go_simp; (try with_reducible rfl))
            (try simp only [Act.put, List.getElem_toArray, List.getElem_cons_succ, List.getElem_cons_zero, List.setIfInBounds_toArray, List.set_cons_zero, List.set_cons_succ])
            refine wpAnyH_ready (rs := [10]) (by kernel_rfl) (by simp) ?_
            refine AllReadyH.cons rfl (fun K hK => ?_) AllReadyH.nil
            go_simp
            refine (hL _).mono ?_
            rintro e w2 ⟨rfl, hb2⟩
            have B3 := on B2 hb2
            refine hK.out _ _ ⟨keep hb2 q2, keep hb2 q3, keep hb2 j2, keep hb2 j3⟩ (fun hHeld => ?_)
            clear hK K
            refine wpAnyH_take (i := 11) (v := ?_) rfl (by kernel_rfl) (by kernel_rfl) (by kernel_rfl) (fun _ _ _ h => h) (Or.inl ⟨by rfl, ?_⟩) (by assumption) ?_
            case refine_2 => (intro w hSw; (try dsimp only at hSw); go_simp; (try with_reducible rfl))
            (try simp only [Act.put, List.getElem_toArray, List.getElem_cons_succ, List.getElem_cons_zero, List.setIfInBounds_toArray, List.set_cons_zero, List.set_cons_succ])
            refine wpAnyH_done (by kernel_rfl) ?_ _
            clear q2 q3 j2 j3 hb2
            go_wp2_with fail
            go_roundw
            case rel => exact ⟨k + 1, by omega, by go_num, on HB.out B3, .inr ⟨k, rfl, by omega, HH.out.more HZ.out (e0.out.1 (by simp))⟩⟩
            case measure => simp [intOf]; omega
          | false =>
            dsimp only [bt] at hN hL
            generalize (V k).p.1 = p1 at *
            generalize (V k).p.2 = p2 at *
            generalize (V m).a.1 = m1 at *
            generalize (V m).a.2 = m2 at *
            generalize (V k).a.1 = a1 at *
            generalize (V k).a.2 = a2 at *
            generalize (V k).x = vx at *
            generalize (V k).n = vn at *
            generalize (V k).c = vc at *
            go_wp2_with (first
              | (
                 go_at_call 95; refine (hN _).mono ?_; rintro e w1 ⟨rfl, hb1⟩; clear hN
                 have k0 := keep hb1 (b := wr.heap.size) (o := 0) (x := .int .i64 p1) (by first | assumption | go_simp)
                 have k1 := keep hb1 (b := wr.heap.size) (o := 1) (x := .int .i64 p2) (by first | assumption | go_simp)
                 have k2 := keep hb1 (b := wr.heap.size) (o := 2) (x := .int .i64 a1) (by first | assumption | go_simp)
                 have k3 := keep hb1 (b := wr.heap.size) (o := 3) (x := .int .i64 a2) (by first | assumption | go_simp)
                 have k4 := keep hb1 (b := wr.heap.size) (o := 4) (x := .slice vx vn vc) (by first | assumption | go_simp)
                 have B1 := on (al _ _) hb1
                 have q2 : w1.drew.cell? ⟨b, o + m * 5 + 2, none⟩ = some (.int .i64 m1) := keep B1.drew d2
                 have q3 : w1.drew.cell? ⟨b, o + m * 5 + 3, none⟩ = some (.int .i64 m2) := keep B1.drew d3
                 have j2 : w1.drew.cell? ⟨wr.heap.size, 2, none⟩ = some (.int .i64 a1) := k2
                 have j3 : w1.drew.cell? ⟨wr.heap.size, 3, none⟩ = some (.int .i64 a2) := k3
                 clear hb1 k0 k1 k2 k3 k4))
            clear c0 c1 c2 c3 c4 d2 d3
            refine wp_region_held_drew (S := fun v => v.cell? ⟨b, o + m * 5 + 2, none⟩ = some (.int .i64 m1) ∧ v.cell? ⟨b, o + m * 5 + 3, none⟩ = some (.int .i64 m2) ∧ v.cell? ⟨wr.heap.size, 2, none⟩ = some (.int .i64 a1) ∧ v.cell? ⟨wr.heap.size, 3, none⟩ = some (.int .i64 a2)) (by kernel_rfl) ⟨q2, q3, j2, j3⟩ (fun hHeld => ?_)
            have B2 : Below wr.heap.size wr w1.drew := B1.drew
            generalize w1.drew = wD at *
            refine wpAnyH_take (i := 0) (v := ?_) rfl (by kernel_rfl) (by kernel_rfl) (by kernel_rfl) (fun _ _ _ h => h) (Or.inl ⟨by rfl, ?_⟩) (by assumption) ?_
            case refine_2 => (intro w hSw; (try dsimp only at hSw); go_simp; (try with_reducible rfl))
            (try simp only [Act.put, List.getElem_toArray, List.getElem_cons_succ, List.getElem_cons_zero, List.setIfInBounds_toArray, List.set_cons_zero, List.set_cons_succ])
            refine wpAnyH_take (i := 1) (v := ?_) rfl (by kernel_rfl) (by kernel_rfl) (by kernel_rfl) (fun _ _ _ h => h) (Or.inl ⟨by rfl, ?_⟩) (by assumption) ?_
            case refine_2 => (intro w hSw; (try dsimp only at hSw); go_simp; (try with_reducible rfl))
            (try simp only [Act.put, List.getElem_toArray, List.getElem_cons_succ, List.getElem_cons_zero, List.setIfInBounds_toArray, List.set_cons_zero, List.set_cons_succ])
            refine wpAnyH_take (i := 2) (v := ?_) rfl (by kernel_rfl) (by kernel_rfl) (by kernel_rfl) (fun _ _ _ h => h) (Or.inl ⟨by rfl, ?_⟩) (by assumption) ?_
            case refine_2 => (intro w hSw; (try dsimp only at hSw); go_simp; (try with_reducible rfl))
            (try simp only [Act.put, List.getElem_toArray, List.getElem_cons_succ, List.getElem_cons_zero, List.setIfInBounds_toArray, List.set_cons_zero, List.set_cons_succ])
            refine wpAnyH_take (i := 3) (v := ?_) rfl (by kernel_rfl) (by kernel_rfl) (by kernel_rfl) (fun _ _ _ h => h) (Or.inl ⟨by rfl, ?_⟩) (by assumption) ?_
            case refine_2 => (intro w hSw; (try dsimp only at hSw); go_simp; (try with_reducible rfl))
            (try simp only [Act.put, List.getElem_toArray, List.getElem_cons_succ, List.getElem_cons_zero, List.setIfInBounds_toArray, List.set_cons_zero, List.set_cons_succ])
            refine wpAnyH_take (i := 4) (v := ?_) rfl (by kernel_rfl) (by kernel_rfl) (by kernel_rfl) (fun _ _ _ h => h) (Or.inl ⟨by rfl, ?_⟩) (by assumption) ?_
            case refine_2 => (intro w hSw; (try dsimp only at hSw); go_simp; (try with_reducible rfl))
            (try simp only [Act.put, List.getElem_toArray, List.getElem_cons_succ, List.getElem_cons_zero, List.setIfInBounds_toArray, List.set_cons_zero, List.set_cons_succ])
            refine wpAnyH_take (i := 5) (v := ?_) rfl (by kernel_rfl) (by kernel_rfl) (by kernel_rfl) (fun _ _ _ h => h) (Or.inl ⟨by rfl, ?_⟩) (by assumption) ?_
            case refine_2 => (intro w hSw; (try dsimp only at hSw); go_simp; (try with_reducible rfl))
            (try simp only [Act.put, List.getElem_toArray, List.getElem_cons_succ, List.getElem_cons_zero, List.setIfInBounds_toArray, List.set_cons_zero, List.set_cons_succ])
            refine wpAnyH_take (i := 6) (v := ?_) rfl (by kernel_rfl) (by kernel_rfl) (by kernel_rfl) (fun _ _ _ h => h) (Or.inl ⟨by rfl, ?_⟩) (by assumption) ?_
            case refine_2 => (intro w hSw; (try dsimp only at hSw); go_simp; (try with_reducible rfl))
            (try simp only [Act.put, List.getElem_toArray, List.getElem_cons_succ, List.getElem_cons_zero, List.setIfInBounds_toArray, List.set_cons_zero, List.set_cons_succ])
            refine wpAnyH_take (i := 7) (v := ?_) rfl (by kernel_rfl) (by kernel_rfl) (by kernel_rfl) (fun _ _ _ h => h) (Or.inl ⟨by rfl, ?_⟩) (by assumption) ?_
            case refine_2 => (intro w hSw; (try dsimp only at hSw); go_simp; (try with_reducible rfl))
            (try simp only [Act.put, List.getElem_toArray, List.getElem_cons_succ, List.getElem_cons_zero, List.setIfInBounds_toArray, List.set_cons_zero, List.set_cons_succ])
            refine wpAnyH_take (i := 8) (v := ?_) rfl (by kernel_rfl) (by kernel_rfl) (by kernel_rfl) (fun _ _ _ h => h) (Or.inl ⟨by rfl, ?_⟩) (by assumption) ?_
            case refine_2 => (intro w hSw; (try dsimp only at hSw); go_simp; (try with_reducible rfl))
            (try simp only [Act.put, List.getElem_toArray, List.getElem_cons_succ, List.getElem_cons_zero, List.setIfInBounds_toArray, List.set_cons_zero, List.set_cons_succ])
            refine wpAnyH_take (i := 9) (v := ?_) rfl (by kernel_rfl) (by kernel_rfl) (by kernel_rfl) (fun _ _ _ h => h) (Or.inl ⟨by rfl, ?_⟩) (by assumption) ?_
            case refine_2 => (intro w hSw; (try dsimp only at hSw); go_simp; (try with_reducible rfl))
            (try simp only [Act.put, List.getElem_toArray, List.getElem_cons_succ, List.getElem_cons_zero, List.setIfInBounds_toArray, List.set_cons_zero, List.set_cons_succ])
            refine wpAnyH_ready (rs := [10]) (by kernel_rfl) (by simp) ?_
            refine AllReadyH.cons rfl (fun K hK => ?_) AllReadyH.nil
            go_simp
            refine (hL _).mono ?_
            rintro e w2 ⟨rfl, hb2⟩
            have B3 := on B2 hb2
            refine hK.out _ _ ⟨keep hb2 q2, keep hb2 q3, keep hb2 j2, keep hb2 j3⟩ (fun hHeld => ?_)
            clear hK K
            refine wpAnyH_take (i := 11) (v := ?_) rfl (by kernel_rfl) (by kernel_rfl) (by kernel_rfl) (fun _ _ _ h => h) (Or.inl ⟨by rfl, ?_⟩) (by assumption) ?_
            case refine_2 => (intro w hSw; (try dsimp only at hSw); go_simp; (try with_reducible rfl))
            (try simp only [Act.put, List.getElem_toArray, List.getElem_cons_succ, List.getElem_cons_zero, List.setIfInBounds_toArray, List.set_cons_zero, List.set_cons_succ])
            refine wpAnyH_done (by kernel_rfl) ?_ _
            clear q2 q3 j2 j3 hb2
            go_wp2_with fail
            go_roundw
            case rel => exact ⟨k + 1, by omega, by go_num, on HB.out B3, .inr ⟨m, rfl, by omega, HH.out.same (.inr (fun hh => by have := e0.out.2 hh; cases this))⟩⟩
            case measure => simp [intOf]; omega
    · obtain rfl : k = n := by omega
      rcases hhi with ⟨rfl, HH⟩ | ⟨m, rfl, hm, HH⟩
      · have hC := clone_vl ox on_ oc ol wr (HO.out.1.below HB.out) HO.out.2
        go_wp2_with (first
          | (
             go_at_call 60; refine hC.mono ?_; rintro e w2 ⟨y, cy, rfl, H2⟩; clear hC))
        go_ret
        exact ⟨y, on_, cy, ol, rfl, ⟨on HB.out H2.out.1, H2.out.2.1, fun a ha => ⟨Nat.le_trans HB.out.size (H2.out.2.2 a ha).1, (H2.out.2.2 a ha).2⟩⟩, HO.out.2, .inl HH.out⟩
      · have hmn : (m : Int) < (k : Int) := by omega
        have hm0 : ¬ (m : Int) < 0 := by omega
        have hA := HA.out.below HB.out
        obtain ⟨b, o, rfl, hb, hc⟩ := hA.row.resolve_left (by omega)
        have c4 := (hc m (by omega)).2.2.2.2
        have hC := clone_vl (V m).x (V m).n (V m).c (V m).d wr (hA.val m hm).1 (hA.val m hm).2
        have HS : Hid ((V m).n ≤ 140737488355328) := (hA.val m hm).2
        clear hA hc hb
        go_wp2_with (first
          | (
             go_at_call 60; refine hC.mono ?_; rintro e w2 ⟨y, cy, rfl, H2⟩; clear hC))
        go_ret
        exact ⟨y, (V m).n, cy, (V m).d, rfl, ⟨on HB.out H2.out.1, H2.out.2.1, fun a ha => ⟨Nat.le_trans HB.out.size (H2.out.2.2 a ha).1, (H2.out.2.2 a ha).2⟩⟩, HS.out, .inr ⟨m, hm, rfl, HH.out⟩⟩

end Go.Proofs.Ytdbahebhodoooaa.Ba

/-
  Which value must be asked for: Pick, its own one where none was accepted.
  Conditions: the list lies in memory.
-/
namespace Go.Proofs.Ytdbahebhodoooaa.Px
open Go.RowKit By Fl Ba
set_option linter.unusedVariables false
set_option linter.unusedSimpArgs false
set_option maxRecDepth 100000

def PkS (V : Nat → AccV) (n : Nat) (ol d : List Nat) : Prop := ((∀ i, i < n → (V i).a = z0) ∧ d = ol) ∨ ∃ i, i < n ∧ d = (V i).d ∧ Top V n i

set_option maxHeartbeats 4000000 in
theorem pickS (x : Option Addr) (n c : Nat) (V : Nat → AccV) (ox : Option Addr) (on_ oc : Nat) (ol : List Nat) (w : World) (h : Accs w x n V) (ho : Fl.Sl w ox on_ oc ol) (hon : on_ ≤ 140737488355328) :
    Calls Try.prog 91 #[.slice x n c, .slice ox on_ oc] w fun e w' => ∃ (y : Option Addr) (m cy : Nat) (d : List Nat), e = .returned (.slice y m cy) ∧ Hid (Vl w w' y m cy d ∧ m ≤ 140737488355328 ∧ PkS V n ol d) := by
  have HA : Hid (Accs w x n V) := h
  have HO : Hid (Fl.Sl w ox on_ oc ol ∧ on_ ≤ 140737488355328) := ⟨ho, hon⟩
  have hnz : (n : Int) ≤ 1000 := by have := h.small; omega
  clear h ho hon
  go_enter Try.func91, Try.ntmps91
  go_wp2_with fail
  go_loopw [5, 10, 6, 7] (fun hi i _ _ wr => ∃ k : Nat, k ≤ n ∧ i = .int .i64 k ∧ Hid (Below w.heap.size w wr) ∧ ((hi = .int .i64 (-1) ∧ Hid (∀ j, j < k → (V j).a = z0)) ∨ ∃ m : Nat, hi = .int .i64 m ∧ m < k ∧ Hid (Top V k m))) (fun _ i _ _ _ => n - (intOf i).toNat)
  case atStart => exact ⟨0, by omega, rfl, Below.refl _ _, .inl ⟨rfl, fun j hj => by omega⟩⟩
  case round =>
    obtain ⟨k, hk, rfl, HB, hhi⟩ := hrel
    by_cases hlt : k < n
    · have hkn : (k : Int) < (n : Int) := by omega
      have hA := HA.out.below HB.out
      obtain ⟨b, o, rfl, hb, hc⟩ := hA.row.resolve_left (by omega)
      obtain ⟨c0, c1, c2, c3, c4⟩ := hc k hlt
      have hN := fun W => none_any (V k).a W
      cases hz : zb (V k).a with
      | true =>
        rw [hz] at hN
        have HZ : Hid ((V k).a = z0) := (zb_iff _).1 hz
        clear hz hA hc hb HA HO
        dsimp only [bt] at hN
        generalize (V k).p.1 = p1 at *
        generalize (V k).p.2 = p2 at *
        generalize (V k).a.1 = a1 at *
        generalize (V k).a.2 = a2 at *
        generalize (V k).x = vx at *
        generalize (V k).n = vn at *
        generalize (V k).c = vc at *
        rcases hhi with ⟨rfl, HH⟩ | ⟨m, rfl, hm, HH⟩
        · go_wp2_with (first
            | (
               go_at_call 95; refine (hN _).mono ?_; rintro e w1 ⟨rfl, hb1⟩; clear hN
               have B1 := on (al _ _) hb1
               clear hb1))
          go_roundw
          case rel =>
            refine ⟨k + 1, by omega, by go_num, on HB.out B1, .inl ⟨rfl, fun j hj => ?_⟩⟩
            by_cases e : j = k
            · subst e
              exact HZ.out
            · exact HH.out j (by omega)
          case measure => simp [intOf]; omega
        · go_wp2_with (first
            | (
               go_at_call 95; refine (hN _).mono ?_; rintro e w1 ⟨rfl, hb1⟩; clear hN
               have B1 := on (al _ _) hb1
               clear hb1))
          go_roundw
          case rel => exact ⟨k + 1, by omega, by go_num, on HB.out B1, .inr ⟨m, rfl, by omega, HH.out.same (.inl HZ.out)⟩⟩
          case measure => simp [intOf]; omega
      | false =>
        rw [hz] at hN
        have HZ : Hid ((V k).a ≠ z0) := fun e => by rw [(zb_iff _).2 e] at hz; cases hz
        clear hz
        rcases hhi with ⟨rfl, HH⟩ | ⟨m, rfl, hm, HH⟩
        · clear hA hc hb HA HO
          dsimp only [bt] at hN
          generalize (V k).p.1 = p1 at *
          generalize (V k).p.2 = p2 at *
          generalize (V k).a.1 = a1 at *
          generalize (V k).a.2 = a2 at *
          generalize (V k).x = vx at *
          generalize (V k).n = vn at *
          generalize (V k).c = vc at *
          go_wp2_with (first
            | (
               go_at_call 95; refine (hN _).mono ?_; rintro e w1 ⟨rfl, hb1⟩; clear hN
               have B1 := on (al _ _) hb1
               clear hb1))
          refine wp_region_held_drew (S := fun v => True) (by kernel_rfl) trivial (fun hHeld => ?_)
          refine wpAnyH_take (i := 0) (v := ?_) rfl (by kernel_rfl) (by kernel_rfl) (by kernel_rfl) (fun _ _ _ h => h) (Or.inl ⟨by rfl, ?_⟩) (by assumption) ?_
          case refine_2 => (intro w hSw; (try dsimp only at hSw); go_simp; (try with_reducible rfl))
          (try simp only [Act.put, List.getElem_toArray, List.getElem_cons_succ, List.getElem_cons_zero, List.setIfInBounds_toArray, List.set_cons_zero, List.set_cons_succ])
          refine wpAnyH_take (i := 1) (v := ?_) rfl (by kernel_rfl) (by kernel_rfl) (by kernel_rfl) (fun _ _ _ h => h) (Or.inl ⟨by rfl, ?_⟩) (by assumption) ?_
          case refine_2 => (intro w hSw; (try dsimp only at hSw); go_simp; (try with_reducible rfl))
          (try simp only [Act.put, List.getElem_toArray, List.getElem_cons_succ, List.getElem_cons_zero, List.setIfInBounds_toArray, List.set_cons_zero, List.set_cons_succ])
          refine wpAnyH_take (i := 2) (v := ?_) rfl (by kernel_rfl) (by kernel_rfl) (by kernel_rfl) (fun _ _ _ h => h) (Or.inl ⟨by rfl, ?_⟩) (by assumption) ?_
          case refine_2 => (intro w hSw; (try dsimp only at hSw); go_simp; (try with_reducible rfl))
          (try simp only [Act.put, List.getElem_toArray, List.getElem_cons_succ, List.getElem_cons_zero, List.setIfInBounds_toArray, List.set_cons_zero, List.set_cons_succ])
          refine wpAnyH_take (i := 3) (v := undef) rfl (by kernel_rfl) (by kernel_rfl) (by kernel_rfl) (fun _ _ _ h => h) (Or.inr ⟨by rfl, rfl⟩) (by assumption) ?_
          (try simp only [Act.put, List.getElem_toArray, List.getElem_cons_succ, List.getElem_cons_zero, List.setIfInBounds_toArray, List.set_cons_zero, List.set_cons_succ])
          refine wpAnyH_take (i := 4) (v := undef) rfl (by kernel_rfl) (by kernel_rfl) (by kernel_rfl) (fun _ _ _ h => h) (Or.inr ⟨by rfl, rfl⟩) (by assumption) ?_
          (try simp only [Act.put, List.getElem_toArray, List.getElem_cons_succ, List.getElem_cons_zero, List.setIfInBounds_toArray, List.set_cons_zero, List.set_cons_succ])
          refine wpAnyH_take (i := 5) (v := undef) rfl (by kernel_rfl) (by kernel_rfl) (by kernel_rfl) (fun _ _ _ h => h) (Or.inr ⟨by rfl, rfl⟩) (by assumption) ?_
          (try simp only [Act.put, List.getElem_toArray, List.getElem_cons_succ, List.getElem_cons_zero, List.setIfInBounds_toArray, List.set_cons_zero, List.set_cons_succ])
          refine wpAnyH_take (i := 6) (v := undef) rfl (by kernel_rfl) (by kernel_rfl) (by kernel_rfl) (fun _ _ _ h => h) (Or.inr ⟨by rfl, rfl⟩) (by assumption) ?_
          (try simp only [Act.put, List.getElem_toArray, List.getElem_cons_succ, List.getElem_cons_zero, List.setIfInBounds_toArray, List.set_cons_zero, List.set_cons_succ])
          refine wpAnyH_take (i := 7) (v := undef) rfl (by kernel_rfl) (by kernel_rfl) (by kernel_rfl) (fun _ _ _ h => h) (Or.inr ⟨by rfl, rfl⟩) (by assumption) ?_
          (try simp only [Act.put, List.getElem_toArray, List.getElem_cons_succ, List.getElem_cons_zero, List.setIfInBounds_toArray, List.set_cons_zero, List.set_cons_succ])
          refine wpAnyH_take (i := 8) (v := undef) rfl (by kernel_rfl) (by kernel_rfl) (by kernel_rfl) (fun _ _ _ h => h) (Or.inr ⟨by rfl, rfl⟩) (by assumption) ?_
          (try simp only [Act.put, List.getElem_toArray, List.getElem_cons_succ, List.getElem_cons_zero, List.setIfInBounds_toArray, List.set_cons_zero, List.set_cons_succ])
          refine wpAnyH_take (i := 9) (v := undef) rfl (by kernel_rfl) (by kernel_rfl) (by kernel_rfl) (fun _ _ _ h => h) (Or.inr ⟨by rfl, rfl⟩) (by assumption) ?_
          (try simp only [Act.put, List.getElem_toArray, List.getElem_cons_succ, List.getElem_cons_zero, List.setIfInBounds_toArray, List.set_cons_zero, List.set_cons_succ])
          refine wpAnyH_take (i := 10) (v := undef) rfl (by kernel_rfl) (by kernel_rfl) (by kernel_rfl) (fun _ _ _ h => h) (Or.inr ⟨by rfl, rfl⟩) (by assumption) ?_
          (try simp only [Act.put, List.getElem_toArray, List.getElem_cons_succ, List.getElem_cons_zero, List.setIfInBounds_toArray, List.set_cons_zero, List.set_cons_succ])
          refine wpAnyH_take (i := 11) (v := ?_) rfl (by kernel_rfl) (by kernel_rfl) (by kernel_rfl) (fun _ _ _ h => h) (Or.inl ⟨by rfl, ?_⟩) (by assumption) ?_
          case refine_2 => (intro w hSw; (try dsimp only at hSw); go_simp; (try with_reducible rfl))
          (try simp only [Act.put, List.getElem_toArray, List.getElem_cons_succ, List.getElem_cons_zero, List.setIfInBounds_toArray, List.set_cons_zero, List.set_cons_succ])
          refine wpAnyH_done (by kernel_rfl) ?_ _
          go_wp2_with fail
          go_roundw
          case rel => exact ⟨k + 1, by omega, by go_num, on HB.out B1.drew, .inr ⟨k, rfl, by omega, Top.first HH.out HZ.out⟩⟩
          case measure => simp [intOf]; omega
        · have hmn : (m : Int) < (n : Int) := by omega
          have hm0 : ¬ (m : Int) < 0 := by omega
          obtain ⟨d0, d1, d2, d3, d4⟩ := hc m (by omega)
          have hL := fun W => less_any (V m).a (V k).a W
          have e0 : Hid (ltb (V m).a (V k).a = true ↔ lt (V m).a (V k).a) := ltb_iff _ _
          clear hA hc hb HA HO d0 d1 d4
          generalize ltb (V m).a (V k).a = t at *
          cases t with
          | true =>
            dsimp only [bt] at hN hL
            generalize (V k).p.1 = p1 at *
            generalize (V k).p.2 = p2 at *
            generalize (V m).a.1 = m1 at *
            generalize (V m).a.2 = m2 at *
            generalize (V k).a.1 = a1 at *
            generalize (V k).a.2 = a2 at *
            generalize (V k).x = vx at *
            generalize (V k).n = vn at *
            generalize (V k).c = vc at *
            go_wp2_with (first
              | (
                 go_at_call 95; refine (hN _).mono ?_; rintro e w1 ⟨rfl, hb1⟩; clear hN
                 have k0 := keep hb1 (b := wr.heap.size) (o := 0) (x := .int .i64 p1) (by first | assumption | go_simp)
                 have k1 := keep hb1 (b := wr.heap.size) (o := 1) (x := .int .i64 p2) (by first | assumption | go_simp)
                 have k2 := keep hb1 (b := wr.heap.size) (o := 2) (x := .int .i64 a1) (by first | assumption | go_simp)
                 have k3 := keep hb1 (b := wr.heap.size) (o := 3) (x := .int .i64 a2) (by first | assumption | go_simp)
                 have k4 := keep hb1 (b := wr.heap.size) (o := 4) (x := .slice vx vn vc) (by first | assumption | go_simp)
                 have B1 := on (al _ _) hb1
                 have q2 : w1.drew.cell? ⟨b, o + m * 5 + 2, none⟩ = some (.int .i64 m1) := keep B1.drew d2
                 have q3 : w1.drew.cell? ⟨b, o + m * 5 + 3, none⟩ = some (.int .i64 m2) := keep B1.drew d3
                 have j2 : w1.drew.cell? ⟨wr.heap.size, 2, none⟩ = some (.int .i64 a1) := k2
                 have j3 : w1.drew.cell? ⟨wr.heap.size, 3, none⟩ = some (.int .i64 a2) := k3
                 clear hb1 k0 k1 k2 k3 k4))
            clear c0 c1 c2 c3 c4 d2 d3
            refine wp_region_held_drew (S := fun v => v.cell? ⟨b, o + m * 5 + 2, none⟩ = some (.int .i64 m1) ∧ v.cell? ⟨b, o + m * 5 + 3, none⟩ = some (.int .i64 m2) ∧ v.cell? ⟨wr.heap.size, 2, none⟩ = some (.int .i64 a1) ∧ v.cell? ⟨wr.heap.size, 3, none⟩ = some (.int .i64 a2)) (by kernel_rfl) ⟨q2, q3, j2, j3⟩ (fun hHeld => ?_)
            have B2 : Below wr.heap.size wr w1.drew := B1.drew
            generalize w1.drew = wD at *
            refine wpAnyH_take (i := 0) (v := ?_) rfl (by kernel_rfl) (by kernel_rfl) (by kernel_rfl) (fun _ _ _ h => h) (Or.inl ⟨by rfl, ?_⟩) (by assumption) ?_
            case refine_2 => (intro w hSw; (try dsimp only at hSw); go_simp; (try with_reducible rfl))
            (try simp only [Act.put, List.getElem_toArray, List.getElem_cons_succ, List.getElem_cons_zero, List.setIfInBounds_toArray, List.set_cons_zero, List.set_cons_succ])
            refine wpAnyH_take (i := 1) (v := ?_) rfl (by kernel_rfl) (by kernel_rfl) (by kernel_rfl) (fun _ _ _ h => h) (Or.inl ⟨by rfl, ?_⟩) (by assumption) ?_
            case refine_2 => (intro w hSw; (try dsimp only at hSw); go_simp; (try with_reducible rfl))
            (try simp only [Act.put, List.getElem_toArray, List.getElem_cons_succ, List.getElem_cons_zero, List.setIfInBounds_toArray, List.set_cons_zero, List.set_cons_succ])
            refine wpAnyH_take (i := 2) (v := ?_) rfl (by kernel_rfl) (by kernel_rfl) (by kernel_rfl) (fun _ _ _ h => h) (Or.inl ⟨by rfl, ?_⟩) (by assumption) ?_
            case refine_2 => (intro w hSw; (try dsimp only at hSw); go_simp; (try with_reducible rfl))
            (try simp only [Act.put, List.getElem_toArray, List.getElem_cons_succ, List.getElem_cons_zero, List.setIfInBounds_toArray, List.set_cons_zero, List.set_cons_succ])
            refine wpAnyH_take (i := 3) (v := ?_) rfl (by kernel_rfl) (by kernel_rfl) (by kernel_rfl) (fun _ _ _ h => h) (Or.inl ⟨by rfl, ?_⟩) (by assumption) ?_
            case refine_2 => (intro w hSw; (try dsimp only at hSw); go_simp; (try with_reducible rfl))
            (try simp only [Act.put, List.getElem_toArray, List.getElem_cons_succ, List.getElem_cons_zero, List.setIfInBounds_toArray, List.set_cons_zero, List.set_cons_succ])
            refine wpAnyH_take (i := 4) (v := ?_) rfl (by kernel_rfl) (by kernel_rfl) (by kernel_rfl) (fun _ _ _ h => h) (Or.inl ⟨by rfl, ?_⟩) (by assumption) ?_
            case refine_2 => (intro w hSw; (try dsimp only at hSw); go_simp; (try with_reducible rfl))
            (try simp only [Act.put, List.getElem_toArray, List.getElem_cons_succ, List.getElem_cons_zero, List.setIfInBounds_toArray, List.set_cons_zero, List.set_cons_succ])
            refine wpAnyH_take (i := 5) (v := ?_) rfl (by kernel_rfl) (by kernel_rfl) (by kernel_rfl) (fun _ _ _ h => h) (Or.inl ⟨by rfl, ?_⟩) (by assumption) ?_
            case refine_2 => (intro w hSw; (try dsimp only at hSw); go_simp; (try with_reducible rfl))
            (try simp only [Act.put, List.getElem_toArray, List.getElem_cons_succ, List.getElem_cons_zero, List.setIfInBounds_toArray, List.set_cons_zero, List.set_cons_succ])
            refine wpAnyH_take (i := 6) (v := ?_) rfl (by kernel_rfl) (by kernel_rfl) (by kernel_rfl) (fun _ _ _ h => h) (Or.inl ⟨by rfl, ?_⟩) (by assumption) ?_
            case refine_2 => (intro w hSw; (try dsimp only at hSw); go_simp; (try with_reducible rfl))
            (try simp only [Act.put, List.getElem_toArray, List.getElem_cons_succ, List.getElem_cons_zero, List.setIfInBounds_toArray, List.set_cons_zero, List.set_cons_succ])
            refine wpAnyH_take (i := 7) (v := ?_) rfl (by kernel_rfl) (by kernel_rfl) (by kernel_rfl) (fun _ _ _ h => h) (Or.inl ⟨by rfl, ?_⟩) (by assumption) ?_
            case refine_2 => (intro w hSw; (try dsimp only at hSw); go_simp; (try with_reducible rfl))
            (try simp only [Act.put, List.getElem_toArray, List.getElem_cons_succ, List.getElem_cons_zero, List.setIfInBounds_toArray, List.set_cons_zero, List.set_cons_succ])
            refine wpAnyH_take (i := 8) (v := ?_) rfl (by kernel_rfl) (by kernel_rfl) (by kernel_rfl) (fun _ _ _ h => h) (Or.inl ⟨by rfl, ?_⟩) (by assumption) ?_
            case refine_2 => (intro w hSw; (try dsimp only at hSw); go_simp; (try with_reducible rfl))
            (try simp only [Act.put, List.getElem_toArray, List.getElem_cons_succ, List.getElem_cons_zero, List.setIfInBounds_toArray, List.set_cons_zero, List.set_cons_succ])
            refine wpAnyH_take (i := 9) (v := ?_) rfl (by kernel_rfl) (by kernel_rfl) (by kernel_rfl) (fun _ _ _ h => h) (Or.inl ⟨by rfl, ?_⟩) (by assumption) ?_
            case refine_2 => (intro w hSw; (try dsimp only at hSw); go_simp; (try with_reducible rfl))
            (try simp only [Act.put, List.getElem_toArray, List.getElem_cons_succ, List.getElem_cons_zero, List.setIfInBounds_toArray, List.set_cons_zero, List.set_cons_succ])
            refine wpAnyH_ready (rs := [10]) (by kernel_rfl) (by simp) ?_
            refine AllReadyH.cons rfl (fun K hK => ?_) AllReadyH.nil
            go_simp
            refine (hL _).mono ?_
            rintro e w2 ⟨rfl, hb2⟩
            have B3 := on B2 hb2
            refine hK.out _ _ ⟨keep hb2 q2, keep hb2 q3, keep hb2 j2, keep hb2 j3⟩ (fun hHeld => ?_)
            clear hK K
            refine wpAnyH_take (i := 11) (v := ?_) rfl (by kernel_rfl) (by kernel_rfl) (by kernel_rfl) (fun _ _ _ h => h) (Or.inl ⟨by rfl, ?_⟩) (by assumption) ?_
            case refine_2 => (intro w hSw; (try dsimp only at hSw); go_simp; (try with_reducible rfl))
            (try simp only [Act.put, List.getElem_toArray, List.getElem_cons_succ, List.getElem_cons_zero, List.setIfInBounds_toArray, List.set_cons_zero, List.set_cons_succ])
            refine wpAnyH_done (by kernel_rfl) ?_ _
            clear q2 q3 j2 j3 hb2
            go_wp2_with fail
            go_roundw
            case rel => exact ⟨k + 1, by omega, by go_num, on HB.out B3, .inr ⟨k, rfl, by omega, HH.out.more HZ.out (e0.out.1 (by simp))⟩⟩
            case measure => simp [intOf]; omega
          | false =>
            dsimp only [bt] at hN hL
            generalize (V k).p.1 = p1 at *
            generalize (V k).p.2 = p2 at *
            generalize (V m).a.1 = m1 at *
            generalize (V m).a.2 = m2 at *
            generalize (V k).a.1 = a1 at *
            generalize (V k).a.2 = a2 at *
            generalize (V k).x = vx at *
            generalize (V k).n = vn at *
            generalize (V k).c = vc at *
            go_wp2_with (first
              | (
                 go_at_call 95; refine (hN _).mono ?_; rintro e w1 ⟨rfl, hb1⟩; clear hN
                 have k0 := keep hb1 (b := wr.heap.size) (o := 0) (x := .int .i64 p1) (by first | assumption | go_simp)
                 have k1 := keep hb1 (b := wr.heap.size) (o := 1) (x := .int .i64 p2) (by first | assumption | go_simp)
                 have k2 := keep hb1 (b := wr.heap.size) (o := 2) (x := .int .i64 a1) (by first | assumption | go_simp)
                 have k3 := keep hb1 (b := wr.heap.size) (o := 3) (x := .int .i64 a2) (by first | assumption | go_simp)
                 have k4 := keep hb1 (b := wr.heap.size) (o := 4) (x := .slice vx vn vc) (by first | assumption | go_simp)
                 have B1 := on (al _ _) hb1
                 have q2 : w1.drew.cell? ⟨b, o + m * 5 + 2, none⟩ = some (.int .i64 m1) := keep B1.drew d2
                 have q3 : w1.drew.cell? ⟨b, o + m * 5 + 3, none⟩ = some (.int .i64 m2) := keep B1.drew d3
                 have j2 : w1.drew.cell? ⟨wr.heap.size, 2, none⟩ = some (.int .i64 a1) := k2
                 have j3 : w1.drew.cell? ⟨wr.heap.size, 3, none⟩ = some (.int .i64 a2) := k3
                 clear hb1 k0 k1 k2 k3 k4))
            clear c0 c1 c2 c3 c4 d2 d3
            refine wp_region_held_drew (S := fun v => v.cell? ⟨b, o + m * 5 + 2, none⟩ = some (.int .i64 m1) ∧ v.cell? ⟨b, o + m * 5 + 3, none⟩ = some (.int .i64 m2) ∧ v.cell? ⟨wr.heap.size, 2, none⟩ = some (.int .i64 a1) ∧ v.cell? ⟨wr.heap.size, 3, none⟩ = some (.int .i64 a2)) (by kernel_rfl) ⟨q2, q3, j2, j3⟩ (fun hHeld => ?_)
            have B2 : Below wr.heap.size wr w1.drew := B1.drew
            generalize w1.drew = wD at *
            refine wpAnyH_take (i := 0) (v := ?_) rfl (by kernel_rfl) (by kernel_rfl) (by kernel_rfl) (fun _ _ _ h => h) (Or.inl ⟨by rfl, ?_⟩) (by assumption) ?_
            case refine_2 => (intro w hSw; (try dsimp only at hSw); go_simp; (try with_reducible rfl))
            (try simp only [Act.put, List.getElem_toArray, List.getElem_cons_succ, List.getElem_cons_zero, List.setIfInBounds_toArray, List.set_cons_zero, List.set_cons_succ])
            refine wpAnyH_take (i := 1) (v := ?_) rfl (by kernel_rfl) (by kernel_rfl) (by kernel_rfl) (fun _ _ _ h => h) (Or.inl ⟨by rfl, ?_⟩) (by assumption) ?_
            case refine_2 => (intro w hSw; (try dsimp only at hSw); go_simp; (try with_reducible rfl))
            (try simp only [Act.put, List.getElem_toArray, List.getElem_cons_succ, List.getElem_cons_zero, List.setIfInBounds_toArray, List.set_cons_zero, List.set_cons_succ])
            refine wpAnyH_take (i := 2) (v := ?_) rfl (by kernel_rfl) (by kernel_rfl) (by kernel_rfl) (fun _ _ _ h => h) (Or.inl ⟨by rfl, ?_⟩) (by assumption) ?_
            case refine_2 => (intro w hSw; (try dsimp only at hSw); go_simp; (try with_reducible rfl))
            (try simp only [Act.put, List.getElem_toArray, List.getElem_cons_succ, List.getElem_cons_zero, List.setIfInBounds_toArray, List.set_cons_zero, List.set_cons_succ])
            refine wpAnyH_take (i := 3) (v := ?_) rfl (by kernel_rfl) (by kernel_rfl) (by kernel_rfl) (fun _ _ _ h => h) (Or.inl ⟨by rfl, ?_⟩) (by assumption) ?_
            case refine_2 => (intro w hSw; (try dsimp only at hSw); go_simp; (try with_reducible rfl))
            (try simp only [Act.put, List.getElem_toArray, List.getElem_cons_succ, List.getElem_cons_zero, List.setIfInBounds_toArray, List.set_cons_zero, List.set_cons_succ])
            refine wpAnyH_take (i := 4) (v := ?_) rfl (by kernel_rfl) (by kernel_rfl) (by kernel_rfl) (fun _ _ _ h => h) (Or.inl ⟨by rfl, ?_⟩) (by assumption) ?_
            case refine_2 => (intro w hSw; (try dsimp only at hSw); go_simp; (try with_reducible rfl))
            (try simp only [Act.put, List.getElem_toArray, List.getElem_cons_succ, List.getElem_cons_zero, List.setIfInBounds_toArray, List.set_cons_zero, List.set_cons_succ])
            refine wpAnyH_take (i := 5) (v := ?_) rfl (by kernel_rfl) (by kernel_rfl) (by kernel_rfl) (fun _ _ _ h => h) (Or.inl ⟨by rfl, ?_⟩) (by assumption) ?_
            case refine_2 => (intro w hSw; (try dsimp only at hSw); go_simp; (try with_reducible rfl))
            (try simp only [Act.put, List.getElem_toArray, List.getElem_cons_succ, List.getElem_cons_zero, List.setIfInBounds_toArray, List.set_cons_zero, List.set_cons_succ])
            refine wpAnyH_take (i := 6) (v := ?_) rfl (by kernel_rfl) (by kernel_rfl) (by kernel_rfl) (fun _ _ _ h => h) (Or.inl ⟨by rfl, ?_⟩) (by assumption) ?_
            case refine_2 => (intro w hSw; (try dsimp only at hSw); go_simp; (try with_reducible rfl))
            (try simp only [Act.put, List.getElem_toArray, List.getElem_cons_succ, List.getElem_cons_zero, List.setIfInBounds_toArray, List.set_cons_zero, List.set_cons_succ])
            refine wpAnyH_take (i := 7) (v := ?_) rfl (by kernel_rfl) (by kernel_rfl) (by kernel_rfl) (fun _ _ _ h => h) (Or.inl ⟨by rfl, ?_⟩) (by assumption) ?_
            case refine_2 => (intro w hSw; (try dsimp only at hSw); go_simp; (try with_reducible rfl))
            (try simp only [Act.put, List.getElem_toArray, List.getElem_cons_succ, List.getElem_cons_zero, List.setIfInBounds_toArray, List.set_cons_zero, List.set_cons_succ])
            refine wpAnyH_take (i := 8) (v := ?_) rfl (by kernel_rfl) (by kernel_rfl) (by kernel_rfl) (fun _ _ _ h => h) (Or.inl ⟨by rfl, ?_⟩) (by assumption) ?_
            case refine_2 => (intro w hSw; (try dsimp only at hSw); go_simp; (try with_reducible rfl))
            (try simp only [Act.put, List.getElem_toArray, List.getElem_cons_succ, List.getElem_cons_zero, List.setIfInBounds_toArray, List.set_cons_zero, List.set_cons_succ])
            refine wpAnyH_take (i := 9) (v := ?_) rfl (by kernel_rfl) (by kernel_rfl) (by kernel_rfl) (fun _ _ _ h => h) (Or.inl ⟨by rfl, ?_⟩) (by assumption) ?_
            case refine_2 => (intro w hSw; (try dsimp only at hSw); go_simp; (try with_reducible rfl))
            (try simp only [Act.put, List.getElem_toArray, List.getElem_cons_succ, List.getElem_cons_zero, List.setIfInBounds_toArray, List.set_cons_zero, List.set_cons_succ])
            refine wpAnyH_ready (rs := [10]) (by kernel_rfl) (by simp) ?_
            refine AllReadyH.cons rfl (fun K hK => ?_) AllReadyH.nil
            go_simp
            refine (hL _).mono ?_
            rintro e w2 ⟨rfl, hb2⟩
            have B3 := on B2 hb2
            refine hK.out _ _ ⟨keep hb2 q2, keep hb2 q3, keep hb2 j2, keep hb2 j3⟩ (fun hHeld => ?_)
            clear hK K
            refine wpAnyH_take (i := 11) (v := ?_) rfl (by kernel_rfl) (by kernel_rfl) (by kernel_rfl) (fun _ _ _ h => h) (Or.inl ⟨by rfl, ?_⟩) (by assumption) ?_
            case refine_2 => (intro w hSw; (try dsimp only at hSw); go_simp; (try with_reducible rfl))
            (try simp only [Act.put, List.getElem_toArray, List.getElem_cons_succ, List.getElem_cons_zero, List.setIfInBounds_toArray, List.set_cons_zero, List.set_cons_succ])
            refine wpAnyH_done (by kernel_rfl) ?_ _
            clear q2 q3 j2 j3 hb2
            go_wp2_with fail
            go_roundw
            case rel => exact ⟨k + 1, by omega, by go_num, on HB.out B3, .inr ⟨m, rfl, by omega, HH.out.same (.inr (fun hh => by have := e0.out.2 hh; cases this))⟩⟩
            case measure => simp [intOf]; omega
    · obtain rfl : k = n := by omega
      rcases hhi with ⟨rfl, HH⟩ | ⟨m, rfl, hm, HH⟩
      · have hC := clone_vl ox on_ oc ol wr (HO.out.1.below HB.out) HO.out.2
        go_wp2_with (first
          | (
             go_at_call 60; refine hC.mono ?_; rintro e w2 ⟨y, cy, rfl, H2⟩; clear hC))
        go_ret
        exact ⟨y, on_, cy, ol, rfl, ⟨on HB.out H2.out.1, H2.out.2.1, fun a ha => ⟨Nat.le_trans HB.out.size (H2.out.2.2 a ha).1, (H2.out.2.2 a ha).2⟩⟩, HO.out.2, .inl ⟨HH.out, rfl⟩⟩
      · have hmn : (m : Int) < (k : Int) := by omega
        have hm0 : ¬ (m : Int) < 0 := by omega
        have hA := HA.out.below HB.out
        obtain ⟨b, o, rfl, hb, hc⟩ := hA.row.resolve_left (by omega)
        have c4 := (hc m (by omega)).2.2.2.2
        have hC := clone_vl (V m).x (V m).n (V m).c (V m).d wr (hA.val m hm).1 (hA.val m hm).2
        have HS : Hid ((V m).n ≤ 140737488355328) := (hA.val m hm).2
        clear hA hc hb
        go_wp2_with (first
          | (
             go_at_call 60; refine hC.mono ?_; rintro e w2 ⟨y, cy, rfl, H2⟩; clear hC))
        go_ret
        exact ⟨y, (V m).n, cy, (V m).d, rfl, ⟨on HB.out H2.out.1, H2.out.2.1, fun a ha => ⟨Nat.le_trans HB.out.size (H2.out.2.2 a ha).1, (H2.out.2.2 a ha).2⟩⟩, HS.out, .inr ⟨m, hm, rfl, HH.out⟩⟩

end Go.Proofs.Ytdbahebhodoooaa.Px

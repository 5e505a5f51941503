/-
  3 texts of this proof, one behind the other: PxPickB, PxPick1, PxSettle1.
-/
import Derived.Test.YtdlajpjigddbhaaGreatJ05
import Derived.Test.YtdlajpjigddbhaaGreatJ10
import Derived.Test.YtdlajpjigddbhaaGreatJ14
import Derived.Test.YtdlajpjigddbhaaGreatJ13
/-
  Which value must be asked for: Pick, its own one where none was accepted.
  Conditions: the list lies in memory.
-/
namespace Go.Proofs.YtdlajpjigddbhaaGreat.Px
open Go.RowKit By Fl Ba
set_option linter.unusedVariables false
set_option linter.unusedSimpArgs false
set_option maxRecDepth 100000

def PkS (V : Nat → AccV) (n : Nat) (ol d : List Nat) : Prop := ((∀ i, i < n → (V i).a = z0) ∧ d = ol) ∨ ∃ i, i < n ∧ d = (V i).d ∧ Top V n i

set_option maxHeartbeats 4000000 in
theorem pickS (x : Option Addr) (n c : Nat) (V : Nat → AccV) (ox : Option Addr) (on_ oc : Nat) (ol : List Nat) (w : World) (h : Accs w x n V) (ho : Fl.Sl w ox on_ oc ol) (hon : on_ ≤ 140737488355328) :
    Calls Tryz.prog 151 #[.slice x n c, .slice ox on_ oc] w fun e w' => ∃ (y : Option Addr) (m cy : Nat) (d : List Nat), e = .returned (.slice y m cy) ∧ Hid (Vl w w' y m cy d ∧ m ≤ 140737488355328 ∧ PkS V n ol d) := by
  have HA : Hid (Accs w x n V) := h
  have HO : Hid (Fl.Sl w ox on_ oc ol ∧ on_ ≤ 140737488355328) := ⟨ho, hon⟩
  have hnz : (n : Int) ≤ 1000 := by have := h.small; omega
  clear h ho hon
  go_enter Tryz.func151, Tryz.ntmps151
  go_wp2_with fail
  go_loopw [5, 10, 6, 7] (fun hi i _ _ wr => ∃ k : Nat, k ≤ n ∧ i = .int .i64 k ∧ Hid (Below w.heap.size w wr) ∧ ((hi = .int .i64 (-1) ∧ Hid (∀ j, j < k → (V j).a = z0)) ∨ ∃ m : Nat, hi = .int .i64 m ∧ m < k ∧ Hid (Top V k m))) (fun _ i _ _ _ => n - (intOf i).toNat)
  case atStart => exact ⟨0, by omega, rfl, Below.refl _ _, .inl ⟨rfl, fun j hj => by omega⟩⟩
  case round =>
    obtain ⟨k, hk, rfl, HB, hhi⟩ := hrel
    by_cases hlt : k < n
    · have hkn : (k : Int) < (n : Int) := by omega
      have hA := HA.out.below HB.out
      obtain ⟨b, o, rfl, hb, hc⟩ := hA.row.resolve_left (by omega)
      obtain ⟨c0, c1, c2, c3, c4⟩ := hc k hlt
      have hN := fun W => none_any (V k).a W
      cases hz : zb (V k).a with
      | true =>
        rw [hz] at hN
        have HZ : Hid ((V k).a = z0) := (zb_iff _).1 hz
        clear hz hA hc hb HA HO
        dsimp only [bt] at hN
        generalize (V k).p.1 = p1 at *
        generalize (V k).p.2 = p2 at *
        generalize (V k).a.1 = a1 at *
        generalize (V k).a.2 = a2 at *
        generalize (V k).x = vx at *
        generalize (V k).n = vn at *
        generalize (V k).c = vc at *
        rcases hhi with ⟨rfl, HH⟩ | ⟨m, rfl, hm, HH⟩
        · go_wp2_with (first
            | (
               go_at_call 160; refine (hN _).mono ?_; rintro e w1 ⟨rfl, hb1⟩; clear hN
               have B1 := on (al _ _) hb1
               clear hb1))
          go_roundw
          case rel =>
            refine ⟨k + 1, by omega, by go_num, on HB.out B1, .inl ⟨rfl, fun j hj => ?_⟩⟩
            by_cases e : j = k
            · subst e
              exact HZ.out
            · exact HH.out j (by omega)
          case measure => simp [intOf]; omega
        · go_wp2_with (first
            | (
               go_at_call 160; refine (hN _).mono ?_; rintro e w1 ⟨rfl, hb1⟩; clear hN
               have B1 := on (al _ _) hb1
               clear hb1))
          go_roundw
          case rel => exact ⟨k + 1, by omega, by go_num, on HB.out B1, .inr ⟨m, rfl, by omega, HH.out.same (.inl HZ.out)⟩⟩
          case measure => simp [intOf]; omega
      | false =>
        rw [hz] at hN
        have HZ : Hid ((V k).a ≠ z0) := fun e => by rw [(zb_iff _).2 e] at hz; cases hz
        clear hz
        rcases hhi with ⟨rfl, HH⟩ | ⟨m, rfl, hm, HH⟩
        · clear hA hc hb HA HO
          dsimp only [bt] at hN
          generalize (V k).p.1 = p1 at *
          generalize (V k).p.2 = p2 at *
          generalize (V k).a.1 = a1 at *
          generalize (V k).a.2 = a2 at *
          generalize (V k).x = vx at *
          generalize (V k).n = vn at *
          generalize (V k).c = vc at *
          go_wp2_with (first
            | (
               go_at_call 160; refine (hN _).mono ?_; rintro e w1 ⟨rfl, hb1⟩; clear hN
               have B1 := on (al _ _) hb1
               clear hb1))
          refine wp_region_held_drew (S := fun v => True) (by kernel_rfl) trivial (fun hHeld => ?_)
          refine wpAnyH_take (i := 0) (v := ?_) rfl (by kernel_rfl) (by kernel_rfl) (by kernel_rfl) (fun _ _ _ h => h) (Or.inl ⟨by rfl, ?_⟩) (by assumption) ?_
          case refine_2 => (intro w hSw; (try dsimp only at hSw); go_simp; (try with_reducible rfl))
          (try simp only [Act.put, List.getElem_toArray, List.getElem_cons_succ, List.getElem_cons_zero, List.setIfInBounds_toArray, List.set_cons_zero, List.set_cons_succ])
          refine wpAnyH_take (i := 1) (v := ?_) rfl (by kernel_rfl) (by kernel_rfl) (by kernel_rfl) (fun _ _ _ h => h) (Or.inl ⟨by rfl, ?_⟩) (by assumption) ?_
          case refine_2 => (intro w hSw; (try dsimp only at hSw); go_simp; (try with_reducible rfl))
          (try simp only [Act.put, List.getElem_toArray, List.getElem_cons_succ, List.getElem_cons_zero, List.setIfInBounds_toArray, List.set_cons_zero, List.set_cons_succ])
          refine wpAnyH_take (i := 2) (v := ?_) rfl (by kernel_rfl) (by kernel_rfl) (by kernel_rfl) (fun _ _ _ h => h) (Or.inl ⟨by rfl, ?_⟩) (by assumption) ?_
          case refine_2 => (intro w hSw; (try dsimp only at hSw); go_simp; (try with_reducible rfl))
          (try simp only [Act.put, List.getElem_toArray, List.getElem_cons_succ, List.getElem_cons_zero, List.setIfInBounds_toArray, List.set_cons_zero, List.set_cons_succ])
          refine wpAnyH_take (i := 3) (v := undef) rfl (by kernel_rfl) (by kernel_rfl) (by kernel_rfl) (fun _ _ _ h => h) (Or.inr ⟨by rfl, rfl⟩) (by assumption) ?_
          (try simp only [Act.put, List.getElem_toArray, List.getElem_cons_succ, List.getElem_cons_zero, List.setIfInBounds_toArray, List.set_cons_zero, List.set_cons_succ])
          refine wpAnyH_take (i := 4) (v := undef) rfl (by kernel_rfl) (by kernel_rfl) (by kernel_rfl) (fun _ _ _ h => h) (Or.inr ⟨by rfl, rfl⟩) (by assumption) ?_
          (try simp only [Act.put, List.getElem_toArray, List.getElem_cons_succ, List.getElem_cons_zero, List.setIfInBounds_toArray, List.set_cons_zero, List.set_cons_succ])
          refine wpAnyH_take (i := 5) (v := undef) rfl (by kernel_rfl) (by kernel_rfl) (by kernel_rfl) (fun _ _ _ h => h) (Or.inr ⟨by rfl, rfl⟩) (by assumption) ?_
          (try simp only [Act.put, List.getElem_toArray, List.getElem_cons_succ, List.getElem_cons_zero, List.setIfInBounds_toArray, List.set_cons_zero, List.set_cons_succ])
          refine wpAnyH_take (i := 6) (v := undef) rfl (by kernel_rfl) (by kernel_rfl) (by kernel_rfl) (fun _ _ _ h => h) (Or.inr ⟨by rfl, rfl⟩) (by assumption) ?_
          (try simp only [Act.put, List.getElem_toArray, List.getElem_cons_succ, List.getElem_cons_zero, List.setIfInBounds_toArray, List.set_cons_zero, List.set_cons_succ])
          refine wpAnyH_take (i := 7) (v := undef) rfl (by kernel_rfl) (by kernel_rfl) (by kernel_rfl) (fun _ _ _ h => h) (Or.inr ⟨by rfl, rfl⟩) (by assumption) ?_
          (try simp only [Act.put, List.getElem_toArray, List.getElem_cons_succ, List.getElem_cons_zero, List.setIfInBounds_toArray, List.set_cons_zero, List.set_cons_succ])
          refine wpAnyH_take (i := 8) (v := undef) rfl (by kernel_rfl) (by kernel_rfl) (by kernel_rfl) (fun _ _ _ h => h) (Or.inr ⟨by rfl, rfl⟩) (by assumption) ?_
          (try simp only [Act.put, List.getElem_toArray, List.getElem_cons_succ, List.getElem_cons_zero, List.setIfInBounds_toArray, List.set_cons_zero, List.set_cons_succ])
          refine wpAnyH_take (i := 9) (v := undef) rfl (by kernel_rfl) (by kernel_rfl) (by kernel_rfl) (fun _ _ _ h => h) (Or.inr ⟨by rfl, rfl⟩) (by assumption) ?_
          (try simp only [Act.put, List.getElem_toArray, List.getElem_cons_succ, List.getElem_cons_zero, List.setIfInBounds_toArray, List.set_cons_zero, List.set_cons_succ])
          refine wpAnyH_take (i := 10) (v := undef) rfl (by kernel_rfl) (by kernel_rfl) (by kernel_rfl) (fun _ _ _ h => h) (Or.inr ⟨by rfl, rfl⟩) (by assumption) ?_
          (try simp only [Act.put, List.getElem_toArray, List.getElem_cons_succ, List.getElem_cons_zero, List.setIfInBounds_toArray, List.set_cons_zero, List.set_cons_succ])
          refine wpAnyH_take (i := 11) (v := ?_) rfl (by kernel_rfl) (by kernel_rfl) (by kernel_rfl) (fun _ _ _ h => h) (Or.inl ⟨by rfl, ?_⟩) (by assumption) ?_
          case refine_2 => (intro w hSw; (try dsimp only at hSw); go_simp; (try with_reducible rfl))
          (try simp only [Act.put, List.getElem_toArray, List.getElem_cons_succ, List.getElem_cons_zero, List.setIfInBounds_toArray, List.set_cons_zero, List.set_cons_succ])
          refine wpAnyH_done (by kernel_rfl) ?_ _
          go_wp2_with fail
          go_roundw
          case rel => exact ⟨k + 1, by omega, by go_num, on HB.out B1.drew, .inr ⟨k, rfl, by omega, Top.first HH.out HZ.out⟩⟩
          case measure => simp [intOf]; omega
        · have hmn : (m : Int) < (n : Int) := by omega
          have hm0 : ¬ (m : Int) < 0 := by omega
          obtain ⟨d0, d1, d2, d3, d4⟩ := hc m (by omega)
          have hL := fun W => less_any (V m).a (V k).a W
          have e0 : Hid (ltb (V m).a (V k).a = true ↔ lt (V m).a (V k).a) := ltb_iff _ _
          clear hA hc hb HA HO d0 d1 d4
          generalize ltb (V m).a (V k).a = t at *
          cases t with
          | true =>
            dsimp only [bt] at hN hL
            generalize (V k).p.1 = p1 at *
            generalize (V k).p.2 = p2 at *
            generalize (V m).a.1 = m1 at *
            generalize (V m).a.2 = m2 at *
            generalize (V k).a.1 = a1 at *
            generalize (V k).a.2 = a2 at *
            generalize (V k).x = vx at *
            generalize (V k).n = vn at *
            generalize (V k).c = vc at *
            go_wp2_with (first
              | (
                 go_at_call 160; refine (hN _).mono ?_; rintro e w1 ⟨rfl, hb1⟩; clear hN
                 have k0 := keep hb1 (b := wr.heap.size) (o := 0) (x := .int .i64 p1) (by first | assumption | go_simp)
                 have k1 := keep hb1 (b := wr.heap.size) (o := 1) (x := .int .i64 p2) (by first | assumption | go_simp)
                 have k2 := keep hb1 (b := wr.heap.size) (o := 2) (x := .int .i64 a1) (by first | assumption | go_simp)
                 have k3 := keep hb1 (b := wr.heap.size) (o := 3) (x := .int .i64 a2) (by first | assumption | go_simp)
                 have k4 := keep hb1 (b := wr.heap.size) (o := 4) (x := .slice vx vn vc) (by first | assumption | go_simp)
                 have B1 := on (al _ _) hb1
                 have q2 : w1.drew.cell? ⟨b, o + m * 5 + 2, none⟩ = some (.int .i64 m1) := keep B1.drew d2
                 have q3 : w1.drew.cell? ⟨b, o + m * 5 + 3, none⟩ = some (.int .i64 m2) := keep B1.drew d3
                 have j2 : w1.drew.cell? ⟨wr.heap.size, 2, none⟩ = some (.int .i64 a1) := k2
                 have j3 : w1.drew.cell? ⟨wr.heap.size, 3, none⟩ = some (.int .i64 a2) := k3
                 clear hb1 k0 k1 k2 k3 k4))
            clear c0 c1 c2 c3 c4 d2 d3
            refine wp_region_held_drew (S := fun v => v.cell? ⟨b, o + m * 5 + 2, none⟩ = some (.int .i64 m1) ∧ v.cell? ⟨b, o + m * 5 + 3, none⟩ = some (.int .i64 m2) ∧ v.cell? ⟨wr.heap.size, 2, none⟩ = some (.int .i64 a1) ∧ v.cell? ⟨wr.heap.size, 3, none⟩ = some (.int .i64 a2)) (by kernel_rfl) ⟨q2, q3, j2, j3⟩ (fun hHeld => ?_)
            have B2 : Below wr.heap.size wr w1.drew := B1.drew
            generalize w1.drew = wD at *
            refine wpAnyH_take (i := 0) (v := ?_) rfl (by kernel_rfl) (by kernel_rfl) (by kernel_rfl) (fun _ _ _ h => h) (Or.inl ⟨by rfl, ?_⟩) (by assumption) ?_
            case refine_2 => (intro w hSw; (try dsimp only at hSw); go_simp; (try with_reducible rfl))
            (try simp only [Act.put, List.getElem_toArray, List.getElem_cons_succ, List.getElem_cons_zero, List.setIfInBounds_toArray, List.set_cons_zero, List.set_cons_succ])
            refine wpAnyH_take (i := 1) (v := ?_) rfl (by kernel_rfl) (by kernel_rfl) (by kernel_rfl) (fun _ _ _ h => h) (Or.inl ⟨by rfl, ?_⟩) (by assumption) ?_
            case refine_2 => (intro w hSw; (try dsimp only at hSw); go_simp; (try with_reducible rfl))
            (try simp only [Act.put, List.getElem_toArray, List.getElem_cons_succ, List.getElem_cons_zero, List.setIfInBounds_toArray, List.set_cons_zero, List.set_cons_succ])
            refine wpAnyH_take (i := 2) (v := ?_) rfl (by kernel_rfl) (by kernel_rfl) (by kernel_rfl) (fun _ _ _ h => h) (Or.inl ⟨by rfl, ?_⟩) (by assumption) ?_
            case refine_2 => (intro w hSw; (try dsimp only at hSw); go_simp; (try with_reducible rfl))
            (try simp only [Act.put, List.getElem_toArray, List.getElem_cons_succ, List.getElem_cons_zero, List.setIfInBounds_toArray, List.set_cons_zero, List.set_cons_succ])
            refine wpAnyH_take (i := 3) (v := ?_) rfl (by kernel_rfl) (by kernel_rfl) (by kernel_rfl) (fun _ _ _ h => h) (Or.inl ⟨by rfl, ?_⟩) (by assumption) ?_
            case refine_2 => (intro w hSw; (try dsimp only at hSw); go_simp; (try with_reducible rfl))
            (try simp only [Act.put, List.getElem_toArray, List.getElem_cons_succ, List.getElem_cons_zero, List.setIfInBounds_toArray, List.set_cons_zero, List.set_cons_succ])
            refine wpAnyH_take (i := 4) (v := ?_) rfl (by kernel_rfl) (by kernel_rfl) (by kernel_rfl) (fun _ _ _ h => h) (Or.inl ⟨by rfl, ?_⟩) (by assumption) ?_
            case refine_2 => (intro w hSw; (try dsimp only at hSw); go_simp; (try with_reducible rfl))
            (try simp only [Act.put, List.getElem_toArray, List.getElem_cons_succ, List.getElem_cons_zero, List.setIfInBounds_toArray, List.set_cons_zero, List.set_cons_succ])
            refine wpAnyH_take (i := 5) (v := ?_) rfl (by kernel_rfl) (by kernel_rfl) (by kernel_rfl) (fun _ _ _ h => h) (Or.inl ⟨by rfl, ?_⟩) (by assumption) ?_
            case refine_2 => (intro w hSw; (try dsimp only at hSw); go_simp; (try with_reducible rfl))
            (try simp only [Act.put, List.getElem_toArray, List.getElem_cons_succ, List.getElem_cons_zero, List.setIfInBounds_toArray, List.set_cons_zero, List.set_cons_succ])
            refine wpAnyH_take (i := 6) (v := ?_) rfl (by kernel_rfl) (by kernel_rfl) (by kernel_rfl) (fun _ _ _ h => h) (Or.inl ⟨by rfl, ?_⟩) (by assumption) ?_
            case refine_2 => (intro w hSw; (try dsimp only at hSw); go_simp; (try with_reducible rfl))
            (try simp only [Act.put, List.getElem_toArray, List.getElem_cons_succ, List.getElem_cons_zero, List.setIfInBounds_toArray, List.set_cons_zero, List.set_cons_succ])
            refine wpAnyH_take (i := 7) (v := ?_) rfl (by kernel_rfl) (by kernel_rfl) (by kernel_rfl) (fun _ _ _ h => h) (Or.inl ⟨by rfl, ?_⟩) (by assumption) ?_
            case refine_2 => (intro w hSw; (try dsimp only at hSw); go_simp; (try with_reducible rfl))
            (try simp only [Act.put, List.getElem_toArray, List.getElem_cons_succ, List.getElem_cons_zero, List.setIfInBounds_toArray, List.set_cons_zero, List.set_cons_succ])
            refine wpAnyH_take (i := 8) (v := ?_) rfl (by kernel_rfl) (by kernel_rfl) (by kernel_rfl) (fun _ _ _ h => h) (Or.inl ⟨by rfl, ?_⟩) (by assumption) ?_
            case refine_2 => (intro w hSw; (try dsimp only at hSw); go_simp; (try with_reducible rfl))
            (try simp only [Act.put, List.getElem_toArray, List.getElem_cons_succ, List.getElem_cons_zero, List.setIfInBounds_toArray, List.set_cons_zero, List.set_cons_succ])
            refine wpAnyH_take (i := 9) (v := ?_) rfl (by kernel_rfl) (by kernel_rfl) (by kernel_rfl) (fun _ _ _ h => h) (Or.inl ⟨by rfl, ?_⟩) (by assumption) ?_
            case refine_2 => (intro w hSw; (try dsimp only at hSw); go_simp; (try with_reducible rfl))
            (try simp only [Act.put, List.getElem_toArray, List.getElem_cons_succ, List.getElem_cons_zero, List.setIfInBounds_toArray, List.set_cons_zero, List.set_cons_succ])
            refine wpAnyH_ready (rs := [10]) (by kernel_rfl) (by simp) ?_
            refine AllReadyH.cons rfl (fun K hK => ?_) AllReadyH.nil
            go_simp
            refine (hL _).mono ?_
            rintro e w2 ⟨rfl, hb2⟩
            have B3 := on B2 hb2
            refine hK.out _ _ ⟨keep hb2 q2, keep hb2 q3, keep hb2 j2, keep hb2 j3⟩ (fun hHeld => ?_)
            clear hK K
            refine wpAnyH_take (i := 11) (v := ?_) rfl (by kernel_rfl) (by kernel_rfl) (by kernel_rfl) (fun _ _ _ h => h) (Or.inl ⟨by rfl, ?_⟩) (by assumption) ?_
            case refine_2 => (intro w hSw; (try dsimp only at hSw); go_simp; (try with_reducible rfl))
            (try simp only [Act.put, List.getElem_toArray, List.getElem_cons_succ, List.getElem_cons_zero, List.setIfInBounds_toArray, List.set_cons_zero, List.set_cons_succ])
            refine wpAnyH_done (by kernel_rfl) ?_ _
            clear q2 q3 j2 j3 hb2
            go_wp2_with fail
            go_roundw
            case rel => exact ⟨k + 1, by omega, by go_num, on HB.out B3, .inr ⟨k, rfl, by omega, HH.out.more HZ.out (e0.out.1 (by simp))⟩⟩
            case measure => simp [intOf]; omega
          | false =>
            dsimp only [bt] at hN hL
            generalize (V k).p.1 = p1 at *
            generalize (V k).p.2 = p2 at *
            generalize (V m).a.1 = m1 at *
            generalize (V m).a.2 = m2 at *
            generalize (V k).a.1 = a1 at *
            generalize (V k).a.2 = a2 at *
            generalize (V k).x = vx at *
            generalize (V k).n = vn at *
            generalize (V k).c = vc at *
            go_wp2_with (first
              | (
                 go_at_call 160; refine (hN _).mono ?_; rintro e w1 ⟨rfl, hb1⟩; clear hN
                 have k0 := keep hb1 (b := wr.heap.size) (o := 0) (x := .int .i64 p1) (by first | assumption | go_simp)
                 have k1 := keep hb1 (b := wr.heap.size) (o := 1) (x := .int .i64 p2) (by first | assumption | go_simp)
                 have k2 := keep hb1 (b := wr.heap.size) (o := 2) (x := .int .i64 a1) (by first | assumption | go_simp)
                 have k3 := keep hb1 (b := wr.heap.size) (o := 3) (x := .int .i64 a2) (by first | assumption | go_simp)
                 have k4 := keep hb1 (b := wr.heap.size) (o := 4) (x := .slice vx vn vc) (by first | assumption | go_simp)
                 have B1 := on (al _ _) hb1
                 have q2 : w1.drew.cell? ⟨b, o + m * 5 + 2, none⟩ = some (.int .i64 m1) := keep B1.drew d2
                 have q3 : w1.drew.cell? ⟨b, o + m * 5 + 3, none⟩ = some (.int .i64 m2) := keep B1.drew d3
                 have j2 : w1.drew.cell? ⟨wr.heap.size, 2, none⟩ = some (.int .i64 a1) := k2
                 have j3 : w1.drew.cell? ⟨wr.heap.size, 3, none⟩ = some (.int .i64 a2) := k3
                 clear hb1 k0 k1 k2 k3 k4))
            clear c0 c1 c2 c3 c4 d2 d3
            refine wp_region_held_drew (S := fun v => v.cell? ⟨b, o + m * 5 + 2, none⟩ = some (.int .i64 m1) ∧ v.cell? ⟨b, o + m * 5 + 3, none⟩ = some (.int .i64 m2) ∧ v.cell? ⟨wr.heap.size, 2, none⟩ = some (.int .i64 a1) ∧ v.cell? ⟨wr.heap.size, 3, none⟩ = some (.int .i64 a2)) (by kernel_rfl) ⟨q2, q3, j2, j3⟩ (fun hHeld => ?_)
            have B2 : Below wr.heap.size wr w1.drew := B1.drew
            generalize w1.drew = wD at *
            refine wpAnyH_take (i := 0) (v := ?_) rfl (by kernel_rfl) (by kernel_rfl) (by kernel_rfl) (fun _ _ _ h => h) (Or.inl ⟨by rfl, ?_⟩) (by assumption) ?_
            case refine_2 => (intro w hSw; (try dsimp only at hSw); go_simp; (try with_reducible rfl))
            (try simp only [Act.put, List.getElem_toArray, List.getElem_cons_succ, List.getElem_cons_zero, List.setIfInBounds_toArray, List.set_cons_zero, List.set_cons_succ])
            refine wpAnyH_take (i := 1) (v := ?_) rfl (by kernel_rfl) (by kernel_rfl) (by kernel_rfl) (fun _ _ _ h => h) (Or.inl ⟨by rfl, ?_⟩) (by assumption) ?_
            case refine_2 => (intro w hSw; (try dsimp only at hSw); go_simp; (try with_reducible rfl))
            (try simp only [Act.put, List.getElem_toArray, List.getElem_cons_succ, List.getElem_cons_zero, List.setIfInBounds_toArray, List.set_cons_zero, List.set_cons_succ])
            refine wpAnyH_take (i := 2) (v := ?_) rfl (by kernel_rfl) (by kernel_rfl) (by kernel_rfl) (fun _ _ _ h => h) (Or.inl ⟨by rfl, ?_⟩) (by assumption) ?_
            case refine_2 => (intro w hSw; (try dsimp only at hSw); go_simp; (try with_reducible rfl))
            (try simp only [Act.put, List.getElem_toArray, List.getElem_cons_succ, List.getElem_cons_zero, List.setIfInBounds_toArray, List.set_cons_zero, List.set_cons_succ])
            refine wpAnyH_take (i := 3) (v := ?_) rfl (by kernel_rfl) (by kernel_rfl) (by kernel_rfl) (fun _ _ _ h => h) (Or.inl ⟨by rfl, ?_⟩) (by assumption) ?_
            case refine_2 => (intro w hSw; (try dsimp only at hSw); go_simp; (try with_reducible rfl))
            (try simp only [Act.put, List.getElem_toArray, List.getElem_cons_succ, List.getElem_cons_zero, List.setIfInBounds_toArray, List.set_cons_zero, List.set_cons_succ])
            refine wpAnyH_take (i := 4) (v := ?_) rfl (by kernel_rfl) (by kernel_rfl) (by kernel_rfl) (fun _ _ _ h => h) (Or.inl ⟨by rfl, ?_⟩) (by assumption) ?_
            case refine_2 => (intro w hSw; (try dsimp only at hSw); go_simp; (try with_reducible rfl))
            (try simp only [Act.put, List.getElem_toArray, List.getElem_cons_succ, List.getElem_cons_zero, List.setIfInBounds_toArray, List.set_cons_zero, List.set_cons_succ])
            refine wpAnyH_take (i := 5) (v := ?_) rfl (by kernel_rfl) (by kernel_rfl) (by kernel_rfl) (fun _ _ _ h => h) (Or.inl ⟨by rfl, ?_⟩) (by assumption) ?_
            case refine_2 => (intro w hSw; (try dsimp only at hSw); go_simp; (try with_reducible rfl))
            (try simp only [Act.put, List.getElem_toArray, List.getElem_cons_succ, List.getElem_cons_zero, List.setIfInBounds_toArray, List.set_cons_zero, List.set_cons_succ])
            refine wpAnyH_take (i := 6) (v := ?_) rfl (by kernel_rfl) (by kernel_rfl) (by kernel_rfl) (fun _ _ _ h => h) (Or.inl ⟨by rfl, ?_⟩) (by assumption) ?_
            case refine_2 => (intro w hSw; (try dsimp only at hSw); go_simp; (try with_reducible rfl))
            (try simp only [Act.put, List.getElem_toArray, List.getElem_cons_succ, List.getElem_cons_zero, List.setIfInBounds_toArray, List.set_cons_zero, List.set_cons_succ])
            refine wpAnyH_take (i := 7) (v := ?_) rfl (by kernel_rfl) (by kernel_rfl) (by kernel_rfl) (fun _ _ _ h => h) (Or.inl ⟨by rfl, ?_⟩) (by assumption) ?_
            case refine_2 => (intro w hSw; (try dsimp only at hSw); go_simp; (try with_reducible rfl))
            (try simp only [Act.put, List.getElem_toArray, List.getElem_cons_succ, List.getElem_cons_zero, List.setIfInBounds_toArray, List.set_cons_zero, List.set_cons_succ])
            refine wpAnyH_take (i := 8) (v := ?_) rfl (by kernel_rfl) (by kernel_rfl) (by kernel_rfl) (fun _ _ _ h => h) (Or.inl ⟨by rfl, ?_⟩) (by assumption) ?_
            case refine_2 => (intro w hSw; (try dsimp only at hSw); go_simp; (try with_reducible rfl))
            (try simp only [Act.put, List.getElem_toArray, List.getElem_cons_succ, List.getElem_cons_zero, List.setIfInBounds_toArray, List.set_cons_zero, List.set_cons_succ])
            refine wpAnyH_take (i := 9) (v := ?_) rfl (by kernel_rfl) (by kernel_rfl) (by kernel_rfl) (fun _ _ _ h => h) (Or.inl ⟨by rfl, ?_⟩) (by assumption) ?_
            case refine_2 => (intro w hSw; (try dsimp only at hSw); go_simp; (try with_reducible rfl))
            (try simp only [Act.put, List.getElem_toArray, List.getElem_cons_succ, List.getElem_cons_zero, List.setIfInBounds_toArray, List.set_cons_zero, List.set_cons_succ])
            refine wpAnyH_ready (rs := [10]) (by kernel_rfl) (by simp) ?_
            refine AllReadyH.cons rfl (fun K hK => ?_) AllReadyH.nil
            go_simp
            refine (hL _).mono ?_
            rintro e w2 ⟨rfl, hb2⟩
            have B3 := on B2 hb2
            refine hK.out _ _ ⟨keep hb2 q2, keep hb2 q3, keep hb2 j2, keep hb2 j3⟩ (fun hHeld => ?_)
            clear hK K
            refine wpAnyH_take (i := 11) (v := ?_) rfl (by kernel_rfl) (by kernel_rfl) (by kernel_rfl) (fun _ _ _ h => h) (Or.inl ⟨by rfl, ?_⟩) (by assumption) ?_
            case refine_2 => (intro w hSw; (try dsimp only at hSw); go_simp; (try with_reducible rfl))
            (try simp only [Act.put, List.getElem_toArray, List.getElem_cons_succ, List.getElem_cons_zero, List.setIfInBounds_toArray, List.set_cons_zero, List.set_cons_succ])
            refine wpAnyH_done (by kernel_rfl) ?_ _
            clear q2 q3 j2 j3 hb2
            go_wp2_with fail
            go_roundw
            case rel => exact ⟨k + 1, by omega, by go_num, on HB.out B3, .inr ⟨m, rfl, by omega, HH.out.same (.inr (fun hh => by have := e0.out.2 hh; cases this))⟩⟩
            case measure => simp [intOf]; omega
    · obtain rfl : k = n := by omega
      rcases hhi with ⟨rfl, HH⟩ | ⟨m, rfl, hm, HH⟩
      · have hC := clone_vl ox on_ oc ol wr (HO.out.1.below HB.out) HO.out.2
        go_wp2_with (first
          | (
             go_at_call 109; refine hC.mono ?_; rintro e w2 ⟨y, cy, rfl, H2⟩; clear hC))
        go_ret
        exact ⟨y, on_, cy, ol, rfl, ⟨on HB.out H2.out.1, H2.out.2.1, fun a ha => ⟨Nat.le_trans HB.out.size (H2.out.2.2 a ha).1, (H2.out.2.2 a ha).2⟩⟩, HO.out.2, .inl ⟨HH.out, rfl⟩⟩
      · have hmn : (m : Int) < (k : Int) := by omega
        have hm0 : ¬ (m : Int) < 0 := by omega
        have hA := HA.out.below HB.out
        obtain ⟨b, o, rfl, hb, hc⟩ := hA.row.resolve_left (by omega)
        have c4 := (hc m (by omega)).2.2.2.2
        have hC := clone_vl (V m).x (V m).n (V m).c (V m).d wr (hA.val m hm).1 (hA.val m hm).2
        have HS : Hid ((V m).n ≤ 140737488355328) := (hA.val m hm).2
        clear hA hc hb
        go_wp2_with (first
          | (
             go_at_call 109; refine hC.mono ?_; rintro e w2 ⟨y, cy, rfl, H2⟩; clear hC))
        go_ret
        exact ⟨y, (V m).n, cy, (V m).d, rfl, ⟨on HB.out H2.out.1, H2.out.2.1, fun a ha => ⟨Nat.le_trans HB.out.size (H2.out.2.2 a ha).1, (H2.out.2.2 a ha).2⟩⟩, HS.out, .inr ⟨m, hm, rfl, HH.out⟩⟩

end Go.Proofs.YtdlajpjigddbhaaGreat.Px

/-
  A value is picked and accepted where a monitor is alone.
  Conditions: the monitor is one that New gave ('NdAt'), with a bid.
-/
namespace Go.Proofs.YtdlajpjigddbhaaGreat.Px
open Go.RowKit Wi By Fl Ba
set_option linter.unusedVariables false
set_option linter.unusedSimpArgs false
set_option maxRecDepth 100000

section
variable {w : World} {B : Nat} {g : Ln} {st : Nd}

theorem NdAt.setVal (h : NdAt w B g st) (l : Lb) (b : Bd) (hl : g.b = some l) (hb : st.bid = some b) (y : Option Addr) (n c : Nat) (v : List Nat) (hv : Sv w y n c v) :
    NdAt (w.setCell ⟨l.bp, 3, none⟩ (.slice y n c)) B { g with b := some { l with x := y, n := n, c := c } } { st with bid := some { b with val := v } } ∧ Turns (atB l.bp) w (w.setCell ⟨l.bp, 3, none⟩ (.slice y n c)) := by
  have t : Turns (atB l.bp) w (w.setCell ⟨l.bp, 3, none⟩ (.slice y n c)) := turns_put (Turns.refl _ _) 3 _
  rcases h.bid with ⟨q, _⟩ | ⟨l', b', q1, q2, q3, q4⟩
  · rw [hl] at q
    cases q
  rw [hl] at q1
  injection q1 with q1
  subst q1
  rw [hb] at q2
  injection q2 with q2
  subst q2
  have hu : ∀ k, atB l.bp k → ¬ Tb w k 5 := fun k hk => by
    have e : k = l.bp := hk
    subst e
    exact (h.u8 _ (.inr (.inr (.inr (.inr ⟨l, hl, .inl rfl⟩))))).2
  have hpb : g.p ≠ l.bp := fun e => by
    have := q3.obj.tb.same (e ▸ h.obj.tb)
    revert this
    decide
  refine ⟨⟨?_, ?_, ?_, h.ne, ?_, .inr ⟨_, _, rfl, rfl, ⟨?_, hv.turns t hu, ?_, q3.wf⟩, q4⟩, fun k hk => h.low k ?_, h.dl, h.wl, h.dok, h.wok⟩, t⟩
  · have q := t.blk h.obj (fun e => hpb e)
    refine q.congr (fun j hj => ?_)
    rcases j with _ | _ | _ | _ | _ | _ | _ | _ | j <;> first | rfl | (unfold obj8; simp only [hl]; rfl) | omega
  · exact h.dec.turns t (fun q hq e => by
      have e' : q = l.bp := e
      subst e'
      have := (h.dec.tb hq).2.same q3.obj.tb
      revert this
      decide)
  · exact h.wait.turns t (fun q hq e => by
      have e' : q = l.bp := e
      subst e'
      have := (h.wait.tb hq).2.same q3.obj.tb
      revert this
      decide)
  · exact h.acc.turns t (fun e => by
      have e' : g.mb = l.bp := e
      exact q3.obj.tb.not_map (e' ▸ h.acc.isM)) hu
  · exact (q3.obj.set 3 _).congr (fun j hj => by rcases j with _ | _ | _ | _ | _ | j <;> first | rfl | omega)
  · exact q3.told.turns t (fun e => by
      have e' : l.tb = l.bp := e
      exact q3.obj.tb.not_map (e' ▸ q3.told.isM)) hu
  · rcases hk with q | q | q | q | ⟨l2, q, r⟩
    · exact .inl q
    · exact .inr (.inl q)
    · exact .inr (.inr (.inl q))
    · exact .inr (.inr (.inr (.inl q)))
    · injection q with q
      subst q
      exact .inr (.inr (.inr (.inr ⟨l, hl, r⟩)))

def picked (st : Nd) (b : Bd) (d : Dc) : Nd := { st with acc := upA st.acc b.num ⟨b.bal, b.bal, dbytes d⟩, bid := some { b with val := dbytes d } }

set_option maxHeartbeats 3200000 in
theorem pick_one (h : NdAt w B g st) (b : Bd) (hb : st.bid = some b) (hn1 : st.n = 1) (hid0 : st.id = 0) (d : Dc) (ws : List Dc) (hw : st.wait = d :: ws) (x : Option Addr) (m c : Nat) (V : Nat → AccV) (hA : Accs w x m V) (hz : ∀ i, i < m → (V i).a = z0)
    (hacc : st.acc b.num = ⟨b.bal, z0, []⟩) (hfr : freeb b.bal z0 0 b.bal = true) (hnum : b.num < 4294967296) (hgn : gnb g < 1000000000000000000) :
    Calls Tryz.prog 123 #[.pointer (some ⟨g.p, 0, none⟩), .slice x m c] w fun e w' => e = .returned (.slice none 0 0) ∧ Hid (Goes w w' B g (picked st b d) 1) := by
  rcases h.bid with ⟨_, q⟩ | ⟨l, b', q1, q2, q3, q4⟩
  · rw [hb] at q
    cases q
  rw [hb] at q2
  injection q2 with q2
  subst q2
  have hpl := h.obj.lt
  have hbl := q3.obj.lt
  have c5 := h.c5
  have c6 : w.cell? ⟨g.p, 6, none⟩ = some (.pointer (some ⟨l.bp, 0, none⟩)) := by rw [h.c6, q1]; rfl
  have hd : st.wait[0]? = some d := by rw [hw]; rfl
  obtain ⟨gw, cw, e, hnc, hcm, _, hgw⟩ := h.wait.there (by rw [hw]; simp)
  have ho := h.wait
  rw [e] at c5 ho
  have w0 := ho.cell drow.len hd (j := 0) (v := .int .i64 d.mon) rfl
  have w1 := ho.cell drow.len hd (j := 1) (v := .int .i64 d.ser) rfl
  have w2 := ho.cell drow.len hd (j := 2) (v := .string d.val) rfl
  rw [Nat.zero_mul, Nat.zero_add] at w0 w1 w2
  have hwl : (0 : Int) < (st.wait.length : Int) := by rw [hw]; simp
  have hwl2 : st.wait.length ≤ 80000 := h.wl
  have hdok : DOk d := h.wok d (by rw [hw]; simp)
  have hBy := fun W => dbytes_any d hdok W
  have HH : Hid (NdAt w B g st ∧ g.b = some l ∧ BdAt w l b ∧ Accs w x m V ∧ (∀ i, i < m → (V i).a = z0) ∧ st.n = 1 ∧ st.id = 0 ∧ st.acc b.num = ⟨b.bal, z0, []⟩ ∧ freeb b.bal z0 0 b.bal = true ∧ b.num < 4294967296 ∧ gnb g < 1000000000000000000 ∧ st.bid = some b) := ⟨h, q1, q3, hA, hz, hn1, hid0, hacc, hfr, hnum, hgn, hb⟩
  clear h q1 q3 q4 hA hz hn1 hid0 hacc hfr hnum hgn hb hw hd ho e hdok hnc hcm
  dsimp only [dv] at hBy
  generalize st.wait.length = wl at *
  go_enter Tryz.func123, Tryz.ntmps123
  go_wp2_with (first
    | (
       go_at_call 146; refine (hBy _).mono ?_; rintro e w3 ⟨y3, m3, c3, rfl, H3⟩; clear hBy
       have hPk := pickS x m c V y3 m3 c3 (dbytes d) w3 (HH.out.2.2.2.1.below H3.out.2.1) H3.out.2.2.1 (by have := H3.out.1; omega))
    | (
       go_at_call 151; refine hPk.mono ?_; rintro e w4 ⟨y4, m4, c4, dd, rfl, H4⟩; clear hPk
       have bE : Below w.heap.size w w4 := on H3.out.2.1 H4.out.1.1
       have k4 := HH.out.1.below bE
       have hdd : dd = dbytes d := by
         rcases H4.out.2.2 with ⟨_, q⟩ | ⟨i, hi, _, q⟩
         · exact q
         · exact absurd (HH.out.2.2.2.2.1 i hi) q.1
       have hm4 : m4 ≤ 5000 := by
         have a1 := H4.out.1.2.1.len
         have a2 := H3.out.2.2.1.len
         have a3 := H3.out.1
         rw [hdd] at a1
         omega
       have hSv : Sv w4 y4 m4 c4 (dbytes d) := vl_sv (hdd ▸ H4.out.1) hm4
       have o3 : w4.cell? ⟨l.bp, 3, none⟩ = some (.slice l.x l.n l.c) := keep bE (HH.out.2.2.1.obj.cell (k := 3) (by omega))
       have f3 : w4.frozen? ⟨l.bp, 3, none⟩ = false := keepf bE HH.out.2.2.1.obj.lt (HH.out.2.2.1.obj.frozen 3)
       obtain ⟨k5, t5⟩ := k4.setVal l b HH.out.2.1 HH.out.2.2.2.2.2.2.2.2.2.2.2 y4 m4 c4 (dbytes d) hSv
       have HK : Hid (Below w.heap.size w w4 ∧ NdAt (w4.setCell ⟨l.bp, 3, none⟩ (.slice y4 m4 c4)) B { g with b := some { l with x := y4, n := m4, c := c4 } } { st with bid := some { b with val := dbytes d } } ∧ Turns (atB l.bp) w4 (w4.setCell ⟨l.bp, 3, none⟩ (.slice y4 m4 c4))) := ⟨bE, k5, t5⟩
       clear H3 H4 hdd hm4 hSv k4 k5 t5 bE w0 w1 w2 c5 c6))
  obtain ⟨bE, k5, t5⟩ := HK.out
  have bD : Below (w4.setCell ⟨l.bp, 3, none⟩ (.slice y4 m4 c4)).heap.size (w4.setCell ⟨l.bp, 3, none⟩ (.slice y4 m4 c4)) (w4.setCell ⟨l.bp, 3, none⟩ (.slice y4 m4 c4)).drew := (Below.refl _ _).drew
  have k6 := k5.below bD
  have hnb : b.num < 4294967296 := HH.out.2.2.2.2.2.2.2.2.2.1
  obtain ⟨v, v1, v2, v3⟩ := k6.acc.lookAll b.num hnb
  have hav : v.p = b.bal ∧ v.a = z0 ∧ v.d = [] := by
    have q := HH.out.2.2.2.2.2.2.2.1
    rw [q] at v2
    injection v2 with a1 a2 a3
    exact ⟨a1.symm, a2.symm, a3.symm⟩
  have hvn : v.n = 0 := by rw [← v1.sv.sl.len, hav.2.2]; rfl
  have hBd : BdAt (w4.setCell ⟨l.bp, 3, none⟩ (.slice y4 m4 c4)).drew { l with x := y4, n := m4, c := c4 } { b with val := dbytes d } := by
    rcases k6.bid with ⟨q, _⟩ | ⟨l2, b2, a1, a2, a3, _⟩
    · cases q
    · injection a1 with a1
      injection a2 with a2
      subst a1
      subst a2
      exact a3
  have hAc := fun (W : World) (bb : Below (w4.setCell ⟨l.bp, 3, none⟩ (.slice y4 m4 c4)).drew.heap.size (w4.setCell ⟨l.bp, 3, none⟩ (.slice y4 m4 c4)).drew W) => accept_yes v.p v.a v.x v.n v.c b.bal y4 m4 c4 (dbytes d) W (hBd.val.sl.below bb) (by have := hBd.val.sm; dsimp only at this; omega) (by rw [hav.1, hav.2.1, hvn]; exact HH.out.2.2.2.2.2.2.2.2.1)
  have hlk := v3 _ rfl
  have s3 : (w4.setCell ⟨l.bp, 3, none⟩ (.slice y4 m4 c4)).drew.cell? ⟨g.p, 3, none⟩ = some (.map (some g.mb)) := k6.c3
  have d0 : (w4.setCell ⟨l.bp, 3, none⟩ (.slice y4 m4 c4)).drew.cell? ⟨l.bp, 0, none⟩ = some (.int .i64 b.num) := hBd.obj.cell (k := 0) (by omega)
  have d1 : (w4.setCell ⟨l.bp, 3, none⟩ (.slice y4 m4 c4)).drew.cell? ⟨l.bp, 1, none⟩ = some (.int .i64 b.bal.1) := hBd.obj.cell (k := 1) (by omega)
  have d2 : (w4.setCell ⟨l.bp, 3, none⟩ (.slice y4 m4 c4)).drew.cell? ⟨l.bp, 2, none⟩ = some (.int .i64 b.bal.2) := hBd.obj.cell (k := 2) (by omega)
  have d3 : (w4.setCell ⟨l.bp, 3, none⟩ (.slice y4 m4 c4)).drew.cell? ⟨l.bp, 3, none⟩ = some (.slice y4 m4 c4) := hBd.obj.cell (k := 3) (by omega)
  have HV : Hid (v.p = b.bal ∧ v.a = z0 ∧ v.d = [] ∧ v.n = 0) := ⟨hav.1, hav.2.1, hav.2.2, hvn⟩
  have HE : Hid (Below w.heap.size w w4 ∧ Turns (atB l.bp) w4 (w4.setCell ⟨l.bp, 3, none⟩ (.slice y4 m4 c4)).drew ∧ NdAt (w4.setCell ⟨l.bp, 3, none⟩ (.slice y4 m4 c4)).drew B { g with b := some { l with x := y4, n := m4, c := c4 } } { st with bid := some { b with val := dbytes d } } ∧ bwf b.bal ∧ (dbytes d).length = m4 ∧ m4 ≤ 5000) := ⟨bE, t5.trans (Turns.of_below bD), k6, hBd.wf, hBd.val.sl.len, hBd.val.sm⟩
  dsimp only [av, ac, bt] at hAc hlk
  clear hav hvn v1 v2 v3 bE k5 t5 bD k6 hBd HK
  obtain ⟨⟨vp1, vp2⟩, ⟨va1, va2⟩, vx, vn, vc, vd⟩ := v
  dsimp only at hAc hlk HV
  go_wp2_with fail
  refine wp_region_held_drew (S := fun q => q.cell? ⟨g.p, 3, none⟩ = some (.map (some g.mb)) ∧ q.cell? ⟨l.bp, 0, none⟩ = some (.int .i64 b.num) ∧ q.cell? ⟨l.bp, 1, none⟩ = some (.int .i64 b.bal.1) ∧ q.cell? ⟨l.bp, 2, none⟩ = some (.int .i64 b.bal.2) ∧ q.cell? ⟨l.bp, 3, none⟩ = some (.slice y4 m4 c4)) (by kernel_rfl) ⟨s3, d0, d1, d2, d3⟩ (fun hHeld => ?_)
  generalize (w4.setCell ⟨l.bp, 3, none⟩ (.slice y4 m4 c4)).drew = wE at *
  refine wpAnyH_take (i := 0) (v := ?_) rfl (by kernel_rfl) (by kernel_rfl) (by kernel_rfl) (fun _ _ _ h => h) (Or.inl ⟨by rfl, ?_⟩) (by assumption) ?_
  case refine_2 => (intro w hSw; (try dsimp only at hSw); go_simp; (try with_reducible rfl))
  (try simp only [Act.put, List.getElem_toArray, List.getElem_cons_succ, List.getElem_cons_zero, List.setIfInBounds_toArray, List.set_cons_zero, List.set_cons_succ])
  refine wpAnyH_take (i := 1) (v := ?_) rfl (by kernel_rfl) (by kernel_rfl) (by kernel_rfl) (fun _ _ _ h => h) (Or.inl ⟨by rfl, ?_⟩) (by assumption) ?_
  case refine_2 => (intro w hSw; (try dsimp only at hSw); go_simp; (try with_reducible rfl))
  (try simp only [Act.put, List.getElem_toArray, List.getElem_cons_succ, List.getElem_cons_zero, List.setIfInBounds_toArray, List.set_cons_zero, List.set_cons_succ])
  refine wpAnyH_take (i := 2) (v := ?_) rfl (by kernel_rfl) (by kernel_rfl) (by kernel_rfl) (fun _ _ _ h => h) (Or.inl ⟨by rfl, ?_⟩) (by assumption) ?_
  case refine_2 => (intro w hSw; (try dsimp only at hSw); go_simp; (try with_reducible rfl))
  (try simp only [Act.put, List.getElem_toArray, List.getElem_cons_succ, List.getElem_cons_zero, List.setIfInBounds_toArray, List.set_cons_zero, List.set_cons_succ])
  refine wpAnyH_take (i := 3) (v := ?_) rfl (by kernel_rfl) (by kernel_rfl) (by kernel_rfl) (fun _ _ _ h => h) (Or.inl ⟨by rfl, ?_⟩) (by assumption) ?_
  case refine_2 => (intro w hSw; (try dsimp only at hSw); go_simp; (try with_reducible rfl))
  (try simp only [Act.put, List.getElem_toArray, List.getElem_cons_succ, List.getElem_cons_zero, List.setIfInBounds_toArray, List.set_cons_zero, List.set_cons_succ])
  refine wpAnyH_take (i := 4) (v := ?_) rfl (by kernel_rfl) (by kernel_rfl) (by kernel_rfl) (fun _ _ _ h => h) (Or.inl ⟨by rfl, ?_⟩) (by assumption) ?_
  case refine_2 => (intro w hSw; (try dsimp only at hSw); go_simp; (try with_reducible rfl))
  (try simp only [Act.put, List.getElem_toArray, List.getElem_cons_succ, List.getElem_cons_zero, List.setIfInBounds_toArray, List.set_cons_zero, List.set_cons_succ])
  refine wpAnyH_take (i := 5) (v := ?_) rfl (by kernel_rfl) (by kernel_rfl) (by kernel_rfl) (fun _ _ _ h => h) (Or.inl ⟨by rfl, ?_⟩) (by assumption) ?_
  case refine_2 => (intro w hSw; (try dsimp only at hSw); go_simp; (try with_reducible rfl))
  (try simp only [Act.put, List.getElem_toArray, List.getElem_cons_succ, List.getElem_cons_zero, List.setIfInBounds_toArray, List.set_cons_zero, List.set_cons_succ])
  refine wpAnyH_take (i := 6) (v := ?_) rfl (by kernel_rfl) (by kernel_rfl) (by kernel_rfl) (fun _ _ _ h => h) (Or.inl ⟨by rfl, ?_⟩) (by assumption) ?_
  case refine_2 => (intro w hSw; (try dsimp only at hSw); go_simp; (try with_reducible rfl))
  (try simp only [Act.put, List.getElem_toArray, List.getElem_cons_succ, List.getElem_cons_zero, List.setIfInBounds_toArray, List.set_cons_zero, List.set_cons_succ])
  refine wpAnyH_take (i := 7) (v := ?_) rfl (by kernel_rfl) (by kernel_rfl) (by kernel_rfl) (fun _ _ _ h => h) (Or.inl ⟨by rfl, ?_⟩) (by assumption) ?_
  case refine_2 => (intro w hSw; (try dsimp only at hSw); go_simp; (try with_reducible rfl))
  (try simp only [Act.put, List.getElem_toArray, List.getElem_cons_succ, List.getElem_cons_zero, List.setIfInBounds_toArray, List.set_cons_zero, List.set_cons_succ])
  refine wpAnyH_take (i := 8) (v := ?_) rfl (by kernel_rfl) (by kernel_rfl) (by kernel_rfl) (fun _ _ _ h => h) (Or.inl ⟨by rfl, ?_⟩) (by assumption) ?_
  case refine_2 => (intro w hSw; (try dsimp only at hSw); go_simp; (try with_reducible rfl))
  (try simp only [Act.put, List.getElem_toArray, List.getElem_cons_succ, List.getElem_cons_zero, List.setIfInBounds_toArray, List.set_cons_zero, List.set_cons_succ])
  refine wpAnyH_take (i := 9) (v := ?_) rfl (by kernel_rfl) (by kernel_rfl) (by kernel_rfl) (fun _ _ _ h => h) (Or.inl ⟨by rfl, ?_⟩) (by assumption) ?_
  case refine_2 => (intro w hSw; (try dsimp only at hSw); go_simp; (try with_reducible rfl))
  (try simp only [Act.put, List.getElem_toArray, List.getElem_cons_succ, List.getElem_cons_zero, List.setIfInBounds_toArray, List.set_cons_zero, List.set_cons_succ])
  refine wpAnyH_take (i := 10) (v := ?_) rfl (by kernel_rfl) (by kernel_rfl) (by kernel_rfl) (fun _ _ _ h => h) (Or.inl ⟨by rfl, ?_⟩) (by assumption) ?_
  case refine_2 => (intro w hSw; (try dsimp only at hSw); go_simp; (try with_reducible rfl))
  (try simp only [Act.put, List.getElem_toArray, List.getElem_cons_succ, List.getElem_cons_zero, List.setIfInBounds_toArray, List.set_cons_zero, List.set_cons_succ])
  refine wpAnyH_take (i := 11) (v := ?_) rfl (by kernel_rfl) (by kernel_rfl) (by kernel_rfl) (fun _ _ _ h => h) (Or.inl ⟨by rfl, ?_⟩) (by assumption) ?_
  case refine_2 => (intro w hSw; (try dsimp only at hSw); go_simp; (try with_reducible rfl))
  (try simp only [Act.put, List.getElem_toArray, List.getElem_cons_succ, List.getElem_cons_zero, List.setIfInBounds_toArray, List.set_cons_zero, List.set_cons_succ])
  refine wpAnyH_take (i := 12) (v := ?_) rfl (by kernel_rfl) (by kernel_rfl) (by kernel_rfl) (fun _ _ _ h => h) (Or.inl ⟨by rfl, ?_⟩) (by assumption) ?_
  case refine_2 => (intro w hSw; (try dsimp only at hSw); go_simp; (try with_reducible rfl))
  (try simp only [Act.put, List.getElem_toArray, List.getElem_cons_succ, List.getElem_cons_zero, List.setIfInBounds_toArray, List.set_cons_zero, List.set_cons_succ])
  refine wpAnyH_take (i := 13) (v := ?_) rfl (by kernel_rfl) (by kernel_rfl) (by kernel_rfl) (fun _ _ _ h => h) (Or.inl ⟨by rfl, ?_⟩) (by assumption) ?_
  case refine_2 => (intro w hSw; (try dsimp only at hSw); go_simp; (try with_reducible rfl))
  (try simp only [Act.put, List.getElem_toArray, List.getElem_cons_succ, List.getElem_cons_zero, List.setIfInBounds_toArray, List.set_cons_zero, List.set_cons_succ])
  refine wpAnyH_take (i := 14) (v := ?_) rfl (by kernel_rfl) (by kernel_rfl) (by kernel_rfl) (fun _ _ _ h => h) (Or.inl ⟨by rfl, ?_⟩) (by assumption) ?_
  case refine_2 => (intro w hSw; (try dsimp only at hSw); go_simp; (try with_reducible rfl))
  (try simp only [Act.put, List.getElem_toArray, List.getElem_cons_succ, List.getElem_cons_zero, List.setIfInBounds_toArray, List.set_cons_zero, List.set_cons_succ])
  refine wpAnyH_take (i := 15) (v := ?_) rfl (by kernel_rfl) (by kernel_rfl) (by kernel_rfl) (fun _ _ _ h => h) (Or.inl ⟨by rfl, ?_⟩) (by assumption) ?_
  case refine_2 => (intro w hSw; (try dsimp only at hSw); go_simp; (try with_reducible rfl))
  (try simp only [Act.put, List.getElem_toArray, List.getElem_cons_succ, List.getElem_cons_zero, List.setIfInBounds_toArray, List.set_cons_zero, List.set_cons_succ])
  refine wpAnyH_take (i := 17) (v := ?_) rfl (by kernel_rfl) (by kernel_rfl) (by kernel_rfl) (fun _ _ _ h => h) (Or.inl ⟨by rfl, ?_⟩) (by assumption) ?_
  case refine_2 => (intro w hSw; (try dsimp only at hSw); go_simp; (try with_reducible rfl))
  (try simp only [Act.put, List.getElem_toArray, List.getElem_cons_succ, List.getElem_cons_zero, List.setIfInBounds_toArray, List.set_cons_zero, List.set_cons_succ])
  refine wpAnyH_take (i := 18) (v := ?_) rfl (by kernel_rfl) (by kernel_rfl) (by kernel_rfl) (fun _ _ _ h => h) (Or.inl ⟨by rfl, ?_⟩) (by assumption) ?_
  case refine_2 => (intro w hSw; (try dsimp only at hSw); go_simp; (try with_reducible rfl))
  (try simp only [Act.put, List.getElem_toArray, List.getElem_cons_succ, List.getElem_cons_zero, List.setIfInBounds_toArray, List.set_cons_zero, List.set_cons_succ])
  refine wpAnyH_take (i := 19) (v := ?_) rfl (by kernel_rfl) (by kernel_rfl) (by kernel_rfl) (fun _ _ _ h => h) (Or.inl ⟨by rfl, ?_⟩) (by assumption) ?_
  case refine_2 => (intro w hSw; (try dsimp only at hSw); go_simp; (try with_reducible rfl))
  (try simp only [Act.put, List.getElem_toArray, List.getElem_cons_succ, List.getElem_cons_zero, List.setIfInBounds_toArray, List.set_cons_zero, List.set_cons_succ])
  refine wpAnyH_take (i := 20) (v := ?_) rfl (by kernel_rfl) (by kernel_rfl) (by kernel_rfl) (fun _ _ _ h => h) (Or.inl ⟨by rfl, ?_⟩) (by assumption) ?_
  case refine_2 => (intro w hSw; (try dsimp only at hSw); go_simp; (try with_reducible rfl))
  (try simp only [Act.put, List.getElem_toArray, List.getElem_cons_succ, List.getElem_cons_zero, List.setIfInBounds_toArray, List.set_cons_zero, List.set_cons_succ])
  refine wpAnyH_take (i := 21) (v := ?_) rfl (by kernel_rfl) (by kernel_rfl) (by kernel_rfl) (fun _ _ _ h => h) (Or.inl ⟨by rfl, ?_⟩) (by assumption) ?_
  case refine_2 => (intro w hSw; (try dsimp only at hSw); go_simp; (try with_reducible rfl))
  (try simp only [Act.put, List.getElem_toArray, List.getElem_cons_succ, List.getElem_cons_zero, List.setIfInBounds_toArray, List.set_cons_zero, List.set_cons_succ])
  refine wpAnyH_take (i := 22) (v := ?_) rfl (by kernel_rfl) (by kernel_rfl) (by kernel_rfl) (fun _ _ _ h => h) (Or.inl ⟨by rfl, ?_⟩) (by assumption) ?_
  case refine_2 => (intro w hSw; (try dsimp only at hSw); go_simp; (try with_reducible rfl))
  (try simp only [Act.put, List.getElem_toArray, List.getElem_cons_succ, List.getElem_cons_zero, List.setIfInBounds_toArray, List.set_cons_zero, List.set_cons_succ])
  refine wpAnyH_take (i := 23) (v := ?_) rfl (by kernel_rfl) (by kernel_rfl) (by kernel_rfl) (fun _ _ _ h => h) (Or.inl ⟨by rfl, ?_⟩) (by assumption) ?_
  case refine_2 => (intro w hSw; (try dsimp only at hSw); go_simp; (try with_reducible rfl))
  (try simp only [Act.put, List.getElem_toArray, List.getElem_cons_succ, List.getElem_cons_zero, List.setIfInBounds_toArray, List.set_cons_zero, List.set_cons_succ])
  refine wpAnyH_take (i := 24) (v := ?_) rfl (by kernel_rfl) (by kernel_rfl) (by kernel_rfl) (fun _ _ _ h => h) (Or.inl ⟨by rfl, ?_⟩) (by assumption) ?_
  case refine_2 => (intro w hSw; (try dsimp only at hSw); go_simp; (try with_reducible rfl))
  (try simp only [Act.put, List.getElem_toArray, List.getElem_cons_succ, List.getElem_cons_zero, List.setIfInBounds_toArray, List.set_cons_zero, List.set_cons_succ])
  refine wpAnyH_ready (rs := [16]) (by kernel_rfl) (by simp) ?_
  refine AllReadyH.cons rfl (fun K hK => ?_) AllReadyH.nil
  refine st_lookup rfl _ _ 98 false rfl _ _ _ rfl rfl hlk ?_
  (try simp only [Act.put, List.getElem_toArray, List.getElem_cons_succ, List.getElem_cons_zero, List.setIfInBounds_toArray, List.set_cons_zero, List.set_cons_succ])
  refine hK.out _ _ ⟨s3, d0, d1, d2, d3⟩ (fun hHeld => ?_)
  clear hK K
  refine wpAnyH_ready (rs := [25]) (by kernel_rfl) (by simp) ?_
  refine AllReadyH.cons rfl (fun K hK => ?_) AllReadyH.nil
  go_simp
  refine (hAc _ (Below.refl _ _)).mono ?_
  rintro e w6 ⟨y6, cy6, rfl, H6⟩
  have k7 := HE.out.2.2.1.below H6.out.1
  obtain ⟨w7, D7, hput, H7⟩ := k7.acc.put b.num hnb (by have := HH.out.2.2.2.2.2.2.2.2.2.2.1; unfold gnb at this; show g.nb < _; omega) ⟨b.bal, b.bal, y6, m4, cy6, dbytes d⟩ ⟨vl_sv H6.out HE.out.2.2.2.2.2, HE.out.2.2.2.1, HE.out.2.2.2.1⟩
  have hput : (Instr.mapUpdate 98 (.map (some g.mb)) (.int .i64 (b.num : Int)) (.agg #[.int .i64 b.bal.1, .int .i64 b.bal.2, .int .i64 b.bal.1, .int .i64 b.bal.2, .slice y6 m4 cy6])).run Tryz.prog w6 = .ok () w7 := hput
  have k8 := k7.setA H7.out.1 H7.out.2
  have hbm : ¬ atB g.mb l.bp := fun e => by
    have e' : l.bp = g.mb := e
    have q3 := HH.out.2.2.1
    exact q3.obj.tb.not_map (e' ▸ HH.out.1.acc.isM)
  have s3' := keep H6.out.1 s3
  have d0' := keep H6.out.1 d0
  have d1' := keep H6.out.1 d1
  have d2' := keep H6.out.1 d2
  have d3' := keep H6.out.1 d3
  have s3'' : w7.cell? ⟨g.p, 3, none⟩ = some (.map (some g.mb)) := k8.c3
  have d0'' := keept H7.out.2 hbm d0'
  have d1'' := keept H7.out.2 hbm d1'
  have d2'' := keept H7.out.2 hbm d2'
  have d3'' := keept H7.out.2 hbm d3'
  have hAsk := ask_one k8 HH.out.2.2.2.2.2.1 HH.out.2.2.2.2.2.2.1
  have HF : Hid (Goes w w7 B g (picked st b d) 1) := by
    have hT : Turns (fp g) w w7 := (((Turns.of_below HE.out.1).trans (HE.out.2.1.weak fun k hk => .inr (.inr (.inr (.inr ⟨l, HH.out.2.1, .inl hk⟩))))).trans (Turns.of_below H6.out.1)).trans (H7.out.2.weak fun k hk => .inr (.inl hk))
    refine ⟨_, ?_, k8, hT, ?_, fun k hk => ?_⟩
    · rfl
    · show g.nb + 1 + l.tn ≤ gnb g + 1
      unfold gnb
      rw [HH.out.2.1]
      dsimp only
      omega
    · left
      rcases hk with q | q | q | q | ⟨l2, q, r⟩
      · exact .inl q
      · exact .inr (.inl q)
      · exact .inr (.inr (.inl q))
      · exact .inr (.inr (.inr (.inl q)))
      · injection q with q
        subst q
        exact .inr (.inr (.inr (.inr ⟨l, HH.out.2.1, r⟩)))
  refine hK.out _ _ ⟨s3', d0', d1', d2', d3'⟩ (fun hHeld => ?_)
  clear hK K
  refine wpAnyH_take (i := 26) (v := ?_) rfl (by kernel_rfl) (by kernel_rfl) (by kernel_rfl) (fun _ _ _ h => h) (Or.inl ⟨by rfl, ?_⟩) (by assumption) ?_
  case refine_2 => (intro w hSw; (try dsimp only at hSw); go_simp; (try with_reducible rfl))
  (try simp only [Act.put, List.getElem_toArray, List.getElem_cons_succ, List.getElem_cons_zero, List.setIfInBounds_toArray, List.set_cons_zero, List.set_cons_succ])
  refine wpAnyH_take (i := 27) (v := ?_) rfl (by kernel_rfl) (by kernel_rfl) (by kernel_rfl) (fun _ _ _ h => h) (Or.inl ⟨by rfl, ?_⟩) (by assumption) ?_
  case refine_2 => (intro w hSw; (try dsimp only at hSw); go_simp; (try with_reducible rfl))
  (try simp only [Act.put, List.getElem_toArray, List.getElem_cons_succ, List.getElem_cons_zero, List.setIfInBounds_toArray, List.set_cons_zero, List.set_cons_succ])
  refine wpAnyH_take (i := 28) (v := ?_) rfl (by kernel_rfl) (by kernel_rfl) (by kernel_rfl) (fun _ _ _ h => h) (Or.inl ⟨by rfl, ?_⟩) (by assumption) ?_
  case refine_2 => (intro w hSw; (try dsimp only at hSw); go_simp; (try with_reducible rfl))
  (try simp only [Act.put, List.getElem_toArray, List.getElem_cons_succ, List.getElem_cons_zero, List.setIfInBounds_toArray, List.set_cons_zero, List.set_cons_succ])
  refine wpAnyH_ready (rs := [29]) (by kernel_rfl) (by simp) ?_
  refine AllReadyH.cons rfl (fun K hK => ?_) AllReadyH.nil
  refine st_mapupdate rfl _ _ _ 98 rfl _ _ _ rfl rfl rfl hput ?_
  (try simp only [Act.put, List.getElem_toArray, List.getElem_cons_succ, List.getElem_cons_zero, List.setIfInBounds_toArray, List.set_cons_zero, List.set_cons_succ])
  refine hK.out _ _ ⟨s3'', d0'', d1'', d2'', d3''⟩ (fun hHeld => ?_)
  clear hK K
  refine wpAnyH_done (by kernel_rfl) ?_ _
  dsimp only at hAsk
  clear k7 k8 hput hHeld H7 HE hlk s3 d0 d1 d2 d3 s3' d0' d1' d2' d3' hAc hbm
  go_wp2_with (first
    | (
       go_at_call 66; refine hAsk.mono ?_; rintro e w9 ⟨rfl, hw9⟩; subst w9; clear hAsk))
  go_ret
  exact ⟨rfl, HF.out⟩

end

end Go.Proofs.YtdlajpjigddbhaaGreat.Px

/-
  A chosen value is settled where a monitor is alone and nothing more waits.
  Conditions: the monitor is one that New gave ('NdAt').
-/
namespace Go.Proofs.YtdlajpjigddbhaaGreat.Px
open Go.RowKit Wi By Fl Ba
set_option linter.unusedVariables false
set_option linter.unusedSimpArgs false
set_option maxRecDepth 100000

theorem app_nil (w : World) : (Builtin.append_ #[45, 45] 45 #[.slice none 0 0, .slice none 0 0]).run Tryz.prog w = .ok (.slice none 0 0) w := by
  simp [Builtin.append_, run_underlying Tryz.underlying45, Builtin.lenOf, Builtin.firstCells]

section
variable {w : World} {B : Nat} {g : Ln} {st : Nd}

set_option maxHeartbeats 3200000 in
theorem settle_one (h : NdAt w B g st) (hn1 : st.n = 1) (hid0 : st.id = 0) (d : Dc) (x : Option Addr) (n c : Nat) (l : List Nat) (hl : Fl.Sl w x n c l) (hn : n ≤ 5000) (hdo : dOf 1 l = some d) (hdok : DOk d) (hdl : st.dec.length < 70000) (hwl : left d st.wait = []) :
    Calls Tryz.prog 121 #[.pointer (some ⟨g.p, 0, none⟩), .slice x n c] w fun e w' => e = .returned (.slice none 0 0) ∧ Hid (Goes w w' B g (learned st d) 0) := by
  have hD := fun (W : World) (b : Below w.heap.size w W) => dof_any x n c l 1 (by omega) W (hl.below b) (by omega)
  rw [hdo] at hD
  dsimp only [Option.getD, Option.isSome, dv] at hD
  have hL := fun (W : World) (b : Below w.heap.size w W) => learn_any (h.below b) d hdok hdl
  dsimp only [dv] at hL
  have c1 := h.c1
  rw [hn1] at c1
  have hpl := h.obj.lt
  have HX : Hid (st.n = 1 ∧ st.id = 0 ∧ left d st.wait = []) := ⟨hn1, hid0, hwl⟩
  have hap := app_nil
  clear h hl hn1 hid0 hdo hdok hdl hwl hn
  obtain ⟨mon, ser, s⟩ := d
  dsimp only at hD hL
  go_enter Tryz.func121, Tryz.ntmps121
  go_wp2_with (first
    | (
       go_at_call 143; refine (hD _ (Below.refl _ _)).mono ?_; rintro e w1 ⟨rfl, H1⟩; clear hD
       have B1 : Below w.heap.size w (w1.alloc (.cells #[.int .i64 mon, .int .i64 ser, .string s] 109)) := on H1.out (al _ _)
       have hL1 := hL _ B1
       clear hL)
    | (
       go_at_call 88; refine hL1.mono ?_; rintro e w2 ⟨rfl, H2⟩; clear hL1
       obtain ⟨g2, e2, k2, t2, n2, f2⟩ := H2.out
       have c0 : w2.cell? ⟨g.p, 0, none⟩ = some (.int .i64 0) := by rw [← e2, k2.c0]; show some (Value.int .i64 ((st.id : Nat) : Int)) = _; rw [HX.out.2.1]; rfl
       have c1' : w2.cell? ⟨g.p, 1, none⟩ = some (.int .i64 1) := by rw [← e2, k2.c1]; show some (Value.int .i64 ((st.n : Nat) : Int)) = _; rw [HX.out.1]; rfl
       have hB0 := begin_idle k2 rfl HX.out.2.2
       rw [e2] at hB0
       have HG : Hid (∀ wF, Below w2.heap.size w2 wF → Goes w wF B g (learned st ⟨mon, ser, s⟩) 0) := fun wF bF =>
         Goes.trans (k1 := 0) (k2 := 0) e2 ((Turns.of_below B1).trans t2) n2 (fun k hk => (f2 k hk).imp id (fun q => Nat.le_trans B1.size q)) (Goes.same k2 bF)
       clear H2 k2 t2 n2 f2))
  go_loopw [7, 8, 25] (fun out _ i wr => ∃ k : Nat, k ≤ 1 ∧ i = .int .i64 k ∧ out = .slice none 0 0 ∧ wr = w2) (fun _ _ i _ => 1 - (intOf i).toNat)
  case atStart => exact ⟨0, by omega, rfl, rfl, rfl⟩
  case round =>
    obtain ⟨k, hk, rfl, rfl, hw⟩ := hrel
    subst hw
    by_cases hk0 : k = 0
    · subst hk0
      go_wp2_with fail
      go_roundw
      case rel => exact ⟨1, by omega, by go_num, by first | trivial | rfl, by first | trivial | rfl⟩
      case measure => simp [intOf]
    · obtain rfl : k = 1 := by omega
      go_wp2_with (first
        | (
           go_at_call 95; refine hB0.mono ?_; rintro e w3 ⟨rfl, H3⟩; clear hB0)
        | (
           at_builtin; refine wpList_append_run rfl _ _ 45 rfl _ _ rfl rfl (hap _) ?_))
      go_ret
      exact ⟨rfl, HG.out _ H3.out⟩

end

end Go.Proofs.YtdlajpjigddbhaaGreat.Px

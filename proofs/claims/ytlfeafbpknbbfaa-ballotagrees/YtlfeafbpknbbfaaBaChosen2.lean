/-
  Which value is chosen: Chosen.
  Conditions: the list lies in memory.
-/
import Derived.Test.YtlfeafbpknbbfaaBaChosen
namespace Go.Proofs.Ytlfeafbpknbbfaa.Ba
open Go.RowKit By Fl
set_option linter.unusedVariables false
set_option linter.unusedSimpArgs false
set_option maxRecDepth 100000

theorem results_cell3 {fn : Func} {p q r : Tmp} {ty : TypeId} (h : fn.results = #[.cell p ty, .tmp q, .tmp r]) (tmps : Array Value) (P : Program) (w : World) :
    (results fn tmps).run P w = ((asAddr (tmps.getD p undef)).run P w).andThen fun a w₁ => ((loadVar ty a).run P w₁).andThen fun v w₂ => .ok (.tuple #[v, tmps.getD q undef, tmps.getD r undef]) w₂ := by
  simp only [results, h]
  simp [Sem.run_bind, Result.andThen]

def Cho (V : Nat → AccV) (n : Nat) (b : Bt) (k : Nat) : Prop := b ≠ z0 ∧ Maj n (fun i => (V i).a = b) ∧ k < n ∧ (V k).a = b

theorem cho_of {V : Nat → AccV} {n : Nat} {b : Bt} {c : Int} (hc : c = cntA V n b) (hm : (n : Int) < 2 * c) : b ≠ z0 ∧ Maj n (fun i => (V i).a = b) ∧ ∃ j, j < n ∧ (V j).a = b := by
  subst hc
  unfold cntA at hm
  by_cases hz : b = z0
  · rw [if_pos hz] at hm
    omega
  · rw [if_neg hz] at hm
    refine ⟨hz, ⟨fun i => decide ((V i).a = b), by omega, fun k hk e => by simpa using e⟩, ?_⟩
    obtain ⟨k, hk, e⟩ := cnt_pos (q := fun i => decide ((V i).a = b)) (n := n) (by omega)
    exact ⟨k, hk, by simpa using e⟩

theorem turns_grown {a w w' : World} {g : Nat} (t : Turns (atB g) a w) (h : w.grownBy w' (some g)) : Turns (atB g) a w' := t.grown h (fun k hk => .inl (by cases hk; rfl))

set_option maxHeartbeats 4000000 in
theorem chosen_any (x : Option Addr) (n c0 : Nat) (V : Nat → AccV) (w : World) (h : Accs w x n V) :
    Calls Try.prog 19 #[.slice x n c0] w fun e w' => (e = .returned (.tuple #[bt z0, .slice none 0 0, .bool false]) ∧ Below w.heap.size w w') ∨
      ∃ (b : Bt) (k : Nat) (y : Option Addr) (cy : Nat), e = .returned (.tuple #[bt b, .slice y (V k).n cy, .bool true]) ∧ Hid (Cho V n b k ∧ Vl w w' y (V k).n cy (V k).d) := by
  have hC := count_any x n c0 V (w.alloc (.cells #[.int .i64 0, .int .i64 0] 23)) (h.below (al _ _))
  have HA : Hid (Accs w x n V) := h
  have hnz : (n : Int) ≤ 1000 := by have := h.small; omega
  clear h
  go_enter Try.func19, Try.ntmps19
  go_wp2_with (first
    | (
       go_at_call 26; refine hC.mono ?_; rintro e w1 ⟨mb, nb, D, rfl, H1⟩; clear hC
       have k0 := keep H1.out.1 (b := w.heap.size) (o := 0) (x := .int .i64 0) (by first | assumption | go_simp)
       have k1 := keep H1.out.1 (b := w.heap.size) (o := 1) (x := .int .i64 0) (by first | assumption | go_simp)
       have f0 := keepf H1.out.1 (b := w.heap.size) (o := 0) (by first | (simp <;> omega) | exact cell_lt' (a := ⟨w.heap.size, 0, none⟩) (by assumption) | (simp; exact cell_lt' (a := ⟨w.heap.size, 0, none⟩) (by assumption))) (by first | assumption | go_simp)
       have f1 := keepf H1.out.1 (b := w.heap.size) (o := 1) (by first | (simp <;> omega) | exact cell_lt' (a := ⟨w.heap.size, 1, none⟩) (by assumption) | (simp; exact cell_lt' (a := ⟨w.heap.size, 1, none⟩) (by assumption))) (by first | assumption | go_simp)
       have hmap := H1.out.2.1.map
       have B1 := on (al _ _) H1.out.1
       have l0 : w.heap.size < w1.heap.size := cell_lt' k0
       have HD : Hid (∀ b, bwf b → D.atKey (blit b) (.lit (.int .i64 0)) = .lit (.int .i64 (cntA V n b))) := H1.out.2.1.cnt
       have l1 : w.heap.size + 1 ≤ mb := by have := H1.out.2.1.bl; simpa using this
       clear H1)
    | (at_range; refine wpList_range_own _ rfl _ 55 rfl 23 3 blaw Try.underlying55 (plainElem Try.prog 3) mb nb D rfl hmap ?_; intro w0 hrg0 hg0 hs0))
  go_frame
  have T0 : Hid (Turns (atB w1.heap.size) w1 w0) := (Turns.refl (atB w1.heap.size) w1).grown hg0 (fun k hk => by cases hk)
  clear hg0 hs0 hmap
  go_loopw [5, 6] (fun _ _ wr => ∃ (left : Lit → Bool) (cnt : Nat), wr.ranges Try.prog 23 (plainElem Try.prog 3) mb w1.heap.size nb D left cnt ∧ Hid (Turns (atB w1.heap.size) w1 wr)) (fun _ _ wr => wr.rangeLeft mb w1.heap.size)
  case atStart => exact ⟨_, _, hrg0, T0.out⟩
  case round =>
    clear T0 hrg0
    obtain ⟨left, cnt, hrg, HT⟩ := hrel
    have HW : Hid (wr.rangeLeft mb w1.heap.size = cnt) := hrg.left_eq
    go_wp2_with (first
      | (at_next; refine wpList_next_ranges _ rfl _ rfl 23 blaw (plainElem Try.prog 3) (fun b : Bt => Value.agg #[.int .i64 b.1, .int .i64 b.2]) (fun z : Int => Value.int .i64 z) (fun key kl hk => by obtain ⟨s, rfl, _⟩ := bk_inv hk; exact ⟨s, rfl⟩) (fun v y hv' => by obtain ⟨a, rfl, _⟩ := plainElem_int_inv Try.underlying3 hv'; exact ⟨a, rfl⟩) mb w1.heap.size nb D left cnt rfl hrg ?_ ?_
         (intro hc0 hl0
          have T9 := HT.out
          have k0 := keepn T9 (b := w.heap.size) (by omega) k0
          have k1 := keepn T9 (b := w.heap.size) (by omega) k1
          have f0 := keepnf T9 (b := w.heap.size) (by omega) (by omega) f0
          have f1 := keepnf T9 (b := w.heap.size) (by omega) (by omega) f1
          clear HT hrg)
         rotate_left 1
         (intro b c kl y w2 cnt2 hkey hlk hvv hat hrg2 hlt hg2 hs2 hen
          obtain ⟨b', eb, hwf, rfl⟩ := bk_inv hkey
          have eb2 : b = b' := by
            simp only [bt, Value.agg.injEq] at eb
            simp at eb
            exact bt_ext eb.1 eb.2
          subst eb2
          obtain ⟨c', ec, ey, _⟩ := plainElem_int_inv Try.underlying3 hvv
          injection ec with _ ec
          subst ec
          have hcc : Hid (c = cntA V n b) := by
            have e1 := HD.out b hwf
            rw [hat, ey] at e1
            injection e1 with e1
            injection e1
          have T2 := turns_grown HT.out hg2
          have hb2 := hen
          clear hkey eb hvv hat ey HT hrg hg2 hs2 hlk
          have HB : Hid (bwf b ∧ c = cntA V n b) := ⟨hwf, hcc.out⟩
          clear hwf hcc hb2
          obtain ⟨b1, b2⟩ := b
          dsimp only at hen
          have l2 : w1.heap.size < w2.heap.size := hrg2.lt
          )
         rotate_right 1))
    · have B2 : Below w.heap.size w wr := B1.trans (T9.below (fun k hk => by have e2 : k = w1.heap.size := hk; omega) B1.size)
      refine bodyPost_ret (v := .tuple #[.agg #[.int .i64 0, .int .i64 0], .slice none 0 0, .bool false]) ?_ rfl (.inl ⟨rfl, below2 B2 w.heap.size (Nat.le_refl _) _ _⟩)
      rw [results_cell3 rfl]
      go_simp
    · rename_i hm K0 a0 ke
      have B2 : Below w.heap.size w w2 := B1.trans (T2.below (fun k hk => by have e2 : k = w1.heap.size := hk; omega) B1.size)
      have k0 := keepn T2 (b := w.heap.size) (by omega) k0
      have k1 := keepn T2 (b := w.heap.size) (by omega) k1
      have f0 := keepnf T2 (b := w.heap.size) (by omega) (by omega) f0
      have f1 := keepnf T2 (b := w.heap.size) (by omega) (by omega) f1
      have l3 : w.heap.size < w2.heap.size := by omega
      obtain ⟨hz, hmaj, hex⟩ := cho_of (b := (b1, b2)) HB.out.2 (by omega)
      have HM : Hid ((b1, b2) ≠ z0 ∧ Maj n (fun i => (V i).a = (b1, b2))) := ⟨hz, hmaj⟩
      have bD : Below (w2.alloc (.cells #[.int .i64 b1, .int .i64 b2] 23)).heap.size (w2.alloc (.cells #[.int .i64 b1, .int .i64 b2] 23)) (w2.alloc (.cells #[.int .i64 b1, .int .i64 b2] 23)).drew := (Below.refl _ _).drew
      have k0 := keep bD (b := w.heap.size) (o := 0) (x := .int .i64 0) (by first | assumption | go_simp)
      have k1 := keep bD (b := w.heap.size) (o := 1) (x := .int .i64 0) (by first | assumption | go_simp)
      have f0 := keepf bD (b := w.heap.size) (o := 0) (by first | (simp <;> omega) | exact cell_lt' (a := ⟨w.heap.size, 0, none⟩) (by assumption) | (simp; exact cell_lt' (a := ⟨w.heap.size, 0, none⟩) (by assumption))) (by first | assumption | go_simp)
      have f1 := keepf bD (b := w.heap.size) (o := 1) (by first | (simp <;> omega) | exact cell_lt' (a := ⟨w.heap.size, 1, none⟩) (by assumption) | (simp; exact cell_lt' (a := ⟨w.heap.size, 1, none⟩) (by assumption))) (by first | assumption | go_simp)
      have j0 := keep bD (b := w2.heap.size) (o := 0) (x := .int .i64 b1) (by first | assumption | go_simp)
      have j1 := keep bD (b := w2.heap.size) (o := 1) (x := .int .i64 b2) (by first | assumption | go_simp)
      have B3 := on (on B2 (al _ _)) bD
      have hV := valueOf_any x n c0 V (b1, b2) _ (HA.out.below B3) hex
      clear bD B2 hz hmaj hex hen hrg2 HB T2 HD l2 hlt B1 hm
      refine wp_region_held_drew (S := fun v => v.cell? ⟨w2.heap.size, 0, none⟩ = some (.int .i64 b1) ∧ v.cell? ⟨w2.heap.size, 1, none⟩ = some (.int .i64 b2)) (by kernel_rfl) ⟨j0, j1⟩ (fun hHeld => ?_)
      generalize (w2.alloc (.cells #[.int .i64 b1, .int .i64 b2] 23)).drew = wD at *
      have l5 : w.heap.size < wD.heap.size := cell_lt' k0
      dsimp only [bt] at hV
      refine wpAnyH_take (i := 0) (v := ?_) rfl (by kernel_rfl) (by kernel_rfl) (by kernel_rfl) (fun _ _ _ h => h) (Or.inl ⟨by rfl, ?_⟩) (by assumption) ?_
      case refine_2 => (intro w hSw; (try dsimp only at hSw); go_simp; (try with_reducible rfl))
      (try simp only [Act.put, List.getElem_toArray, List.getElem_cons_succ, List.getElem_cons_zero, List.setIfInBounds_toArray, List.set_cons_zero, List.set_cons_succ])
      refine wpAnyH_take (i := 1) (v := ?_) rfl (by kernel_rfl) (by kernel_rfl) (by kernel_rfl) (fun _ _ _ h => h) (Or.inl ⟨by rfl, ?_⟩) (by assumption) ?_
      case refine_2 => (intro w hSw; (try dsimp only at hSw); go_simp; (try with_reducible rfl))
      (try simp only [Act.put, List.getElem_toArray, List.getElem_cons_succ, List.getElem_cons_zero, List.setIfInBounds_toArray, List.set_cons_zero, List.set_cons_succ])
      refine wpAnyH_take (i := 2) (v := ?_) rfl (by kernel_rfl) (by kernel_rfl) (by kernel_rfl) (fun _ _ _ h => h) (Or.inl ⟨by rfl, ?_⟩) (by assumption) ?_
      case refine_2 => (intro w hSw; (try dsimp only at hSw); go_simp; (try with_reducible rfl))
      (try simp only [Act.put, List.getElem_toArray, List.getElem_cons_succ, List.getElem_cons_zero, List.setIfInBounds_toArray, List.set_cons_zero, List.set_cons_succ])
      refine wpAnyH_ready (rs := [3]) (by kernel_rfl) (by simp) ?_
      refine AllReadyH.cons rfl (fun K hK => ?_) AllReadyH.nil
      go_simp
      refine hV.mono ?_
      rintro e w3 ⟨k, y, cy, rfl, H3⟩
      have k0 := keep H3.out.2.2.1 (b := w.heap.size) (o := 0) (x := .int .i64 0) (by first | assumption | go_simp)
      have k1 := keep H3.out.2.2.1 (b := w.heap.size) (o := 1) (x := .int .i64 0) (by first | assumption | go_simp)
      have f0 := keepf H3.out.2.2.1 (b := w.heap.size) (o := 0) (by first | (simp <;> omega) | exact cell_lt' (a := ⟨w.heap.size, 0, none⟩) (by assumption) | (simp; exact cell_lt' (a := ⟨w.heap.size, 0, none⟩) (by assumption))) (by first | assumption | go_simp)
      have f1 := keepf H3.out.2.2.1 (b := w.heap.size) (o := 1) (by first | (simp <;> omega) | exact cell_lt' (a := ⟨w.heap.size, 1, none⟩) (by assumption) | (simp; exact cell_lt' (a := ⟨w.heap.size, 1, none⟩) (by assumption))) (by first | assumption | go_simp)
      have j0 := keep H3.out.2.2.1 (b := w2.heap.size) (o := 0) (x := .int .i64 b1) (by first | assumption | go_simp)
      have j1 := keep H3.out.2.2.1 (b := w2.heap.size) (o := 1) (x := .int .i64 b2) (by first | assumption | go_simp)
      refine hK.out _ _ ⟨j0, j1⟩ (fun hHeld => ?_)
      clear hK K
      refine wpAnyH_ready (rs := [4]) (by kernel_rfl) (by simp) ?_
      refine AllReadyH.cons rfl (fun K hK => ?_) AllReadyH.nil
      go_simp
      refine hK.out _ _ ⟨by go_simp, by go_simp⟩ (fun hHeld => ?_)
      clear hK K
      refine wpAnyH_take (i := 5) (v := ?_) rfl (by kernel_rfl) (by kernel_rfl) (by kernel_rfl) (fun _ _ _ h => h) (Or.inl ⟨by rfl, ?_⟩) (by assumption) ?_
      case refine_2 => (intro w hSw; (try dsimp only at hSw); go_simp; (try with_reducible rfl))
      (try simp only [Act.put, List.getElem_toArray, List.getElem_cons_succ, List.getElem_cons_zero, List.setIfInBounds_toArray, List.set_cons_zero, List.set_cons_succ])
      refine wpAnyH_take (i := 6) (v := ?_) rfl (by kernel_rfl) (by kernel_rfl) (by kernel_rfl) (fun _ _ _ h => h) (Or.inl ⟨by rfl, ?_⟩) (by assumption) ?_
      case refine_2 => (intro w hSw; (try dsimp only at hSw); go_simp; (try with_reducible rfl))
      (try simp only [Act.put, List.getElem_toArray, List.getElem_cons_succ, List.getElem_cons_zero, List.setIfInBounds_toArray, List.set_cons_zero, List.set_cons_succ])
      refine wpAnyH_done (by kernel_rfl) ?_ _
      go_wp2_with fail
      refine bodyPost_ret (v := .tuple #[.agg #[.int .i64 b1, .int .i64 b2], .slice y (V k).n cy, .bool true]) ?_ rfl (.inr ⟨(b1, b2), k, y, cy, rfl, ⟨HM.out.1, HM.out.2, H3.out.1, H3.out.2.1⟩, Vl.turns B3 H3.out.2.2 ?_⟩)
      · rw [results_cell3 rfl]
        go_simp
      · exact (Turns.refl (fun k => w.heap.size ≤ k ∧ k < wD.heap.size) w3).set2 w.heap.size ⟨Nat.le_refl _, l5⟩ _ _
    · refine ⟨⟨_, _, hrg2.alloc _, T2.alloc _⟩, ?_⟩
      rw [(hrg2.alloc _).left_eq, HW.out]
      exact hlt

end Go.Proofs.Ytlfeafbpknbbfaa.Ba

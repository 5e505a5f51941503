/-
  What anything tells that is done with messages on their way: 'mooringlaw10.FlightActs' returns true and leaves its argument as it was.
  Conditions: none.
-/
import Derived.Test.YtmekbbddfmmbeaaRows
import Derived.WalkKit
import Derived.ProofKit
import Derived.OpenShut
import Derived.SizedLaws
import Derived.ShutString
import Derived.ChangeOld
import Derived.Below
import Derived.Test.YtmekbbddfmmbeaaByRows
import Derived.Test.YtmekbbddfmmbeaaFlItem
import Derived.Test.YtmekbbddfmmbeaaFlDoes
namespace Go.Proofs.Ytmekbbddfmmbeaa.flightActs
open Go.ChangeShapes Go.WideShapes Go.ChangeAt Go.RowKit By
open Fl
set_option linter.unusedVariables false
set_option linter.unusedSimpArgs false
set_option maxRecDepth 100000

theorem own : ownKnob Try.prog.godebug = none := by kernel_rfl
theorem laidOut : laidOutB Try.prog = true := by kernel_rfl

/- A round of the law: the act, and what is asked behind it. -/
theorem round_in {w0 w : World} {p q k : Nat} (h : Both w0 w p q k) (hk : k ≤ 1000) (V : ActV) (hV : ActIn w0 V) :
    Calls Try.prog 9 #[.pointer (some ⟨p, 0, none⟩), .pointer (some ⟨q, 0, none⟩), .agg #[.int .i64 V.do_, .int .i64 V.a, .int .i64 V.b, .slice V.x V.n V.c]] w fun e w2 => e = .returned (.bool true) ∧ ∃ x l c t, Below w0.heap.size w0 w2 ∧
      w2.cell? ⟨q, 0, none⟩ = some (.slice x l c) ∧ Calls Try.prog 10 #[.pointer (some ⟨p, 0, none⟩)] w2 (fun e w3 => e = .returned (.int .i64 (l : Int)) ∧ w3 = w2) ∧
      Calls Try.prog 11 #[.pointer (some ⟨p, 0, none⟩), .int .i64 V.a, .int .i64 V.b] w2 (fun e w3 => e = .returned (.bool t) ∧ Below w0.heap.size w0 w3 ∧
      Calls Try.prog 12 #[.pointer (some ⟨q, 0, none⟩), .int .i64 V.a, .int .i64 V.b] w3 (fun e w4 => e = .returned (.bool t) ∧ w4 = w3 ∧ Hid (Both w0 w3 p q (k + 1)))) := by
  refine (does_any h hk V hV).mono fun e w2 ⟨e2, H2⟩ => ⟨e2, ?_⟩
  obtain ⟨mb, nb, D, R, Rl, Rp, L, PP, h2⟩ := H2.out
  obtain ⟨x, c, hR, _⟩ := h2.md.l.form
  have q0 := h2.md.c0
  rw [hR, List.length_map] at q0
  refine ⟨x, L.length, c, prt PP V.a V.b, h2.bel, q0, h2.fl.len, (parted_any h2.fl V.a V.b hV.ha hV.hb).mono fun e w3 ⟨e3, b3⟩ => ⟨e3, h2.bel.trans (b3.mono h2.bel.size), ?_⟩⟩
  have h3 := h2.below b3
  exact (mparted_any h3.md V.a V.b (by have := h3.hp; omega)).mono fun e w4 ⟨e4, hw⟩ => ⟨e4, hw, mb, nb, D, R, Rl, Rp, L, PP, h3⟩

/- What is looked at in the end. -/
theorem look_end {w0 w : World} {p mb nb q k : Nat} {D : DataW Value} {R Rl Rp : Value} {L : List MV} {PP : List (Int × Int)} (h : Pair w0 w p mb nb q k D R Rl Rp L PP) (j : Nat) (m : MV) (hm : L[j]? = some m) : Calls Try.prog 13 #[.pointer (some ⟨p, 0, none⟩), .int .i64 (j : Int)] w fun e w2 =>
    ∃ y n cy, e = .returned (.tuple #[.int .i64 m.fr, .int .i64 m.to, .slice y n cy, .bool true]) ∧ Below w.heap.size w w2 ∧ ∀ o, (convert 31 9 (.slice y n cy)).run Try.prog (w2.alloc o) = .ok (.string (str m.d)) (w2.alloc o) :=
  (look_yes h.fl j m hm).mono fun e w2 ⟨y, cy, e1, H⟩ => ⟨y, m.n, cy, e1, H.out.1, fun o => conv_sl (H.out.2.1.below ((Below.refl _ _).alloc (Nat.le_refl _) _))⟩

set_option maxHeartbeats 8000000 in
set_option maxRecDepth 100000 in
theorem walk (x : Option Addr) (len cap : Nat) (V : Nat → ActV) (w : World) (h : ActsIn w x len cap V) :
    Calls Try.prog 3 #[.slice x len cap] w fun e w' => e = .returned (.bool true) ∧ Below w.heap.size w w' := by
  have hN : Calls Try.prog 8 #[] w fun e w1 => ∃ p, e = .returned (.pointer (some ⟨p, 0, none⟩)) ∧ Hid (Both w (w1.alloc (.cells #[.slice none 0 0, .slice none 0 0] 29)) p w1.heap.size 0) := by
    refine (new_any w).mono fun e w1 ⟨p, mb, e1, H⟩ => ⟨p, e1, ?_⟩
    obtain ⟨hb, hf⟩ := H.out
    have b1 : Below w1.heap.size w1 (w1.alloc (.cells #[.slice none 0 0, .slice none 0 0] 29)) := (Below.refl _ _).alloc (Nat.le_refl _) _
    exact ⟨mb, 0, _, _, .slice none 0 0, .slice none 0 0, [], [], hb.trans (b1.mono hb.size), (hf.below b1).congr (fun a b _ _ => by simp [prt]), ⟨Blk.new w1 _ _ _ _ rfl, Own.nil _ _ _ _ _, Own.nil _ _ _ _ _, hb.size⟩, by simp, by simp, by simp⟩
  have HA : Hid (ActsIn w x len cap V) := h
  have hsm := h.small
  have hlz : (len : Int) ≤ 140737488351232 := by omega
  clear h
  go_enter Try.func3, Try.ntmps3
  go_wp2_with (go_at_call 8; refine hN.mono ?_; rintro e w1 ⟨p, rfl, HO⟩; clear hN)
  generalize w1.heap.size = q at HO ⊢
  go_loopw [5] (fun i wr => ∃ (k : Nat), k ≤ len ∧ k ≤ 500 ∧ i = .int .i64 k ∧ Hid (Both w wr p q k)) (fun i _ => len - (intOf i).toNat)
  case atStart => exact ⟨0, by omega, by omega, rfl, HO.out⟩
  case round =>
    obtain ⟨k, hk, hk5, rfl, HR⟩ := hrel
    clear HO
    by_cases hgo : k < len ∧ k < 500
    · obtain ⟨hlt, hlt5⟩ := hgo
      have hkn : (k : Int) < (len : Int) := by omega
      have hk5z : (k : Int) < 500 := by omega
      obtain ⟨b, o, hx, hbl, hc⟩ : ∃ b o, x = some ⟨b, o, none⟩ ∧ b < w.heap.size ∧ ∀ i, i < len → w.cell? ⟨b, o + i * 4, none⟩ = some (.int .i64 (V i).do_) ∧ w.cell? ⟨b, o + i * 4 + 1, none⟩ = some (.int .i64 (V i).a) ∧ w.cell? ⟨b, o + i * 4 + 2, none⟩ = some (.int .i64 (V i).b) ∧ w.cell? ⟨b, o + i * 4 + 3, none⟩ = some (.slice (V i).x (V i).n (V i).c) := by
        rcases HA.out.row with h0 | h1
        · omega
        · exact h1
      subst hx
      obtain ⟨g0, g1, g2, g3⟩ := hc k hlt
      have hV := HA.out.act k hlt
      have hbr : Below w.heap.size w wr := by
        obtain ⟨_, _, _, _, _, _, _, _, h⟩ := HR.out
        exact h.bel
      have HS : Hid (∀ v, Below w.heap.size w v → v.cell? ⟨b, o + k * 4, none⟩ = some (.int .i64 (V k).do_) ∧ v.cell? ⟨b, o + k * 4 + 1, none⟩ = some (.int .i64 (V k).a) ∧ v.cell? ⟨b, o + k * 4 + 2, none⟩ = some (.int .i64 (V k).b) ∧ v.cell? ⟨b, o + k * 4 + 3, none⟩ = some (.slice (V k).x (V k).n (V k).c)) := fun v hv =>
        ⟨(hv.cell (p := ⟨b, o + k * 4, none⟩) hbl).trans g0, (hv.cell (p := ⟨b, o + k * 4 + 1, none⟩) hbl).trans g1, (hv.cell (p := ⟨b, o + k * 4 + 2, none⟩) hbl).trans g2, (hv.cell (p := ⟨b, o + k * 4 + 3, none⟩) hbl).trans g3⟩
      have bd : Below wr.heap.size wr wr.drew := (Below.refl _ _).drew
      have hD := round_in (HR.out.below bd) (by omega) (V k) hV
      have S0 := HS.out wr.drew (hbr.trans (bd.mono hbr.size))
      clear HR hbr hc hV g0 g1 g2 g3 bd HA
      generalize (V k).do_ = Do at *
      generalize (V k).a = A at *
      generalize (V k).b = Bb at *
      generalize (V k).x = X at *
      generalize (V k).n = n at *
      generalize (V k).c = c at *
      go_wp2_with fail
      refine wp_region_held_drew (S := fun v => v.cell? ⟨b, o + k * 4, none⟩ = some (.int .i64 Do) ∧ v.cell? ⟨b, o + k * 4 + 1, none⟩ = some (.int .i64 A) ∧ v.cell? ⟨b, o + k * 4 + 2, none⟩ = some (.int .i64 Bb) ∧ v.cell? ⟨b, o + k * 4 + 3, none⟩ = some (.slice X n c)) (by kernel_rfl) S0 (fun hHeld => ?_)
      refine wpAnyH_take (i := 0) (v := ?_) rfl (by kernel_rfl) (by kernel_rfl) (by kernel_rfl) (fun _ _ _ h => h) (Or.inl ⟨by rfl, ?_⟩) (by assumption) ?_
      case refine_2 => (intro w hSw; (try dsimp only at hSw); go_simp; (try with_reducible rfl))
      (try simp only [Act.put, List.getElem_toArray, List.getElem_cons_succ, List.getElem_cons_zero, List.setIfInBounds_toArray, List.set_cons_zero, List.set_cons_succ])
      refine wpAnyH_take (i := 1) (v := ?_) rfl (by kernel_rfl) (by kernel_rfl) (by kernel_rfl) (fun _ _ _ h => h) (Or.inl ⟨by rfl, ?_⟩) (by assumption) ?_
      case refine_2 => (intro w hSw; (try dsimp only at hSw); go_simp; (try with_reducible rfl))
      (try simp only [Act.put, List.getElem_toArray, List.getElem_cons_succ, List.getElem_cons_zero, List.setIfInBounds_toArray, List.set_cons_zero, List.set_cons_succ])
      refine wpAnyH_take (i := 2) (v := ?_) rfl (by kernel_rfl) (by kernel_rfl) (by kernel_rfl) (fun _ _ _ h => h) (Or.inl ⟨by rfl, ?_⟩) (by assumption) ?_
      case refine_2 => (intro w hSw; (try dsimp only at hSw); go_simp; (try with_reducible rfl))
      (try simp only [Act.put, List.getElem_toArray, List.getElem_cons_succ, List.getElem_cons_zero, List.setIfInBounds_toArray, List.set_cons_zero, List.set_cons_succ])
      refine wpAnyH_take (i := 3) (v := ?_) rfl (by kernel_rfl) (by kernel_rfl) (by kernel_rfl) (fun _ _ _ h => h) (Or.inl ⟨by rfl, ?_⟩) (by assumption) ?_
      case refine_2 => (intro w hSw; (try dsimp only at hSw); go_simp; (try with_reducible rfl))
      (try simp only [Act.put, List.getElem_toArray, List.getElem_cons_succ, List.getElem_cons_zero, List.setIfInBounds_toArray, List.set_cons_zero, List.set_cons_succ])
      refine wpAnyH_take (i := 4) (v := ?_) rfl (by kernel_rfl) (by kernel_rfl) (by kernel_rfl) (fun _ _ _ h => h) (Or.inl ⟨by rfl, ?_⟩) (by assumption) ?_
      case refine_2 => (intro w hSw; (try dsimp only at hSw); go_simp; (try with_reducible rfl))
      (try simp only [Act.put, List.getElem_toArray, List.getElem_cons_succ, List.getElem_cons_zero, List.setIfInBounds_toArray, List.set_cons_zero, List.set_cons_succ])
      refine wpAnyH_take (i := 5) (v := ?_) rfl (by kernel_rfl) (by kernel_rfl) (by kernel_rfl) (fun _ _ _ h => h) (Or.inl ⟨by rfl, ?_⟩) (by assumption) ?_
      case refine_2 => (intro w hSw; (try dsimp only at hSw); go_simp; (try with_reducible rfl))
      (try simp only [Act.put, List.getElem_toArray, List.getElem_cons_succ, List.getElem_cons_zero, List.setIfInBounds_toArray, List.set_cons_zero, List.set_cons_succ])
      refine wpAnyH_ready (rs := [6]) (by kernel_rfl) (by simp) ?_
      refine AllReadyH.cons rfl (fun K hK => ?_) AllReadyH.nil
      go_simp
      refine hD.mono ?_
      rintro e w2 ⟨rfl, mx, l, mc, t, hb2, q0, hL, hP⟩
      have S2 := HS.out w2 hb2
      clear hD hb2
      refine hK.out _ _ S2 (fun hHeld => ?_)
      clear hK K
      refine wpAnyH_take (i := 7) (v := ?_) rfl (by kernel_rfl) (by kernel_rfl) (by kernel_rfl) (fun _ _ _ h => h) (Or.inl ⟨by rfl, ?_⟩) (by assumption) ?_
      case refine_2 => (intro w hSw; (try dsimp only at hSw); go_simp; (try with_reducible rfl))
      (try simp only [Act.put, List.getElem_toArray, List.getElem_cons_succ, List.getElem_cons_zero, List.setIfInBounds_toArray, List.set_cons_zero, List.set_cons_succ])
      refine wpAnyH_take (i := 8) (v := ?_) rfl (by kernel_rfl) (by kernel_rfl) (by kernel_rfl) (fun _ _ _ h => h) (Or.inl ⟨by rfl, ?_⟩) (by assumption) ?_
      case refine_2 => (intro w hSw; (try dsimp only at hSw); go_simp; (try with_reducible rfl))
      (try simp only [Act.put, List.getElem_toArray, List.getElem_cons_succ, List.getElem_cons_zero, List.setIfInBounds_toArray, List.set_cons_zero, List.set_cons_succ])
      refine wpAnyH_take (i := 9) (v := ?_) rfl (by kernel_rfl) (by kernel_rfl) (by kernel_rfl) (fun _ _ _ h => h) (Or.inl ⟨by rfl, ?_⟩) (by assumption) ?_
      case refine_2 => (intro w hSw; (try dsimp only at hSw); go_simp; (try with_reducible rfl))
      (try simp only [Act.put, List.getElem_toArray, List.getElem_cons_succ, List.getElem_cons_zero, List.setIfInBounds_toArray, List.set_cons_zero, List.set_cons_succ])
      refine wpAnyH_take (i := 11) (v := ?_) rfl (by kernel_rfl) (by kernel_rfl) (by kernel_rfl) (fun _ _ _ h => h) (Or.inl ⟨by rfl, ?_⟩) (by assumption) ?_
      case refine_2 => (intro w hSw; (try dsimp only at hSw); go_simp; (try with_reducible rfl))
      (try simp only [Act.put, List.getElem_toArray, List.getElem_cons_succ, List.getElem_cons_zero, List.setIfInBounds_toArray, List.set_cons_zero, List.set_cons_succ])
      refine wpAnyH_take (i := 12) (v := ?_) rfl (by kernel_rfl) (by kernel_rfl) (by kernel_rfl) (fun _ _ _ h => h) (Or.inl ⟨by rfl, ?_⟩) (by assumption) ?_
      case refine_2 => (intro w hSw; (try dsimp only at hSw); go_simp; (try with_reducible rfl))
      (try simp only [Act.put, List.getElem_toArray, List.getElem_cons_succ, List.getElem_cons_zero, List.setIfInBounds_toArray, List.set_cons_zero, List.set_cons_succ])
      refine wpAnyH_take (i := 13) (v := ?_) rfl (by kernel_rfl) (by kernel_rfl) (by kernel_rfl) (fun _ _ _ h => h) (Or.inl ⟨by rfl, ?_⟩) (by assumption) ?_
      case refine_2 => (intro w hSw; (try dsimp only at hSw); go_simp; (try with_reducible rfl))
      (try simp only [Act.put, List.getElem_toArray, List.getElem_cons_succ, List.getElem_cons_zero, List.setIfInBounds_toArray, List.set_cons_zero, List.set_cons_succ])
      refine wpAnyH_ready (rs := [10, 14]) (by kernel_rfl) (by simp) ?_
      refine AllReadyH.cons rfl (fun K hK => ?_) (AllReadyH.cons rfl (fun K hK => ?_) AllReadyH.nil)
      · go_simp
        refine hL.mono ?_
        rintro e w' ⟨rfl, hw⟩
        subst w'
        clear hL
        refine hK.out _ _ S2 (fun hHeld => ?_)
        clear hK K
        refine wpAnyH_ready (rs := [14]) (by kernel_rfl) (by simp) ?_
        refine AllReadyH.cons rfl (fun K hK => ?_) AllReadyH.nil
        go_simp
        refine hK.out _ _ S2 (fun hHeld => ?_)
        clear hK K
        refine wpAnyH_take (i := 15) (v := ?_) rfl (by kernel_rfl) (by kernel_rfl) (by kernel_rfl) (fun _ _ _ h => h) (Or.inl ⟨by rfl, ?_⟩) (by assumption) ?_
        case refine_2 => (intro w hSw; (try dsimp only at hSw); go_simp; (try with_reducible rfl))
        (try simp only [Act.put, List.getElem_toArray, List.getElem_cons_succ, List.getElem_cons_zero, List.setIfInBounds_toArray, List.set_cons_zero, List.set_cons_succ])
        refine wpAnyH_take (i := 16) (v := ?_) rfl (by kernel_rfl) (by kernel_rfl) (by kernel_rfl) (fun _ _ _ h => h) (Or.inl ⟨by rfl, ?_⟩) (by assumption) ?_
        case refine_2 => (intro w hSw; (try dsimp only at hSw); go_simp; (try with_reducible rfl))
        (try simp only [Act.put, List.getElem_toArray, List.getElem_cons_succ, List.getElem_cons_zero, List.setIfInBounds_toArray, List.set_cons_zero, List.set_cons_succ])
        refine wpAnyH_take (i := 17) (v := ?_) rfl (by kernel_rfl) (by kernel_rfl) (by kernel_rfl) (fun _ _ _ h => h) (Or.inl ⟨by rfl, ?_⟩) (by assumption) ?_
        case refine_2 => (intro w hSw; (try dsimp only at hSw); go_simp; (try with_reducible rfl))
        (try simp only [Act.put, List.getElem_toArray, List.getElem_cons_succ, List.getElem_cons_zero, List.setIfInBounds_toArray, List.set_cons_zero, List.set_cons_succ])
        refine wpAnyH_take (i := 18) (v := ?_) rfl (by kernel_rfl) (by kernel_rfl) (by kernel_rfl) (fun _ _ _ h => h) (Or.inl ⟨by rfl, ?_⟩) (by assumption) ?_
        case refine_2 => (intro w hSw; (try dsimp only at hSw); go_simp; (try with_reducible rfl))
        (try simp only [Act.put, List.getElem_toArray, List.getElem_cons_succ, List.getElem_cons_zero, List.setIfInBounds_toArray, List.set_cons_zero, List.set_cons_succ])
        refine wpAnyH_take (i := 19) (v := ?_) rfl (by kernel_rfl) (by kernel_rfl) (by kernel_rfl) (fun _ _ _ h => h) (Or.inl ⟨by rfl, ?_⟩) (by assumption) ?_
        case refine_2 => (intro w hSw; (try dsimp only at hSw); go_simp; (try with_reducible rfl))
        (try simp only [Act.put, List.getElem_toArray, List.getElem_cons_succ, List.getElem_cons_zero, List.setIfInBounds_toArray, List.set_cons_zero, List.set_cons_succ])
        refine wpAnyH_take (i := 20) (v := ?_) rfl (by kernel_rfl) (by kernel_rfl) (by kernel_rfl) (fun _ _ _ h => h) (Or.inl ⟨by rfl, ?_⟩) (by assumption) ?_
        case refine_2 => (intro w hSw; (try dsimp only at hSw); go_simp; (try with_reducible rfl))
        (try simp only [Act.put, List.getElem_toArray, List.getElem_cons_succ, List.getElem_cons_zero, List.setIfInBounds_toArray, List.set_cons_zero, List.set_cons_succ])
        refine wpAnyH_take (i := 21) (v := ?_) rfl (by kernel_rfl) (by kernel_rfl) (by kernel_rfl) (fun _ _ _ h => h) (Or.inl ⟨by rfl, ?_⟩) (by assumption) ?_
        case refine_2 => (intro w hSw; (try dsimp only at hSw); go_simp; (try with_reducible rfl))
        (try simp only [Act.put, List.getElem_toArray, List.getElem_cons_succ, List.getElem_cons_zero, List.setIfInBounds_toArray, List.set_cons_zero, List.set_cons_succ])
        refine wpAnyH_take (i := 22) (v := ?_) rfl (by kernel_rfl) (by kernel_rfl) (by kernel_rfl) (fun _ _ _ h => h) (Or.inl ⟨by rfl, ?_⟩) (by assumption) ?_
        case refine_2 => (intro w hSw; (try dsimp only at hSw); go_simp; (try with_reducible rfl))
        (try simp only [Act.put, List.getElem_toArray, List.getElem_cons_succ, List.getElem_cons_zero, List.setIfInBounds_toArray, List.set_cons_zero, List.set_cons_succ])
        refine wpAnyH_take (i := 23) (v := ?_) rfl (by kernel_rfl) (by kernel_rfl) (by kernel_rfl) (fun _ _ _ h => h) (Or.inl ⟨by rfl, ?_⟩) (by assumption) ?_
        case refine_2 => (intro w hSw; (try dsimp only at hSw); go_simp; (try with_reducible rfl))
        (try simp only [Act.put, List.getElem_toArray, List.getElem_cons_succ, List.getElem_cons_zero, List.setIfInBounds_toArray, List.set_cons_zero, List.set_cons_succ])
        refine wpAnyH_take (i := 24) (v := ?_) rfl (by kernel_rfl) (by kernel_rfl) (by kernel_rfl) (fun _ _ _ h => h) (Or.inl ⟨by rfl, ?_⟩) (by assumption) ?_
        case refine_2 => (intro w hSw; (try dsimp only at hSw); go_simp; (try with_reducible rfl))
        (try simp only [Act.put, List.getElem_toArray, List.getElem_cons_succ, List.getElem_cons_zero, List.setIfInBounds_toArray, List.set_cons_zero, List.set_cons_succ])
        refine wpAnyH_take (i := 25) (v := ?_) rfl (by kernel_rfl) (by kernel_rfl) (by kernel_rfl) (fun _ _ _ h => h) (Or.inl ⟨by rfl, ?_⟩) (by assumption) ?_
        case refine_2 => (intro w hSw; (try dsimp only at hSw); go_simp; (try with_reducible rfl))
        (try simp only [Act.put, List.getElem_toArray, List.getElem_cons_succ, List.getElem_cons_zero, List.setIfInBounds_toArray, List.set_cons_zero, List.set_cons_succ])
        refine wpAnyH_take (i := 26) (v := ?_) rfl (by kernel_rfl) (by kernel_rfl) (by kernel_rfl) (fun _ _ _ h => h) (Or.inl ⟨by rfl, ?_⟩) (by assumption) ?_
        case refine_2 => (intro w hSw; (try dsimp only at hSw); go_simp; (try with_reducible rfl))
        (try simp only [Act.put, List.getElem_toArray, List.getElem_cons_succ, List.getElem_cons_zero, List.setIfInBounds_toArray, List.set_cons_zero, List.set_cons_succ])
        refine wpAnyH_take (i := 27) (v := ?_) rfl (by kernel_rfl) (by kernel_rfl) (by kernel_rfl) (fun _ _ _ h => h) (Or.inl ⟨by rfl, ?_⟩) (by assumption) ?_
        case refine_2 => (intro w hSw; (try dsimp only at hSw); go_simp; (try with_reducible rfl))
        (try simp only [Act.put, List.getElem_toArray, List.getElem_cons_succ, List.getElem_cons_zero, List.setIfInBounds_toArray, List.set_cons_zero, List.set_cons_succ])
        refine wpAnyH_take (i := 28) (v := ?_) rfl (by kernel_rfl) (by kernel_rfl) (by kernel_rfl) (fun _ _ _ h => h) (Or.inl ⟨by rfl, ?_⟩) (by assumption) ?_
        case refine_2 => (intro w hSw; (try dsimp only at hSw); go_simp; (try with_reducible rfl))
        (try simp only [Act.put, List.getElem_toArray, List.getElem_cons_succ, List.getElem_cons_zero, List.setIfInBounds_toArray, List.set_cons_zero, List.set_cons_succ])
        refine wpAnyH_take (i := 29) (v := ?_) rfl (by kernel_rfl) (by kernel_rfl) (by kernel_rfl) (fun _ _ _ h => h) (Or.inl ⟨by rfl, ?_⟩) (by assumption) ?_
        case refine_2 => (intro w hSw; (try dsimp only at hSw); go_simp; (try with_reducible rfl))
        (try simp only [Act.put, List.getElem_toArray, List.getElem_cons_succ, List.getElem_cons_zero, List.setIfInBounds_toArray, List.set_cons_zero, List.set_cons_succ])
        refine wpAnyH_take (i := 31) (v := ?_) rfl (by kernel_rfl) (by kernel_rfl) (by kernel_rfl) (fun _ _ _ h => h) (Or.inl ⟨by rfl, ?_⟩) (by assumption) ?_
        case refine_2 => (intro w hSw; (try dsimp only at hSw); go_simp; (try with_reducible rfl))
        (try simp only [Act.put, List.getElem_toArray, List.getElem_cons_succ, List.getElem_cons_zero, List.setIfInBounds_toArray, List.set_cons_zero, List.set_cons_succ])
        refine wpAnyH_take (i := 32) (v := ?_) rfl (by kernel_rfl) (by kernel_rfl) (by kernel_rfl) (fun _ _ _ h => h) (Or.inl ⟨by rfl, ?_⟩) (by assumption) ?_
        case refine_2 => (intro w hSw; (try dsimp only at hSw); go_simp; (try with_reducible rfl))
        (try simp only [Act.put, List.getElem_toArray, List.getElem_cons_succ, List.getElem_cons_zero, List.setIfInBounds_toArray, List.set_cons_zero, List.set_cons_succ])
        refine wpAnyH_take (i := 33) (v := ?_) rfl (by kernel_rfl) (by kernel_rfl) (by kernel_rfl) (fun _ _ _ h => h) (Or.inl ⟨by rfl, ?_⟩) (by assumption) ?_
        case refine_2 => (intro w hSw; (try dsimp only at hSw); go_simp; (try with_reducible rfl))
        (try simp only [Act.put, List.getElem_toArray, List.getElem_cons_succ, List.getElem_cons_zero, List.setIfInBounds_toArray, List.set_cons_zero, List.set_cons_succ])
        refine wpAnyH_take (i := 34) (v := ?_) rfl (by kernel_rfl) (by kernel_rfl) (by kernel_rfl) (fun _ _ _ h => h) (Or.inl ⟨by rfl, ?_⟩) (by assumption) ?_
        case refine_2 => (intro w hSw; (try dsimp only at hSw); go_simp; (try with_reducible rfl))
        (try simp only [Act.put, List.getElem_toArray, List.getElem_cons_succ, List.getElem_cons_zero, List.setIfInBounds_toArray, List.set_cons_zero, List.set_cons_succ])
        refine wpAnyH_take (i := 35) (v := ?_) rfl (by kernel_rfl) (by kernel_rfl) (by kernel_rfl) (fun _ _ _ h => h) (Or.inl ⟨by rfl, ?_⟩) (by assumption) ?_
        case refine_2 => (intro w hSw; (try dsimp only at hSw); go_simp; (try with_reducible rfl))
        (try simp only [Act.put, List.getElem_toArray, List.getElem_cons_succ, List.getElem_cons_zero, List.setIfInBounds_toArray, List.set_cons_zero, List.set_cons_succ])
        refine wpAnyH_take (i := 36) (v := ?_) rfl (by kernel_rfl) (by kernel_rfl) (by kernel_rfl) (fun _ _ _ h => h) (Or.inl ⟨by rfl, ?_⟩) (by assumption) ?_
        case refine_2 => (intro w hSw; (try dsimp only at hSw); go_simp; (try with_reducible rfl))
        (try simp only [Act.put, List.getElem_toArray, List.getElem_cons_succ, List.getElem_cons_zero, List.setIfInBounds_toArray, List.set_cons_zero, List.set_cons_succ])
        refine wpAnyH_take (i := 37) (v := ?_) rfl (by kernel_rfl) (by kernel_rfl) (by kernel_rfl) (fun _ _ _ h => h) (Or.inl ⟨by rfl, ?_⟩) (by assumption) ?_
        case refine_2 => (intro w hSw; (try dsimp only at hSw); go_simp; (try with_reducible rfl))
        (try simp only [Act.put, List.getElem_toArray, List.getElem_cons_succ, List.getElem_cons_zero, List.setIfInBounds_toArray, List.set_cons_zero, List.set_cons_succ])
        refine wpAnyH_take (i := 38) (v := ?_) rfl (by kernel_rfl) (by kernel_rfl) (by kernel_rfl) (fun _ _ _ h => h) (Or.inl ⟨by rfl, ?_⟩) (by assumption) ?_
        case refine_2 => (intro w hSw; (try dsimp only at hSw); go_simp; (try with_reducible rfl))
        (try simp only [Act.put, List.getElem_toArray, List.getElem_cons_succ, List.getElem_cons_zero, List.setIfInBounds_toArray, List.set_cons_zero, List.set_cons_succ])
        refine wpAnyH_take (i := 39) (v := ?_) rfl (by kernel_rfl) (by kernel_rfl) (by kernel_rfl) (fun _ _ _ h => h) (Or.inl ⟨by rfl, ?_⟩) (by assumption) ?_
        case refine_2 => (intro w hSw; (try dsimp only at hSw); go_simp; (try with_reducible rfl))
        (try simp only [Act.put, List.getElem_toArray, List.getElem_cons_succ, List.getElem_cons_zero, List.setIfInBounds_toArray, List.set_cons_zero, List.set_cons_succ])
        refine wpAnyH_take (i := 40) (v := ?_) rfl (by kernel_rfl) (by kernel_rfl) (by kernel_rfl) (fun _ _ _ h => h) (Or.inl ⟨by rfl, ?_⟩) (by assumption) ?_
        case refine_2 => (intro w hSw; (try dsimp only at hSw); go_simp; (try with_reducible rfl))
        (try simp only [Act.put, List.getElem_toArray, List.getElem_cons_succ, List.getElem_cons_zero, List.setIfInBounds_toArray, List.set_cons_zero, List.set_cons_succ])
        refine wpAnyH_take (i := 41) (v := ?_) rfl (by kernel_rfl) (by kernel_rfl) (by kernel_rfl) (fun _ _ _ h => h) (Or.inl ⟨by rfl, ?_⟩) (by assumption) ?_
        case refine_2 => (intro w hSw; (try dsimp only at hSw); go_simp; (try with_reducible rfl))
        (try simp only [Act.put, List.getElem_toArray, List.getElem_cons_succ, List.getElem_cons_zero, List.setIfInBounds_toArray, List.set_cons_zero, List.set_cons_succ])
        refine wpAnyH_ready (rs := [30]) (by kernel_rfl) (by simp) ?_
        refine AllReadyH.cons rfl (fun K hK => ?_) AllReadyH.nil
        go_simp
        refine hP.mono ?_
        rintro e w3 ⟨rfl, hb3, hQ⟩
        have S3 := HS.out w3 hb3
        clear hP hb3
        refine hK.out _ _ S3 (fun hHeld => ?_)
        clear hK K
        refine wpAnyH_ready (rs := [42]) (by kernel_rfl) (by simp) ?_
        refine AllReadyH.cons rfl (fun K hK => ?_) AllReadyH.nil
        go_simp
        refine hQ.mono ?_
        rintro e w' ⟨rfl, hw, HN⟩
        subst w'
        clear hQ
        refine hK.out _ _ S3 (fun hHeld => ?_)
        clear hK K
        refine wpAnyH_take (i := 43) (v := ?_) rfl (by kernel_rfl) (by kernel_rfl) (by kernel_rfl) (fun _ _ _ h => h) (Or.inl ⟨by rfl, ?_⟩) (by assumption) ?_
        case refine_2 => (intro w hSw; (try dsimp only at hSw); go_simp; (try with_reducible rfl))
        (try simp only [Act.put, List.getElem_toArray, List.getElem_cons_succ, List.getElem_cons_zero, List.setIfInBounds_toArray, List.set_cons_zero, List.set_cons_succ])
        refine wpAnyH_take (i := 44) (v := ?_) rfl (by kernel_rfl) (by kernel_rfl) (by kernel_rfl) (fun _ _ _ h => h) (Or.inl ⟨by rfl, ?_⟩) (by assumption) ?_
        case refine_2 => (intro w hSw; (try dsimp only at hSw); go_simp; (try with_reducible rfl))
        (try simp only [Act.put, List.getElem_toArray, List.getElem_cons_succ, List.getElem_cons_zero, List.setIfInBounds_toArray, List.set_cons_zero, List.set_cons_succ])
        refine wpAnyH_done (by kernel_rfl) ?_ _
        go_wp2_with fail
        go_roundw
        case rel => exact ⟨k + 1, by omega, by omega, by go_num, HN.out⟩
        case measure => simp [intOf]; omega
      · go_simp
        refine hK.out _ _ S2 (fun hHeld => ?_)
        clear hK K
        refine wpAnyH_take (i := 15) (v := ?_) rfl (by kernel_rfl) (by kernel_rfl) (by kernel_rfl) (fun _ _ _ h => h) (Or.inl ⟨by rfl, ?_⟩) (by assumption) ?_
        case refine_2 => (intro w hSw; (try dsimp only at hSw); go_simp; (try with_reducible rfl))
        (try simp only [Act.put, List.getElem_toArray, List.getElem_cons_succ, List.getElem_cons_zero, List.setIfInBounds_toArray, List.set_cons_zero, List.set_cons_succ])
        refine wpAnyH_ready (rs := [10]) (by kernel_rfl) (by simp) ?_
        refine AllReadyH.cons rfl (fun K hK => ?_) AllReadyH.nil
        go_simp
        refine hL.mono ?_
        rintro e w' ⟨rfl, hw⟩
        subst w'
        clear hL
        refine hK.out _ _ S2 (fun hHeld => ?_)
        clear hK K
        refine wpAnyH_take (i := 16) (v := ?_) rfl (by kernel_rfl) (by kernel_rfl) (by kernel_rfl) (fun _ _ _ h => h) (Or.inl ⟨by rfl, ?_⟩) (by assumption) ?_
        case refine_2 => (intro w hSw; (try dsimp only at hSw); go_simp; (try with_reducible rfl))
        (try simp only [Act.put, List.getElem_toArray, List.getElem_cons_succ, List.getElem_cons_zero, List.setIfInBounds_toArray, List.set_cons_zero, List.set_cons_succ])
        refine wpAnyH_take (i := 17) (v := ?_) rfl (by kernel_rfl) (by kernel_rfl) (by kernel_rfl) (fun _ _ _ h => h) (Or.inl ⟨by rfl, ?_⟩) (by assumption) ?_
        case refine_2 => (intro w hSw; (try dsimp only at hSw); go_simp; (try with_reducible rfl))
        (try simp only [Act.put, List.getElem_toArray, List.getElem_cons_succ, List.getElem_cons_zero, List.setIfInBounds_toArray, List.set_cons_zero, List.set_cons_succ])
        refine wpAnyH_take (i := 18) (v := ?_) rfl (by kernel_rfl) (by kernel_rfl) (by kernel_rfl) (fun _ _ _ h => h) (Or.inl ⟨by rfl, ?_⟩) (by assumption) ?_
        case refine_2 => (intro w hSw; (try dsimp only at hSw); go_simp; (try with_reducible rfl))
        (try simp only [Act.put, List.getElem_toArray, List.getElem_cons_succ, List.getElem_cons_zero, List.setIfInBounds_toArray, List.set_cons_zero, List.set_cons_succ])
        refine wpAnyH_take (i := 19) (v := ?_) rfl (by kernel_rfl) (by kernel_rfl) (by kernel_rfl) (fun _ _ _ h => h) (Or.inl ⟨by rfl, ?_⟩) (by assumption) ?_
        case refine_2 => (intro w hSw; (try dsimp only at hSw); go_simp; (try with_reducible rfl))
        (try simp only [Act.put, List.getElem_toArray, List.getElem_cons_succ, List.getElem_cons_zero, List.setIfInBounds_toArray, List.set_cons_zero, List.set_cons_succ])
        refine wpAnyH_take (i := 20) (v := ?_) rfl (by kernel_rfl) (by kernel_rfl) (by kernel_rfl) (fun _ _ _ h => h) (Or.inl ⟨by rfl, ?_⟩) (by assumption) ?_
        case refine_2 => (intro w hSw; (try dsimp only at hSw); go_simp; (try with_reducible rfl))
        (try simp only [Act.put, List.getElem_toArray, List.getElem_cons_succ, List.getElem_cons_zero, List.setIfInBounds_toArray, List.set_cons_zero, List.set_cons_succ])
        refine wpAnyH_take (i := 21) (v := ?_) rfl (by kernel_rfl) (by kernel_rfl) (by kernel_rfl) (fun _ _ _ h => h) (Or.inl ⟨by rfl, ?_⟩) (by assumption) ?_
        case refine_2 => (intro w hSw; (try dsimp only at hSw); go_simp; (try with_reducible rfl))
        (try simp only [Act.put, List.getElem_toArray, List.getElem_cons_succ, List.getElem_cons_zero, List.setIfInBounds_toArray, List.set_cons_zero, List.set_cons_succ])
        refine wpAnyH_take (i := 22) (v := ?_) rfl (by kernel_rfl) (by kernel_rfl) (by kernel_rfl) (fun _ _ _ h => h) (Or.inl ⟨by rfl, ?_⟩) (by assumption) ?_
        case refine_2 => (intro w hSw; (try dsimp only at hSw); go_simp; (try with_reducible rfl))
        (try simp only [Act.put, List.getElem_toArray, List.getElem_cons_succ, List.getElem_cons_zero, List.setIfInBounds_toArray, List.set_cons_zero, List.set_cons_succ])
        refine wpAnyH_take (i := 23) (v := ?_) rfl (by kernel_rfl) (by kernel_rfl) (by kernel_rfl) (fun _ _ _ h => h) (Or.inl ⟨by rfl, ?_⟩) (by assumption) ?_
        case refine_2 => (intro w hSw; (try dsimp only at hSw); go_simp; (try with_reducible rfl))
        (try simp only [Act.put, List.getElem_toArray, List.getElem_cons_succ, List.getElem_cons_zero, List.setIfInBounds_toArray, List.set_cons_zero, List.set_cons_succ])
        refine wpAnyH_take (i := 24) (v := ?_) rfl (by kernel_rfl) (by kernel_rfl) (by kernel_rfl) (fun _ _ _ h => h) (Or.inl ⟨by rfl, ?_⟩) (by assumption) ?_
        case refine_2 => (intro w hSw; (try dsimp only at hSw); go_simp; (try with_reducible rfl))
        (try simp only [Act.put, List.getElem_toArray, List.getElem_cons_succ, List.getElem_cons_zero, List.setIfInBounds_toArray, List.set_cons_zero, List.set_cons_succ])
        refine wpAnyH_take (i := 25) (v := ?_) rfl (by kernel_rfl) (by kernel_rfl) (by kernel_rfl) (fun _ _ _ h => h) (Or.inl ⟨by rfl, ?_⟩) (by assumption) ?_
        case refine_2 => (intro w hSw; (try dsimp only at hSw); go_simp; (try with_reducible rfl))
        (try simp only [Act.put, List.getElem_toArray, List.getElem_cons_succ, List.getElem_cons_zero, List.setIfInBounds_toArray, List.set_cons_zero, List.set_cons_succ])
        refine wpAnyH_take (i := 26) (v := ?_) rfl (by kernel_rfl) (by kernel_rfl) (by kernel_rfl) (fun _ _ _ h => h) (Or.inl ⟨by rfl, ?_⟩) (by assumption) ?_
        case refine_2 => (intro w hSw; (try dsimp only at hSw); go_simp; (try with_reducible rfl))
        (try simp only [Act.put, List.getElem_toArray, List.getElem_cons_succ, List.getElem_cons_zero, List.setIfInBounds_toArray, List.set_cons_zero, List.set_cons_succ])
        refine wpAnyH_take (i := 27) (v := ?_) rfl (by kernel_rfl) (by kernel_rfl) (by kernel_rfl) (fun _ _ _ h => h) (Or.inl ⟨by rfl, ?_⟩) (by assumption) ?_
        case refine_2 => (intro w hSw; (try dsimp only at hSw); go_simp; (try with_reducible rfl))
        (try simp only [Act.put, List.getElem_toArray, List.getElem_cons_succ, List.getElem_cons_zero, List.setIfInBounds_toArray, List.set_cons_zero, List.set_cons_succ])
        refine wpAnyH_take (i := 28) (v := ?_) rfl (by kernel_rfl) (by kernel_rfl) (by kernel_rfl) (fun _ _ _ h => h) (Or.inl ⟨by rfl, ?_⟩) (by assumption) ?_
        case refine_2 => (intro w hSw; (try dsimp only at hSw); go_simp; (try with_reducible rfl))
        (try simp only [Act.put, List.getElem_toArray, List.getElem_cons_succ, List.getElem_cons_zero, List.setIfInBounds_toArray, List.set_cons_zero, List.set_cons_succ])
        refine wpAnyH_take (i := 29) (v := ?_) rfl (by kernel_rfl) (by kernel_rfl) (by kernel_rfl) (fun _ _ _ h => h) (Or.inl ⟨by rfl, ?_⟩) (by assumption) ?_
        case refine_2 => (intro w hSw; (try dsimp only at hSw); go_simp; (try with_reducible rfl))
        (try simp only [Act.put, List.getElem_toArray, List.getElem_cons_succ, List.getElem_cons_zero, List.setIfInBounds_toArray, List.set_cons_zero, List.set_cons_succ])
        refine wpAnyH_take (i := 31) (v := ?_) rfl (by kernel_rfl) (by kernel_rfl) (by kernel_rfl) (fun _ _ _ h => h) (Or.inl ⟨by rfl, ?_⟩) (by assumption) ?_
        case refine_2 => (intro w hSw; (try dsimp only at hSw); go_simp; (try with_reducible rfl))
        (try simp only [Act.put, List.getElem_toArray, List.getElem_cons_succ, List.getElem_cons_zero, List.setIfInBounds_toArray, List.set_cons_zero, List.set_cons_succ])
        refine wpAnyH_take (i := 32) (v := ?_) rfl (by kernel_rfl) (by kernel_rfl) (by kernel_rfl) (fun _ _ _ h => h) (Or.inl ⟨by rfl, ?_⟩) (by assumption) ?_
        case refine_2 => (intro w hSw; (try dsimp only at hSw); go_simp; (try with_reducible rfl))
        (try simp only [Act.put, List.getElem_toArray, List.getElem_cons_succ, List.getElem_cons_zero, List.setIfInBounds_toArray, List.set_cons_zero, List.set_cons_succ])
        refine wpAnyH_take (i := 33) (v := ?_) rfl (by kernel_rfl) (by kernel_rfl) (by kernel_rfl) (fun _ _ _ h => h) (Or.inl ⟨by rfl, ?_⟩) (by assumption) ?_
        case refine_2 => (intro w hSw; (try dsimp only at hSw); go_simp; (try with_reducible rfl))
        (try simp only [Act.put, List.getElem_toArray, List.getElem_cons_succ, List.getElem_cons_zero, List.setIfInBounds_toArray, List.set_cons_zero, List.set_cons_succ])
        refine wpAnyH_take (i := 34) (v := ?_) rfl (by kernel_rfl) (by kernel_rfl) (by kernel_rfl) (fun _ _ _ h => h) (Or.inl ⟨by rfl, ?_⟩) (by assumption) ?_
        case refine_2 => (intro w hSw; (try dsimp only at hSw); go_simp; (try with_reducible rfl))
        (try simp only [Act.put, List.getElem_toArray, List.getElem_cons_succ, List.getElem_cons_zero, List.setIfInBounds_toArray, List.set_cons_zero, List.set_cons_succ])
        refine wpAnyH_take (i := 35) (v := ?_) rfl (by kernel_rfl) (by kernel_rfl) (by kernel_rfl) (fun _ _ _ h => h) (Or.inl ⟨by rfl, ?_⟩) (by assumption) ?_
        case refine_2 => (intro w hSw; (try dsimp only at hSw); go_simp; (try with_reducible rfl))
        (try simp only [Act.put, List.getElem_toArray, List.getElem_cons_succ, List.getElem_cons_zero, List.setIfInBounds_toArray, List.set_cons_zero, List.set_cons_succ])
        refine wpAnyH_take (i := 36) (v := ?_) rfl (by kernel_rfl) (by kernel_rfl) (by kernel_rfl) (fun _ _ _ h => h) (Or.inl ⟨by rfl, ?_⟩) (by assumption) ?_
        case refine_2 => (intro w hSw; (try dsimp only at hSw); go_simp; (try with_reducible rfl))
        (try simp only [Act.put, List.getElem_toArray, List.getElem_cons_succ, List.getElem_cons_zero, List.setIfInBounds_toArray, List.set_cons_zero, List.set_cons_succ])
        refine wpAnyH_take (i := 37) (v := ?_) rfl (by kernel_rfl) (by kernel_rfl) (by kernel_rfl) (fun _ _ _ h => h) (Or.inl ⟨by rfl, ?_⟩) (by assumption) ?_
        case refine_2 => (intro w hSw; (try dsimp only at hSw); go_simp; (try with_reducible rfl))
        (try simp only [Act.put, List.getElem_toArray, List.getElem_cons_succ, List.getElem_cons_zero, List.setIfInBounds_toArray, List.set_cons_zero, List.set_cons_succ])
        refine wpAnyH_take (i := 38) (v := ?_) rfl (by kernel_rfl) (by kernel_rfl) (by kernel_rfl) (fun _ _ _ h => h) (Or.inl ⟨by rfl, ?_⟩) (by assumption) ?_
        case refine_2 => (intro w hSw; (try dsimp only at hSw); go_simp; (try with_reducible rfl))
        (try simp only [Act.put, List.getElem_toArray, List.getElem_cons_succ, List.getElem_cons_zero, List.setIfInBounds_toArray, List.set_cons_zero, List.set_cons_succ])
        refine wpAnyH_take (i := 39) (v := ?_) rfl (by kernel_rfl) (by kernel_rfl) (by kernel_rfl) (fun _ _ _ h => h) (Or.inl ⟨by rfl, ?_⟩) (by assumption) ?_
        case refine_2 => (intro w hSw; (try dsimp only at hSw); go_simp; (try with_reducible rfl))
        (try simp only [Act.put, List.getElem_toArray, List.getElem_cons_succ, List.getElem_cons_zero, List.setIfInBounds_toArray, List.set_cons_zero, List.set_cons_succ])
        refine wpAnyH_take (i := 40) (v := ?_) rfl (by kernel_rfl) (by kernel_rfl) (by kernel_rfl) (fun _ _ _ h => h) (Or.inl ⟨by rfl, ?_⟩) (by assumption) ?_
        case refine_2 => (intro w hSw; (try dsimp only at hSw); go_simp; (try with_reducible rfl))
        (try simp only [Act.put, List.getElem_toArray, List.getElem_cons_succ, List.getElem_cons_zero, List.setIfInBounds_toArray, List.set_cons_zero, List.set_cons_succ])
        refine wpAnyH_take (i := 41) (v := ?_) rfl (by kernel_rfl) (by kernel_rfl) (by kernel_rfl) (fun _ _ _ h => h) (Or.inl ⟨by rfl, ?_⟩) (by assumption) ?_
        case refine_2 => (intro w hSw; (try dsimp only at hSw); go_simp; (try with_reducible rfl))
        (try simp only [Act.put, List.getElem_toArray, List.getElem_cons_succ, List.getElem_cons_zero, List.setIfInBounds_toArray, List.set_cons_zero, List.set_cons_succ])
        refine wpAnyH_ready (rs := [30]) (by kernel_rfl) (by simp) ?_
        refine AllReadyH.cons rfl (fun K hK => ?_) AllReadyH.nil
        go_simp
        refine hP.mono ?_
        rintro e w3 ⟨rfl, hb3, hQ⟩
        have S3 := HS.out w3 hb3
        clear hP hb3
        refine hK.out _ _ S3 (fun hHeld => ?_)
        clear hK K
        refine wpAnyH_ready (rs := [42]) (by kernel_rfl) (by simp) ?_
        refine AllReadyH.cons rfl (fun K hK => ?_) AllReadyH.nil
        go_simp
        refine hQ.mono ?_
        rintro e w' ⟨rfl, hw, HN⟩
        subst w'
        clear hQ
        refine hK.out _ _ S3 (fun hHeld => ?_)
        clear hK K
        refine wpAnyH_take (i := 43) (v := ?_) rfl (by kernel_rfl) (by kernel_rfl) (by kernel_rfl) (fun _ _ _ h => h) (Or.inl ⟨by rfl, ?_⟩) (by assumption) ?_
        case refine_2 => (intro w hSw; (try dsimp only at hSw); go_simp; (try with_reducible rfl))
        (try simp only [Act.put, List.getElem_toArray, List.getElem_cons_succ, List.getElem_cons_zero, List.setIfInBounds_toArray, List.set_cons_zero, List.set_cons_succ])
        refine wpAnyH_take (i := 44) (v := ?_) rfl (by kernel_rfl) (by kernel_rfl) (by kernel_rfl) (fun _ _ _ h => h) (Or.inl ⟨by rfl, ?_⟩) (by assumption) ?_
        case refine_2 => (intro w hSw; (try dsimp only at hSw); go_simp; (try with_reducible rfl))
        (try simp only [Act.put, List.getElem_toArray, List.getElem_cons_succ, List.getElem_cons_zero, List.setIfInBounds_toArray, List.set_cons_zero, List.set_cons_succ])
        refine wpAnyH_done (by kernel_rfl) ?_ _
        go_wp2_with fail
        go_roundw
        case rel => exact ⟨k + 1, by omega, by omega, by go_num, HN.out⟩
        case measure => simp [intOf]; omega
    · obtain ⟨mb, nb, D, R, Rl, Rp, L, PP, hp⟩ := HR.out
      obtain ⟨mx, mc, hRl, _⟩ := hp.md.l.form
      rw [List.length_map] at hRl
      have hl := hp.hl
      have hLz : (L.length : Int) ≤ 500 := by omega
      have HP := hid hp
      have HRl := hid hRl
      clear HR HA hp hRl
      obtain ⟨wA, hA⟩ : ∃ wA, wA = wr := ⟨_, rfl⟩
      subst hA
      have hcv : ∀ v : World, (convert 31 9 (.slice none 0 0)).run Try.prog v = .ok (.string ⟨#[]⟩) v := fun v => conv_sl (Sl.empty v)
      have K1 : (k < len ∧ ¬ k < 500) ∨ ¬ k < len := by omega
      clear hgo
      rcases K1 with ⟨hl1, hl2⟩ | hl1
      · have hkn : (k : Int) < (len : Int) ∧ ¬ (k : Int) < 500 := by omega
        obtain ⟨hkn, hk5z⟩ := hkn
        clear hl1 hl2
        go_wp2_with fail
        go_loopw [6] (fun i wr => ∃ z : Int, i = .int .i64 z ∧ -1 ≤ z ∧ z ≤ (L.length : Int) + 1 ∧ Hid (Below wA.heap.size wA wr)) (fun i _ => (((L.length : Int) + 1 - (intOf i))).toNat)
        case atStart => exact ⟨-1, rfl, by omega, by omega, Below.refl _ _⟩
        case round =>
          obtain ⟨z, rfl, hz0, hz1, HB⟩ := hrel
          have hp := HP.out.below HB.out
          have q0 := hp.md.c0
          rw [HRl.out] at q0
          by_cases he : z = (L.length : Int) + 1
          · subst he
            have HF : Hid (Below w.heap.size w wr) := hp.bel
            have hno : ¬ (L.length : Int) + 1 ≤ (L.length : Int) := by omega
            clear hp HB HP HRl hz0 hz1
            go_wp2_with (go_at_call 14; refine (awake_any _).mono ?_; rintro e w5 ⟨rfl, hb5⟩)
            go_ret
            exact ⟨rfl, HF.out.trans (hb5.mono HF.out.size)⟩
          · have hle : z ≤ (L.length : Int) := by omega
            by_cases hin : 0 ≤ z ∧ z < (L.length : Int)
            · obtain ⟨j, rfl⟩ : ∃ j : Nat, z = (j : Int) := ⟨z.toNat, by omega⟩
              have hj : j < L.length := by omega
              obtain ⟨m, hm⟩ : ∃ m, L[j]? = some m := ⟨L[j]'hj, List.getElem?_eq_getElem hj⟩
              have hmL : (L.map toL)[j]? = some (toL m) := by rw [List.getElem?_map, hm]; rfl
              have own := hp.md.l
              rw [HRl.out] at own
              obtain ⟨g, hg⟩ : ∃ g, mx = some ⟨g, 0, none⟩ := by
                obtain ⟨g, c', e, _⟩ := own.there (by intro e; rw [e] at hmL; simp at hmL)
                injection e with e _ _
                exact ⟨g, e⟩
              subst hg
              have k0 := own.cell lrow.len hmL (j := 0) (v := .int .i64 m.fr) rfl
              rw [Nat.add_zero] at k0
              have k1 := own.cell lrow.len hmL (j := 1) (v := .int .i64 m.to) rfl
              have k2 := own.cell lrow.len hmL (j := 2) (v := .string (str m.d)) rfl
              have hlt0 := cell_lt' q0
              have hlt1 := cell_lt' k0
              have hLk : Calls Try.prog 13 #[.pointer (some ⟨p, 0, none⟩), .int .i64 (j : Int)] wr fun e w2 => ∃ y n cy, e = .returned (.tuple #[.int .i64 m.fr, .int .i64 m.to, .slice y n cy, .bool true]) ∧
                  (∀ o, (w2.alloc o).cell? ⟨q, 0, none⟩ = some (.slice (some ⟨g, 0, none⟩) L.length mc) ∧ (w2.alloc o).cell? ⟨g, j * 3, none⟩ = some (.int .i64 m.fr) ∧ (w2.alloc o).cell? ⟨g, j * 3 + 1, none⟩ = some (.int .i64 m.to) ∧ (w2.alloc o).cell? ⟨g, j * 3 + 2, none⟩ = some (.string (str m.d)) ∧ (convert 31 9 (.slice y n cy)).run Try.prog (w2.alloc o) = .ok (.string (str m.d)) (w2.alloc o)) ∧ Hid (∀ o, Below wA.heap.size wA (w2.alloc o)) := by
                refine (look_end hp j m hm).mono fun e w2 ⟨y, n, cy, e1, b2, hc⟩ => ⟨y, n, cy, e1, fun o => ?_, fun o => ?_⟩
                · have b3 : Below wr.heap.size wr (w2.alloc o) := b2.alloc b2.size _
                  exact ⟨(b3.cell (p := ⟨q, 0, none⟩) hlt0).trans q0, (b3.cell (p := ⟨g, j * 3, none⟩) hlt1).trans k0, (b3.cell (p := ⟨g, j * 3 + 1, none⟩) hlt1).trans k1, (b3.cell (p := ⟨g, j * 3 + 2, none⟩) hlt1).trans k2, hc o⟩
                · have b3 : Below wr.heap.size wr (w2.alloc o) := b2.alloc b2.size _
                  exact HB.out.trans (b3.mono HB.out.size)
              have z0 : (0 : Int) ≤ (j : Int) := by omega
              have z1 : (j : Int) < (L.length : Int) := by omega
              clear hp HB HP HRl own hm hmL hin he hj hz0 hz1 k0 k1 k2 hlt0 hlt1
              generalize m.fr = mf at *
              generalize m.to = mt at *
              generalize str m.d = ms at *
              go_wp2_with (first
                | (go_at_call 13; refine hLk.mono ?_; rintro e w2 ⟨y, yn, cy, rfl, hS, HN⟩; clear hLk
                   obtain ⟨u0, u1, u2, u3, _⟩ := hS (.cells #[.int .i64 0, .int .i64 0, .string ⟨#[]⟩] 39)
                   obtain ⟨v0, _, _, _, v4⟩ := hS (.cells #[.int .i64 mf, .int .i64 mt, .string ms] 39)
                   clear hS))
              go_roundw
              case rel => exact ⟨(j : Int) + 1, by go_num, by omega, by omega, HN.out _⟩
              case measure => simp [intOf]; omega
            · have hi : z < 0 ∨ (L.length : Int) ≤ z := by omega
              have hLk : Calls Try.prog 13 #[.pointer (some ⟨p, 0, none⟩), .int .i64 z] wr fun e w2 => e = .returned (.tuple #[.int .i64 0, .int .i64 0, .slice none 0 0, .bool false]) ∧ w2 = wr := look_no hp.fl z hi
              have hlt0 := cell_lt' q0
              have q1 : ∀ o, (wr.alloc o).cell? ⟨q, 0, none⟩ = some (.slice mx L.length mc) := fun o => (((Below.refl wr.heap.size wr).alloc (Nat.le_refl _) o).cell (p := ⟨q, 0, none⟩) hlt0).trans q0
              have HN : Hid (∀ o, Below wA.heap.size wA (wr.alloc o)) := fun o => HB.out.alloc HB.out.size _
              clear hp HB HP HRl hin hlt0
              by_cases hneg : z < 0
              · obtain rfl : z = -1 := by omega
                clear hi he hz0 hz1 hneg
                go_wp2_with (go_at_call 13; refine hLk.mono ?_; rintro e w2 ⟨rfl, hw⟩; subst w2; clear hLk)
                go_roundw
                case rel => exact ⟨0, by go_num, by omega, by omega, HN.out _⟩
                case measure => first | (simp [intOf]; done) | (simp [intOf]; omega)
              · obtain rfl : z = (L.length : Int) := by omega
                have z0 : (0 : Int) ≤ (L.length : Int) := by omega
                clear hi he hz0 hz1 hneg
                go_wp2_with (go_at_call 13; refine hLk.mono ?_; rintro e w2 ⟨rfl, hw⟩; subst w2; clear hLk)
                go_roundw
                case rel => exact ⟨(L.length : Int) + 1, by go_num, by omega, by omega, HN.out _⟩
                case measure => first | (simp [intOf]; done) | (simp [intOf]; omega)
      · have hkn : ¬ (k : Int) < (len : Int) := by omega
        clear hl1 
        go_wp2_with fail
        go_loopw [6] (fun i wr => ∃ z : Int, i = .int .i64 z ∧ -1 ≤ z ∧ z ≤ (L.length : Int) + 1 ∧ Hid (Below wA.heap.size wA wr)) (fun i _ => (((L.length : Int) + 1 - (intOf i))).toNat)
        case atStart => exact ⟨-1, rfl, by omega, by omega, Below.refl _ _⟩
        case round =>
          obtain ⟨z, rfl, hz0, hz1, HB⟩ := hrel
          have hp := HP.out.below HB.out
          have q0 := hp.md.c0
          rw [HRl.out] at q0
          by_cases he : z = (L.length : Int) + 1
          · subst he
            have HF : Hid (Below w.heap.size w wr) := hp.bel
            have hno : ¬ (L.length : Int) + 1 ≤ (L.length : Int) := by omega
            clear hp HB HP HRl hz0 hz1
            go_wp2_with (go_at_call 14; refine (awake_any _).mono ?_; rintro e w5 ⟨rfl, hb5⟩)
            go_ret
            exact ⟨rfl, HF.out.trans (hb5.mono HF.out.size)⟩
          · have hle : z ≤ (L.length : Int) := by omega
            by_cases hin : 0 ≤ z ∧ z < (L.length : Int)
            · obtain ⟨j, rfl⟩ : ∃ j : Nat, z = (j : Int) := ⟨z.toNat, by omega⟩
              have hj : j < L.length := by omega
              obtain ⟨m, hm⟩ : ∃ m, L[j]? = some m := ⟨L[j]'hj, List.getElem?_eq_getElem hj⟩
              have hmL : (L.map toL)[j]? = some (toL m) := by rw [List.getElem?_map, hm]; rfl
              have own := hp.md.l
              rw [HRl.out] at own
              obtain ⟨g, hg⟩ : ∃ g, mx = some ⟨g, 0, none⟩ := by
                obtain ⟨g, c', e, _⟩ := own.there (by intro e; rw [e] at hmL; simp at hmL)
                injection e with e _ _
                exact ⟨g, e⟩
              subst hg
              have k0 := own.cell lrow.len hmL (j := 0) (v := .int .i64 m.fr) rfl
              rw [Nat.add_zero] at k0
              have k1 := own.cell lrow.len hmL (j := 1) (v := .int .i64 m.to) rfl
              have k2 := own.cell lrow.len hmL (j := 2) (v := .string (str m.d)) rfl
              have hlt0 := cell_lt' q0
              have hlt1 := cell_lt' k0
              have hLk : Calls Try.prog 13 #[.pointer (some ⟨p, 0, none⟩), .int .i64 (j : Int)] wr fun e w2 => ∃ y n cy, e = .returned (.tuple #[.int .i64 m.fr, .int .i64 m.to, .slice y n cy, .bool true]) ∧
                  (∀ o, (w2.alloc o).cell? ⟨q, 0, none⟩ = some (.slice (some ⟨g, 0, none⟩) L.length mc) ∧ (w2.alloc o).cell? ⟨g, j * 3, none⟩ = some (.int .i64 m.fr) ∧ (w2.alloc o).cell? ⟨g, j * 3 + 1, none⟩ = some (.int .i64 m.to) ∧ (w2.alloc o).cell? ⟨g, j * 3 + 2, none⟩ = some (.string (str m.d)) ∧ (convert 31 9 (.slice y n cy)).run Try.prog (w2.alloc o) = .ok (.string (str m.d)) (w2.alloc o)) ∧ Hid (∀ o, Below wA.heap.size wA (w2.alloc o)) := by
                refine (look_end hp j m hm).mono fun e w2 ⟨y, n, cy, e1, b2, hc⟩ => ⟨y, n, cy, e1, fun o => ?_, fun o => ?_⟩
                · have b3 : Below wr.heap.size wr (w2.alloc o) := b2.alloc b2.size _
                  exact ⟨(b3.cell (p := ⟨q, 0, none⟩) hlt0).trans q0, (b3.cell (p := ⟨g, j * 3, none⟩) hlt1).trans k0, (b3.cell (p := ⟨g, j * 3 + 1, none⟩) hlt1).trans k1, (b3.cell (p := ⟨g, j * 3 + 2, none⟩) hlt1).trans k2, hc o⟩
                · have b3 : Below wr.heap.size wr (w2.alloc o) := b2.alloc b2.size _
                  exact HB.out.trans (b3.mono HB.out.size)
              have z0 : (0 : Int) ≤ (j : Int) := by omega
              have z1 : (j : Int) < (L.length : Int) := by omega
              clear hp HB HP HRl own hm hmL hin he hj hz0 hz1 k0 k1 k2 hlt0 hlt1
              generalize m.fr = mf at *
              generalize m.to = mt at *
              generalize str m.d = ms at *
              go_wp2_with (first
                | (go_at_call 13; refine hLk.mono ?_; rintro e w2 ⟨y, yn, cy, rfl, hS, HN⟩; clear hLk
                   obtain ⟨u0, u1, u2, u3, _⟩ := hS (.cells #[.int .i64 0, .int .i64 0, .string ⟨#[]⟩] 39)
                   obtain ⟨v0, _, _, _, v4⟩ := hS (.cells #[.int .i64 mf, .int .i64 mt, .string ms] 39)
                   clear hS))
              go_roundw
              case rel => exact ⟨(j : Int) + 1, by go_num, by omega, by omega, HN.out _⟩
              case measure => simp [intOf]; omega
            · have hi : z < 0 ∨ (L.length : Int) ≤ z := by omega
              have hLk : Calls Try.prog 13 #[.pointer (some ⟨p, 0, none⟩), .int .i64 z] wr fun e w2 => e = .returned (.tuple #[.int .i64 0, .int .i64 0, .slice none 0 0, .bool false]) ∧ w2 = wr := look_no hp.fl z hi
              have hlt0 := cell_lt' q0
              have q1 : ∀ o, (wr.alloc o).cell? ⟨q, 0, none⟩ = some (.slice mx L.length mc) := fun o => (((Below.refl wr.heap.size wr).alloc (Nat.le_refl _) o).cell (p := ⟨q, 0, none⟩) hlt0).trans q0
              have HN : Hid (∀ o, Below wA.heap.size wA (wr.alloc o)) := fun o => HB.out.alloc HB.out.size _
              clear hp HB HP HRl hin hlt0
              by_cases hneg : z < 0
              · obtain rfl : z = -1 := by omega
                clear hi he hz0 hz1 hneg
                go_wp2_with (go_at_call 13; refine hLk.mono ?_; rintro e w2 ⟨rfl, hw⟩; subst w2; clear hLk)
                go_roundw
                case rel => exact ⟨0, by go_num, by omega, by omega, HN.out _⟩
                case measure => first | (simp [intOf]; done) | (simp [intOf]; omega)
              · obtain rfl : z = (L.length : Int) := by omega
                have z0 : (0 : Int) ≤ (L.length : Int) := by omega
                clear hi he hz0 hz1 hneg
                go_wp2_with (go_at_call 13; refine hLk.mono ?_; rintro e w2 ⟨rfl, hw⟩; subst w2; clear hLk)
                go_roundw
                case rel => exact ⟨(L.length : Int) + 1, by go_num, by omega, by omega, HN.out _⟩
                case measure => first | (simp [intOf]; done) | (simp [intOf]; omega)

set_option maxRecDepth 100000 in
theorem lifted (os : Os) (started : os.Started) (H : Type) (enc : TypeId × Value → H) :
    ReturnsInHanded {} Try.checked os 3 .any (Rows.flightActsSpec.pre6 enc Try.prog Try.f3 Rows.flightActsRow.domain false) (Rows.flightActsSpec.post enc Try.prog Try.f3 false true false false) := by
  refine returnsInHanded_of_change_sized (C := Try.checked) own started (by kernel_rfl) Try.func3
    (ChangeSpec.witness6 (enc := enc) (C := Try.checked) false ⟨#[], #[.slice none 0 0], []⟩ 8 (by kernel_rfl) (by kernel_rfl) (by kernel_rfl) (by kernel_rfl)) ?_
  intro W base args ds gs before hval0 hW hcnd hsz0 _
  have hsz : (DataW.weightsEach Try.prog (Try.f3.params.toList ++ Rows.flightActsSpec.plain.varTypes Try.prog) (ds ++ gs)).all (· ≤ reachBytes) = true := hsz0
  have hval : ∀ (j : Nat) t v, Try.f3.params[j]? = some t → args[j]? = some v → Value.okWide Try.prog W .any base t v := hval0
  have hW' := hW
  obtain ⟨p, q, hA0, hV, rfl, hfz, hnd⟩ := hW
  have hA : DataW.TrodAll enc Try.prog W 0 (fun _ => true) true Try.f3.params.toList args.toList ds p := hA0
  rw [Try.params3] at hA hval hsz
  obtain ⟨v0, vs0, d0, ds0, p0, q0, hargs, rfl, rfl, h0, r0⟩ := trodAll_cons hA
  obtain ⟨rfl, rfl, rfl⟩ := trodAll_nil r0
  obtain rfl : args = #[v0] := by cases args; simp_all
  obtain ⟨rfl, rfl⟩ := trodVars_none hV
  have k0 := h0
  have lt0 : ∀ x ∈ p0, x.block < W.heap.size := by obtain ⟨m, hm⟩ := k0; exact DataW.trod_lt m _ _ _ hm
  have s0 : ∀ x ∈ d0.weights Try.prog 22, x ≤ reachBytes := fun x hx => by
    have := List.all_eq_true.1 hsz x (DataW.weights_mem_each (j := 0) rfl rfl x hx)
    simpa using this
  obtain ⟨b0, nn0, cc0, rfl⟩ := okWide_slice Try.underlying22 (hval 0 22 v0 rfl rfl)
  obtain ⟨fu0, hf0⟩ := h0
  obtain ⟨a0, len0, cap0, V0, e0, w0⟩ := acts_in hf0 s0
  simp [Value.cells] at e0
  obtain ⟨rfl, rfl, rfl⟩ := e0
  clear hA0 hval0
  refine (walk b0 nn0 cc0 V0 W w0).mono fun e W' ⟨he, bel⟩ => ?_
  subst he
  exact ⟨_, rfl, _, _, _, [], _, [], hW', trodAll_mk1 (shut_bool Try.underlying4 _), (trodAll_cons_mk (Below.trod laidOut (by kernel_rfl) (of_decide_eq_true (by kernel_rfl)) k0 bel lt0) trodAll_mk0), rfl, bel.frame _, fun h => by cases h⟩

theorem over : Rows.flightActsRow.holds Try.pinned (OpenSpec.ofChange Rows.flightActsSpec) :=
  OpenClaim.holds_of_wide 3 Try.f3 rfl rfl rfl rfl rfl rfl rfl ⟨rfl, rfl, rfl, rfl, rfl⟩ rfl rfl rfl rfl rfl (by kernel_rfl) Try.func3 (by kernel_rfl)
    (of_decide_eq_true (by kernel_rfl)) (by unfold Func.isWrapper; first | (rw [if_pos (by decide +kernel)]; kernel_rfl) | (rw [if_neg (by decide +kernel)]; exact ⟨rfl, rfl⟩))
    (fun os started H enc _ => lifted os started H enc)

theorem proved : Rows.FlightActsSaid := over
#print axioms proved
end Go.Proofs.Ytmekbbddfmmbeaa.flightActs

/-
  What the document's Mul does: contracts over plain numbers.
  Conditions: rows that are looked at lie in memory.
-/
import Derived.Test.YtkdjjmjfpembpaaMxMay
import Derived.Test.YtkdjjmjfpembpaaMxGrow
import Derived.Test.YtkdjjmjfpembpaaMxProd
namespace Go.Proofs.Ytkdjjmjfpembpaa
open Go.RowKit Gf
set_option linter.unusedVariables false

theorem Mat.drewN {w : World} {b o n m : Nat} {G O C : Nat → Nat} {f : Nat → Nat → Nat} (h : Mat w b o n m G O C f) (k : Nat) : Mat (w.drewN k) b o n m G O C f := ⟨h.hb, h.hG, h.top, h.cell, h.lt⟩

structure RowOf (w wr : World) (R : Value) (j : Nat) (f : Nat → Nat) : Prop where
  below : Below w.heap.size w wr
  own : wr.ownsRow w.heap.size 5 1 R j (bytesOf f j)

theorem rowOf_start (w : World) (f : Nat → Nat) : RowOf w (w.alloc (.cells #[] 5)) (.slice (some ⟨w.heap.size, 0, none⟩) 0 0) 0 f :=
  ⟨(Below.refl _ _).alloc (Nat.le_refl _) _, rfl, .inr ⟨w.heap.size, 0, #[], rfl, Nat.le_refl _, heap_alloc_new _ _, Nat.le_refl _, Nat.zero_le _, rfl, rfl⟩⟩

theorem RowOf.drewN {w wr : World} {R : Value} {j : Nat} {f : Nat → Nat} (h : RowOf w wr R j f) (n : Nat) : RowOf w (wr.drewN n) R j f := ⟨below_drewN' h.below n, h.own⟩

theorem rmulm_out (x y : Option Addr) (n n' c c' : Nat) (A A' : Nat → Option Addr) (L C L' C' : Nat → Nat) (w : World) (h : Tops w x n A L C) (h' : Tops w y n' A' L' C') (hx : ¬ MayN n L ∨ ¬ MayN n' L' ∨ L 0 ≠ n') :
    Calls Try.prog 11 #[.slice x n c, .slice y n' c'] w fun e w' => e = .returned (.tuple #[.slice none 0 0, .int .i64 1]) ∧ ∃ m, w' = w.drewN m := by
  by_cases hm : MayN n L
  · have hck := may_any x n c true A L C w h (fun _ => rfl) (fun k => absurd hm k)
    by_cases hm' : MayN n' L'
    · have hck' : ∀ m, Calls Try.prog 14 #[.slice y n' c'] (w.drewN m) fun e w' => e = .returned (.bool true) ∧ ∃ k, w' = w.drewN k := fun m => (may_any y n' c' true A' L' C' (w.drewN m) h' (fun _ => rfl) (fun k => absurd hm' k)).mono fun e w' h => ⟨h.1, by obtain ⟨k, rfl⟩ := h.2; exact ⟨m + k, by rw [World.drewN_drewN]⟩⟩
      have hne : ((L 0 : Int) != (n' : Int)) = true := by
        have : L 0 ≠ n' := by
          rcases hx with hx | hx | hx
          · exact absurd hm hx
          · exact absurd hm' hx
          · exact hx
        simp; omega
      obtain ⟨h1, h2, h3, h4, _⟩ := hm
      rcases h with h | ⟨b, o, rfl, _, ht⟩
      · omega
      · have h0 : w.cell? ⟨b, o, none⟩ = some (.slice (A 0) (L 0) (C 0)) := ht 0 (by omega)
        have hn : (0 : Int) < (n : Int) := by omega
        clear ht hx hm' h'
        go_enter Try.func11, Try.ntmps11
        go_wp2_with (first | (go_at_call 14; refine hck.mono ?_; rintro e w' ⟨rfl, m, rfl⟩; clear hck) | (go_at_call 14; refine (hck' m).mono ?_; rintro e w' ⟨rfl, m', rfl⟩))
        go_ret2
        exact ⟨rfl, m', rfl⟩
    · have hck' : ∀ m, Calls Try.prog 14 #[.slice y n' c'] (w.drewN m) fun e w' => e = .returned (.bool false) ∧ ∃ k, w' = w.drewN k := fun m => (may_any y n' c' false A' L' C' (w.drewN m) h' (fun k => absurd k hm') (fun _ => rfl)).mono fun e w' h => ⟨h.1, by obtain ⟨k, rfl⟩ := h.2; exact ⟨m + k, by rw [World.drewN_drewN]⟩⟩
      clear hx hm' h' hm h
      go_enter Try.func11, Try.ntmps11
      go_wp2_with (first | (go_at_call 14; refine hck.mono ?_; rintro e w' ⟨rfl, m, rfl⟩; clear hck) | (go_at_call 14; refine (hck' m).mono ?_; rintro e w' ⟨rfl, m', rfl⟩))
      go_ret2
      exact ⟨rfl, m', rfl⟩
  · have hck := may_any x n c false A L C w h (fun k => absurd k hm) (fun _ => rfl)
    clear hx hm h h'
    go_enter Try.func11, Try.ntmps11
    go_wp2_with (go_at_call 14; refine hck.mono ?_; rintro e w' ⟨rfl, m, rfl⟩; clear hck)
    go_ret2
    exact ⟨rfl, m, rfl⟩

set_option maxHeartbeats 4000000 in
set_option maxRecDepth 100000 in
theorem rmulm_yes (b o b' o' n p q c c' : Nat) (G O C G' O' C' : Nat → Nat) (f g : Nat → Nat → Nat) (w : World) (h : Mat w b o n p G O C f) (h' : Mat w b' o' p q G' O' C' g)
    (h1 : 1 ≤ n) (h2 : n ≤ 255) (h3 : 1 ≤ p) (h4 : p ≤ 255) (h5 : 1 ≤ q) (h6 : q ≤ 255) :
    Calls Try.prog 11 #[.slice (some ⟨b, o, none⟩) n c, .slice (some ⟨b', o', none⟩) p c'] w fun e w' => Below w.heap.size w w' ∧
      ∃ B k G1 C1, e = .returned (.tuple #[.slice (some ⟨B, 0, none⟩) n k, .int .i64 0]) ∧ Own w.heap.size w' B n q G1 C1 (mulF f g p) := by
  have hf := h.lt
  have hg := h'.lt
  have hZ := mulF_lt hf hg p
  have hck := may_any (some ⟨b, o, none⟩) n c true _ _ C w h.tops (fun _ => rfl) (fun k => absurd ⟨h1, h2, h3, h4, fun r _ => rfl⟩ k)
  have hck' : ∀ m, Calls Try.prog 14 #[.slice (some ⟨b', o', none⟩) p c'] (w.drewN m) fun e w' => e = .returned (.bool true) ∧ ∃ k, w' = w.drewN k := fun m => (may_any (some ⟨b', o', none⟩) p c' true _ _ C' (w.drewN m) (h'.drewN m).tops (fun _ => rfl) (fun k => absurd ⟨h3, h4, h5, h6, fun r _ => rfl⟩ k)).mono fun e w' h => ⟨h.1, by obtain ⟨k, rfl⟩ := h.2; exact ⟨m + k, by rw [World.drewN_drewN]⟩⟩
  have h0 : w.cell? ⟨b, o, none⟩ = some (.slice (some ⟨G 0, O 0, none⟩) p (C 0)) := h.top 0 (by omega)
  have hn : (0 : Int) < (n : Int) := by omega
  have hpp : ((p : Int) != (p : Int)) = false := by simp
  have HM : Hid (Mat w b o n p G O C f) := h
  have HM' : Hid (Mat w b' o' p q G' O' C' g) := h'
  have hgs : ∀ m, Grow w.heap.size w ((w.drewN m).alloc (.cells #[] 34)) (.slice (some ⟨w.heap.size, 0, none⟩) 0 0) 0 q (fun _ => 0) (fun _ => 0) (mulF f g p) := fun m => by
    have := grow_start (w.drewN m) q (fun _ => 0) (fun _ => 0) (mulF f g p) hZ
    exact ⟨⟨this.below.os, this.below.tape, this.below.output, this.below.size, this.below.block⟩, Nat.le_refl _, this.own, this.hG, this.inj, this.fG, this.cell, this.lt, this.cap, this.ty⟩
  clear h h'
  go_enter Try.func11, Try.ntmps11
  go_wp2_with (first | (go_at_call 14; refine hck.mono ?_; rintro e w' ⟨rfl, m, rfl⟩; clear hck) | (go_at_call 14; refine (hck' m).mono ?_; rintro e w' ⟨rfl, m', rfl⟩; clear hck'))
  have HA : Hid (∃ G1 C1, Grow w.heap.size w ((w.drewN m').alloc (.cells #[] 34)) (.slice (some ⟨w.heap.size, 0, none⟩) 0 0) 0 q G1 C1 (mulF f g p)) := ⟨_, _, hgs m'⟩
  clear hgs h0 hpp
  go_loopw [6, 7] (fun V i wr => ∃ k : Nat, k ≤ n ∧ i = .int .i64 k ∧ Hid (∃ G1 C1, Grow w.heap.size w wr V k q G1 C1 (mulF f g p))) (fun _ i _ => n - (intOf i).toNat)
  case atStart => exact ⟨0, by omega, rfl, HA⟩
  case round =>
    clear HA
    obtain ⟨k, hk, rfl, HW⟩ := hrel
    obtain ⟨wo, hwo⟩ : ∃ wo, wo = wr := ⟨_, rfl⟩
    subst hwo
    by_cases hlt : k < n
    · have hkn : (k : Int) < (n : Int) := by omega
      have HR0 : Hid (RowOf wo (wo.alloc (.cells #[] 5)) (.slice (some ⟨wo.heap.size, 0, none⟩) 0 0) 0 (mulF f g p k)) := rowOf_start wo _
      go_wp2_with fail
      go_loopw [8, 9] (fun R i wr => ∃ j : Nat, j ≤ q ∧ i = .int .i64 j ∧ Hid (RowOf wo wr R j (mulF f g p k))) (fun _ i _ => q - (intOf i).toNat)
      case atStart => exact ⟨0, by omega, rfl, HR0⟩
      case round =>
        clear HR0
        obtain ⟨j, hj, rfl, HR⟩ := hrel
        obtain ⟨wm, hwm⟩ : ∃ wm, wm = wr := ⟨_, rfl⟩
        subst hwm
        have hBm : Below w.heap.size w wm := by
          obtain ⟨G1, C1, hG⟩ := HW.out
          exact hG.below.trans (HR.out.below.mono hG.below.size)
        have HM1 : Hid (Mat wm b o n p G O C f) := HM.out.below (Nat.le_refl _) hBm
        have HM2 : Hid (Mat wm b' o' p q G' O' C' g) := HM'.out.below (Nat.le_refl _) hBm
        have ht0 : wm.cell? ⟨b', o', none⟩ = some (.slice (some ⟨G' 0, O' 0, none⟩) q (C' 0)) := HM2.out.top 0 (by omega)
        have hp0 : (0 : Int) < (p : Int) := by omega
        clear hBm
        by_cases hlt2 : j < q
        · have hjq : (j : Int) < (q : Int) := by omega
          go_wp2_with fail
          go_loopw [10, 11] (fun s i wr => ∃ t S : Nat, t ≤ p ∧ S < 256 ∧ Hid (S = dot (f k) (fun i => g i j) t) ∧ s = .int .u8 S ∧ i = .int .i64 t ∧ Hid (∃ m, wr = wm.drewN m)) (fun _ i _ => p - (intOf i).toNat)
          case atStart => exact ⟨0, 0, by omega, by omega, rfl, rfl, rfl, ⟨0, rfl⟩⟩
          case round =>
            obtain ⟨t, S, ht, hS, HS, rfl, rfl, HD⟩ := hrel
            by_cases hlt3 : t < p
            · have htp : (t : Int) < (p : Int) := by omega
              have t1 : wr.cell? ⟨b, o + k, none⟩ = some (.slice (some ⟨G k, O k, none⟩) p (C k)) := by obtain ⟨m, hm⟩ := HD.out; rw [hm]; exact HM1.out.top k hlt
              have t2 : wr.cell? ⟨G k, O k + t, none⟩ = some (.int .u8 (f k t : Int)) := by obtain ⟨m, hm⟩ := HD.out; rw [hm]; exact HM1.out.cell k hlt t hlt3
              have t3 : wr.cell? ⟨b', o' + t, none⟩ = some (.slice (some ⟨G' t, O' t, none⟩) q (C' t)) := by obtain ⟨m, hm⟩ := HD.out; rw [hm]; exact HM2.out.top t hlt3
              have t4 : wr.cell? ⟨G' t, O' t + j, none⟩ = some (.int .u8 (g t j : Int)) := by obtain ⟨m, hm⟩ := HD.out; rw [hm]; exact HM2.out.cell t hlt3 j hlt2
              have hfk := hf k t
              have hgk := hg t j
              have hr := rmul_lt _ (g t j) hfk
              have hl := xor_lt S _ hS hr
              have hxo := u8_xor_nat S _ hS hr
              have HS1 : Hid (S ^^^ rmul (f k t) (g t j) = dot (f k) (fun i => g i j) (t + 1)) := by rw [HS.out, ← tmul_rmul _ _ hfk hgk]; exact rfl
              clear HS hf hg hZ ht0
              go_wp2_with fail
              go_quiet ((go_at_call 27; exact Calls.quiet_of_same (rmul_any _ _ _ hfk hgk)))
              go_wp2_with fail
              go_roundw
              case rel => exact ⟨t + 1, S ^^^ rmul (f k t) (g t j), by omega, hl, HS1, rfl, by go_num, drewN_more HD.out⟩
              case measure => simp [intOf]; omega
            · obtain rfl : t = p := by omega
              have hRr : RowOf wo wr u8 j (mulF f g t k) := by obtain ⟨m, hm⟩ := HD.out; rw [hm]; exact HR.out.drewN m
              have hpush := push_byte wr wo.heap.size u8 j (mulF f g t k) hRr.own (by omega) hRr.below.size
              rw [show mulF f g t k j = S by rw [HS.out]; rfl] at hpush
              obtain ⟨R', w3, hrun, ho3, hb3⟩ := hpush
              have HN : Hid (RowOf wo w3 R' (j + 1) (mulF f g t k)) := ⟨hRr.below.trans hb3, ho3⟩
              clear hRr ho3 hb3 HS HD hf hg hZ ht0
              go_wp2_with (at_builtin; refine wpList_append_run rfl _ _ 34 rfl _ _ rfl rfl hrun ?_; clear hrun)
              go_roundw
              case rel => exact ⟨j + 1, by omega, by go_num, HN⟩
              case measure => simp [intOf]; omega
        · obtain rfl : j = q := by omega
          obtain ⟨G1, C1, hG⟩ := HW.out
          obtain ⟨gR, cR, hR, _⟩ := own_slice HR.out.own (by omega)
          subst hR
          obtain ⟨V', w3, hrun, G2, C2, hG2⟩ := grow_push hG HR.out.below (by omega) (by omega) HR.out.own
          have HN : Hid (∃ G1 C1, Grow w.heap.size w w3 V' (k + 1) j G1 C1 (mulF f g p)) := ⟨G2, C2, hG2⟩
          clear hG hG2 HR HW hf hg hZ
          go_wp2_with (at_builtin; refine wpList_append_run rfl _ _ 22 rfl _ _ rfl rfl hrun ?_; clear hrun)
          go_roundw
          case rel => exact ⟨k + 1, by omega, by go_num, HN⟩
          case measure => simp [intOf]; omega
    · obtain rfl : k = n := by omega
      obtain ⟨G1, C1, hG⟩ := HW.out
      obtain ⟨B, c2, hV, ho⟩ := grow_own hG (by omega)
      subst hV
      have HO : Hid (Own w.heap.size wo B k q G1 C1 (mulF f g p) ∧ Below w.heap.size w wo) := ⟨ho, hG.below⟩
      clear hG HW ho hf hg hZ
      go_wp2_with fail
      go_ret2
      exact ⟨HO.out.2, B, c2, G1, C1, rfl, HO.out.1⟩

end Go.Proofs.Ytkdjjmjfpembpaa

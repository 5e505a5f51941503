/-
  What Mul of package matrix does: contracts over plain numbers.
  Conditions: rows that are looked at lie in memory.
-/
import Derived.Test.YtkdjjmjfpembpaaMxMul
namespace Go.Proofs.Ytkdjjmjfpembpaa
open Go.RowKit Gf
set_option linter.unusedVariables false

def mulF (f g : Nat → Nat → Nat) (p : Nat) : Nat → Nat → Nat := fun r j => dot (f r) (fun k => g k j) p

theorem mulF_lt {f g : Nat → Nat → Nat} (hf : ∀ r j, f r j < 256) (hg : ∀ r j, g r j < 256) (p r j : Nat) : mulF f g p r j < 256 := dot_lt _ _ (hf r) (fun k => hg k j) p

theorem Own.base_le {base base' : Nat} {w : World} {b n m : Nat} {G C : Nat → Nat} {f : Nat → Nat → Nat} (h : Own base w b n m G C f) (hb : base' ≤ base) : Own base' w b n m G C f :=
  ⟨⟨Nat.le_trans hb h.hb.1, h.hb.2⟩, fun r hr => ⟨Nat.le_trans hb (h.hG r hr).1, (h.hG r hr).2⟩, h.inj, h.fb, h.fG, h.top, h.cell, h.lt, h.cap⟩

theorem row_heap {w x : World} {a : Option Addr} {n : Nat} {f : Nat → Nat} (hx : x.heap = w.heap) (h : RowAt w a n f) : RowAt x a n f := by
  rcases h with h | ⟨b, o, h1, h2, h3⟩
  · exact .inl h
  · exact .inr ⟨b, o, h1, by rw [hx]; exact h2, fun i hi => (World.cell?_of_block (w := w) (by rw [hx])).trans (h3 i hi)⟩

theorem mul_out (x y : Option Addr) (n n' c c' : Nat) (A A' : Nat → Option Addr) (L C L' C' : Nat → Nat) (w : World) (h : Tops w x n A L C) (h' : Tops w y n' A' L' C') (hx : ¬ MayN n L ∨ ¬ MayN n' L' ∨ L 0 ≠ n') :
    Calls Try.prog 10 #[.slice x n c, .slice y n' c'] w fun e w' => e = .returned (.tuple #[.slice none 0 0, .int .i64 1]) ∧ w' = w := by
  by_cases hm : MayN n L
  · have hck := check_yes x n c A L C w h hm
    by_cases hm' : MayN n' L'
    · have hck' := check_yes y n' c' A' L' C' w h' hm'
      have hne : ((L 0 : Int) != (n' : Int)) = true := by
        have : L 0 ≠ n' := by
          rcases hx with hx | hx | hx
          · exact absurd hm hx
          · exact absurd hm' hx
          · exact hx
        simp; omega
      obtain ⟨h1, h2, h3, h4, _⟩ := hm
      rcases h with h | ⟨b, o, rfl, _, ht⟩
      · omega
      · have h0 : w.cell? ⟨b, o, none⟩ = some (.slice (A 0) (L 0) (C 0)) := ht 0 (by omega)
        have hn : (0 : Int) < (n : Int) := by omega
        clear ht hx hm' h'
        go_enter Try.func10, Try.ntmps10
        go_wp2_with (first | (go_at_call_of 12 (Value.slice (some ⟨b, o, none⟩) n c); refine hck.mono ?_; rintro e w' ⟨rfl, rfl⟩) | (go_at_call_of 12 (Value.slice y n' c'); refine hck'.mono ?_; rintro e w' ⟨rfl, rfl⟩))
        go_ret2
        exact ⟨rfl, rfl⟩
    · have hck' := check_no y n' c' A' L' C' w h' hm'
      clear hx hm' h' hm h
      go_enter Try.func10, Try.ntmps10
      go_wp2_with (first | (go_at_call_of 12 (Value.slice x n c); refine hck.mono ?_; rintro e w' ⟨rfl, rfl⟩) | (go_at_call_of 12 (Value.slice y n' c'); refine hck'.mono ?_; rintro e w' ⟨rfl, rfl⟩))
      go_ret2
      exact ⟨rfl, rfl⟩
  · have hck := check_no x n c A L C w h hm
    clear hx hm h h'
    go_enter Try.func10, Try.ntmps10
    go_wp2_with (go_at_call 12; refine hck.mono ?_; rintro e w' ⟨rfl, rfl⟩)
    go_ret2
    exact ⟨rfl, rfl⟩

set_option maxHeartbeats 2000000 in
set_option maxRecDepth 100000 in
theorem mul_yes (b o b' o' n p q c c' : Nat) (G O C G' O' C' : Nat → Nat) (f g : Nat → Nat → Nat) (w : World) (h : Mat w b o n p G O C f) (h' : Mat w b' o' p q G' O' C' g)
    (h1 : 1 ≤ n) (h2 : n ≤ 255) (h3 : 1 ≤ p) (h4 : p ≤ 255) (h5 : 1 ≤ q) (h6 : q ≤ 255) :
    Calls Try.prog 10 #[.slice (some ⟨b, o, none⟩) n c, .slice (some ⟨b', o', none⟩) p c'] w fun e w' => Below w.heap.size w w' ∧
      ∃ B G1 C1, e = .returned (.tuple #[.slice (some ⟨B, 0, none⟩) n n, .int .i64 0]) ∧ Own w.heap.size w' B n q G1 C1 (mulF f g p) := by
  have hf := h.lt
  have hg := h'.lt
  have hZ := mulF_lt hf hg p
  have hck := check_yes (some ⟨b, o, none⟩) n c _ _ C w h.tops ⟨h1, h2, h3, h4, fun r _ => rfl⟩
  have hck' := check_yes (some ⟨b', o', none⟩) p c' _ _ C' w h'.tops ⟨h3, h4, h5, h6, fun r _ => rfl⟩
  have h0 : w.cell? ⟨b, o, none⟩ = some (.slice (some ⟨G 0, O 0, none⟩) p (C 0)) := h.top 0 (by omega)
  have hn : (0 : Int) < (n : Int) := by omega
  have hpp : ((p : Int) != (p : Int)) = false := by simp
  have htr := transposed_any b' o' p q c' G' O' C' g w h' h3 h4 h5 h6
  have HM : Hid (Mat w b o n p G O C f) := h
  clear h h'
  go_enter Try.func10, Try.ntmps10
  go_wp2_with (first | (go_at_call_of 12 (Value.slice (some ⟨b, o, none⟩) n c); refine hck.mono ?_; rintro e w' ⟨rfl, rfl⟩) | (go_at_call_of 12 (Value.slice (some ⟨b', o', none⟩) p c'); refine hck'.mono ?_; rintro e w' ⟨rfl, rfl⟩) | (go_at_call 24; refine htr.mono ?_; rintro e w1 ⟨rfl, hb1, Gt, Ct, hot⟩) | (go_at_call 25; refine (zero_any _ _ _ (by omega) (by omega)).mono ?_; rintro e w2 ⟨rfl, hb2, hs2, ho2⟩))
  obtain ⟨G1, hG1⟩ : ∃ G1 : Nat → Nat, G1 = fun r => w1.heap.size + 1 + r := ⟨_, rfl⟩
  obtain ⟨C1, hC1⟩ : ∃ C1 : Nat → Nat, C1 = fun _ => q := ⟨_, rfl⟩
  rw [← hG1, ← hC1] at ho2
  have HA : Hid (Fill w1 w2 w1.heap.size n q 0 0 G1 C1 (mulF f g p)) := ⟨hb2, ho2.congr (fun r _ j _ => by simp [fillTo]) (fillTo_lt hZ 0 0)⟩
  have HM1 : Hid (Mat w1 b o n p G O C f) := HM.out.below (Nat.le_refl _) hb1
  have HT1 : Hid (Mat w1 w'.heap.size 0 q p Gt (fun _ => 0) Ct (fun r j => g j r)) := hot.mat
  have HB1 : Hid (Below w'.heap.size w' w1) := hb1
  clear hb2 hs2 ho2 hG1 hC1 hb1 hot htr hck hck' HM hpp h0
  go_loopw [37] (fun i wr => ∃ k : Nat, k ≤ n ∧ i = .int .i64 k ∧ Hid (Fill w1 wr w1.heap.size n q k 0 G1 C1 (mulF f g p))) (fun i _ => n - (intOf i).toNat)
  case atStart => exact ⟨0, by omega, rfl, HA⟩
  case round =>
    clear HA
    obtain ⟨k, hk, rfl, HW⟩ := hrel
    by_cases hlt : k < n
    · have hkn : (k : Int) < (n : Int) := by omega
      have ht1 := HW.out.own.top k hlt
      go_wp2_with fail
      go_loopw [44] (fun i wr => ∃ j : Nat, j ≤ q ∧ i = .int .i64 j ∧ Hid (Fill w1 wr w1.heap.size n q k j G1 C1 (mulF f g p))) (fun i _ => q - (intOf i).toNat)
      case atStart => exact ⟨0, by omega, rfl, HW⟩
      case round =>
        clear HW ht1
        obtain ⟨j, hj, rfl, HW⟩ := hrel
        by_cases hlt2 : j < q
        · have hjq : (j : Int) < (q : Int) := by omega
          have hM := HM1.out.below (Nat.le_refl _) HW.out.below
          have hT := HT1.out.below (Nat.le_refl _) HW.out.below
          have ht2 := hM.top k hlt
          have ht3 : wr.cell? ⟨w'.heap.size, j, none⟩ = some (.slice (some ⟨Gt j, 0, none⟩) p (Ct j)) := by
            have := hT.top j hlt2
            rwa [Nat.zero_add] at this
          have rx := hM.row hlt
          have ry : RowAt wr (some ⟨Gt j, 0, none⟩) p (fun i => g i j) := hT.row hlt2
          have hst1 := HW.out.own.cell k hlt j hlt2
          have hst2 := HW.out.own.fG k hlt j
          have hgb := HM1.out.hb
          have hgt := HT1.out.hb
          have hgk := (HW.out.own.hG k hlt).1
          have hn1 : (G1 k) ≠ b := by omega
          have hn2 : (G1 k) ≠ w'.heap.size := by omega
          have HN : Hid (∀ m, Fill w1 ((wr.drewN m).setCell ⟨G1 k, j, none⟩ (.int .u8 ((dot (f k) (fun i => g i j) p : Nat) : Int))) w1.heap.size n q k (j + 1) G1 C1 (mulF f g p)) := fun m =>
            ⟨(below_drewN' HW.out.below m).setCell (HW.out.own.hG k hlt).1 _, fill_step (Z := mulF f g p) hZ (HW.out.own.drewN m) hlt hlt2⟩
          have hdot : ∀ x : World, x.heap = wr.heap → Calls Try.prog 26 #[.slice (some ⟨G k, O k, none⟩) p (C k), .slice (some ⟨Gt j, 0, none⟩) p (Ct j)] x fun e w' => e = .returned (.tuple #[.int .u8 (dot (f k) (fun i => g i j) p : Int), .bool true]) ∧ ∃ m, w' = x.drewN m := fun x hx =>
            dot_eq _ _ p (C k) (Ct j) (f k) (fun i => g i j) x (hf k) (fun i => hg i j) (by omega) (row_heap hx rx) (row_heap hx ry)
          clear hM hT HW rx ry hf hg hZ
          go_wp2_with fail
          go_region_held3 (fun w3 => w3.cell? ⟨b, o + k, none⟩ = some (.slice (some ⟨G k, O k, none⟩) p (C k)) ∧ w3.cell? ⟨w'.heap.size, j, none⟩ = some (.slice (some ⟨Gt j, 0, none⟩) p (Ct j)))
            (first | exact ⟨ht2, ht3⟩ | exact ⟨(World.cell?_setCell_far _ _ _ _ hn1).trans ht2, (World.cell?_setCell_far _ _ _ _ hn2).trans ht3⟩ | go_keep)
            (first | (go_at_call 26; refine (hdot wr.drew rfl).mono ?_; rintro e w3 ⟨rfl, m, rfl⟩))
          have HN2 := HN.out (1 + m)
          have HN3 : Hid (Fill w1 ((wr.drewN (1 + m)).setCell ⟨G1 k, j, none⟩ (.int .u8 ((dot (f k) (fun i => g i j) p : Nat) : Int))) w1.heap.size n q k (j + 1) G1 C1 (mulF f g p)) := HN2
          clear HN HN2 hdot
          go_wp2_with fail
          go_roundw
          case rel => exact ⟨j + 1, by omega, by go_num, HN3⟩
          case measure => simp [intOf]; omega
        · obtain rfl : j = q := by omega
          have HN : Hid (Fill w1 wr w1.heap.size n j (k + 1) 0 G1 C1 (mulF f g p)) := ⟨HW.out.below, fill_row (Z := mulF f g p) hZ HW.out.own⟩
          clear HW
          go_wp2_with fail
          go_roundw
          case rel => exact ⟨k + 1, by omega, by go_num, HN⟩
          case measure => simp [intOf]; omega
    · obtain rfl : k = n := by omega
      go_wp2_with fail
      go_ret2
      refine ⟨HB1.out.trans (HW.out.below.mono HB1.out.size), _, G1, C1, rfl, (HW.out.own.congr (fun r hr j _ => by simp [fillTo, hr]) (fun r j => hZ r j)).base_le HB1.out.size⟩

end Go.Proofs.Ytkdjjmjfpembpaa

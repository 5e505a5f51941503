/-
  What Rows, Identity and Rank of package matrix do: contracts over plain numbers.
  Conditions: rows that are looked at lie in memory.
-/
import Derived.Test.YtmlaloadeeohbaaMxInvPlain
namespace Go.Proofs.Ytmlaloadeeohbaa
open Go.RowKit Gf
set_option linter.unusedVariables false

def IntsAt (w : World) (x : Option Addr) (p : Nat) (lv : Nat → Int) : Prop :=
  p = 0 ∨ ∃ b o, x = some ⟨b, o, none⟩ ∧ b < w.heap.size ∧ ∀ i, i < p → w.cell? ⟨b, o + i, none⟩ = some (.int .i64 (lv i))

theorem IntsAt.below {w w' : World} {x : Option Addr} {p B : Nat} {lv : Nat → Int} (h : IntsAt w x p lv) (hB : w.heap.size ≤ B) (k : Below B w w') : IntsAt w' x p lv := by
  rcases h with h | ⟨b, o, h1, h2, h3⟩
  · exact .inl h
  · exact .inr ⟨b, o, h1, Nat.lt_of_lt_of_le h2 k.size, fun r hr => (k.cell (Nat.lt_of_lt_of_le h2 hB)).trans (h3 r hr)⟩

/- Rows that are copied, one after the other. -/
def rowsTo (Z : Nat → Nat → Nat) (k : Nat) : Nat → Nat → Nat := fun s j => if s < k then Z s j else 0

theorem rowsTo_lt {Z : Nat → Nat → Nat} (hZ : ∀ r j, Z r j < 256) (k s j : Nat) : rowsTo Z k s j < 256 := by
  unfold rowsTo
  split
  · exact hZ _ _
  · omega

theorem rows_step {base : Nat} {wr w1 : World} {b n m k : Nat} {G C : Nat → Nat} {Z : Nat → Nat → Nat} (hZ : ∀ r j, Z r j < 256) (h : Own base wr b n m G C (rowsTo Z k)) (hk : k < n) (hc : Copied (G k) 0 m (Z k) wr w1) :
    Own base w1 b n m G C (rowsTo Z (k + 1)) := by
  refine (h.touch (f' := Z k) hk hc.touch hc.frozen (fun j hj => ?_) (hZ k)).congr (fun s hs j hj => ?_) (rowsTo_lt hZ _)
  · have := hc.cell j hj
    rwa [Nat.zero_add] at this
  · unfold rowsTo
    by_cases e : s = k
    · subst e; simp
    · rw [if_neg e]
      by_cases hlt : s < k
      · rw [if_pos hlt, if_pos (by omega)]
      · rw [if_neg hlt, if_neg (by omega)]

structure Cop (w wr : World) (n m k : Nat) (G C : Nat → Nat) (Z : Nat → Nat → Nat) : Prop where
  below : Below w.heap.size w wr
  own : Own w.heap.size wr w.heap.size n m G C (rowsTo Z k)

theorem cop_end {w wr : World} {n m : Nat} {G C : Nat → Nat} {Z : Nat → Nat → Nat} (hZ : ∀ r j, Z r j < 256) (h : Cop w wr n m n G C Z) : Own w.heap.size wr w.heap.size n m G C Z :=
  h.own.congr (fun r hr j _ => by simp [rowsTo, hr]) hZ

/- Rows: no matrix, or a list that is empty or too long. -/
theorem rows_out (x y : Option Addr) (n p c c' : Nat) (A : Nat → Option Addr) (L C : Nat → Nat) (w : World) (h : Tops w x n A L C) (hx : ¬ MayN n L ∨ p = 0 ∨ 255 < p) :
    Calls Try.prog 44 #[.slice x n c, .slice y p c'] w fun e w' => e = .returned (.tuple #[.slice none 0 0, .int .i64 1]) ∧ w' = w := by
  by_cases hm : MayN n L
  · have hp : p = 0 ∨ 255 < p := hx.resolve_left (fun k => k hm)
    have hck := check_yes x n c A L C w h hm
    clear hx hm h
    go_enter Try.func44, Try.ntmps44
    go_wp2_with (first | (go_at_call 52; refine hck.mono ?_; rintro e w' ⟨rfl, rfl⟩; clear hck) | (go_at_call 41; refine (fits_no _ _ (by omega)).mono ?_; rintro e w' ⟨rfl, rfl⟩))
    go_ret2
    exact ⟨rfl, rfl⟩
  · have hck := check_no x n c A L C w h hm
    clear hx hm h
    go_enter Try.func44, Try.ntmps44
    go_wp2_with (go_at_call 52; refine hck.mono ?_; rintro e w' ⟨rfl, rfl⟩; clear hck)
    go_ret2
    exact ⟨rfl, rfl⟩

/- Rows: a place that names no row. -/
set_option maxHeartbeats 1000000 in
set_option maxRecDepth 100000 in
theorem rows_bad (x : Option Addr) (lb lo n p c c' : Nat) (A : Nat → Option Addr) (L C : Nat → Nat) (lv : Nat → Int) (w : World) (h : Tops w x n A L C) (hm : MayN n L) (h1 : 1 ≤ p) (h2 : p ≤ 255)
    (hl : ∀ i, i < p → w.cell? ⟨lb, lo + i, none⟩ = some (.int .i64 (lv i))) (i0 : Nat) (hi0 : i0 < p) (hbad : lv i0 < 0 ∨ (n : Int) ≤ lv i0) :
    Calls Try.prog 44 #[.slice x n c, .slice (some ⟨lb, lo, none⟩) p c'] w fun e w' => e = .returned (.tuple #[.slice none 0 0, .int .i64 1]) ∧ w' = w := by
  have hck := check_yes x n c A L C w h hm
  clear hm h
  go_enter Try.func44, Try.ntmps44
  go_wp2_with (first | (go_at_call 52; refine hck.mono ?_; rintro e w' ⟨rfl, rfl⟩; clear hck) | (go_at_call 41; refine (fits_yes _ _ (by omega) (by omega)).mono ?_; rintro e w' ⟨rfl, rfl⟩))
  go_loopw [22] (fun i wr => ∃ k : Nat, k ≤ p ∧ i = .int .i64 k ∧ wr = w' ∧ Hid (∀ j, j < k → 0 ≤ lv j ∧ lv j < n)) (fun i _ => p - (intOf i).toNat)
  case atStart => exact ⟨0, by omega, rfl, rfl, fun j hj => by omega⟩
  case round =>
    obtain ⟨k, hk, rfl, rfl, HG⟩ := hrel
    by_cases hlt : k < p
    · have hlk := hl k hlt
      have hkp : (k : Int) < (p : Int) := by omega
      by_cases e1 : lv k < 0
      · have g1 : decide (lv k < 0) = true := by simp [e1]
        clear hl hbad HG
        go_wp2_with fail
        go_ret2
        exact ⟨rfl, rfl⟩
      · have g1 : decide (lv k < 0) = false := by simp; omega
        by_cases e2 : (n : Int) ≤ lv k
        · clear hl hbad HG
          go_wp2_with fail
          go_ret2
          exact ⟨rfl, rfl⟩
        · have HG2 : Hid (∀ j, j < k + 1 → 0 ≤ lv j ∧ lv j < n) := fun j hj => by
            by_cases e : j = k
            · subst e; omega
            · exact HG.out j (by omega)
          clear hl hbad HG
          go_wp2_with fail
          go_roundw
          case rel => exact ⟨k + 1, by omega, by go_num, trivial, HG2⟩
          case measure => simp [intOf]; omega
    · have := HG.out i0 (by omega)
      omega

set_option maxHeartbeats 2000000 in
set_option maxRecDepth 100000 in
theorem rows_yes (b o lb lo n m p c c' : Nat) (G O C : Nat → Nat) (f : Nat → Nat → Nat) (g : Nat → Nat) (w : World) (h : Mat w b o n m G O C f) (n1 : 1 ≤ n) (n2 : n ≤ 255) (n3 : 1 ≤ m) (n4 : m ≤ 255) (h1 : 1 ≤ p) (h2 : p ≤ 255)
    (hlb : lb < w.heap.size) (hl : ∀ i, i < p → w.cell? ⟨lb, lo + i, none⟩ = some (.int .i64 (g i : Int))) (hg : ∀ i, i < p → g i < n) :
    Calls Try.prog 44 #[.slice (some ⟨b, o, none⟩) n c, .slice (some ⟨lb, lo, none⟩) p c'] w fun e w' => Below w.heap.size w w' ∧
      ∃ B G1 C1, e = .returned (.tuple #[.slice (some ⟨B, 0, none⟩) p p, .int .i64 0]) ∧ Own w.heap.size w' B p m G1 C1 (fun r => f (g r)) := by
  have hf : ∀ r j, (fun r => f (g r)) r j < 256 := fun r j => h.lt _ j
  have hck := check_yes (some ⟨b, o, none⟩) n c _ _ C w h.tops ⟨n1, n2, n3, n4, fun r _ => rfl⟩
  have h0 : w.cell? ⟨b, o, none⟩ = some (.slice (some ⟨G 0, O 0, none⟩) m (C 0)) := h.top 0 (by omega)
  have hn : (0 : Int) < (n : Int) := by omega
  have hz := zero_any p m w (by omega) (by omega)
  have HM : Hid (Mat w b o n m G O C f) := h
  have HL : Hid (∀ i, i < p → w.cell? ⟨lb, lo + i, none⟩ = some (.int .i64 (g i : Int))) := hl
  have HG : Hid (∀ i, i < p → g i < n) := hg
  clear h hl hg
  go_enter Try.func44, Try.ntmps44
  go_wp2_with (first | (go_at_call 52; refine hck.mono ?_; rintro e w' ⟨rfl, rfl⟩; clear hck) | (go_at_call 41; refine (fits_yes _ _ (by omega) (by omega)).mono ?_; rintro e w' ⟨rfl, rfl⟩))
  go_loopw [22] (fun i wr => ∃ k : Nat, k ≤ p ∧ i = .int .i64 k ∧ wr = w') (fun i _ => p - (intOf i).toNat)
  case atStart => exact ⟨0, by omega, rfl, rfl⟩
  case round =>
    obtain ⟨k, hk, rfl, rfl⟩ := hrel
    by_cases hlt : k < p
    · have hlk := HL.out k hlt
      have hgk := HG.out k hlt
      have hkp : (k : Int) < (p : Int) := by omega
      have g1 : decide ((g k : Int) < 0) = false := by simp
      have g2 : ¬ ((n : Int) ≤ (g k : Int)) := by omega
      clear hz h0
      go_wp2_with fail
      go_roundw
      case rel => exact ⟨k + 1, by omega, by go_num, trivial⟩
      case measure => simp [intOf]; omega
    · obtain rfl : k = p := by omega
      go_wp2_with (go_at_call 42; refine hz.mono ?_; rintro e w0 ⟨rfl, hb0, hs0, ho0⟩)
      obtain ⟨G1, hG1⟩ : ∃ G1 : Nat → Nat, G1 = fun r => wr.heap.size + 1 + r := ⟨_, rfl⟩
      obtain ⟨C1, hC1⟩ : ∃ C1 : Nat → Nat, C1 = fun _ => m := ⟨_, rfl⟩
      rw [← hG1, ← hC1] at ho0
      have HA : Hid (Cop wr w0 k m 0 G1 C1 (fun r => f (g r))) := ⟨hb0, ho0.congr (fun r _ j _ => by simp [rowsTo]) (rowsTo_lt hf 0)⟩
      obtain ⟨ws, hws⟩ : ∃ ws, ws = wr := ⟨_, rfl⟩
      subst hws
      clear hb0 hs0 ho0 hz h0 hG1 hC1
      go_loopw [44] (fun i wr => ∃ t : Nat, t ≤ k ∧ i = .int .i64 t ∧ Hid (Cop ws wr k m t G1 C1 (fun r => f (g r)))) (fun i _ => k - (intOf i).toNat)
      case atStart => exact ⟨0, by omega, rfl, HA⟩
      case round =>
        clear HA
        obtain ⟨t, ht, rfl, HC⟩ := hrel
        by_cases hlt2 : t < k
        · have htk : (t : Int) < (k : Int) := by omega
          have hM := HM.out.below (Nat.le_refl _) HC.out.below
          have hgt := HG.out t hlt2
          have hgn : (g t : Int) < (n : Int) := by omega
          have t1 := HC.out.own.top t hlt2
          have t2 : wr.cell? ⟨lb, lo + t, none⟩ = some (.int .i64 (g t : Int)) := (HC.out.below.cell (by exact hlb)).trans (HL.out t hlt2)
          have t3 := hM.top (g t) hgt
          obtain ⟨w1, hrun, hc1⟩ := copy_run wr 3 (G1 t) 0 m (C1 t) (G (g t)) (O (g t)) m (C (g t)) (f (g t)) m (Nat.min_self m).symm (hM.cell (g t) hgt) (fun j hj => by rw [Nat.zero_add, HC.out.own.cell t hlt2 j hj]; rfl) (HC.out.own.fG t hlt2)
          have HN : Hid (Cop ws w1 k m (t + 1) G1 C1 (fun r => f (g r))) := ⟨HC.out.below.trans (hc1.touch.below (HC.out.own.hG t hlt2).1), rows_step (Z := fun r => f (g r)) hf HC.out.own hlt2 hc1⟩
          clear hM hc1 HC
          go_wp2_with fail
          go_roundw
          case rel => exact ⟨t + 1, by omega, by go_num, HN⟩
          case measure => simp [intOf]; omega
        · obtain rfl : t = k := by omega
          go_wp2_with fail
          go_ret2
          exact ⟨HC.out.below, _, G1, C1, rfl, cop_end hf HC.out⟩

end Go.Proofs.Ytmlaloadeeohbaa

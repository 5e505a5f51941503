/-
  The code, plain: what shards are, what K of them tell, what a turned shard turns.
  Conditions: none.
-/
import Derived.Test.YtmlaloadeeohbaaMxCauchyP
import Derived.Test.YtmlaloadeeohbaaMxInvPlain
namespace Go.Proofs.Ytmlaloadeeohbaa
open Gf
set_option linter.unusedVariables false

def encF (k m : Nat) (X : Nat → Nat → Nat) : Nat → Nat → Nat := mulF (cauchyF k m) X k

theorem encF_lt {k m : Nat} {X : Nat → Nat → Nat} (hX : ∀ r j, X r j < 256) (r j : Nat) : encF k m X r j < 256 := mulF_lt (cauchyF_lt k m) hX k r j

theorem mulF_congr {f f' g g' : Nat → Nat → Nat} {p r j : Nat} (h1 : ∀ i, i < p → f r i = f' r i) (h2 : ∀ i, i < p → g i j = g' i j) : mulF f g p r j = mulF f' g' p r j := dot_congr h1 h2

theorem encF_congr {k m : Nat} {X Y : Nat → Nat → Nat} {r j : Nat} (h : ∀ i, i < k → X i j = Y i j) : encF k m X r j = encF k m Y r j := mulF_congr (fun _ _ => rfl) h

theorem encF_data {k m : Nat} {X : Nat → Nat → Nat} (hX : ∀ r j, X r j < 256) {r j : Nat} (hr : r < k) : encF k m X r j = X r j := by
  have := dot_delta_row (fun i => X i j) (fun i => hX i j) r k hr
  rw [← this]
  refine dot_congr (fun i hi => ?_) (fun _ _ => rfl)
  unfold cauchyF
  rw [if_pos hr]

def decF (k m : Nat) (g : Nat → Nat) (Y : Nat → Nat → Nat) : Nat → Nat → Nat := encF k m (mulF (right (fun r => cauchyF k m (g r)) k) Y k)

theorem decF_lt {k m : Nat} {g : Nat → Nat} {Y : Nat → Nat → Nat} (hY : ∀ r j, Y r j < 256) (r j : Nat) : decF k m g Y r j < 256 :=
  encF_lt (mulF_lt (right_lt (fun r j => cauchyF_lt k m (g r) j) k) hY k) r j

/- Of K shards of a codeword all of it. -/
theorem decF_all {k m : Nat} {g : Nat → Nat} {X Y : Nat → Nat → Nat} (hX : ∀ r j, X r j < 256) (hY : ∀ r j, Y r j < 256) (hkm : k + m ≤ 255) (hg : ∀ r, r < k → g r < k + m) (hinj : ∀ r s, r < k → s < k → g r = g s → r = s)
    (n : Nat) (h : ∀ r, r < k → ∀ j, j < n → Y r j = encF k m X (g r) j) (r j : Nat) (hj : j < n) : decF k m g Y r j = encF k m X r j := by
  have hF : ∀ r j, (fun r => cauchyF k m (g r)) r j < 256 := fun r j => cauchyF_lt k m (g r) j
  have ht := cauchy_turns k m g hkm hg hinj
  refine encF_congr (fun i hi => ?_)
  have h1 : mulF (right (fun r => cauchyF k m (g r)) k) Y k i j = mulF (right (fun r => cauchyF k m (g r)) k) (mulF (fun r => cauchyF k m (g r)) X k) k i j :=
    mulF_congr (fun _ _ => rfl) (fun s hs => h s hs j hj)
  rw [h1, ← mul_assoc3 _ _ _ (right_lt hF k) hF hX]
  have h2 : mulF (mulF (right (fun r => cauchyF k m (g r)) k) (fun r => cauchyF k m (g r)) k) X k i j = mulF delta X k i j :=
    mulF_congr (fun s hs => inv_left hF ht hi hs) (fun _ _ => rfl)
  rw [h2]
  exact dot_delta_row (fun i => X i j) (fun i => hX i j) i k hi

/- The K shards are the codeword's. -/
theorem decF_kept {k m : Nat} {g : Nat → Nat} {Y : Nat → Nat → Nat} (hY : ∀ r j, Y r j < 256) (hkm : k + m ≤ 255) (hg : ∀ r, r < k → g r < k + m) (hinj : ∀ r s, r < k → s < k → g r = g s → r = s)
    {r : Nat} (hr : r < k) (j : Nat) : decF k m g Y (g r) j = Y r j := by
  have hF : ∀ r j, (fun r => cauchyF k m (g r)) r j < 256 := fun r j => cauchyF_lt k m (g r) j
  have ht := cauchy_turns k m g hkm hg hinj
  have h1 : decF k m g Y (g r) j = mulF (fun r => cauchyF k m (g r)) (mulF (right (fun r => cauchyF k m (g r)) k) Y k) k r j := rfl
  rw [h1, ← mul_assoc3 _ _ _ hF (right_lt hF k) hY]
  have h2 : mulF (mulF (fun r => cauchyF k m (g r)) (right (fun r => cauchyF k m (g r)) k) k) Y k r j = mulF delta Y k r j :=
    mulF_congr (fun s hs => inv_right hF ht hr hs) (fun _ _ => rfl)
  rw [h2]
  exact dot_delta_row (fun i => Y i j) (fun i => hY i j) r k hr

/- What is told is a codeword. -/
theorem decF_code {k m : Nat} {g : Nat → Nat} {Y : Nat → Nat → Nat} (hY : ∀ r j, Y r j < 256) (r j : Nat) : encF k m (decF k m g Y) r j = decF k m g Y r j :=
  encF_congr (fun i hi => encF_data (mulF_lt (right_lt (fun r j => cauchyF_lt k m (g r) j) k) hY k) hi)

/- One data shard is turned. -/
def turnF (X : Nat → Nat → Nat) (i : Nat) (fr : Nat → Nat) : Nat → Nat → Nat := fun r j => if r = i then fr j else X r j

theorem turnF_lt {X : Nat → Nat → Nat} {i : Nat} {fr : Nat → Nat} (hX : ∀ r j, X r j < 256) (hf : ∀ j, fr j < 256) (r j : Nat) : turnF X i fr r j < 256 := by
  unfold turnF
  split
  · exact hf j
  · exact hX r j

theorem xor_self_mid (a b c : Nat) : a ^^^ (b ^^^ c) ^^^ b = a ^^^ c := by
  rw [Nat.xor_assoc, Nat.xor_comm (b ^^^ c) b, ← Nat.xor_assoc b b c, Nat.xor_self, Nat.zero_xor]

theorem dot_turn {c x : Nat → Nat} {i y : Nat} (hc : ∀ j, c j < 256) (hx : ∀ j, x j < 256) (hy : y < 256) : ∀ n, dot c (fun j => if j = i then y else x j) n = dot c x n ^^^ (if i < n then tmul (c i) (x i ^^^ y) else 0)
  | 0 => by simp [dot]
  | n + 1 => by
    unfold dot
    rw [dot_turn hc hx hy n]
    by_cases e : n = i
    · subst e
      rw [if_pos rfl, if_neg (by omega), if_pos (by omega), tmul_xor _ _ _ (hc n) (hx n) hy, Nat.xor_zero, Nat.xor_assoc, ← Nat.xor_assoc (tmul (c n) (x n)) (tmul (c n) (x n)), Nat.xor_self, Nat.zero_xor]
    · rw [if_neg e]
      by_cases h : i < n
      · rw [if_pos h, if_pos (by omega)]
        rw [Nat.xor_assoc, Nat.xor_assoc]
        congr 1
        exact Nat.xor_comm _ _
      · rw [if_neg h, if_neg (by omega), Nat.xor_zero, Nat.xor_zero]

theorem encF_turn {k m : Nat} {X : Nat → Nat → Nat} {i : Nat} {fr : Nat → Nat} (hX : ∀ r j, X r j < 256) (hf : ∀ j, fr j < 256) (hi : i < k) (r j : Nat) :
    encF k m (turnF X i fr) r j = encF k m X r j ^^^ tmul (cauchyF k m r i) (X i j ^^^ fr j) := by
  have := dot_turn (c := cauchyF k m r) (x := fun s => X s j) (i := i) (y := fr j) (cauchyF_lt k m r) (fun s => hX s j) (hf j) k
  rw [if_pos hi] at this
  exact this

/- How many one has, and where. -/
def cnt (h : Nat → Bool) : Nat → Nat
  | 0 => 0
  | n + 1 => cnt h n + (if h n then 1 else 0)

theorem cnt_le (h : Nat → Bool) : ∀ n, cnt h n ≤ n
  | 0 => Nat.le_refl _
  | n + 1 => by
    have := cnt_le h n
    unfold cnt
    split <;> omega

theorem cnt_mono (h : Nat → Bool) {a : Nat} : ∀ {b : Nat}, a ≤ b → cnt h a ≤ cnt h b
  | 0, hb => by
    obtain rfl : a = 0 := by omega
    exact Nat.le_refl _
  | b + 1, hb => by
    by_cases e : a = b + 1
    · subst e; exact Nat.le_refl _
    · exact Nat.le_trans (cnt_mono h (a := a) (b := b) (by omega)) (Nat.le_add_right _ _)

theorem cnt_true {h : Nat → Bool} {i : Nat} (hi : h i = true) : cnt h (i + 1) = cnt h i + 1 := by
  show cnt h i + _ = _
  rw [if_pos hi]

theorem cnt_false {h : Nat → Bool} {i : Nat} (hi : h i = false) : cnt h (i + 1) = cnt h i := by
  show cnt h i + _ = _
  rw [if_neg (by simp [hi])]
  rfl

theorem cnt_inj {h : Nat → Bool} {i j : Nat} (hi : h i = true) (hj : h j = true) (e : cnt h i = cnt h j) : i = j := by
  rcases Nat.lt_trichotomy i j with hlt | he | hlt
  · have := cnt_mono h (a := i + 1) (b := j) (by omega)
    rw [cnt_true hi] at this
    omega
  · exact he
  · have := cnt_mono h (a := j + 1) (b := i) (by omega)
    rw [cnt_true hj] at this
    omega

structure Plc (h : Nat → Bool) (p c : Nat) (g : Nat → Nat) : Prop where
  all : c = cnt h p
  lt : ∀ r, r < c → g r < p
  has : ∀ r, r < c → h (g r) = true
  nth : ∀ r, r < c → cnt h (g r) = r

theorem Plc.inj {h : Nat → Bool} {p c : Nat} {g : Nat → Nat} (q : Plc h p c g) {r s : Nat} (hr : r < c) (hs : s < c) (e : g r = g s) : r = s := by
  rw [← q.nth r hr, ← q.nth s hs, e]

theorem Plc.find {h : Nat → Bool} {p c : Nat} {g : Nat → Nat} (q : Plc h p c g) {i : Nat} (hi : i < p) (ht : h i = true) : cnt h i < c ∧ g (cnt h i) = i := by
  have hlt : cnt h i < c := by
    have := cnt_mono h (a := i + 1) (b := p) (by omega)
    rw [cnt_true ht] at this
    have := q.all
    omega
  exact ⟨hlt, cnt_inj (q.has _ hlt) ht (q.nth _ hlt)⟩

theorem plc_start (h : Nat → Bool) (g : Nat → Nat) : Plc h 0 0 g := ⟨rfl, fun r hr => by omega, fun r hr => by omega, fun r hr => by omega⟩

theorem plc_true {h : Nat → Bool} {i c : Nat} {g : Nat → Nat} (q : Plc h i c g) (hi : h i = true) : Plc h (i + 1) (c + 1) (fun r => if r = c then i else g r) := by
  refine ⟨by rw [cnt_true hi, ← q.all], fun r hr => ?_, fun r hr => ?_, fun r hr => ?_⟩
  · by_cases e : r = c
    · simp [e]
    · have := q.lt r (by omega)
      simp only [e, if_false]
      omega
  · by_cases e : r = c
    · simpa [e] using hi
    · simpa [e] using q.has r (by omega)
  · by_cases e : r = c
    · simpa [e] using q.all.symm
    · simpa [e] using q.nth r (by omega)

theorem plc_false {h : Nat → Bool} {i c : Nat} {g : Nat → Nat} (q : Plc h i c g) (hi : h i = false) : Plc h (i + 1) c g :=
  ⟨by rw [cnt_false hi, ← q.all], fun r hr => Nat.lt_succ_of_lt (q.lt r hr), q.has, q.nth⟩

end Go.Proofs.Ytmlaloadeeohbaa

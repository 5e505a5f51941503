/-
  Sums of products over the field: bounds, exchange, products of three matrices in either order.
  Conditions: the elements are below 256.
-/
import Derived.Test.YtmlaloadeeohbaaMxProd
namespace Go.Proofs.Ytmlaloadeeohbaa
open Go.RowKit Gf
set_option linter.unusedVariables false

theorem tmul_xor' (a b c : Nat) (ha : a < 256) (hb : b < 256) (hc : c < 256) : tmul (a ^^^ b) c = tmul a c ^^^ tmul b c := by
  rw [tmul_comm, tmul_xor c a b hc ha hb, tmul_comm c a, tmul_comm c b]

theorem xor_exch (a b c d : Nat) : (a ^^^ b) ^^^ (c ^^^ d) = (a ^^^ c) ^^^ (b ^^^ d) := by
  rw [Nat.xor_assoc, Nat.xor_assoc, xor_left_comm b c d]

theorem dot_congr {f f' g g' : Nat → Nat} : ∀ {n : Nat}, (∀ i, i < n → f i = f' i) → (∀ i, i < n → g i = g' i) → dot f g n = dot f' g' n
  | 0, _, _ => rfl
  | n + 1, h, k => by
    unfold dot
    rw [dot_congr (fun i hi => h i (by omega)) (fun i hi => k i (by omega)), h n (by omega), k n (by omega)]

theorem dot_zero_right (f : Nat → Nat) : ∀ n, dot f (fun _ => 0) n = 0
  | 0 => rfl
  | n + 1 => by unfold dot; rw [dot_zero_right f n, tmul_zero_right]; rfl

theorem dot_add_right {f g h : Nat → Nat} (hf : ∀ i, f i < 256) (hg : ∀ i, g i < 256) (hh : ∀ i, h i < 256) : ∀ n, dot f (fun i => g i ^^^ h i) n = dot f g n ^^^ dot f h n
  | 0 => by simp [dot]
  | n + 1 => by
    unfold dot
    rw [dot_add_right hf hg hh n, tmul_xor _ _ _ (hf n) (hg n) (hh n), xor_exch]

theorem dot_mul_right {f g : Nat → Nat} (hf : ∀ i, f i < 256) (hg : ∀ i, g i < 256) {c : Nat} (hc : c < 256) : ∀ n, dot f (fun i => tmul (g i) c) n = tmul (dot f g n) c
  | 0 => by unfold dot; rw [tmul_zero_left]
  | n + 1 => by
    unfold dot
    rw [dot_mul_right hf hg hc n, tmul_xor' _ _ _ (dot_lt _ _ hf hg n) (tmul_lt _ _ (hf n) (hg n)) hc, tmul_assoc]

theorem dot_comm (f g : Nat → Nat) : ∀ n, dot f g n = dot g f n
  | 0 => rfl
  | n + 1 => by unfold dot; rw [dot_comm f g n, tmul_comm]

theorem mul_assoc3 (f g h : Nat → Nat → Nat) (hf : ∀ r j, f r j < 256) (hg : ∀ r j, g r j < 256) (hh : ∀ r j, h r j < 256) (p r j : Nat) : ∀ q, mulF (mulF f g p) h q r j = mulF f (mulF g h q) p r j
  | 0 => by
    show 0 = dot (f r) (fun k => 0) p
    rw [dot_zero_right]
  | q + 1 => by
    have ih := mul_assoc3 f g h hf hg hh p r j q
    have e : mulF f (mulF g h (q + 1)) p r j = dot (f r) (fun k => mulF g h q k j ^^^ tmul (g k q) (h q j)) p := rfl
    rw [e, dot_add_right (hf r) (fun k => mulF_lt hg hh q k j) (fun k => tmul_lt _ _ (hg _ _) (hh _ _)), dot_mul_right (hf r) (fun k => hg k q) (hh q j)]
    show mulF (mulF f g p) h q r j ^^^ tmul (mulF f g p r q) (h q j) = _
    rw [ih]
    rfl

end Go.Proofs.Ytmlaloadeeohbaa

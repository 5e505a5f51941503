/-
  What sweep of package matrix does: a contract over plain numbers.
  Conditions: no more than 1000 rows and columns; the rows are the call's own.
-/
import Derived.Test.YtmlaloadeeohbaaMxMem
namespace Go.Proofs.Ytmlaloadeeohbaa
open Go.RowKit Gf
set_option linter.unusedVariables false

def sweepTo (f : Nat → Nat → Nat) (one c k : Nat) : Nat → Nat → Nat := fun s j => if s < k then sweepF f one c s j else f s j

theorem sweepTo_lt {f : Nat → Nat → Nat} (one c k : Nat) (hf : ∀ r j, f r j < 256) (s j : Nat) : sweepTo f one c k s j < 256 := by
  unfold sweepTo
  split
  · exact sweepF_lt one c hf s j
  · exact hf _ _

theorem sweepTo_succ (f : Nat → Nat → Nat) (one c k s j : Nat) : sweepTo f one c (k + 1) s j = if s = k then sweepF f one c k j else sweepTo f one c k s j := by
  unfold sweepTo
  by_cases e : s = k
  · subst e; simp
  · rw [if_neg e]
    by_cases hlt : s < k
    · rw [if_pos hlt, if_pos (by omega)]
    · rw [if_neg hlt, if_neg (by omega)]

theorem sweepTo_self (f : Nat → Nat → Nat) (one c k j : Nat) : sweepTo f one c k k j = f k j := by simp [sweepTo]

theorem sweepTo_one (f : Nat → Nat → Nat) (one c k j : Nat) : sweepTo f one c k one j = f one j := by
  unfold sweepTo sweepF
  split <;> simp

/- A row that needs no turn. -/
theorem own_skip {base : Nat} {w : World} {b n m one c k : Nat} {G C : Nat → Nat} {f : Nat → Nat → Nat} (h : Own base w b n m G C (sweepTo f one c k)) (hf : ∀ r j, f r j < 256) (hk : k = one ∨ f k c = 0) :
    Own base w b n m G C (sweepTo f one c (k + 1)) := by
  refine h.congr (fun s hs j hj => ?_) (sweepTo_lt one c _ hf)
  rw [sweepTo_succ]
  by_cases e : s = k
  · subst e
    rw [if_pos rfl, sweepTo_self]
    rcases hk with hk | hk
    · subst hk; simp [sweepF]
    · unfold sweepF
      rw [hk, tmul_zero_left]
      simp
  · rw [if_neg e]

structure Swept (base : Nat) (w wr : World) (b n m one c : Nat) (f : Nat → Nat → Nat) (k : Nat) : Prop where
  below : Below base w wr
  own : ∃ G C, Own base wr b n m G C (sweepTo f one c k)

theorem swept_step {base : Nat} {w wr w' : World} {b n m one c k : Nat} {G C : Nat → Nat} {f : Nat → Nat → Nat} (hf : ∀ r j, f r j < 256) (hk : k < n) (hne : k ≠ one) (hB : Below base w wr)
    (ho : Own base wr b n m G C (sweepTo f one c k)) (hb : Below wr.heap.size wr w') (hz : wr.heap.size < w'.heap.size)
    (hc : ∀ i, i < m → w'.cell? ⟨wr.heap.size, i, none⟩ = some (.int .u8 ((f k i ^^^ tmul (f k c) (f one i) : Nat) : Int))) (hf3 : ∀ i, w'.frozen? ⟨wr.heap.size, i, none⟩ = false) :
    Swept base w (w'.setCell ⟨b, k, none⟩ (.slice (some ⟨wr.heap.size, 0, none⟩) m m)) b n m one c f (k + 1) := by
  have hle : base ≤ wr.heap.size := Nat.le_of_lt (Nat.lt_of_le_of_lt ho.hb.1 ho.hb.2)
  have h1 := ho.below (Nat.le_refl _) hb
  have h2 := h1.setTop (r := k) (g := wr.heap.size) (c := m) (f' := fun i => f k i ^^^ tmul (f k c) (f one i)) hk ⟨hle, hz, Nat.ne_of_gt ho.hb.2⟩ (fun s hs _ => Nat.ne_of_lt (ho.hG s hs).2.1) hf3 hc
    (fun j => xor_lt _ _ (hf _ _) (tmul_lt _ _ (hf _ _) (hf _ _))) (Nat.le_refl _)
  refine ⟨(hB.trans (hb.mono hle)).setCell ho.hb.1 _, _, _, h2.congr (fun s hs j hj => ?_) (sweepTo_lt one c _ hf)⟩
  rw [sweepTo_succ]
  by_cases e : s = k
  · subst e
    simp [sweepF, hne]
  · simp [e]

theorem addmul_own (x y : Option Addr) (n c1 c2 c : Nat) (f g : Nat → Nat) (w : World) (hc : c < 256) (hf : ∀ i, f i < 256) (hg : ∀ i, g i < 256) (h0 : 0 < n) (hn : n ≤ 1000) (hx : RowAt w x n f) (hy : RowAt w y n g) :
    Calls Try.prog 37 #[.slice x n c1, .slice y n c2, .int .u8 c] w fun e w' => e = .returned (.tuple #[.slice (some ⟨w.heap.size, 0, none⟩) n n, .bool true]) ∧
      Below w.heap.size w w' ∧ w.heap.size < w'.heap.size ∧ (∀ i, i < n → w'.cell? ⟨w.heap.size, i, none⟩ = some (.int .u8 ((f i ^^^ tmul c (g i) : Nat) : Int))) ∧ ∀ i, w'.frozen? ⟨w.heap.size, i, none⟩ = false := by
  rcases hx with h | ⟨b1, o1, rfl, l1, hx⟩
  · omega
  · rcases hy with h | ⟨b2, o2, rfl, l2, hy⟩
    · omega
    · exact addmul_pos b1 o1 b2 o2 n c1 c2 c f g w hc hf hg (by omega) l1 l2 hx hy

set_option maxHeartbeats 1000000 in
set_option maxRecDepth 100000 in
theorem sweep_any (base b n m one c cp : Nat) (G C : Nat → Nat) (f : Nat → Nat → Nat) (w : World) (h : Own base w b n m G C f) (hn : n ≤ 1000) (hm : m ≤ 1000) (h1 : one < n) (hc : c < m) :
    Calls Try.prog 58 #[.slice (some ⟨b, 0, none⟩) n cp, .int .i64 one, .int .i64 c] w fun e w' => e = .returned (.tuple #[]) ∧ Below base w w' ∧ ∃ G' C', Own base w' b n m G' C' (sweepF f one c) := by
  have hf := h.lt
  have hstart : Swept base w w b n m one c f 0 := ⟨Below.refl _ _, G, C, h.congr (fun r hr j hj => by simp [sweepTo]) (sweepTo_lt one c 0 hf)⟩
  clear h
  go_enter Try.func58, Try.ntmps58
  go_wp2_with fail
  go_loopw [10] (fun i wr => ∃ k : Nat, k ≤ n ∧ i = .int .i64 k ∧ Hid (Swept base w wr b n m one c f k)) (fun i _ => n - (intOf i).toNat)
  case atStart => exact ⟨0, by omega, rfl, hstart⟩
  case round =>
    clear hstart G C
    obtain ⟨k, hk, rfl, HW⟩ := hrel
    by_cases hlt : k < n
    · obtain ⟨hbel, G, C, ho⟩ := HW.out
      clear HW
      have HB : Hid (Below base w wr) := hbel
      have HO : Hid (Own base wr b n m G C (sweepTo f one c k)) := ho
      have hkn : (k : Int) < (n : Int) := by omega
      have htk := ho.top k hlt
      by_cases e1 : k = one
      · have g1 : ((k : Int) != (one : Int)) = false := by simp [e1]
        have HN : Hid (Swept base w wr b n m one c f (k + 1)) := ⟨hbel, G, C, own_skip ho hf (.inl e1)⟩
        clear ho hbel HB HO hf e1
        go_wp2_with fail
        go_roundw
        case rel => exact ⟨k + 1, by omega, by go_num, HN⟩
        case measure => simp [intOf]; omega
      · have g1 : ((k : Int) != (one : Int)) = true := by simp; omega
        have hcm : (c : Int) < (m : Int) := by omega
        have hck : wr.cell? ⟨G k, c, none⟩ = some (.int .u8 (f k c : Int)) := by
          have := ho.cell k hlt c hc
          rwa [sweepTo_self] at this
        by_cases e2 : f k c = 0
        · have g2 : ((f k c : Int) != 0) = false := by simp [e2]
          have HN : Hid (Swept base w wr b n m one c f (k + 1)) := ⟨hbel, G, C, own_skip ho hf (.inr e2)⟩
          clear ho hbel HB HO hf e2
          go_wp2_with fail
          go_roundw
          case rel => exact ⟨k + 1, by omega, by go_num, HN⟩
          case measure => simp [intOf]; omega
        · have g2 : ((f k c : Int) != 0) = true := by simp; omega
          have hto := ho.top one h1
          have hon : (one : Int) < (n : Int) := by omega
          have hb := ho.hb.2
          have hgk := (ho.hG k hlt).2.1
          have rk : RowAt wr (some ⟨G k, 0, none⟩) m (f k) := by
            have := ho.row hlt
            rwa [show sweepTo f one c k k = f k by funext j; exact sweepTo_self f one c k j] at this
          have ro : RowAt wr (some ⟨G one, 0, none⟩) m (f one) := by
            have := ho.row h1
            rwa [show sweepTo f one c k one = f one by funext j; exact sweepTo_one f one c k j] at this
          have hadd : Calls Try.prog 37 #[.slice (some ⟨G k, 0, none⟩) m (C k), .slice (some ⟨G one, 0, none⟩) m (C one), .int .u8 (f k c : Int)] wr.drew fun e w' => e = .returned (.tuple #[.slice (some ⟨wr.heap.size, 0, none⟩) m m, .bool true]) ∧
              Below wr.heap.size wr w' ∧ wr.heap.size < w'.heap.size ∧ (∀ i, i < m → w'.cell? ⟨wr.heap.size, i, none⟩ = some (.int .u8 ((f k i ^^^ tmul (f k c) (f one i) : Nat) : Int))) ∧ ∀ i, w'.frozen? ⟨wr.heap.size, i, none⟩ = false :=
            (addmul_own _ _ m (C k) (C one) (f k c) (f k) (f one) wr.drew (hf k c) (hf k) (hf one) (by omega) hm rk ro).mono fun e w' h => ⟨h.1, ⟨h.2.1.os, h.2.1.tape, h.2.1.output, h.2.1.size, h.2.1.block⟩, h.2.2⟩
          have hne : (⟨b, k, none⟩ : Addr) ≠ ⟨b, one, none⟩ := by intro h; injection h with _ h2 _; exact e1 h2
          have hne2 : (⟨b, k, none⟩ : Addr) ≠ ⟨G k, c, none⟩ := by intro h; injection h with h2 _ _; exact (ho.hG k hlt).2.2 h2.symm
          have hff := ho.fb k
          clear ho hbel rk ro e1 e2
          go_wp2_with fail
          go_region_held3 (fun w' => w'.cell? ⟨b, one, none⟩ = some (.slice (some ⟨G one, 0, none⟩) m (C one)) ∧ w'.cell? ⟨G k, c, none⟩ = some (.int .u8 (f k c : Int)))
            (first | exact ⟨(hb3.cell (by exact hb)).trans hto, (hb3.cell (by exact hgk)).trans hck⟩ | exact ⟨(World.cell?_setCell_other _ _ _ _ hne).trans ((hb3.cell (by exact hb)).trans hto), (World.cell?_setCell_other _ _ _ _ hne2).trans ((hb3.cell (by exact hgk)).trans hck)⟩ | go_keep)
            (first | (go_at_call 37; refine hadd.mono ?_; rintro e w' ⟨rfl, hb3, hz3, hc3, hf3⟩; have hs1 : w'.cell? ⟨b, k, none⟩ = some (.slice (some ⟨G k, 0, none⟩) m (C k)) := (hb3.cell (by exact hb)).trans htk; have hs2 : w'.frozen? ⟨b, k, none⟩ = false := (hb3.frozen (by exact hb)).trans hff))
          have HN : Hid (Swept base w (w'.setCell ⟨b, k, none⟩ (.slice (some ⟨wr.heap.size, 0, none⟩) m m)) b n m one c f (k + 1)) := swept_step hf hlt (fun e => hne (by rw [e])) HB.out HO.out hb3 hz3 hc3 hf3
          clear hc3 hf3 hadd hf HB HO
          go_wp2_with fail
          go_roundw
          case rel => exact ⟨k + 1, by omega, by go_num, HN⟩
          case measure => simp [intOf]; omega
    · have hk2 : k = n := by omega
      subst hk2
      go_wp2_with fail
      go_end0
      obtain ⟨hbel, G, C, ho⟩ := HW.out
      exact ⟨rfl, hbel, G, C, ho.congr (fun r hr j hj => by simp [sweepTo, hr]) (sweepF_lt one c hf)⟩

end Go.Proofs.Ytmlaloadeeohbaa

/-
  What the inner partsOf of package journal does: a contract over plain numbers ('JoPlain').
  Conditions: the record's bytes lie in memory.
-/
import Derived.Test.YthfpljfndnjcnaaJoSect
namespace Go.Proofs.Ythfpljfndnjcnaa
open Go.RowKit By Dk Su Jo
set_option linter.unusedVariables false
set_option linter.unusedSimpArgs false

theorem info_part : (Try.prog.info? 79).map (fun i => (i.zero, i.size, i.bytes)) = some (some (.agg #[.int .i64 0, .int .u32 0, .int .i64 0, .bool false, .slice none 0 0]), 5, 56) := by kernel_rfl

def prV (g r l : Nat) (X : Nat → Option Addr) (C : Nat → Nat) : Nat → Value := fun q =>
  if q % 5 = 0 then .int .i64 (g : Int) else if q % 5 = 1 then .int .u32 (r : Int) else if q % 5 = 2 then .int .i64 ((q / 5 : Nat) : Int) else if q % 5 = 3 then .bool (plast l (q / 5)) else .slice (X (q / 5)) (plen l (q / 5)) (C (q / 5))

theorem prV_row (g r l : Nat) (X : Nat → Option Addr) (C : Nat → Nat) (k : Nat) : rowOf (prV g r l X C) ((k + 1) * 5) = rowOf (prV g r l X C) (k * 5) ++ [.int .i64 (g : Int), .int .u32 (r : Int), .int .i64 (k : Int), .bool (plast l k), .slice (X k) (plen l k) (C k)] := by
  have h0 : prV g r l X C (k * 5) = .int .i64 (g : Int) := by unfold prV; rw [if_pos (by omega)]
  have h1 : prV g r l X C (k * 5 + 1) = .int .u32 (r : Int) := by unfold prV; rw [if_neg (by omega), if_pos (by omega)]
  have h2 : prV g r l X C (k * 5 + 1 + 1) = .int .i64 (k : Int) := by unfold prV; rw [if_neg (by omega), if_neg (by omega), if_pos (by omega), show (k * 5 + 1 + 1) / 5 = k by omega]
  have h3 : prV g r l X C (k * 5 + 1 + 1 + 1) = .bool (plast l k) := by unfold prV; rw [if_neg (by omega), if_neg (by omega), if_neg (by omega), if_pos (by omega), show (k * 5 + 1 + 1 + 1) / 5 = k by omega]
  have h4 : prV g r l X C (k * 5 + 1 + 1 + 1 + 1) = .slice (X k) (plen l k) (C k) := by unfold prV; rw [if_neg (by omega), if_neg (by omega), if_neg (by omega), if_neg (by omega), show (k * 5 + 1 + 1 + 1 + 1) / 5 = k by omega]
  rw [show (k + 1) * 5 = k * 5 + 1 + 1 + 1 + 1 + 1 by omega, rowOf_succ, rowOf_succ, rowOf_succ, rowOf_succ, rowOf_succ, h0, h1, h2, h3, h4]
  simp

structure Pts (w wr : World) (g r l k : Nat) (X : Nat → Option Addr) (C : Nat → Nat) (R : Value) : Prop where
  bel : Below w.heap.size w wr
  own : wr.ownsRow 0 79 5 R k (rowOf (prV g r l X C) (k * 5))
  ob : ∀ q, R.ownBlock = some q → w.heap.size ≤ q

theorem pts_push {w wr : World} {g r l k : Nat} {X : Nat → Option Addr} {C : Nat → Nat} {R : Value} (h : Pts w wr g r l k X C R) (hk : k ≤ 1000) :
    ∃ x' c' w', (Builtin.append_ #[75, 75] 75 #[R, .slice (some ⟨wr.heap.size, 0, none⟩) 1 1]).run Try.prog (wr.alloc (.cells #[.int .i64 (g : Int), .int .u32 (r : Int), .int .i64 (k : Int), .bool (plast l k), .slice (X k) (plen l k) (C k)] 79)) = .ok (.slice x' (k + 1) c') w' ∧
      Hid (Pts w w' g r l (k + 1) X C (.slice x' (k + 1) c')) := by
  have b1 : Below wr.heap.size wr (wr.alloc (.cells #[.int .i64 (g : Int), .int .u32 (r : Int), .int .i64 (k : Int), .bool (plast l k), .slice (X k) (plen l k) (C k)] 79)) := (Below.refl _ _).alloc (Nat.le_refl _) _
  have hown := ownsRow_same h.own (fun q hq => b1.block q (h.own.lt q hq).2)
  obtain ⟨i0, hi, hz0, hz1, hz2⟩ := info_parts info_part
  obtain ⟨R', w4, hap, ho, hgr, hR'⟩ := push_gen (wr.alloc (.cells #[.int .i64 (g : Int), .int .u32 (r : Int), .int .i64 (k : Int), .bool (plast l k), .slice (X k) (plen l k) (C k)] 79)) 75 79 i0 _ 5 56 Try.underlying75 hi hz0 hz1 hz2 rfl (by decide) R k _ hown
    ⟨wr.heap.size, 0, none⟩ 1 1 [.int .i64 (g : Int), .int .u32 (r : Int), .int .i64 (k : Int), .bool (plast l k), .slice (X k) (plen l k) (C k)] rfl (fun j u hj => by
      rw [add_at, Nat.zero_add]
      simp only [World.cell?, heap_alloc_new]
      simpa using hj) (fun u hu => by
      simp at hu
      rcases hu with rfl | rfl | rfl | rfl | rfl <;> rfl) (by omega) (by unfold maxLen; omega) (by omega)
  rw [← prV_row] at ho
  have hT : Turns (fun q => R.ownBlock = some q) wr w4 := (Turns.of_below b1).grown hgr (fun q hq => .inl hq)
  rcases ho.2 with ⟨_, h0⟩ | ⟨g0, cap, cur, hv, _⟩
  · omega
  · subst hv
    refine ⟨_, cap, w4, hap, h.bel.trans (hT.below h.ob h.bel.size), ho, fun q hq => ?_⟩
    rcases hR' q hq with e | e
    · exact h.ob q e
    · have := h.bel.size
      simp at e
      omega

set_option maxHeartbeats 1500000 in
set_option maxRecDepth 100000 in
theorem parts_of (l c g r : Nat) (x : Option Addr) (w : World) (X : Nat → Option Addr) (hl : l ≤ 13005) (hlc : l ≤ c) (hX : X 0 = x) (hX2 : ∀ k, k + 1 < pcs l → ∃ b o, X k = some ⟨b, o, none⟩ ∧ X (k + 1) = some ⟨b, o + 51, none⟩) (hr : r < 4294967296) :
    Calls Try.prog 40 #[.slice x l c, .int .i64 (g : Int), .int .u32 (r : Int)] w fun e w' => ∃ y cy, e = .returned (.slice y (pcs l) cy) ∧ Pts w w' g r l (pcs l) X (fun k => c - 51 * k) (.slice y (pcs l) cy) := by
  have HX := hid hX
  have HX2 := hid hX2
  have HLC := hid hlc
  clear hX hX2 hlc
  go_enter Try.func40, Try.ntmps40
  go_wp2_with fail
  go_loopw [0, 7] (fun b o wr => ∃ (k : Nat) (xk : Option Addr) (lk ck : Nat) (y : Option Addr) (cy : Nat), k ≤ 255 ∧ lk ≤ 13005 ∧ b = .slice xk lk ck ∧ o = .slice y k cy ∧ Hid (xk = X k ∧ lk = l - 51 * k ∧ ck = c - 51 * k ∧ k < pcs l ∧ Pts w wr g r l k X (fun k => c - 51 * k) (.slice y k cy))) (fun b _ _ => slLen b)
  case atStart => exact ⟨0, x, l, c, none, 0, by omega, hl, rfl, rfl, HX.out.symm, by omega, by omega, pcs_pos l, Below.refl _ _, ⟨rfl, .inl ⟨rfl, rfl⟩⟩, fun q hq => by cases hq⟩
  case round =>
    obtain ⟨k, xk, lk, ck, y, cy, hk, hl9, rfl, rfl, HR⟩ := hrel
    obtain ⟨e1, e2, e3, hkp, hpt⟩ := HR.out
    have hlck : lk ≤ ck := by have := HLC.out; omega
    have HKP := hid hkp
    obtain ⟨xA, cA, w4, hap, HN⟩ := pts_push hpt (by omega)
    have hap : (Builtin.append_ #[75, 75] 75 #[.slice y k cy, .slice (some ⟨wr.heap.size, 0, none⟩) 1 1]).run Try.prog (wr.alloc (.cells #[.int .i64 (g : Int), .int .u32 (r : Int), .int .i64 (k : Int), .bool (plast l k), .slice (X k) (plen l k) (c - 51 * k)] 79)) = .ok (.slice xA (k + 1) cA) w4 := hap
    obtain ⟨k1, hk1⟩ : ∃ k1, k1 = k + 1 := ⟨_, rfl⟩
    rw [← hk1] at hap HN
    have HK1 := hid hk1
    by_cases hle : lk ≤ 51
    · have hpc : pcs l = k + 1 := by
        have h1 : pcs l ≤ k + 1 := pcs_fits.2 ⟨by omega, by omega⟩
        omega
      have hpl : plen l k = lk := by unfold plen; omega
      have hla : plast l k = true := by unfold plast; simp [hpc]
      rw [hpl, hla, ← e1, ← e3] at hap
      have hle' : (lk : Int) ≤ 51 := by omega
      have HPC := hid hpc
      clear e1 e2 e3 hkp hpt HR hk1 hpc hpl hla
      go_wp2_with (first
        | (at_builtin; refine wpList_append_run rfl _ _ 75 rfl _ _ rfl rfl hap ?_; clear hap))
      go_ret
      have e : pcs l = k1 := by rw [HPC.out, HK1.out]
      rw [e]
      exact ⟨xA, cA, rfl, HN.out⟩
    · have hpc : k + 1 < pcs l := by
        rcases Nat.lt_or_ge (k + 1) (pcs l) with h | h
        · exact h
        · have := (pcs_fits.1 h).2
          omega
      have hpl : plen l k = 51 := plen_mid hpc
      have hla : plast l k = false := by unfold plast; simp; omega
      obtain ⟨b, o, x1, x2⟩ := HX2.out k hpc
      rw [x1] at e1
      subst e1
      rw [hpl, hla, x1, ← e3] at hap
      have hgt : ¬ (lk : Int) ≤ 51 := by omega
      have hgt' : (51 : Int) < (lk : Int) := by omega
      have hne : ¬ ck = 51 := by omega
      have hnb : ((51 : Int) == (lk : Int)) = false := by rw [beq_eq_false_iff_ne]; omega
      have HPC := hid hpc
      have HX3 := hid x2
      have HE := hid (And.intro e2 e3)
      clear e2 e3 hkp hpt HR hk1 hpc hpl hla x1 x2
      go_wp2_with (first
        | (at_builtin; refine wpList_append_run rfl _ _ 75 rfl _ _ rfl rfl hap ?_; clear hap))
      have hk1 := HK1.out
      exact ⟨⟨k1, _, _, _, xA, cA, by have := HPC.out; have := pcs_le hl; omega, by omega, rfl, rfl, by rw [hk1]; exact HX3.out.symm, by have := HE.out.1; omega, by have := HE.out.2; omega, by have := HPC.out; omega, HN.out⟩, by simp only [slLen]; omega⟩

end Go.Proofs.Ythfpljfndnjcnaa

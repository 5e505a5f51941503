/-
  What combined of package code does: rows times a column of lists: a contract over plain numbers.
  Conditions: the lists are as many as a row's elements, one at least, and equally long.
-/
import Derived.Test.YtmlaloadeeohbaaCdSmall
import Derived.Test.YtmlaloadeeohbaaCdOrders
namespace Go.Proofs.Ytmlaloadeeohbaa
open Go.RowKit Gf
set_option linter.unusedVariables false
set_option linter.unusedSimpArgs false
set_option maxRecDepth 100000

def combTo (f g : Nat → Nat → Nat) (p k j : Nat) : Nat → Nat → Nat := fun s i => if s = k then dot (f k) (fun q => g q i) j else mulF f g p s i

theorem combTo_lt {f g : Nat → Nat → Nat} (hf : ∀ r j, f r j < 256) (hg : ∀ r j, g r j < 256) (p k j s i : Nat) : combTo f g p k j s i < 256 := by
  unfold combTo
  split
  · exact dot_lt _ _ (hf k) (fun q => hg q i) j
  · exact mulF_lt hf hg p s i

theorem Build.caps {w0 w : World} {N i : Nat} {A : Nat → Option Addr} {L C C' : Nat → Nat} {f : Nat → Nat → Nat} (h : Build w0 w N i A L C f) (e : ∀ r, r < i → C r = C' r) : Build w0 w N i A L C' f :=
  ⟨h.below, h.hb, h.fb, h.there, fun r hr => by rw [← e r hr]; exact h.top r hr, h.row, h.lt⟩

theorem comb_start {w wr : World} {n k m p : Nat} {A : Nat → Option Addr} {f g : Nat → Nat → Nat} (hf : ∀ r j, f r j < 256) (hg : ∀ r j, g r j < 256) (h : Build w wr n k A (fun _ => m) (fun _ => m) (mulF f g p)) (hk : k < n) :
    ∃ A', A' k = some ⟨wr.heap.size, 0, none⟩ ∧ Build w ((wr.alloc (.cells (madeCells #[.int .u8 0] m) 5)).setCell ⟨w.heap.size, k, none⟩ (.slice (some ⟨wr.heap.size, 0, none⟩) m m)) n (k + 1) A' (fun _ => m) (fun _ => m) (combTo f g p k 0) := by
  have hb : Below wr.heap.size wr (wr.alloc (.cells (madeCells #[.int .u8 0] m) 5)) := (Below.refl _ _).alloc (Nat.le_refl _) _
  have hm := World.rowIs_made wr (.int .u8 0) m 5
  have hne : wr.heap.size ≠ w.heap.size := by have := h.hb; omega
  refine ⟨_, ?_, (((h.more (Nat.le_refl _) hb).put (r := k) (i' := k + 1) (l := m) (c := m) (a := some ⟨wr.heap.size, 0, none⟩) (f' := fun _ => 0) hk (fun s hs => by omega) (.inr ⟨wr.heap.size, 0, rfl, hne, by simp, fun j hj => by rw [Nat.zero_add]; exact hm.cell hj⟩) (fun _ => by omega)).caps (C' := fun _ => m) (fun r hr => by split <;> rfl)).congr (fun r hr => ?_) (fun r hr j hj => ?_) (combTo_lt hf hg p k 0)⟩
  · simp
  · split <;> rfl
  · unfold combTo
    by_cases e : r = k
    · simp [e, dot]
    · simp [e]

theorem comb_skip {w wr : World} {n k m p j : Nat} {A : Nat → Option Addr} {C : Nat → Nat} {f g : Nat → Nat → Nat} (hf : ∀ r j, f r j < 256) (hg : ∀ r j, g r j < 256) (h : Build w wr n (k + 1) A (fun _ => m) C (combTo f g p k j)) (h0 : f k j = 0) :
    Build w wr n (k + 1) A (fun _ => m) C (combTo f g p k (j + 1)) :=
  h.congr (fun _ _ => rfl) (fun r hr i hi => by
    unfold combTo
    by_cases e : r = k
    · rw [if_pos e, if_pos e]
      show _ = dot (f k) (fun q => g q i) j ^^^ tmul (f k j) (g j i)
      rw [h0, tmul_zero_left, Nat.xor_zero]
    · rw [if_neg e, if_neg e]) (combTo_lt hf hg p k (j + 1))

theorem comb_step {w wr w1 : World} {n k m p j : Nat} {A : Nat → Option Addr} {f g : Nat → Nat → Nat} (hf : ∀ r j, f r j < 256) (hg : ∀ r j, g r j < 256) (h : Build w wr n (k + 1) A (fun _ => m) (fun _ => m) (combTo f g p k j)) (hk : k < n)
    (hb : Below wr.heap.size wr w1) (hs : wr.heap.size < w1.heap.size) (hc : ∀ i, i < m → w1.cell? ⟨wr.heap.size, i, none⟩ = some (.int .u8 ((combTo f g p k j k i ^^^ tmul (f k j) (g j i) : Nat) : Int))) :
    ∃ A', Build w (w1.setCell ⟨w.heap.size, k, none⟩ (.slice (some ⟨wr.heap.size, 0, none⟩) m m)) n (k + 1) A' (fun _ => m) (fun _ => m) (combTo f g p k (j + 1)) := by
  have hne : wr.heap.size ≠ w.heap.size := by have := h.hb; omega
  refine ⟨_, (((h.more (Nat.le_refl _) hb).put (r := k) (i' := k + 1) (l := m) (c := m) (a := some ⟨wr.heap.size, 0, none⟩) (f' := fun i => combTo f g p k j k i ^^^ tmul (f k j) (g j i)) hk (fun s hs => by omega) (.inr ⟨wr.heap.size, 0, rfl, hne, hs, fun j hj => by rw [Nat.zero_add]; exact hc j hj⟩) (fun i => xor_lt _ _ (combTo_lt hf hg p k j k i) (tmul_lt _ _ (hf k j) (hg j i)))).caps (C' := fun _ => m) (fun r hr => by split <;> rfl)).congr (fun r hr => ?_) (fun r hr i hi => ?_) (combTo_lt hf hg p k (j + 1))⟩
  · split <;> rfl
  · by_cases e : r = k
    · subst e
      rw [if_pos rfl]
      unfold combTo
      rw [if_pos rfl, if_pos rfl]
      rfl
    · rw [if_neg e]
      unfold combTo
      rw [if_neg e, if_neg e]

theorem comb_end {w wr : World} {n k m p : Nat} {A : Nat → Option Addr} {C : Nat → Nat} {f g : Nat → Nat → Nat} (hf : ∀ r j, f r j < 256) (hg : ∀ r j, g r j < 256) (h : Build w wr n (k + 1) A (fun _ => m) C (combTo f g p k p)) :
    Build w wr n (k + 1) A (fun _ => m) C (mulF f g p) :=
  h.congr (fun _ _ => rfl) (fun r hr i hi => by
    unfold combTo
    by_cases e : r = k
    · rw [if_pos e, e]; rfl
    · rw [if_neg e]) (mulF_lt hf hg p)

set_option maxHeartbeats 4000000 in
set_option maxRecDepth 100000 in
theorem combined_cap (rb ro lb lo n p m c c' : Nat) (A A' : Nat → Option Addr) (C C' : Nat → Nat) (f g : Nat → Nat → Nat) (w : World) (hn : n ≤ 1000) (hp1 : 1 ≤ p) (hp : p ≤ 1000) (hm : m ≤ 140737488351232)
    (h : IsGrid w (some ⟨rb, ro, none⟩) n A (fun _ => p) C f) (h' : IsGrid w (some ⟨lb, lo, none⟩) p A' (fun _ => m) C' g) :
    Calls Try.prog 33 #[.slice (some ⟨rb, ro, none⟩) n c, .slice (some ⟨lb, lo, none⟩) p c'] w fun e w' => e = .returned (.slice (some ⟨w.heap.size, 0, none⟩) n n) ∧ ∃ A1, Build w w' n n A1 (fun _ => m) (fun _ => m) (mulF f g p) := by
  have hf := h.2.2
  have hg := h'.2.2
  have hmk := run_make_row' (P := Try.prog) 28 22 (.slice none 0 0) 24 Try.underlying28 info_row rfl .i64 .i64 n (by omega) (by omega)
  have HR : Hid (IsGrid w (some ⟨rb, ro, none⟩) n A (fun _ => p) C f) := h
  have HL : Hid (IsGrid w (some ⟨lb, lo, none⟩) p A' (fun _ => m) C' g) := h'
  have HF : Hid (∀ r j, f r j < 256) := hf
  have HG : Hid (∀ r j, g r j < 256) := hg
  clear h h' hf hg
  go_enter Try.func33, Try.ntmps33
  go_wp2_with fail
  clear hmk
  have HA : Hid (∃ A1, Build w (w.alloc (.cells (madeCells #[.slice none 0 0] n) 22)) n 0 A1 (fun _ => m) (fun _ => m) (mulF f g p)) := ⟨fun _ => none, build_start w n _ _ _ _ (mulF_lt HF.out HG.out p)⟩
  go_loopw [15] (fun i wr => ∃ k : Nat, k ≤ n ∧ i = .int .i64 k ∧ Hid (∃ A1, Build w wr n k A1 (fun _ => m) (fun _ => m) (mulF f g p))) (fun i _ => n - (intOf i).toNat)
  case atStart => exact ⟨0, by omega, rfl, HA⟩
  case round =>
    clear HA
    obtain ⟨k, hk, rfl, HW⟩ := hrel
    by_cases hlt : k < n
    · obtain ⟨A1, hB⟩ := HW.out
      have hkn : (k : Int) < (n : Int) := by omega
      have hp0 : (0 : Int) < (p : Int) := by omega
      have hgr := HR.out.below hB.below
      have hgl := HL.out.below hB.below
      have t1 := grid_tops hgr hlt
      have t2 : wr.cell? ⟨lb, lo, none⟩ = some (.slice (A' 0) m (C' 0)) := grid_tops hgl (r := 0) (by omega)
      have hmk2 := run_make_row' (P := Try.prog) 22 5 (.int .u8 0) 1 Try.underlying22 info_byte rfl .i64 .i64 m (by omega) (by omega)
      obtain ⟨u, hu⟩ := hB.there k hlt
      have hst1 : ∀ o, (wr.alloc o).cell? ⟨w.heap.size, k, none⟩ = some u := fun o => (Below.cell ((Below.refl wr.heap.size wr).alloc (Nat.le_refl _) o) (by exact hB.hb)).trans hu
      have hst2 : ∀ o, (wr.alloc o).frozen? ⟨w.heap.size, k, none⟩ = false := fun o => (Below.frozen ((Below.refl wr.heap.size wr).alloc (Nat.le_refl _) o) (by exact hB.hb)).trans (hB.fb k)
      obtain ⟨A2, _, hB2⟩ := comb_start HF.out HG.out hB hlt
      have HA : Hid (∃ A1, Build w ((wr.alloc (.cells (madeCells #[.int .u8 0] m) 5)).setCell ⟨w.heap.size, k, none⟩ (.slice (some ⟨wr.heap.size, 0, none⟩) m m)) n (k + 1) A1 (fun _ => m) (fun _ => m) (combTo f g p k 0)) := ⟨A2, hB2⟩
      rcases hgr.2.1 k hlt with h0 | ⟨g0, o0, hAk, hg0, hcell⟩
      · exact absurd h0 (by show ¬ p = 0; omega)
      · have hg0' : ∃ q : World, q = wr := ⟨_, rfl⟩
        obtain ⟨wk, hwk⟩ := hg0'
        have HC : Hid (∀ v, Below w.heap.size w v → ∀ j, j < p → v.cell? ⟨g0, o0 + j, none⟩ = some (.int .u8 (f k j : Int))) := fun v hv j hj => by
          rcases (HR.out.below hv).2.1 k hlt with h0 | ⟨g1, o1, hA1, _, hc1⟩
          · exact absurd h0 (by show ¬ p = 0; omega)
          · rw [hAk] at hA1
            injection hA1 with hA1
            injection hA1 with e1 e2 _
            subst e1; subst e2
            exact hc1 j hj
        rw [hAk] at t1
        clear hB hB2 hgr hgl hcell hg0 hu HW hwk wk
        go_wp2_with fail
        go_loopw [30] (fun i wr => ∃ j : Nat, j ≤ p ∧ i = .int .i64 j ∧ Hid (∃ A1, Build w wr n (k + 1) A1 (fun _ => m) (fun _ => m) (combTo f g p k j))) (fun i _ => p - (intOf i).toNat)
        case atStart => exact ⟨0, by omega, rfl, HA⟩
        case round =>
          clear HA hmk2 hst1 hst2 t1 t2
          obtain ⟨j, hj, rfl, HW⟩ := hrel
          obtain ⟨A1, hB⟩ := HW.out
          by_cases hlt2 : j < p
          · have hjp : (j : Int) < (p : Int) := by omega
            have c1 := HC.out wr hB.below j hlt2
            have hfj := HF.out k j
            by_cases e0 : f k j = 0
            · have g1 : ((f k j : Int) != 0) = false := by simp [e0]
              have HN : Hid (∃ A1, Build w wr n (k + 1) A1 (fun _ => m) (fun _ => m) (combTo f g p k (j + 1))) := ⟨A1, comb_skip HF.out HG.out hB e0⟩
              clear hB HW e0
              go_wp2_with fail
              go_roundw
              case rel => exact ⟨j + 1, by omega, by go_num, HN⟩
              case measure => simp [intOf]; omega
            · have g1 : ((f k j : Int) != 0) = true := by simp; omega
              have k1 : wr.drew.cell? ⟨w.heap.size, k, none⟩ = some (.slice (A1 k) m m) := hB.top k (by omega)
              have k2 : wr.drew.cell? ⟨lb, lo + j, none⟩ = some (.slice (A' j) m (C' j)) := grid_tops (HL.out.below hB.below) hlt2
              have hgl := HL.out.below hB.below
              have hcall : Calls Try.prog 37 #[.slice (A1 k) m m, .slice (A' j) m (C' j), .int .u8 (f k j : Int)] wr.drew fun e w' => e = .returned (.tuple #[.slice (some ⟨wr.heap.size, 0, none⟩) m m, .bool true]) ∧ Below wr.heap.size wr.drew w' ∧ wr.heap.size < w'.heap.size ∧ ∀ i, i < m → w'.cell? ⟨wr.heap.size, i, none⟩ = some (.int .u8 ((combTo f g p k j k i ^^^ tmul (f k j) (g j i) : Nat) : Int)) :=
                addmul_eq (A1 k) (A' j) m m (C' j) (f k j) (combTo f g p k j k) (g j) wr.drew hfj (combTo_lt HF.out HG.out p k j k) (HG.out j) hm (hB.rowAt (by omega)) (hgl.2.1 j hlt2)
              have HB : Hid (Build w wr n (k + 1) A1 (fun _ => m) (fun _ => m) (combTo f g p k j)) := hB
              have hlo : lb < wr.heap.size := by obtain ⟨b, o, hbo, hl⟩ := grid_some hgl (by omega); injection hbo with hbo; injection hbo with hbo _ _; omega
              have hwl := hB.hb
              clear hB HW hgl e0
              go_wp2_with fail
              refine wp_region_mid (fun w' => w'.cell? ⟨w.heap.size, k, none⟩ = some (.slice (A1 k) m m) ∧ w'.cell? ⟨lb, lo + j, none⟩ = some (.slice (A' j) m (C' j))) 16 (by kernel_rfl) ⟨k1, k2⟩ (fun hS => ?_)
              refine wpAnyM_take (i := 0) (v := ?_) rfl (by kernel_rfl) (by kernel_rfl) (by kernel_rfl) (by kernel_rfl) (by kernel_rfl) (fun _ _ _ h => h) hS (Or.inl ⟨by rfl, ?_⟩) ?_
              case refine_2 => (intro w hSw; (try dsimp only at hSw); go_simp; (try with_reducible rfl))
              (try simp only [Act.put, List.setIfInBounds_toArray, List.set_cons_zero, List.set_cons_succ])
              refine wpAnyM_take (i := 1) (v := ?_) rfl (by kernel_rfl) (by kernel_rfl) (by kernel_rfl) (by kernel_rfl) (by kernel_rfl) (fun _ _ _ h => h) hS (Or.inl ⟨by rfl, ?_⟩) ?_
              case refine_2 => (intro w hSw; (try dsimp only at hSw); go_simp; (try with_reducible rfl))
              (try simp only [Act.put, List.setIfInBounds_toArray, List.set_cons_zero, List.set_cons_succ])
              refine wpAnyM_take (i := 2) (v := ?_) rfl (by kernel_rfl) (by kernel_rfl) (by kernel_rfl) (by kernel_rfl) (by kernel_rfl) (fun _ _ _ h => h) hS (Or.inl ⟨by rfl, ?_⟩) ?_
              case refine_2 => (intro w hSw; (try dsimp only at hSw); go_simp; (try with_reducible rfl))
              (try simp only [Act.put, List.setIfInBounds_toArray, List.set_cons_zero, List.set_cons_succ])
              refine wpAnyM_take (i := 3) (v := ?_) rfl (by kernel_rfl) (by kernel_rfl) (by kernel_rfl) (by kernel_rfl) (by kernel_rfl) (fun _ _ _ h => h) hS (Or.inl ⟨by rfl, ?_⟩) ?_
              case refine_2 => (intro w hSw; (try dsimp only at hSw); go_simp; (try with_reducible rfl))
              (try simp only [Act.put, List.setIfInBounds_toArray, List.set_cons_zero, List.set_cons_succ])
              refine wpAnyM_take (i := 4) (v := ?_) rfl (by kernel_rfl) (by kernel_rfl) (by kernel_rfl) (by kernel_rfl) (by kernel_rfl) (fun _ _ _ h => h) hS (Or.inl ⟨by rfl, ?_⟩) ?_
              case refine_2 => (intro w hSw; (try dsimp only at hSw); go_simp; (try with_reducible rfl))
              (try simp only [Act.put, List.setIfInBounds_toArray, List.set_cons_zero, List.set_cons_succ])
              refine wpAnyM_take (i := 5) (v := ?_) rfl (by kernel_rfl) (by kernel_rfl) (by kernel_rfl) (by kernel_rfl) (by kernel_rfl) (fun _ _ _ h => h) hS (Or.inl ⟨by rfl, ?_⟩) ?_
              case refine_2 => (intro w hSw; (try dsimp only at hSw); go_simp; (try with_reducible rfl))
              (try simp only [Act.put, List.setIfInBounds_toArray, List.set_cons_zero, List.set_cons_succ])
              refine wpAnyM_take (i := 6) (v := ?_) rfl (by kernel_rfl) (by kernel_rfl) (by kernel_rfl) (by kernel_rfl) (by kernel_rfl) (fun _ _ _ h => h) hS (Or.inl ⟨by rfl, ?_⟩) ?_
              case refine_2 => (intro w hSw; (try dsimp only at hSw); go_simp; (try with_reducible rfl))
              (try simp only [Act.put, List.setIfInBounds_toArray, List.set_cons_zero, List.set_cons_succ])
              refine wpAnyM_take (i := 7) (v := ?_) rfl (by kernel_rfl) (by kernel_rfl) (by kernel_rfl) (by kernel_rfl) (by kernel_rfl) (fun _ _ _ h => h) hS (Or.inl ⟨by rfl, ?_⟩) ?_
              case refine_2 => (intro w hSw; (try dsimp only at hSw); go_simp; (try with_reducible rfl))
              (try simp only [Act.put, List.setIfInBounds_toArray, List.set_cons_zero, List.set_cons_succ])
              refine wpAnyM_take (i := 8) (v := ?_) rfl (by kernel_rfl) (by kernel_rfl) (by kernel_rfl) (by kernel_rfl) (by kernel_rfl) (fun _ _ _ h => h) hS (Or.inl ⟨by rfl, ?_⟩) ?_
              case refine_2 => (intro w hSw; (try dsimp only at hSw); go_simp; (try with_reducible rfl))
              (try simp only [Act.put, List.setIfInBounds_toArray, List.set_cons_zero, List.set_cons_succ])
              refine wpAnyM_take (i := 9) (v := ?_) rfl (by kernel_rfl) (by kernel_rfl) (by kernel_rfl) (by kernel_rfl) (by kernel_rfl) (fun _ _ _ h => h) hS (Or.inl ⟨by rfl, ?_⟩) ?_
              case refine_2 => (intro w hSw; (try dsimp only at hSw); go_simp; (try with_reducible rfl))
              (try simp only [Act.put, List.setIfInBounds_toArray, List.set_cons_zero, List.set_cons_succ])
              refine wpAnyM_take (i := 10) (v := ?_) rfl (by kernel_rfl) (by kernel_rfl) (by kernel_rfl) (by kernel_rfl) (by kernel_rfl) (fun _ _ _ h => h) hS (Or.inl ⟨by rfl, ?_⟩) ?_
              case refine_2 => (intro w hSw; (try dsimp only at hSw); go_simp; (try with_reducible rfl))
              (try simp only [Act.put, List.setIfInBounds_toArray, List.set_cons_zero, List.set_cons_succ])
              refine wpAnyM_one (i := 11) (by kernel_rfl) rfl (fun K hK => ?_)
              go_simp
              refine hcall.mono ?_
              rintro e w1 ⟨rfl, hb1, hs1, hc1⟩
              have hb1' : Below wr.heap.size wr w1 := ⟨hb1.os, hb1.tape, hb1.output, hb1.size, hb1.block⟩
              have hB1 := HB.out.more (Nat.le_refl _) hb1'
              have hS : w1.cell? ⟨w.heap.size, k, none⟩ = some (.slice (A1 k) m m) ∧ w1.cell? ⟨lb, lo + j, none⟩ = some (.slice (A' j) m (C' j)) := ⟨hB1.top k (by omega), (hb1.cell (by exact hlo)).trans k2⟩
              have f1 := hB1.fb k
              obtain ⟨A3, hB3⟩ := comb_step HF.out HG.out HB.out hlt hb1' hs1 hc1
              have HN : Hid (∃ A1, Build w (w1.setCell ⟨w.heap.size, k, none⟩ (.slice (some ⟨wr.heap.size, 0, none⟩) m m)) n (k + 1) A1 (fun _ => m) (fun _ => m) (combTo f g p k (j + 1))) := ⟨A3, hB3⟩
              have s1 := hS.1
              clear hB1 hB3 hc1 hb1 hb1' HB
              refine hK.out _ _ (fun _ => hS) ?_
              clear hK
              refine wpAnyM_take (i := 12) (v := ?_) rfl (by kernel_rfl) (by kernel_rfl) (by kernel_rfl) (by kernel_rfl) (by kernel_rfl) (fun _ _ _ h => h) hS (Or.inl ⟨by rfl, ?_⟩) ?_
              case refine_2 => (intro w hSw; (try dsimp only at hSw); go_simp; (try with_reducible rfl))
              (try simp only [Act.put, List.setIfInBounds_toArray, List.set_cons_zero, List.set_cons_succ])
              refine wpAnyM_take (i := 13) (v := ?_) rfl (by kernel_rfl) (by kernel_rfl) (by kernel_rfl) (by kernel_rfl) (by kernel_rfl) (fun _ _ _ h => h) hS (Or.inl ⟨by rfl, ?_⟩) ?_
              case refine_2 => (intro w hSw; (try dsimp only at hSw); go_simp; (try with_reducible rfl))
              (try simp only [Act.put, List.setIfInBounds_toArray, List.set_cons_zero, List.set_cons_succ])
              refine wpAnyM_takeP (i := 14) (v := ?_) rfl (by decide) (by kernel_rfl) (by kernel_rfl) (by kernel_rfl) (fun _ _ _ h => h) hS (Or.inl ⟨by rfl, ?_⟩) ?_
              case refine_2 => (intro w hSw; (try dsimp only at hSw); go_simp; (try with_reducible rfl))
              (try simp only [Act.put, List.setIfInBounds_toArray, List.set_cons_zero, List.set_cons_succ])
              refine wpAnyM_take (i := 15) (v := ?_) rfl (by kernel_rfl) (by kernel_rfl) (by kernel_rfl) (by kernel_rfl) (by kernel_rfl) (fun _ _ _ h => h) hS (Or.inl ⟨by rfl, ?_⟩) ?_
              case refine_2 => (intro w hSw; (try dsimp only at hSw); go_simp; (try with_reducible rfl))
              (try simp only [Act.put, List.setIfInBounds_toArray, List.set_cons_zero, List.set_cons_succ])
              refine wpAnyM_one (i := 16) (by kernel_rfl) rfl (fun K2 hK2 => ?_)
              go_simp
              refine hK2.out _ _ (fun h => by cases h) ?_
              refine wpAnyM_done (by kernel_rfl) ?_ _
              go_wp2_with fail
              go_roundw
              case rel => exact ⟨j + 1, by omega, by go_num, HN⟩
              case measure => simp [intOf]; omega
          · obtain rfl : j = p := by omega
            have HN : Hid (∃ A1, Build w wr n (k + 1) A1 (fun _ => m) (fun _ => m) (mulF f g j)) := ⟨A1, comb_end HF.out HG.out hB⟩
            clear hB HW
            go_wp2_with fail
            go_roundw
            case rel => exact ⟨k + 1, by omega, by go_num, HN⟩
            case measure => simp [intOf]; omega
    · obtain rfl : k = n := by omega
      go_wp2_with fail
      go_ret
      exact ⟨rfl, HW.out⟩

theorem combined_any (rb ro lb lo n p m c c' : Nat) (A A' : Nat → Option Addr) (C C' : Nat → Nat) (f g : Nat → Nat → Nat) (w : World) (hn : n ≤ 1000) (hp1 : 1 ≤ p) (hp : p ≤ 1000) (hm : m ≤ 140737488351232)
    (h : IsGrid w (some ⟨rb, ro, none⟩) n A (fun _ => p) C f) (h' : IsGrid w (some ⟨lb, lo, none⟩) p A' (fun _ => m) C' g) :
    Calls Try.prog 33 #[.slice (some ⟨rb, ro, none⟩) n c, .slice (some ⟨lb, lo, none⟩) p c'] w fun e w' => e = .returned (.slice (some ⟨w.heap.size, 0, none⟩) n n) ∧ ∃ A1 C1, Build w w' n n A1 (fun _ => m) C1 (mulF f g p) :=
  (combined_cap rb ro lb lo n p m c c' A A' C C' f g w hn hp1 hp hm h h').mono fun e w' ⟨q1, A1, q2⟩ => ⟨q1, A1, _, q2⟩

end Go.Proofs.Ytmlaloadeeohbaa

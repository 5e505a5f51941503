/-
  The statement's own list without one message.
  Conditions: there is one.
-/
import Derived.Test.YtmekbbddfmmbeaaFlModel
namespace Go.Proofs.Ytmekbbddfmmbeaa.Fl
open Go.RowKit By
set_option linter.unusedVariables false
set_option linter.unusedSimpArgs false
set_option maxRecDepth 100000

theorem out_any {w : World} {B q : Nat} {Rl Rp : Value} {LL : List LM} {PP : List (Int × Int)} (h : MdAt w B q Rl Rp LL PP) (i : Nat) (hi : i < LL.length) (hl : LL.length ≤ 50000) :
    Calls Try.prog 22 #[.pointer (some ⟨q, 0, none⟩), .int .i64 (i : Int)] w fun e w' => e = .returned (.tuple #[]) ∧
      Hid (∃ Rl', MdAt w' B q Rl' Rp (del LL i) PP ∧ Turns (gp q Rl Rp) w w' ∧ ∀ g, Rl'.ownBlock = some g → w.heap.size ≤ g) := by
  obtain ⟨g, c, hR, hc, hcm, hBg, hg⟩ := h.l.there (by intro e; rw [e] at hi; simp at hi)
  have hm : c ≤ 9223372036854775807 := by unfold maxLen at hcm; omega
  obtain ⟨o, ho, hA⟩ : ∃ o, (i + 1 < c → o = (i + 1) * 3) ∧ (if c = i + 1 then some (⟨g, 0, none⟩ : Addr) else some ⟨g, (i + 1) * 3, none⟩) = some ⟨g, o, none⟩ := by
    by_cases e : c = i + 1
    · exact ⟨0, fun h => by omega, by rw [if_pos e]⟩
    · exact ⟨(i + 1) * 3, fun _ => rfl, by rw [if_neg e]⟩
  have b0 : Below w.heap.size w w.drew := (Below.refl _ _).drew
  have hd := h.below b0
  have b1 : Below w.drew.heap.size w.drew (w.drew.alloc (.cells #[] 39)) := (Below.refl _ _).alloc (Nat.le_refl _) _
  have h1 := hd.below b1
  have hBw : B ≤ w.heap.size := Nat.le_trans h.bq (Nat.le_of_lt h.obj.lt)
  have e0 : Own (w.drew.alloc (.cells #[] 39)) B 39 3 encL (.slice (some ⟨w.drew.heap.size, 0, none⟩) 0 0) [] := Own.empty w.drew hBw _ _ _
  have own1 := h1.l
  rw [hR] at own1
  have cells : ∀ (v : World), Own v B 39 3 encL (.slice (some ⟨g, 0, none⟩) LL.length c) LL → ∀ j u, (flat encL LL)[j]? = some u → v.cell? ⟨g, j, none⟩ = some u := fun v hv j u hj => by
    have := World.ownsRow.cells hv (g := g) rfl j u hj
    rwa [add_at, Nat.zero_add] at this
  obtain ⟨x1, c1, w1, hap1, H1⟩ := e0.push lrow (by simp; omega) ⟨g, 0, none⟩ i c (LL.take i) (by rw [List.length_take]; omega) (fun j u hj => by
    rw [add_at, Nat.zero_add]
    rw [← flat_take lrow.len, List.getElem?_take] at hj
    split at hj
    · exact cells _ own1 j u hj
    · cases hj) (by simp; omega)
  obtain ⟨o1, T1, N1⟩ := H1.out
  have hg1 : ∀ k, (Value.slice (some ⟨w.drew.heap.size, 0, none⟩) 0 0).ownBlock = some k → k = w.heap.size := fun k hk => by simp [Value.ownBlock] at hk; exact hk.symm
  have own2 := own1.turns T1 (fun k hk e => by
    have := hg1 k e
    simp [Value.ownBlock] at hk
    omega)
  have hbq : q < w.heap.size := h.obj.lt
  have s1 : Turns (fun k => w.heap.size ≤ k) w w1 := ((Turns.of_below (F := fun k => w.heap.size ≤ k) b0).trans (Turns.of_below b1)).more T1 (fun k hk => .inl (Nat.le_of_eq (hg1 k hk).symm))
  obtain ⟨x2, c2, w2, hap2, H2⟩ := o1.push lrow (Nat.le_trans hBw s1.size) ⟨g, o, none⟩ (LL.length - (i + 1)) (c - (i + 1)) (LL.drop (i + 1)) (by rw [List.length_drop]) (fun j u hj => by
    have hlt := (List.getElem?_eq_some_iff.1 hj).1
    rw [flat_len lrow.len, List.length_drop] at hlt
    have hic : i + 1 < c := by omega
    rw [add_at, ho hic]
    rw [← flat_drop lrow.len, List.getElem?_drop] at hj
    exact cells _ own2 _ u hj) (by simp only [List.length_append, List.length_take, List.length_nil]; omega)
  obtain ⟨o2, T2, N2⟩ := H2.out
  have fresh1 : ∀ k, (Value.slice x1 (([] : List LM).length + i) c1).ownBlock = some k → w.heap.size ≤ k := fun k hk => by
    rcases N1 k hk with e | e
    · exact Nat.le_of_eq (hg1 k e).symm
    · rw [e]; simp
  have s2 : Turns (fun k => w.heap.size ≤ k) w w2 := s1.more T2 (fun k hk => .inl (fresh1 k hk))
  have el : ([] ++ LL.take i ++ LL.drop (i + 1)) = del LL i := by simp [del]
  have e3 : (([] : List LM) ++ LL.take i).length + (LL.length - (i + 1)) = LL.length - 1 := by simp; omega
  rw [el] at o2
  have Tl : Turns (fun k => Rl.ownBlock = some k) w w2 := ⟨s2.os, s2.tape, s2.output, s2.size, fun k hk _ => s2.block k hk (by omega)⟩
  obtain ⟨q1, q2, q3, q4⟩ := h.setL Tl o2
  have fresh2 : ∀ k, (Value.slice x2 ((([] : List LM) ++ LL.take i).length + (LL.length - (i + 1))) c2).ownBlock = some k → w.heap.size ≤ k := fun k hk => by
    rcases N2 k hk with e | e
    · exact fresh1 k e
    · rw [e]; exact s1.size
  have HN : Hid (∃ Rl', MdAt (w2.setCell ⟨q, 0, none⟩ (.slice x2 (LL.length - 1) c2)) B q Rl' Rp (del LL i) PP ∧ Turns (gp q Rl Rp) w (w2.setCell ⟨q, 0, none⟩ (.slice x2 (LL.length - 1) c2)) ∧ ∀ g, Rl'.ownBlock = some g → w.heap.size ≤ g) := by
    rw [e3] at q3 q4 fresh2
    exact ⟨_, q4, q3, fresh2⟩
  rw [e3] at hap2
  rw [hR] at q1
  simp only [List.length_nil, Nat.zero_add] at hap1
  have hap2' : (Builtin.append_ #[26, 26] 26 #[.slice x1 i c1, .slice (some ⟨g, o, none⟩) (LL.length - (i + 1)) (c - (i + 1))]).run Try.prog w1 = .ok (.slice x2 (LL.length - 1) c2) w2 := by
    rw [List.length_nil, Nat.zero_add] at hap2
    exact hap2
  have hap1' : (Builtin.append_ #[26, 26] 26 #[.slice (some ⟨w.heap.size, 0, none⟩) 0 0, .slice (some ⟨g, 0, none⟩) i c]).run Try.prog (w.drew.alloc (.cells #[] 39)) = .ok (.slice x1 i c1) w1 := hap1
  have s0 := hd.c0
  have sA := h1.c0
  have sB : w1.cell? ⟨q, 0, none⟩ = some (.slice (some ⟨g, 0, none⟩) LL.length c) := by
    rw [← hR]
    exact (World.cell?_of_block (a := ⟨q, 0, none⟩) (s1.block q hbq (by omega))).trans h.c0
  rw [hR] at s0 sA
  have hiz : (i : Int) < 9223372036854775807 := by omega
  have hwz : IntKind.i64.wrap ((i : Int) + 1) = (i : Int) + 1 := by
    unfold IntKind.wrap
    simp [IntKind.bits, IntKind.signed]
    omega
  have hwn : ((i : Int) + 1).toNat = i + 1 := by omega
  have hw0 : (0 : Int) ≤ (i : Int) + 1 := by omega
  have hic : i ≤ c := by omega
  have hin : (i : Int) + 1 ≤ (LL.length : Int) := by omega
  clear h hd b1 h1 e0 own1 cells H1 o1 T1 N1 hg1 own2 s1 H2 o2 T2 N2 fresh1 s2 el e3 Tl q3 q4 fresh2 hap1 hap2 hR ho hcm b0
  generalize LL.length = n at *
  go_enter Try.func22, Try.ntmps22
  go_wp2_with fail
  refine wp_region_last (fun v => v.cell? ⟨q, 0, none⟩ = some (.slice (some ⟨g, 0, none⟩) n c)) 19 (by kernel_rfl) s0 (fun hS => ?_)
  refine wpAnyL_take (i := 0) (v := ?_) rfl (by kernel_rfl) (by kernel_rfl) (by kernel_rfl) (by kernel_rfl) (fun _ _ _ h => h) hS (Or.inl ⟨by rfl, ?_⟩) ?_
  case refine_2 => (intro w hSw; (try dsimp only at hSw); go_simp; (try with_reducible rfl))
  (try simp only [Act.put, List.setIfInBounds_toArray, List.set_cons_zero, List.set_cons_succ])
  refine wpAnyL_take (i := 2) (v := ?_) rfl (by kernel_rfl) (by kernel_rfl) (by kernel_rfl) (by kernel_rfl) (fun _ _ _ h => h) hS (Or.inl ⟨by rfl, ?_⟩) ?_
  case refine_2 => (intro w hSw; (try dsimp only at hSw); go_simp; (try with_reducible rfl))
  (try simp only [Act.put, List.setIfInBounds_toArray, List.set_cons_zero, List.set_cons_succ])
  refine wpAnyL_take (i := 3) (v := ?_) rfl (by kernel_rfl) (by kernel_rfl) (by kernel_rfl) (by kernel_rfl) (fun _ _ _ h => h) hS (Or.inl ⟨by rfl, ?_⟩) ?_
  case refine_2 => (intro w hSw; (try dsimp only at hSw); go_simp; (try with_reducible rfl))
  (try simp only [Act.put, List.setIfInBounds_toArray, List.set_cons_zero, List.set_cons_succ])
  refine wpAnyL_take (i := 4) (v := ?_) rfl (by kernel_rfl) (by kernel_rfl) (by kernel_rfl) (by kernel_rfl) (fun _ _ _ h => h) hS (Or.inl ⟨by rfl, ?_⟩) ?_
  case refine_2 => (intro w hSw; (try dsimp only at hSw); go_simp; (try with_reducible rfl))
  (try simp only [Act.put, List.setIfInBounds_toArray, List.set_cons_zero, List.set_cons_succ])
  refine wpAnyL_take (i := 5) (v := ?_) rfl (by kernel_rfl) (by kernel_rfl) (by kernel_rfl) (by kernel_rfl) (fun _ _ _ h => h) hS (Or.inl ⟨by rfl, ?_⟩) ?_
  case refine_2 => (intro w hSw; (try dsimp only at hSw); go_simp; (try with_reducible rfl))
  (try simp only [Act.put, List.setIfInBounds_toArray, List.set_cons_zero, List.set_cons_succ])
  refine wpAnyL_take (i := 6) (v := ?_) rfl (by kernel_rfl) (by kernel_rfl) (by kernel_rfl) (by kernel_rfl) (fun _ _ _ h => h) hS (Or.inl ⟨by rfl, ?_⟩) ?_
  case refine_2 => (intro w hSw; (try dsimp only at hSw); go_simp; (try with_reducible rfl))
  (try simp only [Act.put, List.setIfInBounds_toArray, List.set_cons_zero, List.set_cons_succ])
  refine wpAnyL_take (i := 7) (v := ?_) rfl (by kernel_rfl) (by kernel_rfl) (by kernel_rfl) (by kernel_rfl) (fun _ _ _ h => h) hS (Or.inl ⟨by rfl, ?_⟩) ?_
  case refine_2 => (intro w hSw; (try dsimp only at hSw); go_simp; (try with_reducible rfl))
  (try simp only [Act.put, List.setIfInBounds_toArray, List.set_cons_zero, List.set_cons_succ])
  refine wpAnyL_take (i := 9) (v := ?_) rfl (by kernel_rfl) (by kernel_rfl) (by kernel_rfl) (by kernel_rfl) (fun _ _ _ h => h) hS (Or.inl ⟨by rfl, ?_⟩) ?_
  case refine_2 => (intro w hSw; (try dsimp only at hSw); go_simp; (try with_reducible rfl))
  (try simp only [Act.put, List.setIfInBounds_toArray, List.set_cons_zero, List.set_cons_succ])
  refine wpAnyL_take (i := 10) (v := ?_) rfl (by kernel_rfl) (by kernel_rfl) (by kernel_rfl) (by kernel_rfl) (fun _ _ _ h => h) hS (Or.inl ⟨by rfl, ?_⟩) ?_
  case refine_2 => (intro w hSw; (try dsimp only at hSw); go_simp; (try with_reducible rfl))
  (try simp only [Act.put, List.setIfInBounds_toArray, List.set_cons_zero, List.set_cons_succ])
  refine wpAnyL_take (i := 11) (v := ?_) rfl (by kernel_rfl) (by kernel_rfl) (by kernel_rfl) (by kernel_rfl) (fun _ _ _ h => h) hS (Or.inl ⟨by rfl, ?_⟩) ?_
  case refine_2 => (intro w hSw; (try dsimp only at hSw); go_simp; (try with_reducible rfl))
  (try simp only [Act.put, List.setIfInBounds_toArray, List.set_cons_zero, List.set_cons_succ])
  refine wpAnyL_take (i := 12) (v := ?_) rfl (by kernel_rfl) (by kernel_rfl) (by kernel_rfl) (by kernel_rfl) (fun _ _ _ h => h) hS (Or.inl ⟨by rfl, ?_⟩) ?_
  case refine_2 => (intro w hSw; (try dsimp only at hSw); go_simp; (try with_reducible rfl))
  (try simp only [Act.put, List.setIfInBounds_toArray, List.set_cons_zero, List.set_cons_succ])
  refine wpAnyL_take (i := 13) (v := ?_) rfl (by kernel_rfl) (by kernel_rfl) (by kernel_rfl) (by kernel_rfl) (fun _ _ _ h => h) hS (Or.inl ⟨by rfl, ?_⟩) ?_
  case refine_2 => (intro w hSw; (try dsimp only at hSw); go_simp; (try with_reducible rfl))
  (try simp only [Act.put, List.setIfInBounds_toArray, List.set_cons_zero, List.set_cons_succ])
  refine wpAnyL_take (i := 14) (v := ?_) rfl (by kernel_rfl) (by kernel_rfl) (by kernel_rfl) (by kernel_rfl) (fun _ _ _ h => h) hS (Or.inl ⟨by rfl, ?_⟩) ?_
  case refine_2 => (intro w hSw; (try dsimp only at hSw); go_simp; (try with_reducible rfl))
  (try simp only [Act.put, List.setIfInBounds_toArray, List.set_cons_zero, List.set_cons_succ])
  refine wpAnyL_take (i := 15) (v := ?_) rfl (by kernel_rfl) (by kernel_rfl) (by kernel_rfl) (by kernel_rfl) (fun _ _ _ h => h) hS (Or.inl ⟨by rfl, ?_⟩) ?_
  case refine_2 => (intro w hSw; (try dsimp only at hSw); go_simp; (try with_reducible rfl))
  (try simp only [Act.put, List.setIfInBounds_toArray, List.set_cons_zero, List.set_cons_succ])
  refine wpAnyL_one (i := 1) (by kernel_rfl) rfl (fun K hK => ?_)
  go_simp
  refine hK.out _ _ (fun _ => sA) ?_
  clear hK K
  refine wpAnyL_one (i := 8) (by kernel_rfl) rfl (fun K hK => ?_)
  refine ready_append rfl _ _ 26 rfl _ _ rfl rfl hap1' ?_
  (try simp only [Act.put, List.getElem_toArray, List.getElem_cons_succ, List.getElem_cons_zero, List.setIfInBounds_toArray, List.set_cons_zero, List.set_cons_succ])
  refine hK.out _ _ (fun _ => sB) ?_
  clear hK K
  refine wpAnyL_one (i := 16) (by kernel_rfl) rfl (fun K hK => ?_)
  refine ready_append rfl _ _ 26 rfl _ _ rfl rfl hap2' ?_
  (try simp only [Act.put, List.getElem_toArray, List.getElem_cons_succ, List.getElem_cons_zero, List.setIfInBounds_toArray, List.set_cons_zero, List.set_cons_succ])
  refine hK.out _ _ (fun _ => q1) ?_
  clear hK K
  refine wpAnyL_one (i := 17) (by kernel_rfl) rfl (fun K hK => ?_)
  go_simp
  refine hK.out _ _ (fun _ => q1) ?_
  clear hK K
  refine wpAnyL_one (i := 18) (by kernel_rfl) rfl (fun K hK => ?_)
  go_simp
  refine hK.out _ _ (fun _ => q1) ?_
  clear hK K
  refine wpAnyL_one (i := 19) (by kernel_rfl) rfl (fun K hK => ?_)
  go_simp
  refine hK.out _ _ (fun h => absurd rfl h) ?_
  clear hK K
  refine wpAnyL_done (by kernel_rfl) ?_ _
  go_wp2_with fail
  refine bodyPost_end (results_none rfl _ _ _) rfl ?_
  exact ⟨rfl, HN.out⟩

end Go.Proofs.Ytmekbbddfmmbeaa.Fl

/-
  What the inner sector of a part of package journal does: a contract over plain numbers ('JoPlain').
  Conditions: the part is one that partsOf makes.
-/
import Derived.Test.YthfpljfndnjcnaaJoOpen
import Derived.Laws.Bits128
namespace Go.Proofs.Ythfpljfndnjcnaa
open Go.RowKit By Dk Su Jo
set_option linter.unusedVariables false
set_option linter.unusedSimpArgs false

def preV (h : Nat → Nat) (t : Nat) : Nat → Value := fun i => .int .u8 ((if i < t then h i else 0 : Nat) : Int)

structure SSt (w wr : World) (g r k M : Nat) (L : Bool) (x : Option Addr) (c : Nat) (h : Nat → Nat) (t : Nat) : Prop where
  bel : Below w.heap.size w wr
  five : Five wr w.heap.size (.int .i64 (g : Int)) (.int .u32 (r : Int)) (.int .i64 (k : Int)) (.bool L) (.slice x M c)
  blk : Blk wr (w.heap.size + 1) 5 60 (preV h t)

section
variable {w wr : World} {g r k M c t : Nat} {L : Bool} {x : Option Addr} {h : Nat → Nat}

theorem SSt.set (s : SSt w wr g r k M L x c h t) (ht : t < 60) : SSt w (wr.setCell ⟨w.heap.size + 1, t, none⟩ (.int .u8 (h t : Int))) g r k M L x c h (t + 1) := by
  refine ⟨s.bel.setCell (p := ⟨w.heap.size + 1, t, none⟩) (Nat.le_succ _) _, s.five.other (by omega), (s.blk.set t _).congr fun i hi => ?_⟩
  unfold upd preV
  by_cases e : i = t
  · subst e; simp
  · rw [if_neg e]
    by_cases e2 : i < t
    · rw [if_pos e2, if_pos (by omega)]
    · rw [if_neg e2, if_neg (by omega)]

theorem SSt.set2 (s : SSt w wr g r k M L x c h t) (ht : t < 60) (u : Value) : SSt w ((wr.setCell ⟨w.heap.size + 1, t, none⟩ u).setCell ⟨w.heap.size + 1, t, none⟩ (.int .u8 (h t : Int))) g r k M L x c h (t + 1) := by
  refine ⟨(s.bel.setCell (p := ⟨w.heap.size + 1, t, none⟩) (Nat.le_succ _) _).setCell (p := ⟨w.heap.size + 1, t, none⟩) (Nat.le_succ _) _, (s.five.other (by omega)).other (by omega), ((s.blk.set t _).set t _).congr fun i hi => ?_⟩
  unfold upd preV
  by_cases e : i = t
  · subst e; simp
  · rw [if_neg e, if_neg e]
    by_cases e2 : i < t
    · rw [if_pos e2, if_pos (by omega)]
    · rw [if_neg e2, if_neg (by omega)]

theorem SSt.cell (s : SSt w wr g r k M L x c h t) {i : Nat} (hi : i < 60) : wr.cell? ⟨w.heap.size + 1, i, none⟩ = some (preV h t i) := s.blk.cell hi

end

theorem sst_copy {w W : World} {g r k M c : Nat} {L : Bool} {x : Option Addr} {h : Nat → Nat} (s : SSt w W g r k M L x c h 9) (hM : M ≤ 51) (he : RowAt w x M (fun i => h (9 + i))) (hz : ∀ i, 9 + M ≤ i → i < 60 → h i = 0) :
    ∃ w5, (Builtin.copy_ #[31, 31] 3 #[.slice (some ⟨w.heap.size + 1, 9, none⟩) 51 51, .slice x M c]).run Try.prog W.drew = .ok (.int .i64 (M : Int)) w5 ∧ w5.cell? ⟨w.heap.size, 4, none⟩ = some (.slice x M c) ∧ Hid (RowAt w5 (some ⟨w.heap.size + 1, 0, none⟩) 60 h ∧ Below w.heap.size w w5) := by
  have he' := he.below s.bel
  obtain ⟨w5, h1, h2, h3⟩ := copy_bytes W.drew W.drew (w.heap.size + 1) (w.heap.size + 1) 9 51 51 M c x (rowOf (preV h 9) 60) (bytesOf (fun i => h (9 + i)) M) s.blk (by simp [bytesOf]) hM (fun h0 => by
      rcases he' with e | ⟨b, o, e1, e2, e3⟩
      · omega
      · refine ⟨_, e1, fun j v hj => ?_⟩
        have hjM : j < M := by
          have := (List.getElem?_eq_some_iff.1 hj).1
          simpa [bytesOf] using this
        rw [bytesOf_get _ _ _ hjM] at hj
        injection hj with hj
        subst hj
        rw [add_at]
        exact e3 j hjM) (by rw [rowOf_len]; omega) (fun v hv => by
      simp [bytesOf] at hv
      obtain ⟨j, _, rfl⟩ := hv
      rfl) (Below.refl _ _) (Nat.le_refl _)
  refine ⟨w5, h1, (h3.cell (p := ⟨w.heap.size, 4, none⟩) (Nat.lt_succ_self _)).trans s.five.c4, .inr ⟨w.heap.size + 1, 0, rfl, (Array.getElem?_eq_some_iff.1 h2).1, fun i hi => ?_⟩, s.bel.drew.trans (h3.mono (Nat.le_succ _))⟩
  rw [Nat.zero_add, cell_of_heap h2]
  have hbl : (bytesOf (fun i => h (9 + i)) M).length = M := by simp [bytesOf]
  unfold splice
  rw [hbl]
  by_cases e1 : i < 9
  · rw [List.getElem?_append_left (by simp [rowOf_len]; omega), List.getElem?_take_of_lt e1, rowOf_get _ _ _ hi]
    unfold preV
    rw [if_pos e1]
  · by_cases e2 : i < 9 + M
    · rw [List.getElem?_append_right (by simp [rowOf_len]; omega), List.getElem?_append_left (by simp [rowOf_len, hbl]; omega)]
      have e3 : ((rowOf (preV h 9) 60).take 9).length = 9 := by simp [rowOf_len]
      rw [e3, bytesOf_get _ _ _ (by omega)]
      congr 4
      omega
    · have e3 : ((rowOf (preV h 9) 60).take 9).length = 9 := by simp [rowOf_len]
      rw [List.getElem?_append_right (by rw [e3]; omega), e3, List.getElem?_append_right (by rw [hbl]; omega), hbl, List.getElem?_drop, show 9 + M + (i - 9 - M) = i by omega, rowOf_get _ _ _ hi]
      unfold preV
      rw [if_neg e1, hz i (by omega) hi]

set_option maxHeartbeats 1500000 in
set_option maxRecDepth 100000 in
theorem sector_yes (g r k M c : Nat) (L : Bool) (x : Option Addr) (l : Nat) (b : Nat → Nat) (w : World) (hb : ∀ i, b i < 256) (hg : g < 65536) (hr : r < 4294967296) (hk : k < 256) (hM : M = plen l k) (hL : L = plast l k) (he : RowAt w x M (fun i => b (51 * k + i))) (hnil : x = none → M = 0 ∧ c = 0) :
    Calls Try.prog 41 #[.agg #[.int .i64 (g : Int), .int .u32 (r : Int), .int .i64 (k : Int), .bool L, .slice x M c]] w fun e w' => ∃ y, e = .returned (.slice (some ⟨y, 0, none⟩) 64 64) ∧ Below w.heap.size w w' ∧ RowAt w' (some ⟨y, 0, none⟩) 64 (mkS g r l b k) := by
  obtain ⟨h, hh⟩ : ∃ h, h = hd g r l b k := ⟨_, rfl⟩
  have h0 : h 0 = 74 := by rw [hh]; rfl
  have h1 : (h 1 : Int) = (g : Int) % 256 := by rw [hh]; show ((g % 256 : Nat) : Int) = _; omega
  have h2 : (h 2 : Int) = (g : Int) / 256 := by rw [hh]; show ((g / 256 % 256 : Nat) : Int) = _; omega
  have h3 : (h 3 : Int) = (r : Int) % 256 := by rw [hh]; show ((r % 256 : Nat) : Int) = _; omega
  have h4 : (h 4 : Int) = (r : Int) / 256 % 256 := by rw [hh]; show ((r / 256 % 256 : Nat) : Int) = _; omega
  have h5 : (h 5 : Int) = (r : Int) / 65536 % 256 := by rw [hh]; show ((r / 65536 % 256 : Nat) : Int) = _; omega
  have h6 : (h 6 : Int) = (r : Int) / 16777216 := by rw [hh]; show ((r / 16777216 % 256 : Nat) : Int) = _; omega
  have h7 : (h 7 : Int) = (k : Int) := by rw [hh]; show ((k % 256 : Nat) : Int) = _; omega
  have es : (w.alloc (.cells #[.int .i64 (g : Int), .int .u32 (r : Int), .int .i64 (k : Int), .bool L, .slice x M c] 79)).heap.size = w.heap.size + 1 := by simp
  obtain ⟨w1, hmk, hB1, hb1, hs1⟩ := make_blk (w.alloc (.cells #[.int .i64 (g : Int), .int .u32 (r : Int), .int .i64 (k : Int), .bool L, .slice x M c] 79)) 60 (by omega)
  rw [es] at hmk hB1 hb1
  have hmk : (Instr.makeSlice 31 (.int .i64 60) (.int .i64 60)).run Try.prog (w.alloc (.cells #[.int .i64 (g : Int), .int .u32 (r : Int), .int .i64 (k : Int), .bool L, .slice x M c] 79)) = .ok (.slice (some ⟨w.heap.size + 1, 0, none⟩) 60 60) w1 := hmk
  have HSz : Hid (SSt w w1 g r k M L x c h 0) := ⟨((Below.refl _ _).alloc (Nat.le_refl _) _).trans (hb1.mono (Nat.le_succ _)), (Five.new w _ _ _ _ _ _).below hb1 (Nat.lt_succ_self _), hB1.congr fun i hi => by simp [preV]⟩
  have z0 := hB1.cell (k := 0) (by omega)
  have zf := hB1.frozen 0
  have HS0 : Hid (SSt w (w1.setCell ⟨w.heap.size + 1, 0, none⟩ (.int .u8 74)) g r k M L x c h 1) := by
    have := HSz.out.set (by omega)
    rw [h0] at this
    exact this
  clear HSz hB1 hb1 es hs1
  have HM := hid hM
  have HL := hid hL
  have HH := hid hh
  have H0 := hid h0
  have H12 := hid (And.intro h1 h2)
  have H36 := hid (And.intro h3 (And.intro h4 (And.intro h5 (And.intro h6 h7))))
  have HE2 : Hid (RowAt w x M (fun i => h (9 + i))) := he.congr fun i hi => by
    rw [hh]
    unfold hd
    have e1 : ∀ q, q < 9 → ¬ (9 + i = q) := fun q hq => by omega
    simp only [e1 0 (by omega), e1 1 (by omega), e1 2 (by omega), e1 3 (by omega), e1 4 (by omega), e1 5 (by omega), e1 6 (by omega), e1 7 (by omega), e1 8 (by omega), if_false]
    rw [if_pos (by omega), Nat.add_sub_cancel_left]
  have HZ : Hid (∀ i, 9 + M ≤ i → i < 60 → h i = 0) := fun i h1 h2 => by
    rw [hh]
    unfold hd
    have e1 : ∀ q, q < 9 → ¬ (i = q) := fun q hq => by omega
    simp only [e1 0 (by omega), e1 1 (by omega), e1 2 (by omega), e1 3 (by omega), e1 4 (by omega), e1 5 (by omega), e1 6 (by omega), e1 7 (by omega), e1 8 (by omega), if_false]
    rw [if_neg (by omega)]
  have HLT : Hid (∀ i, h i < 256) := fun i => by rw [hh]; exact hd_lt hb i
  clear hM hL hh h0 h1 h2 h3 h4 h5 h6 h7 he
  go_enter Try.func41, Try.ntmps41
  go_wp2_with fail
  go_loopw [9] (fun i wr => ∃ t : Nat, t ≤ 2 ∧ i = .int .i64 t ∧ Hid (SSt w wr g r k M L x c h (1 + t))) (fun i _ => 2 - (intOf i).toNat)
  case atStart => exact ⟨0, by omega, rfl, HS0⟩
  case round =>
    clear HS0
    obtain ⟨t, ht, rfl, HR⟩ := hrel
    obtain ⟨c0, c1, c2, c3, c4, f0, f1, f2, f3, f4⟩ := HR.out.five
    by_cases hlt : t < 2
    · obtain rfl | rfl : t = 0 ∨ t = 1 := by omega
      · have q1 := HR.out.cell (i := 1) (by omega)
        have qf := HR.out.blk.frozen 1
        have HN := HR.out.set (by omega)
        rw [show 1 + 0 = 1 from rfl, H12.out.1] at HN
        have HN := hid HN
        go_wp2_with fail
        exact ⟨⟨1, by omega, rfl, HN.out⟩, by simp [intOf]⟩
      · have q1 := HR.out.cell (i := 2) (by omega)
        have qf := HR.out.blk.frozen 2
        have HN := HR.out.set (by omega)
        rw [show 1 + 1 = 2 from rfl, H12.out.2] at HN
        have HN := hid HN
        go_wp2_with fail
        exact ⟨⟨2, by omega, rfl, HN.out⟩, by simp [intOf]⟩
    · obtain rfl : t = 2 := by omega
      obtain ⟨w2, hw2⟩ : ∃ w2, w2 = wr := ⟨_, rfl⟩
      subst hw2
      have HR0 : Hid (SSt w w2 g r k M L x c h 3) := HR.out
      clear HR c0 c1 c2 c3 c4 f0 f1 f2 f3 f4 hmk z0 zf
      go_wp2_with fail
      go_loopw [23] (fun i wr => ∃ t : Nat, t ≤ 4 ∧ i = .int .i64 t ∧ Hid (SSt w wr g r k M L x c h (3 + t))) (fun i _ => 4 - (intOf i).toNat)
      case atStart => exact ⟨0, by omega, rfl, HR0⟩
      case round =>
        clear HR0
        obtain ⟨t, ht, rfl, HR⟩ := hrel
        obtain ⟨c0, c1, c2, c3, c4, f0, f1, f2, f3, f4⟩ := HR.out.five
        by_cases hlt : t < 4
        · obtain rfl | rfl | rfl | rfl : t = 0 ∨ t = 1 ∨ t = 2 ∨ t = 3 := by omega
          · have q1 := HR.out.cell (i := 3) (by omega)
            have qf := HR.out.blk.frozen 3
            have HN := HR.out.set (by omega)
            rw [show 3 + 0 = 3 from rfl, H36.out.1] at HN
            have HN := hid HN
            go_wp2_with fail
            exact ⟨⟨1, by omega, rfl, HN.out⟩, by simp [intOf]⟩
          · have q1 := HR.out.cell (i := 4) (by omega)
            have qf := HR.out.blk.frozen 4
            have HN := HR.out.set (by omega)
            rw [show 3 + 1 = 4 from rfl, H36.out.2.1] at HN
            have HN := hid HN
            go_wp2_with fail
            exact ⟨⟨2, by omega, rfl, HN.out⟩, by simp [intOf]⟩
          · have q1 := HR.out.cell (i := 5) (by omega)
            have qf := HR.out.blk.frozen 5
            have HN := HR.out.set (by omega)
            rw [show 3 + 2 = 5 from rfl, H36.out.2.2.1] at HN
            have HN := hid HN
            go_wp2_with fail
            exact ⟨⟨3, by omega, rfl, HN.out⟩, by simp [intOf]⟩
          · have q1 := HR.out.cell (i := 6) (by omega)
            have qf := HR.out.blk.frozen 6
            have HN := HR.out.set (by omega)
            rw [show 3 + 3 = 6 from rfl, H36.out.2.2.2.1] at HN
            have HN := hid HN
            go_wp2_with fail
            exact ⟨⟨4, by omega, rfl, HN.out⟩, by simp [intOf]⟩
        · obtain rfl : t = 4 := by omega
          obtain ⟨w3, hw3⟩ : ∃ w3, w3 = wr := ⟨_, rfl⟩
          subst hw3
          have HS7 : Hid (SSt w w3 g r k M L x c h 7) := HR.out
          have q7 := HR.out.cell (i := 7) (by omega)
          have q8 := HR.out.cell (i := 8) (by omega)
          have g7 := HR.out.blk.frozen 7
          have g8 := HR.out.blk.frozen 8
          have hM5 : M ≤ 51 := by rw [HM.out]; exact plen_le l k
          have hor : bits .or .u8 (M : Int) 128 = (M : Int) + 128 := u8_or128_right _ (by omega) (by omega)
          have S8 := HS7.out.set (by omega)
          rw [H36.out.2.2.2.2] at S8
          have HS8 := hid S8
          clear HR S8
          cases hLc : L with
          | true =>
            have e8 : (h 8 : Int) = (M : Int) + 128 := by
              rw [HH.out]
              show ((plen l k + (if plast l k = true then 128 else 0) : Nat) : Int) = _
              rw [← HL.out, ← HM.out, hLc]
              simp
            subst hLc
            have HS9 : Hid (SSt w (((w3.setCell ⟨w.heap.size + 1, 7, none⟩ (.int .u8 (k : Int))).setCell ⟨w.heap.size + 1, 8, none⟩ (.int .u8 (M : Int))).setCell ⟨w.heap.size + 1, 8, none⟩ (.int .u8 ((M : Int) + 128))) g r k M true x c h 9) := by
              have := HS8.out.set2 (by omega) (.int .u8 (M : Int))
              rw [e8] at this
              exact this
            clear e8 HS8
            go_wp2_with fail
            generalize (((w3.setCell ⟨w.heap.size + 1, 7, none⟩ (.int .u8 (k : Int))).setCell ⟨w.heap.size + 1, 8, none⟩ (.int .u8 (M : Int))).setCell ⟨w.heap.size + 1, 8, none⟩ (.int .u8 ((M : Int) + 128))) = W5 at *
            obtain ⟨w5, hcp, k5, HC⟩ := sst_copy HS9.out hM5 HE2.out HZ.out
            have k4 := HS9.out.five.c4
            refine wp_region_held_drew (S := fun v => v.cell? ⟨w.heap.size, 4, none⟩ = some (.slice x M c)) (by kernel_rfl) k4 (fun hHeld => ?_)
            refine wpAnyH_take (i := 0) (v := ?_) rfl (by kernel_rfl) (by kernel_rfl) (by kernel_rfl) (fun _ _ _ h => h) (Or.inl ⟨by rfl, ?_⟩) (by assumption) ?_
            case refine_2 => (intro w hSw; (try dsimp only at hSw); go_simp; (try with_reducible rfl))
            (try simp only [Act.put, List.getElem_toArray, List.getElem_cons_succ, List.getElem_cons_zero, List.setIfInBounds_toArray, List.set_cons_zero, List.set_cons_succ])
            refine wpAnyH_take (i := 1) (v := ?_) rfl (by kernel_rfl) (by kernel_rfl) (by kernel_rfl) (fun _ _ _ h => h) (Or.inl ⟨by rfl, ?_⟩) (by assumption) ?_
            case refine_2 => (intro w hSw; (try dsimp only at hSw); go_simp; (try with_reducible rfl))
            (try simp only [Act.put, List.getElem_toArray, List.getElem_cons_succ, List.getElem_cons_zero, List.setIfInBounds_toArray, List.set_cons_zero, List.set_cons_succ])
            refine wpAnyH_take (i := 2) (v := ?_) rfl (by kernel_rfl) (by kernel_rfl) (by kernel_rfl) (fun _ _ _ h => h) (Or.inl ⟨by rfl, ?_⟩) (by assumption) ?_
            case refine_2 => (intro w hSw; (try dsimp only at hSw); go_simp; (try with_reducible rfl))
            (try simp only [Act.put, List.getElem_toArray, List.getElem_cons_succ, List.getElem_cons_zero, List.setIfInBounds_toArray, List.set_cons_zero, List.set_cons_succ])
            refine wpAnyH_take (i := 3) (v := ?_) rfl (by kernel_rfl) (by kernel_rfl) (by kernel_rfl) (fun _ _ _ h => h) (Or.inl ⟨by rfl, ?_⟩) (by assumption) ?_
            case refine_2 => (intro w hSw; (try dsimp only at hSw); go_simp; (try with_reducible rfl))
            (try simp only [Act.put, List.getElem_toArray, List.getElem_cons_succ, List.getElem_cons_zero, List.setIfInBounds_toArray, List.set_cons_zero, List.set_cons_succ])
            refine wpAnyH_ready (rs := [4]) (by kernel_rfl) (by simp) ?_
            refine AllReadyH.cons rfl (fun K hK => ?_) AllReadyH.nil
            go_simp
            refine hK.out _ _ k5 (fun hHeld => ?_)
            clear hK K
            refine wpAnyH_done (by kernel_rfl) ?_ _
            have hsum := append_any 60 60 (some ⟨w.heap.size + 1, 0, none⟩) h w5 HLT.out (by omega) HC.out.1
            clear hcp
            go_wp2_with (first
              | (go_at_call 48; refine hsum.mono ?_; rintro e w6 ⟨y, rfl, hb6, hr6⟩; clear hsum))
            go_ret
            exact ⟨y, rfl, HC.out.2.trans (hb6.mono HC.out.2.size), hr6.congr fun i hi => by
              rw [HH.out]
              unfold mkS
              by_cases e : i < 60
              · rw [if_pos e, if_pos e]
              · rw [if_neg e, if_neg e, if_pos (by omega)]⟩
          | false =>
            have e8 : (h 8 : Int) = (M : Int) := by
              rw [HH.out]
              show ((plen l k + (if plast l k = true then 128 else 0) : Nat) : Int) = _
              rw [← HL.out, ← HM.out, hLc]
              simp
            subst hLc
            have HS9 : Hid (SSt w ((w3.setCell ⟨w.heap.size + 1, 7, none⟩ (.int .u8 (k : Int))).setCell ⟨w.heap.size + 1, 8, none⟩ (.int .u8 (M : Int))) g r k M false x c h 9) := by
              have := HS8.out.set (by omega)
              rw [e8] at this
              exact this
            clear e8 HS8
            go_wp2_with fail
            generalize ((w3.setCell ⟨w.heap.size + 1, 7, none⟩ (.int .u8 (k : Int))).setCell ⟨w.heap.size + 1, 8, none⟩ (.int .u8 (M : Int))) = W5 at *
            obtain ⟨w5, hcp, k5, HC⟩ := sst_copy HS9.out hM5 HE2.out HZ.out
            have k4 := HS9.out.five.c4
            refine wp_region_held_drew (S := fun v => v.cell? ⟨w.heap.size, 4, none⟩ = some (.slice x M c)) (by kernel_rfl) k4 (fun hHeld => ?_)
            refine wpAnyH_take (i := 0) (v := ?_) rfl (by kernel_rfl) (by kernel_rfl) (by kernel_rfl) (fun _ _ _ h => h) (Or.inl ⟨by rfl, ?_⟩) (by assumption) ?_
            case refine_2 => (intro w hSw; (try dsimp only at hSw); go_simp; (try with_reducible rfl))
            (try simp only [Act.put, List.getElem_toArray, List.getElem_cons_succ, List.getElem_cons_zero, List.setIfInBounds_toArray, List.set_cons_zero, List.set_cons_succ])
            refine wpAnyH_take (i := 1) (v := ?_) rfl (by kernel_rfl) (by kernel_rfl) (by kernel_rfl) (fun _ _ _ h => h) (Or.inl ⟨by rfl, ?_⟩) (by assumption) ?_
            case refine_2 => (intro w hSw; (try dsimp only at hSw); go_simp; (try with_reducible rfl))
            (try simp only [Act.put, List.getElem_toArray, List.getElem_cons_succ, List.getElem_cons_zero, List.setIfInBounds_toArray, List.set_cons_zero, List.set_cons_succ])
            refine wpAnyH_take (i := 2) (v := ?_) rfl (by kernel_rfl) (by kernel_rfl) (by kernel_rfl) (fun _ _ _ h => h) (Or.inl ⟨by rfl, ?_⟩) (by assumption) ?_
            case refine_2 => (intro w hSw; (try dsimp only at hSw); go_simp; (try with_reducible rfl))
            (try simp only [Act.put, List.getElem_toArray, List.getElem_cons_succ, List.getElem_cons_zero, List.setIfInBounds_toArray, List.set_cons_zero, List.set_cons_succ])
            refine wpAnyH_take (i := 3) (v := ?_) rfl (by kernel_rfl) (by kernel_rfl) (by kernel_rfl) (fun _ _ _ h => h) (Or.inl ⟨by rfl, ?_⟩) (by assumption) ?_
            case refine_2 => (intro w hSw; (try dsimp only at hSw); go_simp; (try with_reducible rfl))
            (try simp only [Act.put, List.getElem_toArray, List.getElem_cons_succ, List.getElem_cons_zero, List.setIfInBounds_toArray, List.set_cons_zero, List.set_cons_succ])
            refine wpAnyH_ready (rs := [4]) (by kernel_rfl) (by simp) ?_
            refine AllReadyH.cons rfl (fun K hK => ?_) AllReadyH.nil
            go_simp
            refine hK.out _ _ k5 (fun hHeld => ?_)
            clear hK K
            refine wpAnyH_done (by kernel_rfl) ?_ _
            have hsum := append_any 60 60 (some ⟨w.heap.size + 1, 0, none⟩) h w5 HLT.out (by omega) HC.out.1
            clear hcp
            go_wp2_with (first
              | (go_at_call 48; refine hsum.mono ?_; rintro e w6 ⟨y, rfl, hb6, hr6⟩; clear hsum))
            go_ret
            exact ⟨y, rfl, HC.out.2.trans (hb6.mono HC.out.2.size), hr6.congr fun i hi => by
              rw [HH.out]
              unfold mkS
              by_cases e : i < 60
              · rw [if_pos e, if_pos e]
              · rw [if_neg e, if_neg e, if_pos (by omega)]⟩

end Go.Proofs.Ythfpljfndnjcnaa

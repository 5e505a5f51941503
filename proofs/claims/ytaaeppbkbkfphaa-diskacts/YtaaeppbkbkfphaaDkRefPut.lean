/-
  What the document's DoWrite and Read do: contracts over plain numbers ('DkPlain').
  Conditions: the disk is one that New gave ('RDk').
-/
import Derived.Test.YtaaeppbkbkfphaaDkRefNew
namespace Go.Proofs.Ytaaeppbkbkfphaa
open Go.RowKit By Dk
set_option linter.unusedVariables false
set_option linter.unusedSimpArgs false

theorem rwrite_no (r n l c cs : Nat) (xs : Option Addr) (z : Int) (x : Option Addr) (w : World) (h : w.cell? ⟨r, 0, none⟩ = some (.slice xs n cs)) (hno : ¬ (0 ≤ z ∧ z < n ∧ l = 64)) :
    Calls Try.prog 21 #[.pointer (some ⟨r, 0, none⟩), .int .i64 z, .slice x l c] w fun e w' => e = .returned (.int .i64 1) ∧ w' = w := by
  have hcs : z < 0 ∨ (0 ≤ z ∧ (n : Int) ≤ z) ∨ (0 ≤ z ∧ z < (n : Int) ∧ ((l : Int) != 64) = true) := by
    by_cases e0 : z < 0
    · exact .inl e0
    · by_cases e1 : (n : Int) ≤ z
      · exact .inr (.inl ⟨by omega, e1⟩)
      · refine .inr (.inr ⟨by omega, by omega, ?_⟩)
        have hne : ¬ (l : Int) = 64 := fun e => hno ⟨by omega, by omega, by omega⟩
        simpa using hne
  clear hno
  rcases hcs with hcs | ⟨hcs, hcs2⟩ | ⟨hcs, hcs2, hcs3⟩
  all_goals
    go_enter Try.func21, Try.ntmps21
    go_wp2_with fail
    go_ret
    exact ⟨rfl, rfl⟩

theorem wrP_even (A : Nat → Nat) (D : Nat → Nat → Nat) (i : Nat) : wrP A D (i * 2) = .int .i64 (A i : Int) := by
  unfold wrP
  rw [if_pos (by omega), show i * 2 / 2 = i by omega]

theorem wrP_odd (A : Nat → Nat) (D : Nat → Nat → Nat) (i : Nat) : wrP A D (i * 2 + 1) = datS (D i) := by
  unfold wrP
  rw [if_neg (by omega), show (i * 2 + 1) / 2 = i by omega]

theorem wrP_ext (A : Nat → Nat) (D : Nat → Nat → Nat) (m a : Nat) (g : Nat → Nat) : rowOf (wrP A D) (m * 2) ++ [.int .i64 (a : Int), datS g] = rowOf (wrP (ext A m a) (ext D m g)) ((m + 1) * 2) := by
  rw [show (m + 1) * 2 = m * 2 + 1 + 1 by omega, rowOf_succ, rowOf_succ, wrP_even, wrP_odd, ext_new, ext_new, List.append_assoc]
  congr 1
  refine rowOf_congr fun k hk => ?_
  unfold wrP
  rw [ext_old A m a (by omega), ext_old D m g (by omega)]

theorem push_wri (w : World) (P : Value) (m a : Nat) (T : ByteArray) (xs : List Value) (hown : w.ownsRow 0 66 2 P m xs) (hm : m ≤ 4096) :
    ∃ x' c' w', (Builtin.append_ #[38, 38] 38 #[P, .slice (some ⟨w.heap.size, 0, none⟩) 1 1]).run Try.prog (w.alloc (.cells #[.int .i64 (a : Int), .string T] 66)) = .ok (.slice x' (m + 1) c') w' ∧
      w'.ownsRow 0 66 2 (.slice x' (m + 1) c') (m + 1) (xs ++ [.int .i64 (a : Int), .string T]) ∧ Turns (fun k => P.ownBlock = some k) w w' ∧ (∀ g, (Value.slice x' (m + 1) c').ownBlock = some g → P.ownBlock = some g ∨ w.heap.size ≤ g) := by
  obtain ⟨i0, hi, hz0, hz1, hz2⟩ := info_parts info_wri
  obtain ⟨R', w4, hap, ho, hgr, hR'⟩ := push_gen (w.alloc (.cells #[.int .i64 (a : Int), .string T] 66)) 38 66 i0 (.agg #[.int .i64 0, .string ByteArray.empty]) 2 24 Try.underlying38 hi hz0 hz1 hz2 rfl (by decide) P m _ (hown.alloc _)
    ⟨w.heap.size, 0, none⟩ 1 1 [.int .i64 (a : Int), .string T] rfl (fun j u hj => by
      match j, hj with
      | 0, hj => rw [add_at]; simpa using hj
      | 1, hj => rw [add_at]; simpa using hj
      | j + 2, hj => simp at hj) (fun u hu => by simp at hu; rcases hu with rfl | rfl <;> rfl) (by omega) (by unfold maxLen; omega) (by omega)
  obtain ⟨x', c', hRe, _⟩ := ownsRow_form2 ho
  subst hRe
  refine ⟨x', c', w4, hap, ho, ((Turns.refl _ w).alloc _).grown hgr (fun k hk => .inl hk), fun g hg => ?_⟩
  rcases hR' g hg with e | e
  · exact .inl e
  · right
    simp at e
    omega

set_option maxHeartbeats 2000000 in
theorem rwrite_yes (r n m a c : Nat) (G : Nat → Prop) (f A g : Nat → Nat) (D : Nat → Nat → Nat) (x : Option Addr) (w : World) (h : Rd w G r n m f A D) (ha : a < n) (hx : RowAt w x 64 g) (hxG : ∀ ad, x = some ad → ¬ G ad.block) (hg : ∀ i, g i < 256) (hm : m < 1000) :
    Calls Try.prog 21 #[.pointer (some ⟨r, 0, none⟩), .int .i64 (a : Int), .slice x 64 c] w fun e w' => e = .returned (.int .i64 0) ∧ Turns G w w' ∧ Rd w' (grow G w w') r n (m + 1) f (ext A m a) (ext D m g) := by
  obtain ⟨S, P, h⟩ := h
  have hd := h.drew
  have hxd : RowAt w.drew x 64 g := hx
  obtain ⟨Z, hZ⟩ : ∃ Z, Z = strOfNums (nums g 64) := ⟨_, rfl⟩
  obtain ⟨x', c', w3, hap, ho3, t3, hx3⟩ := push_wri w.drew P m a Z _ hd.pen (by have := h.m2; omega)
  have hcv : ∀ v, RowAt v x 64 g → (convert 32 9 (.slice x 64 c)).run Try.prog v = .ok (.string Z) v := fun v hv => by rw [conv_row v x 64 c g hv, hZ]
  have ho3' := ho3
  rw [show [Value.int .i64 (a : Int), .string Z] = [.int .i64 (a : Int), datS g] by rw [hZ]; rfl, wrP_ext] at ho3'
  obtain ⟨T4, hr4⟩ := rd_setP hd t3 ho3' hx3 (fun i hi => by
    by_cases e : i < m
    · rw [ext_old A m a e]; exact h.at_ i e
    · obtain rfl : i = m := by omega
      rw [ext_new]; exact ha) (fun i j => by
    unfold ext
    split
    · exact h.ltD i j
    · exact hg j) (by omega)
  obtain ⟨x0, c0', hS0, _⟩ := ownsRow_form2 h.sec_
  subst hS0
  obtain ⟨x1, c1', hP0, _⟩ := ownsRow_form2 h.pen
  subst hP0
  have k0 := h.c0
  have g1 := hd.c1
  have ba : Below w.drew.heap.size w.drew (w.drew.alloc (.cells #[.int .i64 (a : Int), .string Z] 66)) := (Below.refl _ _).alloc (Nat.le_refl _) _
  have g2 := (hd.below ba).c1
  have v1 := hcv w.drew hxd
  have v2 := hcv _ (hxd.below ba)
  have v3 := hcv w3 (t3.row hxd (fun ad had e => hxG ad had (h.fP _ e)))
  have nr : (Value.slice x1 m c1').ownBlock ≠ some r := ownsRow_ne hd.pen hd.obj (by decide)
  have b3 := hd.obj.of_heap (t3.block _ hd.obj.lt nr)
  have g3 : w3.cell? ⟨r, 1, none⟩ = some (.slice x1 m c1') := b3.cell (k := 1) (by omega)
  have f3 := b3.frozen 1
  have HN : Hid (Turns G w (w3.setCell ⟨r, 1, none⟩ (.slice x' (m + 1) c')) ∧ Rd (w3.setCell ⟨r, 1, none⟩ (.slice x' (m + 1) c')) (grow G w (w3.setCell ⟨r, 1, none⟩ (.slice x' (m + 1) c'))) r n (m + 1) f (ext A m a) (ext D m g)) := ⟨⟨T4.os, T4.tape, T4.output, T4.size, T4.block⟩, _, _, hr4⟩
  have hn2 := h.n2
  clear h hd hx hxd ho3 ho3' t3 hx3 T4 hr4 b3 nr hcv hZ hxG hg ba
  generalize (Value.slice x1 m c1') = P0 at *
  go_enter Try.func21, Try.ntmps21
  go_wp2_with fail
  refine wp_region_last (fun v => v.cell? ⟨r, 1, none⟩ = some P0 ∧ (convert 32 9 (.slice x 64 c)).run Try.prog v = .ok (.string Z) v) 13 (by kernel_rfl) ⟨g1, v1⟩ (fun hS => ?_)
  refine wpAnyL_take (i := 0) (v := ?_) rfl (by kernel_rfl) (by kernel_rfl) (by kernel_rfl) (by kernel_rfl) (fun _ _ _ h => h) hS (Or.inl ⟨by rfl, ?_⟩) ?_
  case refine_2 => (intro w hSw; (try dsimp only at hSw); go_simp; (try with_reducible rfl))
  (try simp only [Act.put, List.setIfInBounds_toArray, List.set_cons_zero, List.set_cons_succ])
  refine wpAnyL_take (i := 1) (v := ?_) rfl (by kernel_rfl) (by kernel_rfl) (by kernel_rfl) (by kernel_rfl) (fun _ _ _ h => h) hS (Or.inl ⟨by rfl, ?_⟩) ?_
  case refine_2 => (intro w hSw; (try dsimp only at hSw); go_simp; (try with_reducible rfl))
  (try simp only [Act.put, List.setIfInBounds_toArray, List.set_cons_zero, List.set_cons_succ])
  refine wpAnyL_take (i := 2) (v := ?_) rfl (by kernel_rfl) (by kernel_rfl) (by kernel_rfl) (by kernel_rfl) (fun _ _ _ h => h) hS (Or.inl ⟨by rfl, ?_⟩) ?_
  case refine_2 => (intro w hSw; (try dsimp only at hSw); go_simp; (try with_reducible rfl))
  (try simp only [Act.put, List.setIfInBounds_toArray, List.set_cons_zero, List.set_cons_succ])
  refine wpAnyL_take (i := 3) (v := ?_) rfl (by kernel_rfl) (by kernel_rfl) (by kernel_rfl) (by kernel_rfl) (fun _ _ _ h => h) hS (Or.inl ⟨by rfl, ?_⟩) ?_
  case refine_2 => (intro w hSw; (try dsimp only at hSw); go_simp; (try with_reducible rfl))
  (try simp only [Act.put, List.setIfInBounds_toArray, List.set_cons_zero, List.set_cons_succ])
  refine wpAnyL_take (i := 4) (v := ?_) rfl (by kernel_rfl) (by kernel_rfl) (by kernel_rfl) (by kernel_rfl) (fun _ _ _ h => h) hS (Or.inl ⟨by rfl, ?_⟩) ?_
  case refine_2 => (intro w hSw; (try dsimp only at hSw); go_simp; (try with_reducible rfl))
  (try simp only [Act.put, List.setIfInBounds_toArray, List.set_cons_zero, List.set_cons_succ])
  refine wpAnyL_take (i := 5) (v := ?_) rfl (by kernel_rfl) (by kernel_rfl) (by kernel_rfl) (by kernel_rfl) (fun _ _ _ h => h) hS (Or.inl ⟨by rfl, ?_⟩) ?_
  case refine_2 => (intro w hSw; (try dsimp only at hSw); go_simp; (try with_reducible rfl))
  (try simp only [Act.put, List.setIfInBounds_toArray, List.set_cons_zero, List.set_cons_succ])
  refine wpAnyL_take (i := 6) (v := ?_) rfl (by kernel_rfl) (by kernel_rfl) (by kernel_rfl) (by kernel_rfl) (fun _ _ _ h => h) hS (Or.inl ⟨by rfl, ?_⟩) ?_
  case refine_2 => (intro w hSw; (try dsimp only at hSw); go_simp; (try with_reducible rfl))
  (try simp only [Act.put, List.setIfInBounds_toArray, List.set_cons_zero, List.set_cons_succ])
  refine wpAnyL_take (i := 7) (v := ?_) rfl (by kernel_rfl) (by kernel_rfl) (by kernel_rfl) (by kernel_rfl) (fun _ _ _ h => h) hS (Or.inl ⟨by rfl, ?_⟩) ?_
  case refine_2 => (intro w hSw; (try dsimp only at hSw); go_simp; (try with_reducible rfl))
  (try simp only [Act.put, List.setIfInBounds_toArray, List.set_cons_zero, List.set_cons_succ])
  refine wpAnyL_take (i := 8) (v := ?_) rfl (by kernel_rfl) (by kernel_rfl) (by kernel_rfl) (by kernel_rfl) (fun _ _ _ h => h) hS (Or.inl ⟨by rfl, ?_⟩) ?_
  case refine_2 => (intro w hSw; (try dsimp only at hSw); go_simp; (try with_reducible rfl))
  (try simp only [Act.put, List.setIfInBounds_toArray, List.set_cons_zero, List.set_cons_succ])
  refine wpAnyL_one (i := 9) (by kernel_rfl) rfl (fun K hK => ?_)
  go_simp
  refine hK.out _ _ (fun _ => ⟨g2, v2⟩) ?_
  clear hK K
  refine wpAnyL_one (i := 10) (by kernel_rfl) rfl (fun K hK => ?_)
  refine ready_append rfl _ _ 38 rfl _ _ rfl rfl hap ?_
  (try simp only [Act.put, List.getElem_toArray, List.getElem_cons_succ, List.getElem_cons_zero, List.setIfInBounds_toArray, List.set_cons_zero, List.set_cons_succ])
  refine hK.out _ _ (fun _ => ⟨g3, v3⟩) ?_
  clear hK K
  refine wpAnyL_one (i := 11) (by kernel_rfl) rfl (fun K hK => ?_)
  go_simp
  refine hK.out _ _ (fun _ => ⟨g3, v3⟩) ?_
  clear hK K
  refine wpAnyL_one (i := 12) (by kernel_rfl) rfl (fun K hK => ?_)
  go_simp
  refine hK.out _ _ (fun _ => ⟨g3, v3⟩) ?_
  clear hK K
  refine wpAnyL_one (i := 13) (by kernel_rfl) rfl (fun K hK => ?_)
  go_simp
  refine hK.out _ _ (fun h => absurd rfl h) ?_
  clear hK K
  refine wpAnyL_done (by kernel_rfl) ?_ _
  go_wp2_with fail
  go_ret
  exact ⟨rfl, HN.out⟩

theorem rread_no (r n cs : Nat) (xs : Option Addr) (z : Int) (w : World) (h : w.cell? ⟨r, 0, none⟩ = some (.slice xs n cs)) (hno : ¬ (0 ≤ z ∧ z < n)) :
    Calls Try.prog 13 #[.pointer (some ⟨r, 0, none⟩), .int .i64 z] w fun e w' => e = .returned (.tuple #[.slice none 0 0, .int .i64 1]) ∧ w' = w := by
  have hcs : z < 0 ∨ (0 ≤ z ∧ (n : Int) ≤ z) := by omega
  clear hno
  rcases hcs with hcs | ⟨hcs, hcs2⟩
  all_goals
    go_enter Try.func13, Try.ntmps13
    go_wp2_with fail
    go_ret2
    exact ⟨rfl, rfl⟩

/- A text's bytes. -/
theorem conv_text (d : Nat → Nat) (hd : ∀ i, d i < 256) (w : World) :
    ∃ c W1, (convert 9 32 (datS d)).run Try.prog w = .ok (.slice (some ⟨w.heap.size, 0, none⟩) 64 c) W1 ∧ Below w.heap.size w W1 ∧ w.heap.size < W1.heap.size ∧ ∀ j, j < 64 → W1.cell? ⟨w.heap.size, j, none⟩ = some (.int .u8 (d j : Int)) ∧ W1.frozen? ⟨w.heap.size, j, none⟩ = false := by
  have hs : (strOfNums (nums d 64)).size = 64 := by rw [strOfNums_size]; simp [nums]
  have hr := Lib.run_convert_string_bytes w 9 32 5 (strOfNums (nums d 64)) Try.underlying9 Try.underlying32 Try.underlying5
  rw [hs] at hr
  refine ⟨_, _, hr, ⟨rfl, rfl, rfl, by rw [Lib.bytesWorld_size]; omega, fun q hq => Lib.bytesWorld_at_old w _ _ q hq⟩, by rw [Lib.bytesWorld_size]; omega, fun j hj => ⟨?_, ?_⟩⟩
  · rw [Lib.bytesWorld_cell w _ _ j (by rw [hs]; exact hj), strOfNums_data]
    have e : ((List.map (fun n => UInt8.ofNat n.toNat) (nums d 64)).getD j 0).toNat = d j := by
      simp [nums, List.getD, hj, UInt8.toNat_ofNat', Nat.mod_eq_of_lt (hd j)]
    rw [e]
  · have h1 := Lib.bytesWorld_at_new w 5 (strOfNums (nums d 64))
    have h2 : 64 ≤ (Lib.bytesCells w 5 (strOfNums (nums d 64))).size := by
      unfold Lib.bytesCells
      simp only [Array.size_append, Array.size_map]
      have : (strOfNums (nums d 64)).data.size = 64 := hs
      omega
    simp [World.frozen?, h1]
    omega

set_option maxHeartbeats 2000000 in
theorem rread_yes (r n m a : Nat) (G : Nat → Prop) (f A : Nat → Nat) (D : Nat → Nat → Nat) (w : World) (h : Rd w G r n m f A D) (ha : a < n) :
    Calls Try.prog 13 #[.pointer (some ⟨r, 0, none⟩), .int .i64 (a : Int)] w fun e w' => ∃ c, e = .returned (.tuple #[.slice (some ⟨w.heap.size, 0, none⟩) 64 c, .int .i64 0]) ∧ Below w.heap.size w w' ∧ RowAt w' (some ⟨w.heap.size, 0, none⟩) 64 (now f A D a m) := by
  obtain ⟨S, P, h⟩ := h
  have hn2 := h.n2
  have hm2 := h.m2
  obtain ⟨c', W1, hcv, hb1, hl1, hc1⟩ := conv_text (now f A D a m) (now_lt h.lt h.ltD a m) w
  have HW : Hid (Below w.heap.size w W1 ∧ RowAt W1 (some ⟨w.heap.size, 0, none⟩) 64 (now f A D a m)) := ⟨hb1, .inr ⟨w.heap.size, 0, rfl, hl1, fun i hi => by rw [Nat.zero_add]; exact (hc1 i hi).1⟩⟩
  obtain ⟨x0, c0', hS0, _, _, hrow0⟩ := ownsRow_form2 h.sec_
  subst hS0
  obtain ⟨x1, c1', hP0, _, _, hrow1⟩ := ownsRow_form2 h.pen
  subst hP0
  have k0 := h.c0
  have k1 := h.c1
  rcases hrow0 with h0 | ⟨g0, rfl, hce0⟩
  · omega
  have ks : w.cell? ⟨g0, a, none⟩ = some (datS (sec f a)) := (hce0 a _ (rowOf_get _ n a ha)).1
  have hnow : ∀ k, now f A D a (k + 1) = if A k = a then D k else now f A D a k := fun k => by
    unfold now
    rw [last]
    by_cases e : A k = a
    · simp [e]
    · simp [e]
  have hn0 : now f A D a 0 = sec f a := now_zero f A D a
  have HC := hid hrow1
  have HNow := hid hnow
  have HN0 := hid hn0
  have HCV := hid hcv
  clear h hb1 hl1 hc1 hce0 hrow1 hnow hcv hn0
  go_enter Try.func13, Try.ntmps13
  go_wp2_with fail
  go_loop [6, 7] (fun s i => ∃ k : Nat, k ≤ m ∧ i = .int .i64 k ∧ Hid (s = datS (now f A D a k))) (fun _ i => m - (intOf i).toNat)
  case atStart => exact ⟨0, by omega, rfl, by rw [HN0.out]; exact rfl⟩
  case round =>
    obtain ⟨k, hk, rfl, HS⟩ := hrel
    by_cases hlt : k < m
    · have hkm : (k : Int) < (m : Int) := by omega
      rcases HC.out with h0 | ⟨g1, rfl, hce⟩
      · omega
      have q0 := (hce (k * 2) _ (rowOf_get _ (m * 2) (k * 2) (by omega))).1
      rw [wrP_even] at q0
      have q1 := (hce (k * 2 + 1) _ (rowOf_get _ (m * 2) (k * 2 + 1) (by omega))).1
      rw [wrP_odd] at q1
      have hN := HNow.out k
      by_cases e : A k = a
      · rw [e] at q0
        rw [if_pos e] at hN
        have HN2 : Hid (datS (D k) = datS (now f A D a (k + 1))) := by rw [hN]; exact rfl
        clear hce hN e HS
        generalize datS (D k) = Q at *
        go_wp2_with fail
        go_round
        case rel => exact ⟨k + 1, by omega, by go_num, HN2⟩
        case measure => simp [intOf]; omega
      · rw [if_neg e] at hN
        have HN2 : Hid (u6 = datS (now f A D a (k + 1))) := by rw [hN]; exact HS.out
        have e2 : ((A k : Int) == (a : Int)) = false := by
          rw [beq_eq_false_iff_ne]
          omega
        have e3 : ¬ ((A k : Int) = (a : Int)) := by omega
        clear hce hN HS e q1
        go_wp2_with fail
        go_round
        case rel => exact ⟨k + 1, by omega, by go_num, HN2⟩
        case measure => simp [intOf]; omega
    · have hk2 : k = m := by omega
      subst hk2
      have hs := HS.out
      subst hs
      have hcv := HCV.out
      clear HS HC
      generalize datS (now f A D a k) = Q at *
      go_wp2_with fail
      go_ret2
      exact ⟨⟨_, rfl⟩, HW.out⟩

end Go.Proofs.Ytaaeppbkbkfphaa

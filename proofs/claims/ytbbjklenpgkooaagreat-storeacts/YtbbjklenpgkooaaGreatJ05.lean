/-
  What the inner partOf of package journal does: contracts over plain numbers ('JoPlain').
  Conditions: the sector lies in memory.
-/
import Derived.Test.YtbbjklenpgkooaaGreatJ04
namespace Go.Proofs.YtbbjklenpgkooaaGreat
open Go.RowKit By Dk Su Jo
set_option linter.unusedVariables false
set_option linter.unusedSimpArgs false
set_option maxRecDepth 100000

theorem i64_or_nat (a b : Nat) (ha : a < 9223372036854775808) (hb : b < 9223372036854775808) : bits .or .i64 (a : Int) (b : Int) = ((a ||| b : Nat) : Int) := by
  have hx : a ||| b < 2 ^ 63 := Nat.or_lt_two_pow (by omega) (by omega)
  have e1 : (BitVec.ofInt 64 (a : Int)).toNat = a := by rw [BitVec.ofInt_natCast, BitVec.toNat_ofNat]; exact Nat.mod_eq_of_lt (by omega)
  have e2 : (BitVec.ofInt 64 (b : Int)).toNat = b := by rw [BitVec.ofInt_natCast, BitVec.toNat_ofNat]; exact Nat.mod_eq_of_lt (by omega)
  show IntKind.i64.wrap ((BitVec.ofInt 64 (a : Int) ||| BitVec.ofInt 64 (b : Int)).toNat : Int) = _
  rw [BitVec.toNat_or, e1, e2, IntKind.wrap_i64]
  omega

theorem or_at (a b k : Nat) (h : a < 2 ^ k) : a ||| (2 ^ k * b) = a + 2 ^ k * b := by
  rw [Nat.or_comm, ← Nat.two_pow_add_eq_or_of_lt h, Nat.add_comm]

theorem or_g0 (s : Nat → Nat) (hs : ∀ i, s i < 256) : bits .or .i64 ((gk s 0 : Nat) : Int) (s 1 : Int) = ((gk s 1 : Nat) : Int) := by
  have := hs 1
  rw [i64_or_nat _ _ (by unfold gk; simp) (by omega)]
  congr 1
  simp [gk]

theorem or_g1 (s : Nat → Nat) (hs : ∀ i, s i < 256) : bits .or .i64 ((gk s 1 : Nat) : Int) ((s 2 : Int) * 256) = ((gk s 2 : Nat) : Int) := by
  have h1 := hs 1
  have h2 := hs 2
  have e : (s 2 : Int) * 256 = ((2 ^ 8 * s 2 : Nat) : Int) := by omega
  rw [e, i64_or_nat _ _ (by simp [gk]; omega) (by omega), or_at _ _ 8 (by simp [gk]; omega)]
  simp [gk, genS]

theorem or_r (s : Nat → Nat) (hs : ∀ i, s i < 256) : bits .or .u32 ((rk s 0 : Nat) : Int) (s 3 : Int) = ((rk s 1 : Nat) : Int) ∧ bits .or .u32 ((rk s 1 : Nat) : Int) ((s 4 : Int) * 256) = ((rk s 2 : Nat) : Int) ∧
    bits .or .u32 ((rk s 2 : Nat) : Int) ((s 5 : Int) * 65536) = ((rk s 3 : Nat) : Int) ∧ bits .or .u32 ((rk s 3 : Nat) : Int) ((s 6 : Int) * 16777216) = ((rk s 4 : Nat) : Int) := by
  have h3 := hs 3
  have h4 := hs 4
  have h5 := hs 5
  have h6 := hs 6
  have r1 : rk s 1 = s 3 := rfl
  have r2 : rk s 2 = s 3 + 256 * s 4 := rfl
  have r3 : rk s 3 = s 3 + 256 * s 4 + 65536 * s 5 := rfl
  have r4 : rk s 4 = num s := rfl
  refine ⟨?_, ?_, ?_, ?_⟩
  · rw [u32_or_nat _ _ (by simp [rk]) (by omega)]
    congr 1
    simp [rk]
  · have e : (s 4 : Int) * 256 = ((2 ^ 8 * s 4 : Nat) : Int) := by omega
    rw [e, u32_or_nat _ _ (by omega) (by omega), or_at _ _ 8 (by omega)]
    omega
  · have e : (s 5 : Int) * 65536 = ((2 ^ 16 * s 5 : Nat) : Int) := by omega
    rw [e, u32_or_nat _ _ (by omega) (by omega), or_at _ _ 16 (by omega)]
    omega
  · have e : (s 6 : Int) * 16777216 = ((2 ^ 24 * s 6 : Nat) : Int) := by omega
    rw [e, u32_or_nat _ _ (by omega) (by omega), or_at _ _ 24 (by omega), r3, r4]
    unfold num
    omega

/- A list from a place on. -/
theorem cut_from (g o m c d : Nat) (w : World) (f : Nat → Nat) (h : RowAt w (some ⟨g, o, none⟩) m f) (h1 : d ≤ m) (h2 : m ≤ c) :
    ∃ x, (Instr.slice 22 (.slice (some ⟨g, o, none⟩) m c) (some (.int .i64 (d : Int))) none none).run Tryz.prog w = .ok (.slice x (m - d) (c - d)) w ∧ RowAt w x (m - d) (fun i => f (d + i)) := by
  by_cases h3 : d < c
  · exact ⟨_, cut_row g o m c d w h1 h3, row_drop (m := d) (by rw [show d + (m - d) = m by omega]; exact h)⟩
  · obtain rfl : d = c := by omega
    refine ⟨some ⟨g, o, none⟩, ?_, .inl (by omega)⟩
    rw [run_slice_l w 22 _ _ _ elem_row .i64 (d : Int) (by omega) (by omega), elem_is, size_byte]
    simp only [Result.andThen, sliced, Int.toNat_natCast, Nat.mul_one, Option.map]
    simp

set_option maxHeartbeats 2000000 in
set_option maxRecDepth 100000 in
theorem partof_rest (b o c : Nat) (s : Nat → Nat) (w : World) (hs : ∀ i, s i < 256) (hc : 64 ≤ c) (h : RowAt w (some ⟨b, o, none⟩) 64 s) (he : Ends s 60) :
    Calls Tryz.prog 80 #[.slice (some ⟨b, o, none⟩) 64 c] w fun e w' => (¬ OkP s → e = .returned (.tuple #[noPart, .bool false]) ∧ Below w.heap.size w w') ∧
      (OkP s → ∃ y cy, e = .returned (.tuple #[.agg #[.int .i64 (genS s : Int), .int .u32 (num s : Int), .int .i64 (s 7 : Int), .bool (lst s), .slice (some ⟨y, 9, none⟩) (cnt s) cy], .bool true]) ∧ Below w.heap.size w w' ∧ RowAt w' (some ⟨y, 9, none⟩) (cnt s) (fun i => s (9 + i)) ∧ cnt s ≤ cy) := by
  have hst : Calls Tryz.prog 91 #[.slice (some ⟨b, o, none⟩) 64 c] (zPart w) fun e w' => ∃ y cy, e = .returned (.tuple #[.slice (some ⟨y, 0, none⟩) 60 cy, .bool true]) ∧ Hid (Below w.heap.size w w' ∧ (∀ i, i < 60 → w'.cell? ⟨y, i, none⟩ = some (.int .u8 (s i : Int))) ∧ 60 ≤ cy ∧ y < w'.heap.size ∧ w.heap.size < w'.heap.size ∧ Five w' w.heap.size (.int .i64 0) (.int .u32 0) (.int .i64 0) (.bool false) (.slice none 0 0)) :=
    (strip_full 64 c b o 60 s (zPart w) hs (by omega) hc rfl (h.below ((Below.refl _ _).alloc (Nat.le_refl _) _)) he).mono fun e v ⟨y, cy, h1, h2, h3, h4, h5⟩ => by
      rw [zPart_size] at h2
      refine ⟨y, cy, h1, below_part h2, fun i hi => ?_, h4, h5, by have := h2.size; rw [zPart_size] at this; omega, (Five.new w _ _ _ _ _ _).below h2 (Nat.lt_succ_self _)⟩
      rcases h3 with h3 | ⟨b', o', e1, _, h3⟩
      · omega
      · injection e1 with e1
        injection e1 with e1 e2 _
        subst e1 e2
        have := h3 i hi
        rwa [Nat.zero_add] at this
  clear h
  unfold zPart at hst
  have HM : s 0 ≠ 74 → ¬ OkP s := fun e h => e h.mark
  by_cases hm : s 0 = 74
  · go_enter Tryz.func80, Tryz.ntmps80
    go_wp2_with ((go_at_call 91; refine hst.mono ?_; rintro e w1 ⟨y, cy, rfl, HB⟩; clear hst
                  obtain ⟨k0, k7, k8⟩ : w1.cell? ⟨y, 0, none⟩ = some (.int .u8 (74 : Int)) ∧ w1.cell? ⟨y, 7, none⟩ = some (.int .u8 (s 7 : Int)) ∧ w1.cell? ⟨y, 8, none⟩ = some (.int .u8 (s 8 : Int)) := ⟨by rw [HB.out.2.1 0 (by omega), hm]; rfl, HB.out.2.1 7 (by omega), HB.out.2.1 8 (by omega)⟩))
    have h7 := hs 7
    have e7 : IntKind.i64.wrap (s 7 : Int) = (s 7 : Int) := by rw [IntKind.wrap_i64]; omega
    have e8 : decide ((128 : Int) ≤ (s 8 : Int)) = lst s := by unfold lst; congr 1; apply propext; omega
    have h8 := hs 8
    have a7 : ∀ ob, (w1.alloc ob).drew.cell? ⟨y, 7, none⟩ = some (.int .u8 (s 7 : Int)) := fun ob => (((Below.refl w1.heap.size w1).alloc (Nat.le_refl _) ob).drew.cell (p := ⟨y, 7, none⟩) HB.out.2.2.2.1).trans k7
    have a8 : ∀ ob, (w1.alloc ob).drew.cell? ⟨y, 8, none⟩ = some (.int .u8 (s 8 : Int)) := fun ob => (((Below.refl w1.heap.size w1).alloc (Nat.le_refl _) ob).drew.cell (p := ⟨y, 8, none⟩) HB.out.2.2.2.1).trans k8
    refine wp_region_last (fun v => v.cell? ⟨y, 7, none⟩ = some (.int .u8 (s 7 : Int)) ∧ v.cell? ⟨y, 8, none⟩ = some (.int .u8 (s 8 : Int))) 10 (by kernel_rfl) ⟨k7, k8⟩ (fun hS => ?_)
    refine wpAnyL_take (i := 0) (v := ?_) rfl (by kernel_rfl) (by kernel_rfl) (by kernel_rfl) (by kernel_rfl) (fun _ _ _ h => h) hS (Or.inl ⟨by rfl, ?_⟩) ?_
    case refine_2 => (intro w hSw; (try dsimp only at hSw); go_simp; (try with_reducible rfl))
    (try simp only [Act.put, List.setIfInBounds_toArray, List.set_cons_zero, List.set_cons_succ])
    refine wpAnyL_take (i := 1) (v := ?_) rfl (by kernel_rfl) (by kernel_rfl) (by kernel_rfl) (by kernel_rfl) (fun _ _ _ h => h) hS (Or.inl ⟨by rfl, ?_⟩) ?_
    case refine_2 => (intro w hSw; (try dsimp only at hSw); go_simp; (try with_reducible rfl))
    (try simp only [Act.put, List.setIfInBounds_toArray, List.set_cons_zero, List.set_cons_succ])
    refine wpAnyL_take (i := 2) (v := ?_) rfl (by kernel_rfl) (by kernel_rfl) (by kernel_rfl) (by kernel_rfl) (fun _ _ _ h => h) hS (Or.inl ⟨by rfl, ?_⟩) ?_
    case refine_2 => (intro w hSw; (try dsimp only at hSw); go_simp; (try with_reducible rfl))
    (try simp only [Act.put, List.setIfInBounds_toArray, List.set_cons_zero, List.set_cons_succ])
    refine wpAnyL_take (i := 3) (v := ?_) rfl (by kernel_rfl) (by kernel_rfl) (by kernel_rfl) (by kernel_rfl) (fun _ _ _ h => h) hS (Or.inl ⟨by rfl, ?_⟩) ?_
    case refine_2 => (intro w hSw; (try dsimp only at hSw); go_simp; (try with_reducible rfl))
    (try simp only [Act.put, List.setIfInBounds_toArray, List.set_cons_zero, List.set_cons_succ])
    refine wpAnyL_take (i := 4) (v := ?_) rfl (by kernel_rfl) (by kernel_rfl) (by kernel_rfl) (by kernel_rfl) (fun _ _ _ h => h) hS (Or.inl ⟨by rfl, ?_⟩) ?_
    case refine_2 => (intro w hSw; (try dsimp only at hSw); go_simp; (try with_reducible rfl))
    (try simp only [Act.put, List.setIfInBounds_toArray, List.set_cons_zero, List.set_cons_succ])
    refine wpAnyL_take (i := 5) (v := ?_) rfl (by kernel_rfl) (by kernel_rfl) (by kernel_rfl) (by kernel_rfl) (fun _ _ _ h => h) hS (Or.inl ⟨by rfl, ?_⟩) ?_
    case refine_2 => (intro w hSw; (try dsimp only at hSw); go_simp; (try with_reducible rfl))
    (try simp only [Act.put, List.setIfInBounds_toArray, List.set_cons_zero, List.set_cons_succ])
    refine wpAnyL_take (i := 6) (v := ?_) rfl (by kernel_rfl) (by kernel_rfl) (by kernel_rfl) (by kernel_rfl) (fun _ _ _ h => h) hS (Or.inl ⟨by rfl, ?_⟩) ?_
    case refine_2 => (intro w hSw; (try dsimp only at hSw); go_simp; (try with_reducible rfl))
    (try simp only [Act.put, List.setIfInBounds_toArray, List.set_cons_zero, List.set_cons_succ])
    refine wpAnyL_take (i := 7) (v := ?_) rfl (by kernel_rfl) (by kernel_rfl) (by kernel_rfl) (by kernel_rfl) (fun _ _ _ h => h) hS (Or.inl ⟨by rfl, ?_⟩) ?_
    case refine_2 => (intro w hSw; (try dsimp only at hSw); go_simp; (try with_reducible rfl))
    (try simp only [Act.put, List.setIfInBounds_toArray, List.set_cons_zero, List.set_cons_succ])
    refine wpAnyL_take (i := 8) (v := ?_) rfl (by kernel_rfl) (by kernel_rfl) (by kernel_rfl) (by kernel_rfl) (fun _ _ _ h => h) hS (Or.inl ⟨by rfl, ?_⟩) ?_
    case refine_2 => (intro w hSw; (try dsimp only at hSw); go_simp; (try with_reducible rfl))
    (try simp only [Act.put, List.setIfInBounds_toArray, List.set_cons_zero, List.set_cons_succ])
    refine wpAnyL_one (i := 9) (by kernel_rfl) rfl (fun K hK => ?_)
    go_simp
    refine hK.out _ _ (fun _ => ⟨a7 _, a8 _⟩) ?_
    clear hK K
    refine wpAnyL_one (i := 10) (by kernel_rfl) rfl (fun K hK => ?_)
    go_simp
    refine hK.out _ _ (fun h => absurd rfl h) ?_
    clear hK K
    refine wpAnyL_done (by kernel_rfl) ?_ _
    have HP : Hid (PSt w _ y w.heap.size w1.heap.size s 0 0) := pst_start HB.out.1 HB.out.2.1 HB.out.2.2.2.1 HB.out.2.2.2.2.1 HB.out.2.2.2.2.2
    go_wp2_with fail
    go_loopw [33] (fun i wr => ∃ k : Nat, k ≤ 2 ∧ i = .int .i64 k ∧ Hid (PSt w wr y w.heap.size w1.heap.size s (gk s k) 0)) (fun i _ => 2 - (intOf i).toNat)
    case atStart =>
      refine ⟨0, by omega, rfl, ?_⟩
      first | exact HP | (rw [e7, e8]; exact HP)
    case round =>
      obtain ⟨k, hk, rfl, HR⟩ := hrel
      have HCY : Hid (60 ≤ cy) := HB.out.2.2.1
      clear HP HB hS a7 a8 k0 k7 k8
      have h1 := hs 1
      have h2 := hs 2
      by_cases hlt : k < 2
      · obtain rfl | rfl : k = 0 ∨ k = 1 := by omega
        · have q0 := HR.out.par.c0
          have qf := HR.out.par.f0
          have q1 := HR.out.row 1 (by omega)
          have x0 : IntKind.i64.wrap 0 = 0 := by decide
          have x1 : IntKind.i64.wrap 1 = 1 := by decide
          have xs : IntKind.i64.wrap (s 1 : Int) = (s 1 : Int) := by rw [IntKind.wrap_i64]; omega
          have xo := or_g0 s hs
          go_wp2_with fail
          refine wp_region_last (fun v => v.cell? ⟨w1.heap.size, 0, none⟩ = some (.int .i64 ((gk s 0 : Nat) : Int)) ∧ v.cell? ⟨y, 1, none⟩ = some (.int .u8 (s 1 : Int))) 13 (by kernel_rfl) ⟨q0, q1⟩ (fun hS => ?_)
          refine wpAnyL_take (i := 0) (v := ?_) rfl (by kernel_rfl) (by kernel_rfl) (by kernel_rfl) (by kernel_rfl) (fun _ _ _ h => h) hS (Or.inl ⟨by rfl, ?_⟩) ?_
          case refine_2 => (intro w hSw; (try dsimp only at hSw); go_simp; (try with_reducible rfl))
          (try simp only [Act.put, List.setIfInBounds_toArray, List.set_cons_zero, List.set_cons_succ])
          refine wpAnyL_take (i := 1) (v := ?_) rfl (by kernel_rfl) (by kernel_rfl) (by kernel_rfl) (by kernel_rfl) (fun _ _ _ h => h) hS (Or.inl ⟨by rfl, ?_⟩) ?_
          case refine_2 => (intro w hSw; (try dsimp only at hSw); go_simp; (try with_reducible rfl))
          (try simp only [Act.put, List.setIfInBounds_toArray, List.set_cons_zero, List.set_cons_succ])
          refine wpAnyL_take (i := 2) (v := ?_) rfl (by kernel_rfl) (by kernel_rfl) (by kernel_rfl) (by kernel_rfl) (fun _ _ _ h => h) hS (Or.inl ⟨by rfl, ?_⟩) ?_
          case refine_2 => (intro w hSw; (try dsimp only at hSw); go_simp; (try with_reducible rfl))
          (try simp only [Act.put, List.setIfInBounds_toArray, List.set_cons_zero, List.set_cons_succ])
          refine wpAnyL_take (i := 3) (v := ?_) rfl (by kernel_rfl) (by kernel_rfl) (by kernel_rfl) (by kernel_rfl) (fun _ _ _ h => h) hS (Or.inl ⟨by rfl, ?_⟩) ?_
          case refine_2 => (intro w hSw; (try dsimp only at hSw); go_simp; (try with_reducible rfl))
          (try simp only [Act.put, List.setIfInBounds_toArray, List.set_cons_zero, List.set_cons_succ])
          refine wpAnyL_take (i := 4) (v := ?_) rfl (by kernel_rfl) (by kernel_rfl) (by kernel_rfl) (by kernel_rfl) (fun _ _ _ h => h) hS (Or.inl ⟨by rfl, ?_⟩) ?_
          case refine_2 => (intro w hSw; (try dsimp only at hSw); go_simp; (try with_reducible rfl))
          (try simp only [Act.put, List.setIfInBounds_toArray, List.set_cons_zero, List.set_cons_succ])
          refine wpAnyL_take (i := 5) (v := ?_) rfl (by kernel_rfl) (by kernel_rfl) (by kernel_rfl) (by kernel_rfl) (fun _ _ _ h => h) hS (Or.inl ⟨by rfl, ?_⟩) ?_
          case refine_2 => (intro w hSw; (try dsimp only at hSw); go_simp; (try with_reducible rfl))
          (try simp only [Act.put, List.setIfInBounds_toArray, List.set_cons_zero, List.set_cons_succ])
          refine wpAnyL_take (i := 6) (v := ?_) rfl (by kernel_rfl) (by kernel_rfl) (by kernel_rfl) (by kernel_rfl) (fun _ _ _ h => h) hS (Or.inl ⟨by rfl, ?_⟩) ?_
          case refine_2 => (intro w hSw; (try dsimp only at hSw); go_simp; (try with_reducible rfl))
          (try simp only [Act.put, List.setIfInBounds_toArray, List.set_cons_zero, List.set_cons_succ])
          refine wpAnyL_take (i := 7) (v := ?_) rfl (by kernel_rfl) (by kernel_rfl) (by kernel_rfl) (by kernel_rfl) (fun _ _ _ h => h) hS (Or.inl ⟨by rfl, ?_⟩) ?_
          case refine_2 => (intro w hSw; (try dsimp only at hSw); go_simp; (try with_reducible rfl))
          (try simp only [Act.put, List.setIfInBounds_toArray, List.set_cons_zero, List.set_cons_succ])
          refine wpAnyL_take (i := 8) (v := ?_) rfl (by kernel_rfl) (by kernel_rfl) (by kernel_rfl) (by kernel_rfl) (fun _ _ _ h => h) hS (Or.inl ⟨by rfl, ?_⟩) ?_
          case refine_2 => (intro w hSw; (try dsimp only at hSw); go_simp; (try with_reducible rfl))
          (try simp only [Act.put, List.setIfInBounds_toArray, List.set_cons_zero, List.set_cons_succ])
          refine wpAnyL_take (i := 9) (v := ?_) rfl (by kernel_rfl) (by kernel_rfl) (by kernel_rfl) (by kernel_rfl) (fun _ _ _ h => h) hS (Or.inl ⟨by rfl, ?_⟩) ?_
          case refine_2 => (intro w hSw; (try dsimp only at hSw); go_simp; (try with_reducible rfl))
          (try simp only [Act.put, List.setIfInBounds_toArray, List.set_cons_zero, List.set_cons_succ])
          refine wpAnyL_take (i := 10) (v := ?_) rfl (by kernel_rfl) (by kernel_rfl) (by kernel_rfl) (by kernel_rfl) (fun _ _ _ h => h) hS (Or.inl ⟨by rfl, ?_⟩) ?_
          case refine_2 => (intro w hSw; (try dsimp only at hSw); go_simp; (try with_reducible rfl))
          (try simp only [Act.put, List.setIfInBounds_toArray, List.set_cons_zero, List.set_cons_succ])
          refine wpAnyL_take (i := 11) (v := ?_) rfl (by kernel_rfl) (by kernel_rfl) (by kernel_rfl) (by kernel_rfl) (fun _ _ _ h => h) hS (Or.inl ⟨by rfl, ?_⟩) ?_
          case refine_2 => (intro w hSw; (try dsimp only at hSw); go_simp; (try with_reducible rfl))
          (try simp only [Act.put, List.setIfInBounds_toArray, List.set_cons_zero, List.set_cons_succ])
          refine wpAnyL_take (i := 12) (v := ?_) rfl (by kernel_rfl) (by kernel_rfl) (by kernel_rfl) (by kernel_rfl) (fun _ _ _ h => h) hS (Or.inl ⟨by rfl, ?_⟩) ?_
          case refine_2 => (intro w hSw; (try dsimp only at hSw); go_simp; (try with_reducible rfl))
          (try simp only [Act.put, List.setIfInBounds_toArray, List.set_cons_zero, List.set_cons_succ])
          refine wpAnyL_one (i := 13) (by kernel_rfl) rfl (fun K hK => ?_)
          go_simp
          refine hK.out _ _ (fun h => absurd rfl h) ?_
          clear hK K
          refine wpAnyL_done (by kernel_rfl) ?_ _
          have HN : Hid (PSt w (wr.setCell ⟨w1.heap.size, 0, none⟩ (.int .i64 ((gk s 1 : Nat) : Int))).drew y w.heap.size w1.heap.size s (gk s 1) 0) := (HR.out.setG _).drew
          go_wp2_with fail
          go_roundw
          case rel => exact ⟨1, by omega, by go_num, HN⟩
          case measure => simp [intOf]
        · have q0 := HR.out.par.c0
          have qf := HR.out.par.f0
          have q1 := HR.out.row 2 (by omega)
          have x1 : IntKind.i64.wrap 2 = 2 := by decide
          have x8 : IntKind.i64.wrap 8 = 8 := by decide
          have xs : IntKind.i64.wrap (s 2 : Int) = (s 2 : Int) := by rw [IntKind.wrap_i64]; omega
          have xm : IntKind.i64.wrap ((s 2 : Int) * 256) = (s 2 : Int) * 256 := by rw [IntKind.wrap_i64]; omega
          have xo := or_g1 s hs
          go_wp2_with fail
          refine wp_region_last (fun v => v.cell? ⟨w1.heap.size, 0, none⟩ = some (.int .i64 ((gk s 1 : Nat) : Int)) ∧ v.cell? ⟨y, 2, none⟩ = some (.int .u8 (s 2 : Int))) 13 (by kernel_rfl) ⟨q0, q1⟩ (fun hS => ?_)
          refine wpAnyL_take (i := 0) (v := ?_) rfl (by kernel_rfl) (by kernel_rfl) (by kernel_rfl) (by kernel_rfl) (fun _ _ _ h => h) hS (Or.inl ⟨by rfl, ?_⟩) ?_
          case refine_2 => (intro w hSw; (try dsimp only at hSw); go_simp; (try with_reducible rfl))
          (try simp only [Act.put, List.setIfInBounds_toArray, List.set_cons_zero, List.set_cons_succ])
          refine wpAnyL_take (i := 1) (v := ?_) rfl (by kernel_rfl) (by kernel_rfl) (by kernel_rfl) (by kernel_rfl) (fun _ _ _ h => h) hS (Or.inl ⟨by rfl, ?_⟩) ?_
          case refine_2 => (intro w hSw; (try dsimp only at hSw); go_simp; (try with_reducible rfl))
          (try simp only [Act.put, List.setIfInBounds_toArray, List.set_cons_zero, List.set_cons_succ])
          refine wpAnyL_take (i := 2) (v := ?_) rfl (by kernel_rfl) (by kernel_rfl) (by kernel_rfl) (by kernel_rfl) (fun _ _ _ h => h) hS (Or.inl ⟨by rfl, ?_⟩) ?_
          case refine_2 => (intro w hSw; (try dsimp only at hSw); go_simp; (try with_reducible rfl))
          (try simp only [Act.put, List.setIfInBounds_toArray, List.set_cons_zero, List.set_cons_succ])
          refine wpAnyL_take (i := 3) (v := ?_) rfl (by kernel_rfl) (by kernel_rfl) (by kernel_rfl) (by kernel_rfl) (fun _ _ _ h => h) hS (Or.inl ⟨by rfl, ?_⟩) ?_
          case refine_2 => (intro w hSw; (try dsimp only at hSw); go_simp; (try with_reducible rfl))
          (try simp only [Act.put, List.setIfInBounds_toArray, List.set_cons_zero, List.set_cons_succ])
          refine wpAnyL_take (i := 4) (v := ?_) rfl (by kernel_rfl) (by kernel_rfl) (by kernel_rfl) (by kernel_rfl) (fun _ _ _ h => h) hS (Or.inl ⟨by rfl, ?_⟩) ?_
          case refine_2 => (intro w hSw; (try dsimp only at hSw); go_simp; (try with_reducible rfl))
          (try simp only [Act.put, List.setIfInBounds_toArray, List.set_cons_zero, List.set_cons_succ])
          refine wpAnyL_take (i := 5) (v := ?_) rfl (by kernel_rfl) (by kernel_rfl) (by kernel_rfl) (by kernel_rfl) (fun _ _ _ h => h) hS (Or.inl ⟨by rfl, ?_⟩) ?_
          case refine_2 => (intro w hSw; (try dsimp only at hSw); go_simp; (try with_reducible rfl))
          (try simp only [Act.put, List.setIfInBounds_toArray, List.set_cons_zero, List.set_cons_succ])
          refine wpAnyL_take (i := 6) (v := ?_) rfl (by kernel_rfl) (by kernel_rfl) (by kernel_rfl) (by kernel_rfl) (fun _ _ _ h => h) hS (Or.inl ⟨by rfl, ?_⟩) ?_
          case refine_2 => (intro w hSw; (try dsimp only at hSw); go_simp; (try with_reducible rfl))
          (try simp only [Act.put, List.setIfInBounds_toArray, List.set_cons_zero, List.set_cons_succ])
          refine wpAnyL_take (i := 7) (v := ?_) rfl (by kernel_rfl) (by kernel_rfl) (by kernel_rfl) (by kernel_rfl) (fun _ _ _ h => h) hS (Or.inl ⟨by rfl, ?_⟩) ?_
          case refine_2 => (intro w hSw; (try dsimp only at hSw); go_simp; (try with_reducible rfl))
          (try simp only [Act.put, List.setIfInBounds_toArray, List.set_cons_zero, List.set_cons_succ])
          refine wpAnyL_take (i := 8) (v := ?_) rfl (by kernel_rfl) (by kernel_rfl) (by kernel_rfl) (by kernel_rfl) (fun _ _ _ h => h) hS (Or.inl ⟨by rfl, ?_⟩) ?_
          case refine_2 => (intro w hSw; (try dsimp only at hSw); go_simp; (try with_reducible rfl))
          (try simp only [Act.put, List.setIfInBounds_toArray, List.set_cons_zero, List.set_cons_succ])
          refine wpAnyL_take (i := 9) (v := ?_) rfl (by kernel_rfl) (by kernel_rfl) (by kernel_rfl) (by kernel_rfl) (fun _ _ _ h => h) hS (Or.inl ⟨by rfl, ?_⟩) ?_
          case refine_2 => (intro w hSw; (try dsimp only at hSw); go_simp; (try with_reducible rfl))
          (try simp only [Act.put, List.setIfInBounds_toArray, List.set_cons_zero, List.set_cons_succ])
          refine wpAnyL_take (i := 10) (v := ?_) rfl (by kernel_rfl) (by kernel_rfl) (by kernel_rfl) (by kernel_rfl) (fun _ _ _ h => h) hS (Or.inl ⟨by rfl, ?_⟩) ?_
          case refine_2 => (intro w hSw; (try dsimp only at hSw); go_simp; (try with_reducible rfl))
          (try simp only [Act.put, List.setIfInBounds_toArray, List.set_cons_zero, List.set_cons_succ])
          refine wpAnyL_take (i := 11) (v := ?_) rfl (by kernel_rfl) (by kernel_rfl) (by kernel_rfl) (by kernel_rfl) (fun _ _ _ h => h) hS (Or.inl ⟨by rfl, ?_⟩) ?_
          case refine_2 => (intro w hSw; (try dsimp only at hSw); go_simp; (try with_reducible rfl))
          (try simp only [Act.put, List.setIfInBounds_toArray, List.set_cons_zero, List.set_cons_succ])
          refine wpAnyL_take (i := 12) (v := ?_) rfl (by kernel_rfl) (by kernel_rfl) (by kernel_rfl) (by kernel_rfl) (fun _ _ _ h => h) hS (Or.inl ⟨by rfl, ?_⟩) ?_
          case refine_2 => (intro w hSw; (try dsimp only at hSw); go_simp; (try with_reducible rfl))
          (try simp only [Act.put, List.setIfInBounds_toArray, List.set_cons_zero, List.set_cons_succ])
          refine wpAnyL_one (i := 13) (by kernel_rfl) rfl (fun K hK => ?_)
          go_simp
          refine hK.out _ _ (fun h => absurd rfl h) ?_
          clear hK K
          refine wpAnyL_done (by kernel_rfl) ?_ _
          have HN : Hid (PSt w (wr.setCell ⟨w1.heap.size, 0, none⟩ (.int .i64 ((gk s 2 : Nat) : Int))).drew y w.heap.size w1.heap.size s (gk s 2) 0) := (HR.out.setG _).drew
          go_wp2_with fail
          go_roundw
          case rel => exact ⟨2, by omega, by go_num, HN⟩
          case measure => simp [intOf]
      · obtain rfl : k = 2 := by omega
        obtain ⟨w2, hw2⟩ : ∃ w2, w2 = wr := ⟨_, rfl⟩
        subst hw2
        have HR0 : Hid (PSt w w2 y w.heap.size w1.heap.size s (genS s) (rk s 0)) := HR.out
        clear HR
        go_wp2_with fail
        go_loopw [50] (fun i wr => ∃ k : Nat, k ≤ 4 ∧ i = .int .i64 k ∧ Hid (PSt w wr y w.heap.size w1.heap.size s (genS s) (rk s k))) (fun i _ => 4 - (intOf i).toNat)
        case atStart => exact ⟨0, by omega, rfl, HR0⟩
        case round =>
          have h3 := hs 3
          have h4 := hs 4
          have h5 := hs 5
          have h6 := hs 6
          obtain ⟨k, hk, rfl, HR⟩ := hrel
          clear HR0
          by_cases hlt : k < 4
          · obtain rfl | rfl | rfl | rfl : k = 0 ∨ k = 1 ∨ k = 2 ∨ k = 3 := by omega
            · have q0 := HR.out.par.c1
              have qf := HR.out.par.f1
              have q1 := HR.out.row 3 (by omega)
              have x1 : IntKind.i64.wrap 3 = 3 := by decide
              have x8 : IntKind.i64.wrap 0 = 0 := by decide
              have xs : IntKind.u32.wrap (s 3 : Int) = (s 3 : Int) := by rw [IntKind.wrap_u32']; omega
              have xo := (or_r s hs).1
              go_wp2_with fail
              refine wp_region_last (fun v => v.cell? ⟨w1.heap.size, 1, none⟩ = some (.int .u32 ((rk s 0 : Nat) : Int)) ∧ v.cell? ⟨y, 3, none⟩ = some (.int .u8 (s 3 : Int))) 13 (by kernel_rfl) ⟨q0, q1⟩ (fun hS => ?_)
              refine wpAnyL_take (i := 0) (v := ?_) rfl (by kernel_rfl) (by kernel_rfl) (by kernel_rfl) (by kernel_rfl) (fun _ _ _ h => h) hS (Or.inl ⟨by rfl, ?_⟩) ?_
              case refine_2 => (intro w hSw; (try dsimp only at hSw); go_simp; (try with_reducible rfl))
              (try simp only [Act.put, List.setIfInBounds_toArray, List.set_cons_zero, List.set_cons_succ])
              refine wpAnyL_take (i := 1) (v := ?_) rfl (by kernel_rfl) (by kernel_rfl) (by kernel_rfl) (by kernel_rfl) (fun _ _ _ h => h) hS (Or.inl ⟨by rfl, ?_⟩) ?_
              case refine_2 => (intro w hSw; (try dsimp only at hSw); go_simp; (try with_reducible rfl))
              (try simp only [Act.put, List.setIfInBounds_toArray, List.set_cons_zero, List.set_cons_succ])
              refine wpAnyL_take (i := 2) (v := ?_) rfl (by kernel_rfl) (by kernel_rfl) (by kernel_rfl) (by kernel_rfl) (fun _ _ _ h => h) hS (Or.inl ⟨by rfl, ?_⟩) ?_
              case refine_2 => (intro w hSw; (try dsimp only at hSw); go_simp; (try with_reducible rfl))
              (try simp only [Act.put, List.setIfInBounds_toArray, List.set_cons_zero, List.set_cons_succ])
              refine wpAnyL_take (i := 3) (v := ?_) rfl (by kernel_rfl) (by kernel_rfl) (by kernel_rfl) (by kernel_rfl) (fun _ _ _ h => h) hS (Or.inl ⟨by rfl, ?_⟩) ?_
              case refine_2 => (intro w hSw; (try dsimp only at hSw); go_simp; (try with_reducible rfl))
              (try simp only [Act.put, List.setIfInBounds_toArray, List.set_cons_zero, List.set_cons_succ])
              refine wpAnyL_take (i := 4) (v := ?_) rfl (by kernel_rfl) (by kernel_rfl) (by kernel_rfl) (by kernel_rfl) (fun _ _ _ h => h) hS (Or.inl ⟨by rfl, ?_⟩) ?_
              case refine_2 => (intro w hSw; (try dsimp only at hSw); go_simp; (try with_reducible rfl))
              (try simp only [Act.put, List.setIfInBounds_toArray, List.set_cons_zero, List.set_cons_succ])
              refine wpAnyL_take (i := 5) (v := ?_) rfl (by kernel_rfl) (by kernel_rfl) (by kernel_rfl) (by kernel_rfl) (fun _ _ _ h => h) hS (Or.inl ⟨by rfl, ?_⟩) ?_
              case refine_2 => (intro w hSw; (try dsimp only at hSw); go_simp; (try with_reducible rfl))
              (try simp only [Act.put, List.setIfInBounds_toArray, List.set_cons_zero, List.set_cons_succ])
              refine wpAnyL_take (i := 6) (v := ?_) rfl (by kernel_rfl) (by kernel_rfl) (by kernel_rfl) (by kernel_rfl) (fun _ _ _ h => h) hS (Or.inl ⟨by rfl, ?_⟩) ?_
              case refine_2 => (intro w hSw; (try dsimp only at hSw); go_simp; (try with_reducible rfl))
              (try simp only [Act.put, List.setIfInBounds_toArray, List.set_cons_zero, List.set_cons_succ])
              refine wpAnyL_take (i := 7) (v := ?_) rfl (by kernel_rfl) (by kernel_rfl) (by kernel_rfl) (by kernel_rfl) (fun _ _ _ h => h) hS (Or.inl ⟨by rfl, ?_⟩) ?_
              case refine_2 => (intro w hSw; (try dsimp only at hSw); go_simp; (try with_reducible rfl))
              (try simp only [Act.put, List.setIfInBounds_toArray, List.set_cons_zero, List.set_cons_succ])
              refine wpAnyL_take (i := 8) (v := ?_) rfl (by kernel_rfl) (by kernel_rfl) (by kernel_rfl) (by kernel_rfl) (fun _ _ _ h => h) hS (Or.inl ⟨by rfl, ?_⟩) ?_
              case refine_2 => (intro w hSw; (try dsimp only at hSw); go_simp; (try with_reducible rfl))
              (try simp only [Act.put, List.setIfInBounds_toArray, List.set_cons_zero, List.set_cons_succ])
              refine wpAnyL_take (i := 9) (v := ?_) rfl (by kernel_rfl) (by kernel_rfl) (by kernel_rfl) (by kernel_rfl) (fun _ _ _ h => h) hS (Or.inl ⟨by rfl, ?_⟩) ?_
              case refine_2 => (intro w hSw; (try dsimp only at hSw); go_simp; (try with_reducible rfl))
              (try simp only [Act.put, List.setIfInBounds_toArray, List.set_cons_zero, List.set_cons_succ])
              refine wpAnyL_take (i := 10) (v := ?_) rfl (by kernel_rfl) (by kernel_rfl) (by kernel_rfl) (by kernel_rfl) (fun _ _ _ h => h) hS (Or.inl ⟨by rfl, ?_⟩) ?_
              case refine_2 => (intro w hSw; (try dsimp only at hSw); go_simp; (try with_reducible rfl))
              (try simp only [Act.put, List.setIfInBounds_toArray, List.set_cons_zero, List.set_cons_succ])
              refine wpAnyL_take (i := 11) (v := ?_) rfl (by kernel_rfl) (by kernel_rfl) (by kernel_rfl) (by kernel_rfl) (fun _ _ _ h => h) hS (Or.inl ⟨by rfl, ?_⟩) ?_
              case refine_2 => (intro w hSw; (try dsimp only at hSw); go_simp; (try with_reducible rfl))
              (try simp only [Act.put, List.setIfInBounds_toArray, List.set_cons_zero, List.set_cons_succ])
              refine wpAnyL_take (i := 12) (v := ?_) rfl (by kernel_rfl) (by kernel_rfl) (by kernel_rfl) (by kernel_rfl) (fun _ _ _ h => h) hS (Or.inl ⟨by rfl, ?_⟩) ?_
              case refine_2 => (intro w hSw; (try dsimp only at hSw); go_simp; (try with_reducible rfl))
              (try simp only [Act.put, List.setIfInBounds_toArray, List.set_cons_zero, List.set_cons_succ])
              refine wpAnyL_one (i := 13) (by kernel_rfl) rfl (fun K hK => ?_)
              go_simp
              refine hK.out _ _ (fun h => absurd rfl h) ?_
              clear hK K
              refine wpAnyL_done (by kernel_rfl) ?_ _
              have HN : Hid (PSt w (wr.setCell ⟨w1.heap.size, 1, none⟩ (.int .u32 ((rk s 1 : Nat) : Int))).drew y w.heap.size w1.heap.size s (genS s) (rk s 1)) := (HR.out.setR _).drew
              go_wp2_with fail
              go_roundw
              case rel => exact ⟨_, _, _, _, _, _, _, _, _, _, _, _, _, _, _, _, _, _, ⟨1, by omega, by go_num, HN⟩, rfl⟩
              case measure => simp [intOf]
            · have q0 := HR.out.par.c1
              have qf := HR.out.par.f1
              have q1 := HR.out.row 4 (by omega)
              have x1 : IntKind.i64.wrap 4 = 4 := by decide
              have x8 : IntKind.i64.wrap 8 = 8 := by decide
              have xs : IntKind.u32.wrap (s 4 : Int) = (s 4 : Int) := by rw [IntKind.wrap_u32']; omega
              have xm : IntKind.u32.wrap ((s 4 : Int) * 256) = (s 4 : Int) * 256 := by rw [IntKind.wrap_u32']; omega
              have xo := (or_r s hs).2.1
              go_wp2_with fail
              refine wp_region_last (fun v => v.cell? ⟨w1.heap.size, 1, none⟩ = some (.int .u32 ((rk s 1 : Nat) : Int)) ∧ v.cell? ⟨y, 4, none⟩ = some (.int .u8 (s 4 : Int))) 13 (by kernel_rfl) ⟨q0, q1⟩ (fun hS => ?_)
              refine wpAnyL_take (i := 0) (v := ?_) rfl (by kernel_rfl) (by kernel_rfl) (by kernel_rfl) (by kernel_rfl) (fun _ _ _ h => h) hS (Or.inl ⟨by rfl, ?_⟩) ?_
              case refine_2 => (intro w hSw; (try dsimp only at hSw); go_simp; (try with_reducible rfl))
              (try simp only [Act.put, List.setIfInBounds_toArray, List.set_cons_zero, List.set_cons_succ])
              refine wpAnyL_take (i := 1) (v := ?_) rfl (by kernel_rfl) (by kernel_rfl) (by kernel_rfl) (by kernel_rfl) (fun _ _ _ h => h) hS (Or.inl ⟨by rfl, ?_⟩) ?_
              case refine_2 => (intro w hSw; (try dsimp only at hSw); go_simp; (try with_reducible rfl))
              (try simp only [Act.put, List.setIfInBounds_toArray, List.set_cons_zero, List.set_cons_succ])
              refine wpAnyL_take (i := 2) (v := ?_) rfl (by kernel_rfl) (by kernel_rfl) (by kernel_rfl) (by kernel_rfl) (fun _ _ _ h => h) hS (Or.inl ⟨by rfl, ?_⟩) ?_
              case refine_2 => (intro w hSw; (try dsimp only at hSw); go_simp; (try with_reducible rfl))
              (try simp only [Act.put, List.setIfInBounds_toArray, List.set_cons_zero, List.set_cons_succ])
              refine wpAnyL_take (i := 3) (v := ?_) rfl (by kernel_rfl) (by kernel_rfl) (by kernel_rfl) (by kernel_rfl) (fun _ _ _ h => h) hS (Or.inl ⟨by rfl, ?_⟩) ?_
              case refine_2 => (intro w hSw; (try dsimp only at hSw); go_simp; (try with_reducible rfl))
              (try simp only [Act.put, List.setIfInBounds_toArray, List.set_cons_zero, List.set_cons_succ])
              refine wpAnyL_take (i := 4) (v := ?_) rfl (by kernel_rfl) (by kernel_rfl) (by kernel_rfl) (by kernel_rfl) (fun _ _ _ h => h) hS (Or.inl ⟨by rfl, ?_⟩) ?_
              case refine_2 => (intro w hSw; (try dsimp only at hSw); go_simp; (try with_reducible rfl))
              (try simp only [Act.put, List.setIfInBounds_toArray, List.set_cons_zero, List.set_cons_succ])
              refine wpAnyL_take (i := 5) (v := ?_) rfl (by kernel_rfl) (by kernel_rfl) (by kernel_rfl) (by kernel_rfl) (fun _ _ _ h => h) hS (Or.inl ⟨by rfl, ?_⟩) ?_
              case refine_2 => (intro w hSw; (try dsimp only at hSw); go_simp; (try with_reducible rfl))
              (try simp only [Act.put, List.setIfInBounds_toArray, List.set_cons_zero, List.set_cons_succ])
              refine wpAnyL_take (i := 6) (v := ?_) rfl (by kernel_rfl) (by kernel_rfl) (by kernel_rfl) (by kernel_rfl) (fun _ _ _ h => h) hS (Or.inl ⟨by rfl, ?_⟩) ?_
              case refine_2 => (intro w hSw; (try dsimp only at hSw); go_simp; (try with_reducible rfl))
              (try simp only [Act.put, List.setIfInBounds_toArray, List.set_cons_zero, List.set_cons_succ])
              refine wpAnyL_take (i := 7) (v := ?_) rfl (by kernel_rfl) (by kernel_rfl) (by kernel_rfl) (by kernel_rfl) (fun _ _ _ h => h) hS (Or.inl ⟨by rfl, ?_⟩) ?_
              case refine_2 => (intro w hSw; (try dsimp only at hSw); go_simp; (try with_reducible rfl))
              (try simp only [Act.put, List.setIfInBounds_toArray, List.set_cons_zero, List.set_cons_succ])
              refine wpAnyL_take (i := 8) (v := ?_) rfl (by kernel_rfl) (by kernel_rfl) (by kernel_rfl) (by kernel_rfl) (fun _ _ _ h => h) hS (Or.inl ⟨by rfl, ?_⟩) ?_
              case refine_2 => (intro w hSw; (try dsimp only at hSw); go_simp; (try with_reducible rfl))
              (try simp only [Act.put, List.setIfInBounds_toArray, List.set_cons_zero, List.set_cons_succ])
              refine wpAnyL_take (i := 9) (v := ?_) rfl (by kernel_rfl) (by kernel_rfl) (by kernel_rfl) (by kernel_rfl) (fun _ _ _ h => h) hS (Or.inl ⟨by rfl, ?_⟩) ?_
              case refine_2 => (intro w hSw; (try dsimp only at hSw); go_simp; (try with_reducible rfl))
              (try simp only [Act.put, List.setIfInBounds_toArray, List.set_cons_zero, List.set_cons_succ])
              refine wpAnyL_take (i := 10) (v := ?_) rfl (by kernel_rfl) (by kernel_rfl) (by kernel_rfl) (by kernel_rfl) (fun _ _ _ h => h) hS (Or.inl ⟨by rfl, ?_⟩) ?_
              case refine_2 => (intro w hSw; (try dsimp only at hSw); go_simp; (try with_reducible rfl))
              (try simp only [Act.put, List.setIfInBounds_toArray, List.set_cons_zero, List.set_cons_succ])
              refine wpAnyL_take (i := 11) (v := ?_) rfl (by kernel_rfl) (by kernel_rfl) (by kernel_rfl) (by kernel_rfl) (fun _ _ _ h => h) hS (Or.inl ⟨by rfl, ?_⟩) ?_
              case refine_2 => (intro w hSw; (try dsimp only at hSw); go_simp; (try with_reducible rfl))
              (try simp only [Act.put, List.setIfInBounds_toArray, List.set_cons_zero, List.set_cons_succ])
              refine wpAnyL_take (i := 12) (v := ?_) rfl (by kernel_rfl) (by kernel_rfl) (by kernel_rfl) (by kernel_rfl) (fun _ _ _ h => h) hS (Or.inl ⟨by rfl, ?_⟩) ?_
              case refine_2 => (intro w hSw; (try dsimp only at hSw); go_simp; (try with_reducible rfl))
              (try simp only [Act.put, List.setIfInBounds_toArray, List.set_cons_zero, List.set_cons_succ])
              refine wpAnyL_one (i := 13) (by kernel_rfl) rfl (fun K hK => ?_)
              go_simp
              refine hK.out _ _ (fun h => absurd rfl h) ?_
              clear hK K
              refine wpAnyL_done (by kernel_rfl) ?_ _
              have HN : Hid (PSt w (wr.setCell ⟨w1.heap.size, 1, none⟩ (.int .u32 ((rk s 2 : Nat) : Int))).drew y w.heap.size w1.heap.size s (genS s) (rk s 2)) := (HR.out.setR _).drew
              go_wp2_with fail
              go_roundw
              case rel => exact ⟨_, _, _, _, _, _, _, _, _, _, _, _, _, _, _, _, _, _, ⟨2, by omega, by go_num, HN⟩, rfl⟩
              case measure => simp [intOf]
            · have q0 := HR.out.par.c1
              have qf := HR.out.par.f1
              have q1 := HR.out.row 5 (by omega)
              have x1 : IntKind.i64.wrap 5 = 5 := by decide
              have x8 : IntKind.i64.wrap 16 = 16 := by decide
              have xs : IntKind.u32.wrap (s 5 : Int) = (s 5 : Int) := by rw [IntKind.wrap_u32']; omega
              have xm : IntKind.u32.wrap ((s 5 : Int) * 65536) = (s 5 : Int) * 65536 := by rw [IntKind.wrap_u32']; omega
              have xo := (or_r s hs).2.2.1
              go_wp2_with fail
              refine wp_region_last (fun v => v.cell? ⟨w1.heap.size, 1, none⟩ = some (.int .u32 ((rk s 2 : Nat) : Int)) ∧ v.cell? ⟨y, 5, none⟩ = some (.int .u8 (s 5 : Int))) 13 (by kernel_rfl) ⟨q0, q1⟩ (fun hS => ?_)
              refine wpAnyL_take (i := 0) (v := ?_) rfl (by kernel_rfl) (by kernel_rfl) (by kernel_rfl) (by kernel_rfl) (fun _ _ _ h => h) hS (Or.inl ⟨by rfl, ?_⟩) ?_
              case refine_2 => (intro w hSw; (try dsimp only at hSw); go_simp; (try with_reducible rfl))
              (try simp only [Act.put, List.setIfInBounds_toArray, List.set_cons_zero, List.set_cons_succ])
              refine wpAnyL_take (i := 1) (v := ?_) rfl (by kernel_rfl) (by kernel_rfl) (by kernel_rfl) (by kernel_rfl) (fun _ _ _ h => h) hS (Or.inl ⟨by rfl, ?_⟩) ?_
              case refine_2 => (intro w hSw; (try dsimp only at hSw); go_simp; (try with_reducible rfl))
              (try simp only [Act.put, List.setIfInBounds_toArray, List.set_cons_zero, List.set_cons_succ])
              refine wpAnyL_take (i := 2) (v := ?_) rfl (by kernel_rfl) (by kernel_rfl) (by kernel_rfl) (by kernel_rfl) (fun _ _ _ h => h) hS (Or.inl ⟨by rfl, ?_⟩) ?_
              case refine_2 => (intro w hSw; (try dsimp only at hSw); go_simp; (try with_reducible rfl))
              (try simp only [Act.put, List.setIfInBounds_toArray, List.set_cons_zero, List.set_cons_succ])
              refine wpAnyL_take (i := 3) (v := ?_) rfl (by kernel_rfl) (by kernel_rfl) (by kernel_rfl) (by kernel_rfl) (fun _ _ _ h => h) hS (Or.inl ⟨by rfl, ?_⟩) ?_
              case refine_2 => (intro w hSw; (try dsimp only at hSw); go_simp; (try with_reducible rfl))
              (try simp only [Act.put, List.setIfInBounds_toArray, List.set_cons_zero, List.set_cons_succ])
              refine wpAnyL_take (i := 4) (v := ?_) rfl (by kernel_rfl) (by kernel_rfl) (by kernel_rfl) (by kernel_rfl) (fun _ _ _ h => h) hS (Or.inl ⟨by rfl, ?_⟩) ?_
              case refine_2 => (intro w hSw; (try dsimp only at hSw); go_simp; (try with_reducible rfl))
              (try simp only [Act.put, List.setIfInBounds_toArray, List.set_cons_zero, List.set_cons_succ])
              refine wpAnyL_take (i := 5) (v := ?_) rfl (by kernel_rfl) (by kernel_rfl) (by kernel_rfl) (by kernel_rfl) (fun _ _ _ h => h) hS (Or.inl ⟨by rfl, ?_⟩) ?_
              case refine_2 => (intro w hSw; (try dsimp only at hSw); go_simp; (try with_reducible rfl))
              (try simp only [Act.put, List.setIfInBounds_toArray, List.set_cons_zero, List.set_cons_succ])
              refine wpAnyL_take (i := 6) (v := ?_) rfl (by kernel_rfl) (by kernel_rfl) (by kernel_rfl) (by kernel_rfl) (fun _ _ _ h => h) hS (Or.inl ⟨by rfl, ?_⟩) ?_
              case refine_2 => (intro w hSw; (try dsimp only at hSw); go_simp; (try with_reducible rfl))
              (try simp only [Act.put, List.setIfInBounds_toArray, List.set_cons_zero, List.set_cons_succ])
              refine wpAnyL_take (i := 7) (v := ?_) rfl (by kernel_rfl) (by kernel_rfl) (by kernel_rfl) (by kernel_rfl) (fun _ _ _ h => h) hS (Or.inl ⟨by rfl, ?_⟩) ?_
              case refine_2 => (intro w hSw; (try dsimp only at hSw); go_simp; (try with_reducible rfl))
              (try simp only [Act.put, List.setIfInBounds_toArray, List.set_cons_zero, List.set_cons_succ])
              refine wpAnyL_take (i := 8) (v := ?_) rfl (by kernel_rfl) (by kernel_rfl) (by kernel_rfl) (by kernel_rfl) (fun _ _ _ h => h) hS (Or.inl ⟨by rfl, ?_⟩) ?_
              case refine_2 => (intro w hSw; (try dsimp only at hSw); go_simp; (try with_reducible rfl))
              (try simp only [Act.put, List.setIfInBounds_toArray, List.set_cons_zero, List.set_cons_succ])
              refine wpAnyL_take (i := 9) (v := ?_) rfl (by kernel_rfl) (by kernel_rfl) (by kernel_rfl) (by kernel_rfl) (fun _ _ _ h => h) hS (Or.inl ⟨by rfl, ?_⟩) ?_
              case refine_2 => (intro w hSw; (try dsimp only at hSw); go_simp; (try with_reducible rfl))
              (try simp only [Act.put, List.setIfInBounds_toArray, List.set_cons_zero, List.set_cons_succ])
              refine wpAnyL_take (i := 10) (v := ?_) rfl (by kernel_rfl) (by kernel_rfl) (by kernel_rfl) (by kernel_rfl) (fun _ _ _ h => h) hS (Or.inl ⟨by rfl, ?_⟩) ?_
              case refine_2 => (intro w hSw; (try dsimp only at hSw); go_simp; (try with_reducible rfl))
              (try simp only [Act.put, List.setIfInBounds_toArray, List.set_cons_zero, List.set_cons_succ])
              refine wpAnyL_take (i := 11) (v := ?_) rfl (by kernel_rfl) (by kernel_rfl) (by kernel_rfl) (by kernel_rfl) (fun _ _ _ h => h) hS (Or.inl ⟨by rfl, ?_⟩) ?_
              case refine_2 => (intro w hSw; (try dsimp only at hSw); go_simp; (try with_reducible rfl))
              (try simp only [Act.put, List.setIfInBounds_toArray, List.set_cons_zero, List.set_cons_succ])
              refine wpAnyL_take (i := 12) (v := ?_) rfl (by kernel_rfl) (by kernel_rfl) (by kernel_rfl) (by kernel_rfl) (fun _ _ _ h => h) hS (Or.inl ⟨by rfl, ?_⟩) ?_
              case refine_2 => (intro w hSw; (try dsimp only at hSw); go_simp; (try with_reducible rfl))
              (try simp only [Act.put, List.setIfInBounds_toArray, List.set_cons_zero, List.set_cons_succ])
              refine wpAnyL_one (i := 13) (by kernel_rfl) rfl (fun K hK => ?_)
              go_simp
              refine hK.out _ _ (fun h => absurd rfl h) ?_
              clear hK K
              refine wpAnyL_done (by kernel_rfl) ?_ _
              have HN : Hid (PSt w (wr.setCell ⟨w1.heap.size, 1, none⟩ (.int .u32 ((rk s 3 : Nat) : Int))).drew y w.heap.size w1.heap.size s (genS s) (rk s 3)) := (HR.out.setR _).drew
              go_wp2_with fail
              go_roundw
              case rel => exact ⟨_, _, _, _, _, _, _, _, _, _, _, _, _, _, _, _, _, _, ⟨3, by omega, by go_num, HN⟩, rfl⟩
              case measure => simp [intOf]
            · have q0 := HR.out.par.c1
              have qf := HR.out.par.f1
              have q1 := HR.out.row 6 (by omega)
              have x1 : IntKind.i64.wrap 6 = 6 := by decide
              have x8 : IntKind.i64.wrap 24 = 24 := by decide
              have xs : IntKind.u32.wrap (s 6 : Int) = (s 6 : Int) := by rw [IntKind.wrap_u32']; omega
              have xm : IntKind.u32.wrap ((s 6 : Int) * 16777216) = (s 6 : Int) * 16777216 := by rw [IntKind.wrap_u32']; omega
              have xo := (or_r s hs).2.2.2
              go_wp2_with fail
              refine wp_region_last (fun v => v.cell? ⟨w1.heap.size, 1, none⟩ = some (.int .u32 ((rk s 3 : Nat) : Int)) ∧ v.cell? ⟨y, 6, none⟩ = some (.int .u8 (s 6 : Int))) 13 (by kernel_rfl) ⟨q0, q1⟩ (fun hS => ?_)
              refine wpAnyL_take (i := 0) (v := ?_) rfl (by kernel_rfl) (by kernel_rfl) (by kernel_rfl) (by kernel_rfl) (fun _ _ _ h => h) hS (Or.inl ⟨by rfl, ?_⟩) ?_
              case refine_2 => (intro w hSw; (try dsimp only at hSw); go_simp; (try with_reducible rfl))
              (try simp only [Act.put, List.setIfInBounds_toArray, List.set_cons_zero, List.set_cons_succ])
              refine wpAnyL_take (i := 1) (v := ?_) rfl (by kernel_rfl) (by kernel_rfl) (by kernel_rfl) (by kernel_rfl) (fun _ _ _ h => h) hS (Or.inl ⟨by rfl, ?_⟩) ?_
              case refine_2 => (intro w hSw; (try dsimp only at hSw); go_simp; (try with_reducible rfl))
              (try simp only [Act.put, List.setIfInBounds_toArray, List.set_cons_zero, List.set_cons_succ])
              refine wpAnyL_take (i := 2) (v := ?_) rfl (by kernel_rfl) (by kernel_rfl) (by kernel_rfl) (by kernel_rfl) (fun _ _ _ h => h) hS (Or.inl ⟨by rfl, ?_⟩) ?_
              case refine_2 => (intro w hSw; (try dsimp only at hSw); go_simp; (try with_reducible rfl))
              (try simp only [Act.put, List.setIfInBounds_toArray, List.set_cons_zero, List.set_cons_succ])
              refine wpAnyL_take (i := 3) (v := ?_) rfl (by kernel_rfl) (by kernel_rfl) (by kernel_rfl) (by kernel_rfl) (fun _ _ _ h => h) hS (Or.inl ⟨by rfl, ?_⟩) ?_
              case refine_2 => (intro w hSw; (try dsimp only at hSw); go_simp; (try with_reducible rfl))
              (try simp only [Act.put, List.setIfInBounds_toArray, List.set_cons_zero, List.set_cons_succ])
              refine wpAnyL_take (i := 4) (v := ?_) rfl (by kernel_rfl) (by kernel_rfl) (by kernel_rfl) (by kernel_rfl) (fun _ _ _ h => h) hS (Or.inl ⟨by rfl, ?_⟩) ?_
              case refine_2 => (intro w hSw; (try dsimp only at hSw); go_simp; (try with_reducible rfl))
              (try simp only [Act.put, List.setIfInBounds_toArray, List.set_cons_zero, List.set_cons_succ])
              refine wpAnyL_take (i := 5) (v := ?_) rfl (by kernel_rfl) (by kernel_rfl) (by kernel_rfl) (by kernel_rfl) (fun _ _ _ h => h) hS (Or.inl ⟨by rfl, ?_⟩) ?_
              case refine_2 => (intro w hSw; (try dsimp only at hSw); go_simp; (try with_reducible rfl))
              (try simp only [Act.put, List.setIfInBounds_toArray, List.set_cons_zero, List.set_cons_succ])
              refine wpAnyL_take (i := 6) (v := ?_) rfl (by kernel_rfl) (by kernel_rfl) (by kernel_rfl) (by kernel_rfl) (fun _ _ _ h => h) hS (Or.inl ⟨by rfl, ?_⟩) ?_
              case refine_2 => (intro w hSw; (try dsimp only at hSw); go_simp; (try with_reducible rfl))
              (try simp only [Act.put, List.setIfInBounds_toArray, List.set_cons_zero, List.set_cons_succ])
              refine wpAnyL_take (i := 7) (v := ?_) rfl (by kernel_rfl) (by kernel_rfl) (by kernel_rfl) (by kernel_rfl) (fun _ _ _ h => h) hS (Or.inl ⟨by rfl, ?_⟩) ?_
              case refine_2 => (intro w hSw; (try dsimp only at hSw); go_simp; (try with_reducible rfl))
              (try simp only [Act.put, List.setIfInBounds_toArray, List.set_cons_zero, List.set_cons_succ])
              refine wpAnyL_take (i := 8) (v := ?_) rfl (by kernel_rfl) (by kernel_rfl) (by kernel_rfl) (by kernel_rfl) (fun _ _ _ h => h) hS (Or.inl ⟨by rfl, ?_⟩) ?_
              case refine_2 => (intro w hSw; (try dsimp only at hSw); go_simp; (try with_reducible rfl))
              (try simp only [Act.put, List.setIfInBounds_toArray, List.set_cons_zero, List.set_cons_succ])
              refine wpAnyL_take (i := 9) (v := ?_) rfl (by kernel_rfl) (by kernel_rfl) (by kernel_rfl) (by kernel_rfl) (fun _ _ _ h => h) hS (Or.inl ⟨by rfl, ?_⟩) ?_
              case refine_2 => (intro w hSw; (try dsimp only at hSw); go_simp; (try with_reducible rfl))
              (try simp only [Act.put, List.setIfInBounds_toArray, List.set_cons_zero, List.set_cons_succ])
              refine wpAnyL_take (i := 10) (v := ?_) rfl (by kernel_rfl) (by kernel_rfl) (by kernel_rfl) (by kernel_rfl) (fun _ _ _ h => h) hS (Or.inl ⟨by rfl, ?_⟩) ?_
              case refine_2 => (intro w hSw; (try dsimp only at hSw); go_simp; (try with_reducible rfl))
              (try simp only [Act.put, List.setIfInBounds_toArray, List.set_cons_zero, List.set_cons_succ])
              refine wpAnyL_take (i := 11) (v := ?_) rfl (by kernel_rfl) (by kernel_rfl) (by kernel_rfl) (by kernel_rfl) (fun _ _ _ h => h) hS (Or.inl ⟨by rfl, ?_⟩) ?_
              case refine_2 => (intro w hSw; (try dsimp only at hSw); go_simp; (try with_reducible rfl))
              (try simp only [Act.put, List.setIfInBounds_toArray, List.set_cons_zero, List.set_cons_succ])
              refine wpAnyL_take (i := 12) (v := ?_) rfl (by kernel_rfl) (by kernel_rfl) (by kernel_rfl) (by kernel_rfl) (fun _ _ _ h => h) hS (Or.inl ⟨by rfl, ?_⟩) ?_
              case refine_2 => (intro w hSw; (try dsimp only at hSw); go_simp; (try with_reducible rfl))
              (try simp only [Act.put, List.setIfInBounds_toArray, List.set_cons_zero, List.set_cons_succ])
              refine wpAnyL_one (i := 13) (by kernel_rfl) rfl (fun K hK => ?_)
              go_simp
              refine hK.out _ _ (fun h => absurd rfl h) ?_
              clear hK K
              refine wpAnyL_done (by kernel_rfl) ?_ _
              have HN : Hid (PSt w (wr.setCell ⟨w1.heap.size, 1, none⟩ (.int .u32 ((rk s 4 : Nat) : Int))).drew y w.heap.size w1.heap.size s (genS s) (rk s 4)) := (HR.out.setR _).drew
              go_wp2_with fail
              go_roundw
              case rel => exact ⟨_, _, _, _, _, _, _, _, _, _, _, _, _, _, _, _, _, _, ⟨4, by omega, by go_num, HN⟩, rfl⟩
              case measure => simp [intOf]
          · obtain rfl : k = 4 := by omega
            obtain ⟨w3, hw3⟩ : ∃ w3, w3 = wr := ⟨_, rfl⟩
            subst hw3
            have HP : Hid (PSt w w3 y w.heap.size w1.heap.size s (genS s) (num s)) := HR.out
            clear HR
            obtain ⟨d0, d1, d2, d3, d4, g0, g1, g2, g3, g4⟩ := HP.out.par
            obtain ⟨c0, c1, c2, c3, c4, f0, f1, f2, f3, f4⟩ := HP.out.res
            have k8 := HP.out.row 8 (by omega)
            have hpq := HP.out.pq
            have hqp : w1.heap.size ≠ w.heap.size := Ne.symm hpq
            have hn51 : cnt s < 128 := Nat.mod_lt _ (by omega)
            have e9 : (s 8 : Int) % 128 = (cnt s : Int) := by unfold cnt; omega
            have e9' : (s 8 : Int).tmod 128 = (cnt s : Int) := by rw [Int.tmod_eq_emod_of_nonneg (by omega)]; exact e9
            by_cases hcb : canB (s 7) (cnt s) (lst s)
            · have hcan : ∀ v, Calls Tryz.prog 92 #[.int .i64 (s 7 : Int), .int .i64 (cnt s : Int), .bool (lst s)] v fun e w' => e = .returned (.bool true) ∧ w' = v := fun v => canbe_any (s 7) (cnt s) (lst s) true v (by omega) (by omega) (iff_of_true hcb rfl)
              have hn5 := canB_le hcb
              obtain ⟨d, hd⟩ : ∃ d, d = 9 + cnt s := ⟨_, rfl⟩
              have Hd := hid hd
              have hdi : (9 : Int) + (cnt s : Int) = (d : Int) := by omega
              have hd6 : d ≤ 60 := by omega
              have hcy := HCY.out
              have hrow : RowAt w3 (some ⟨y, 0, none⟩) 60 s := .inr ⟨y, 0, rfl, HP.out.yl, fun i hi => by rw [Nat.zero_add]; exact HP.out.row i hi⟩
              obtain ⟨x', hcut, hx'⟩ := cut_from y 0 60 cy d w3 s hrow hd6 hcy
              have hdata : ∀ v, (Instr.slice 22 (.slice (some ⟨y, 0, none⟩) 60 cy) (some (.int .i64 9)) (some (.int .i64 (d : Int))) none).run Tryz.prog v = .ok (.slice (some ⟨y, 9, none⟩) (d - 9) (cy - 9)) v := fun v => by
                have := cut_lh y 0 60 cy 9 d v (by omega) (by omega) (by omega)
                rwa [Nat.zero_add] at this
              rw [show d - 9 = cnt s by omega] at hdata
              by_cases hz : ∀ i, 9 + cnt s ≤ i → i < 60 → s i = 0
              · have hok : OkP s := ⟨he, hm, hcb, hz⟩
                have haz : Calls Tryz.prog 93 #[.slice x' (60 - d) (cy - d)] w3 fun e w' => e = .returned (.bool true) ∧ w' = w3 := allzero_any x' (60 - d) (cy - d) _ true w3 hx' (by omega) (fun _ => rfl) (fun h => absurd (fun i hi => hz _ (by omega) (by omega)) h)
                clear hx' hrow hcb hz hd HM
                have HC9 : Hid (cnt s ≤ cy - 9) := show cnt s ≤ cy - 9 by have := Hd.out; omega
                generalize 60 - d = L at *
                generalize cy - d = C at *
                generalize cy - 9 = C9 at *
                go_wp2_with (first
                  | (go_at_call 92; refine (hcan _).mono ?_; rintro e w' ⟨rfl, hw⟩; subst w'; clear hcan)
                  | (go_at_call 93; refine haz.mono ?_; rintro e w' ⟨rfl, hw⟩; subst w'; clear haz))
                have HF : Hid (Below w.heap.size w ((((((w3.setCell ⟨w1.heap.size, 4, none⟩ (.slice (some ⟨y, 9, none⟩) (cnt s) C9)).setCell ⟨w.heap.size, 0, none⟩ (.int .i64 (genS s : Int))).setCell ⟨w.heap.size, 1, none⟩ (.int .u32 (num s : Int))).setCell ⟨w.heap.size, 2, none⟩ (.int .i64 (s 7 : Int))).setCell ⟨w.heap.size, 3, none⟩ (.bool (lst s))).setCell ⟨w.heap.size, 4, none⟩ (.slice (some ⟨y, 9, none⟩) (cnt s) C9)) ∧
                    RowAt ((((((w3.setCell ⟨w1.heap.size, 4, none⟩ (.slice (some ⟨y, 9, none⟩) (cnt s) C9)).setCell ⟨w.heap.size, 0, none⟩ (.int .i64 (genS s : Int))).setCell ⟨w.heap.size, 1, none⟩ (.int .u32 (num s : Int))).setCell ⟨w.heap.size, 2, none⟩ (.int .i64 (s 7 : Int))).setCell ⟨w.heap.size, 3, none⟩ (.bool (lst s))).setCell ⟨w.heap.size, 4, none⟩ (.slice (some ⟨y, 9, none⟩) (cnt s) C9)) (some ⟨y, 9, none⟩) (cnt s) (fun i => s (9 + i))) := by
                  refine ⟨below_five (HP.out.bel.setCell (p := ⟨w1.heap.size, 4, none⟩) HP.out.iq _) (Nat.le_refl _) _ _ _ _ _, .inr ⟨y, 9, rfl, by simpa [World.setCell] using HP.out.yl, fun i hi => ?_⟩⟩
                  rw [cell_off (by intro e; injection e; omega), cell_off (by intro e; injection e; omega), cell_off (by intro e; injection e; omega), cell_off (by intro e; injection e; omega), cell_off (by intro e; injection e; omega), cell_off (by intro e; injection e; omega)]
                  exact HP.out.row _ (by omega)
                refine bodyPost_ret (v := .tuple #[.agg #[.int .i64 (genS s : Int), .int .u32 (num s : Int), .int .i64 (s 7 : Int), .bool (lst s), .slice (some ⟨y, 9, none⟩) (cnt s) C9], .bool true]) ?_ rfl ?_
                · rw [results_cell_tmp rfl]; go_simp
                · exact ⟨fun h => absurd hok h, fun _ => ⟨y, C9, rfl, HF.out.1, HF.out.2, HC9.out⟩⟩
              · have hno : ¬ OkP s := fun h => hz h.zero
                have haz : Calls Tryz.prog 93 #[.slice x' (60 - d) (cy - d)] w3 fun e w' => e = .returned (.bool false) ∧ w' = w3 := allzero_any x' (60 - d) (cy - d) _ false w3 hx' (by omega) (fun h => absurd (fun i h1 h2 => by have := h (i - d) (by omega); rwa [show d + (i - d) = i by omega] at this) hz) (fun _ => rfl)
                clear hx' hrow hcb hz hd HM
                generalize 60 - d = L at *
                generalize cy - d = C at *
                go_wp2_with (first
                  | (go_at_call 92; refine (hcan _).mono ?_; rintro e w' ⟨rfl, hw⟩; subst w'; clear hcan)
                  | (go_at_call 93; refine haz.mono ?_; rintro e w' ⟨rfl, hw⟩; subst w'; clear haz))
                refine bodyPost_ret (v := .tuple #[noPart, .bool false]) ?_ rfl ?_
                · rw [results_cell_tmp rfl]; go_simp; rfl
                · exact ⟨fun _ => ⟨rfl, below_five HP.out.bel (Nat.le_refl _) _ _ _ _ _⟩, fun h => absurd h hno⟩
            · have hno : ¬ OkP s := fun h => hcb h.can
              have hcan : ∀ v, Calls Tryz.prog 92 #[.int .i64 (s 7 : Int), .int .i64 (cnt s : Int), .bool (lst s)] v fun e w' => e = .returned (.bool false) ∧ w' = v := fun v => canbe_any (s 7) (cnt s) (lst s) false v (by omega) (by omega) (iff_of_false hcb (by decide))
              clear HM hcb
              go_wp2_with (first
                | (go_at_call 92; refine (hcan _).mono ?_; rintro e w' ⟨rfl, hw⟩; subst w'; clear hcan))
              refine bodyPost_ret (v := .tuple #[noPart, .bool false]) ?_ rfl ?_
              · rw [results_cell_tmp rfl]; go_simp; rfl
              · exact ⟨fun _ => ⟨rfl, below_five HP.out.bel (Nat.le_refl _) _ _ _ _ _⟩, fun h => absurd h hno⟩
  · have hno := HM hm
    have hm' : ((s 0 : Int) != 74) = true := by
      rw [bne_iff_ne]
      omega
    clear HM
    go_enter Tryz.func80, Tryz.ntmps80
    go_wp2_with ((go_at_call 91; refine hst.mono ?_; rintro e w1 ⟨y, cy, rfl, HB⟩; clear hst
                  have k0 := HB.out.2.1 0 (by omega)
                  obtain ⟨c0, c1, c2, c3, c4, f0, f1, f2, f3, f4⟩ := HB.out.2.2.2.2.2))
    refine bodyPost_ret (v := .tuple #[noPart, .bool false]) ?_ rfl ?_
    · rw [results_cell_tmp rfl]; go_simp; rfl
    · exact ⟨fun _ => ⟨rfl, below_five HB.out.1 (Nat.le_refl _) _ _ _ _ _⟩, fun h => absurd h hno⟩

theorem partof_no (b o c : Nat) (s : Nat → Nat) (w : World) (hs : ∀ i, s i < 256) (hc : 64 ≤ c) (h : RowAt w (some ⟨b, o, none⟩) 64 s) (hno : ¬ OkP s) :
    Calls Tryz.prog 80 #[.slice (some ⟨b, o, none⟩) 64 c] w fun e w' => e = .returned (.tuple #[noPart, .bool false]) ∧ Below w.heap.size w w' := by
  by_cases he : Ends s 60
  · exact (partof_rest b o c s w hs hc h he).mono fun e w' h => h.1 hno
  · exact partof_sum b o c s w hs hc h he

theorem partof_yes (b o c : Nat) (s : Nat → Nat) (w : World) (hs : ∀ i, s i < 256) (hc : 64 ≤ c) (h : RowAt w (some ⟨b, o, none⟩) 64 s) (hok : OkP s) :
    Calls Tryz.prog 80 #[.slice (some ⟨b, o, none⟩) 64 c] w fun e w' => ∃ y cy, e = .returned (.tuple #[.agg #[.int .i64 (genS s : Int), .int .u32 (num s : Int), .int .i64 (s 7 : Int), .bool (lst s), .slice (some ⟨y, 9, none⟩) (cnt s) cy], .bool true]) ∧ Below w.heap.size w w' ∧ RowAt w' (some ⟨y, 9, none⟩) (cnt s) (fun i => s (9 + i)) ∧ cnt s ≤ cy :=
  (partof_rest b o c s w hs hc h hok.ends).mono fun e w' h => h.2 hok

end Go.Proofs.YtbbjklenpgkooaaGreat

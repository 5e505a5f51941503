/-
  Package straw: who draws, what it draws; and the document's draw.
  Conditions: numbers of 32 bits; what a number of 64 bits can be.
-/
import Derived.Test.YtgfjmkjgagogpaaGreatSrMem
import Derived.Test.YtgfjmkjgagogpaaGreatMiHash
import Derived.Test.YtgfjmkjgagogpaaGreatMiRefLog
namespace Go.Proofs.YtgfjmkjgagogpaaGreat.Sr
open Go.RowKit By Fl Mi
set_option linter.unusedVariables false
set_option linter.unusedSimpArgs false
set_option maxRecDepth 100000

/- draws(w). -/
theorem draws_any (a : Wd) (w : World) : Calls Tryz.prog 123 #[vW a] w fun e w' => e = .returned (.bool (okB a)) ∧ Below w.heap.size w w' := by
  obtain ⟨id, wt⟩ := a
  unfold vW okB
  dsimp only
  have b0 := al w (.cells #[.int .i64 id, .int .i64 wt] 98)
  by_cases h1 : 1 ≤ wt
  · by_cases h2 : wt ≤ 1073741824
    · go_enter Tryz.func123, Tryz.ntmps123
      go_wp2_with fail
      go_ret
      exact ⟨by rw [decide_eq_true ⟨h1, h2⟩]; rfl, b0⟩
    · have h3 : decide (wt ≤ 1073741824) = false := decide_eq_false h2
      go_enter Tryz.func123, Tryz.ntmps123
      go_wp2_with fail
      go_ret
      exact ⟨rfl, b0⟩
  · have h3 : decide (1 ≤ wt) = false := decide_eq_false h1
    go_enter Tryz.func123, Tryz.ntmps123
    go_wp2_with fail
    go_ret
    exact ⟨rfl, b0⟩

theorem draw_no (a : Wd) (x r : Nat) (w : World) (h : okB a = false) :
    Calls Tryz.prog 112 #[vW a, .int .u32 (x : Nat), .int .u32 (r : Nat)] w fun e w' => e = .returned (.tuple #[.int .i64 0, .bool false]) ∧ Below w.heap.size w w' := by
  have c1 := fun W => draws_any a W
  rw [h] at c1
  clear h
  obtain ⟨id, wt⟩ := a
  unfold vW at c1 ⊢
  dsimp only at c1 ⊢
  have b0 := al w (.cells #[.int .i64 id, .int .i64 wt] 98)
  go_enter Tryz.func112, Tryz.ntmps112
  go_wp2_with (go_at_call 123; refine (c1 _).mono ?_; rintro e w1 ⟨rfl, hb1⟩)
  go_ret2
  exact ⟨rfl, on b0 hb1⟩

theorem draw_yes (a : Wd) (x r : Nat) (w : World) (hx : x < 4294967296) (hr : r < 4294967296) (h : okB a = true) :
    Calls Tryz.prog 112 #[vW a, .int .u32 (x : Nat), .int .u32 (r : Nat)] w fun e w' => e = .returned (.tuple #[.int .i64 (dr x r a : Nat), .bool true]) ∧ Below w.heap.size w w' := by
  have c1 := fun W => draws_any a W
  rw [h] at c1
  have hok : 1 ≤ a.wt ∧ a.wt ≤ 1073741824 := of_decide_eq_true h
  clear h
  obtain ⟨id, wt⟩ := a
  dsimp only at hok
  obtain ⟨k1, k2⟩ := hok
  have c2 := fun W => hash3_any x (idm id) r W hx (idm_lt id) hr
  have c3 := fun W => log_yes (up x r id + 1) W (by omega) (by have := up_lt x r id; omega)
  have hl := lo_le x r id
  have hu := up_lt x r id
  have hh := h3_lt x (idm id) r
  have e1 := idm_eq id
  have e2 : ((h3 x (idm id) r : Nat) : Int) % 65536 = ((up x r id : Nat) : Int) := by unfold up; omega
  have e3 : ((h3 x (idm id) r : Nat) : Int).tmod 65536 = ((up x r id : Nat) : Int) := by rw [Int.tmod_eq_emod_of_nonneg (by omega)]; exact e2
  have hm := idm_lt id
  unfold dr
  obtain ⟨wn, rfl⟩ := Int.eq_ofNat_of_zero_le (show 0 ≤ wt by omega)
  dsimp only [Int.toNat_natCast]
  have HD : Hid ((((268435456 - lo x r id) * 65536 / wn : Nat) : Int) = (268435456 - (lo x r id : Int)) * 65536 / (wn : Int)) := by
    have : (((268435456 - lo x r id) * 65536 / wn : Nat) : Int) = (268435456 - (lo x r id : Int)) * 65536 / (wn : Int) := by
      rw [Int.natCast_ediv, Int.natCast_mul, Int.natCast_sub hl]
      rfl
    exact this
  have c3' : ∀ W : World, Calls Tryz.prog 125 #[.int .i64 ((up x r id : Int) + 1)] W fun e w' => e = .returned (.tuple #[.int .i64 (lo x r id : Int), .bool true]) ∧ w' = W := fun W => c3 W
  clear c3
  unfold vW at c1 ⊢
  dsimp only at c1 ⊢
  generalize ((268435456 - lo x r id) * 65536 / wn) = D at *
  generalize h3 x (idm id) r = H at *
  generalize idm id = I at *
  generalize up x r id = U at *
  generalize lo x r id = L at *
  have b0 := al w (.cells #[.int .i64 id, .int .i64 (wn : Int)] 98)
  have q0 : (w.alloc (.cells #[.int .i64 id, .int .i64 (wn : Int)] 98)).cell? ⟨w.heap.size, 0, none⟩ = some (.int .i64 id) := by go_simp
  have q1 : (w.alloc (.cells #[.int .i64 id, .int .i64 (wn : Int)] 98)).cell? ⟨w.heap.size, 1, none⟩ = some (.int .i64 (wn : Int)) := by go_simp
  go_enter Tryz.func112, Tryz.ntmps112
  go_wp2_with (first
    | (go_at_call 123; refine (c1 _).mono ?_; rintro e w1 ⟨rfl, hb1⟩; have p0 := keep hb1 q0; have p1 := keep hb1 q1)
    | (go_at_call 124; refine (c2 _).mono ?_; rintro e w2 ⟨rfl, rfl⟩)
    | (go_at_call 125; refine (c3' _).mono ?_; rintro e w2 ⟨rfl, rfl⟩))
  go_ret2
  exact ⟨by rw [HD.out]; rfl, on b0 hb1⟩

theorem rdraw_no (a : Wd) (x r : Nat) (w : World) (h : okB a = false) :
    Calls Tryz.prog 87 #[vW a, .int .u32 (x : Nat), .int .u32 (r : Nat)] w fun e w' => e = .returned (.tuple #[.int .i64 0, .bool false]) ∧ Below w.heap.size w w' := by
  have hok : ¬ (1 ≤ a.wt ∧ a.wt ≤ 1073741824) := of_decide_eq_false h
  clear h
  obtain ⟨id, wt⟩ := a
  unfold vW
  dsimp only at hok ⊢
  have b0 := al w (.cells #[.int .i64 id, .int .i64 wt] 98)
  by_cases h1 : wt < 1
  · clear hok
    go_enter Tryz.func87, Tryz.ntmps87
    go_wp2_with fail
    go_ret2
    exact ⟨rfl, b0⟩
  · have h2 : 1073741824 < wt := by omega
    have h3 : 1 ≤ wt := by omega
    clear hok h1
    go_enter Tryz.func87, Tryz.ntmps87
    go_wp2_with fail
    go_ret2
    exact ⟨rfl, b0⟩

theorem rdraw_yes (a : Wd) (x r : Nat) (w : World) (hx : x < 4294967296) (hr : r < 4294967296) (h : okB a = true) :
    Calls Tryz.prog 87 #[vW a, .int .u32 (x : Nat), .int .u32 (r : Nat)] w fun e w' => e = .returned (.tuple #[.int .i64 (dr x r a : Nat), .bool true]) ∧ Below w.heap.size w w' := by
  have hok : 1 ≤ a.wt ∧ a.wt ≤ 1073741824 := of_decide_eq_true h
  clear h
  obtain ⟨id, wt⟩ := a
  dsimp only at hok
  obtain ⟨k1, k2⟩ := hok
  have c2 := fun W => rhash3_any x (idm id) r W hx (idm_lt id) hr
  have c3 := fun W => rlog_yes (up x r id + 1) W (by omega) (by have := up_lt x r id; omega)
  have hl := lo_le x r id
  have hu := up_lt x r id
  have hh := h3_lt x (idm id) r
  have e1 := idm_eq id
  have e2 : ((h3 x (idm id) r : Nat) : Int) % 65536 = ((up x r id : Nat) : Int) := by unfold up; omega
  have e3 : ((h3 x (idm id) r : Nat) : Int).tmod 65536 = ((up x r id : Nat) : Int) := by rw [Int.tmod_eq_emod_of_nonneg (by omega)]; exact e2
  have hm := idm_lt id
  unfold dr
  obtain ⟨wn, rfl⟩ := Int.eq_ofNat_of_zero_le (show 0 ≤ wt by omega)
  dsimp only [Int.toNat_natCast]
  have HD : Hid ((((268435456 - lo x r id) * 65536 / wn : Nat) : Int) = (268435456 - (lo x r id : Int)) * 65536 / (wn : Int)) := by
    have : (((268435456 - lo x r id) * 65536 / wn : Nat) : Int) = (268435456 - (lo x r id : Int)) * 65536 / (wn : Int) := by
      rw [Int.natCast_ediv, Int.natCast_mul, Int.natCast_sub hl]
      rfl
    exact this
  have c3' : ∀ W : World, Calls Tryz.prog 114 #[.int .i64 ((up x r id : Int) + 1)] W fun e w' => e = .returned (.tuple #[.int .i64 (lo x r id : Int), .bool true]) ∧ w' = W := fun W => c3 W
  clear c3
  unfold vW
  dsimp only
  generalize ((268435456 - lo x r id) * 65536 / wn) = D at *
  generalize h3 x (idm id) r = H at *
  generalize idm id = I at *
  generalize up x r id = U at *
  generalize lo x r id = L at *
  have b0 := al w (.cells #[.int .i64 id, .int .i64 (wn : Int)] 98)
  have q0 : (w.alloc (.cells #[.int .i64 id, .int .i64 (wn : Int)] 98)).cell? ⟨w.heap.size, 0, none⟩ = some (.int .i64 id) := by go_simp
  have q1 : (w.alloc (.cells #[.int .i64 id, .int .i64 (wn : Int)] 98)).cell? ⟨w.heap.size, 1, none⟩ = some (.int .i64 (wn : Int)) := by go_simp
  go_enter Tryz.func87, Tryz.ntmps87
  go_wp2_with (first
    | (go_at_call 113; refine (c2 _).mono ?_; rintro e w2 ⟨rfl, rfl⟩)
    | (go_at_call 114; refine (c3' _).mono ?_; rintro e w2 ⟨rfl, rfl⟩))
  go_ret2
  exact ⟨by rw [HD.out]; rfl, b0⟩

theorem draw_any (a : Wd) (x r : Nat) (w : World) (hx : x < 4294967296) (hr : r < 4294967296) :
    Calls Tryz.prog 112 #[vW a, .int .u32 (x : Nat), .int .u32 (r : Nat)] w fun e w' => e = .returned (.tuple #[.int .i64 (dV x r a), .bool (okB a)]) ∧ Below w.heap.size w w' := by
  unfold dV
  cases h : okB a with
  | true => exact draw_yes a x r w hx hr h
  | false => exact draw_no a x r w h

theorem rdraw_any (a : Wd) (x r : Nat) (w : World) (hx : x < 4294967296) (hr : r < 4294967296) :
    Calls Tryz.prog 87 #[vW a, .int .u32 (x : Nat), .int .u32 (r : Nat)] w fun e w' => e = .returned (.tuple #[.int .i64 (dV x r a), .bool (okB a)]) ∧ Below w.heap.size w w' := by
  unfold dV
  cases h : okB a with
  | true => exact rdraw_yes a x r w hx hr h
  | false => exact rdraw_no a x r w h

end Go.Proofs.YtgfjmkjgagogpaaGreat.Sr

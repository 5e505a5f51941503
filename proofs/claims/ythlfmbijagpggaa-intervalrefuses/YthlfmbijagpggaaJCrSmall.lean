/-
  4 texts of this proof, one behind the other: CrSmall, CrMem, CrTog, CrGrowP.
-/
import Derived.Test.YthlfmbijagpggaaCrPlain
import Derived.Test.YthlfmbijagpggaaJAtPlain
import Derived.Test.YthlfmbijagpggaaSrMem
import Derived.Laws.Slices
/-
  Package crush: an OSD's number of a domain, its weight, all weights added; the document's own; cmp.Compare and cmp.Or at int.
  Conditions: the list lies in memory, and is one of a map that may be.
-/
namespace Go.Proofs.Ythlfmbijagpggaa.Cr
open Go.RowKit By Fl At
set_option linter.unusedVariables false
set_option linter.unusedSimpArgs false
set_option maxRecDepth 100000

theorem kO_z2 (o : Osd) : kO ((2 : Int) + 1).toNat o = o.rack := rfl
theorem kO_z1 (o : Osd) : kO ((1 : Int) + 1).toNat o = o.host := rfl
theorem kO_z {z : Int} (o : Osd) (h2 : ¬ z = 2) (h1 : ¬ z = 1) : kO (z + 1).toNat o = o.id := by
  unfold kO
  rw [if_neg (by omega), if_neg (by omega)]
theorem kO_l {z : Int} (o : Osd) (h2 : ¬ z = 2) (h1 : ¬ z = 1) : kO (4 - z).toNat o = o.id := by
  unfold kO
  rw [if_neg (by omega), if_neg (by omega)]

theorem number_any (o : Osd) (z : Int) (w : World) : Calls Try.prog 52 #[vO o, .int .i64 z] w fun e w' => e = .returned (.int .i64 (kO (z + 1).toNat o)) ∧ Below w.heap.size w w' := by
  have b0 := fun x => al w x
  by_cases h2 : z = 2
  · subst h2
    rw [kO_z2]
    obtain ⟨id, up, inn, wt, life, boot, host, rack⟩ := o
    unfold vO
    dsimp only
    go_enter Try.func52, Try.ntmps52
    go_wp2_with fail
    go_ret
    exact ⟨rfl, b0 _⟩
  · by_cases h1 : z = 1
    · subst h1
      rw [kO_z1]
      clear h2
      obtain ⟨id, up, inn, wt, life, boot, host, rack⟩ := o
      unfold vO
      dsimp only
      go_enter Try.func52, Try.ntmps52
      go_wp2_with fail
      go_ret
      exact ⟨rfl, b0 _⟩
    · rw [kO_z o h2 h1]
      have g1 : (z == 2) = false := by simpa using h2
      have g2 : (z == 1) = false := by simpa using h1
      obtain ⟨id, up, inn, wt, life, boot, host, rack⟩ := o
      unfold vO
      dsimp only
      go_enter Try.func52, Try.ntmps52
      go_wp2_with fail
      go_ret
      exact ⟨rfl, b0 _⟩

theorem weight_any (o : Osd) (w : World) : Calls Try.prog 51 #[vO o] w fun e w' => e = .returned (.int .i64 (wO o)) ∧ Below w.heap.size w w' := by
  have b0 := fun x => al w x
  obtain ⟨id, up, inn, wt, life, boot, host, rack⟩ := o
  unfold vO wO
  dsimp only
  cases inn with
  | true =>
    go_enter Try.func51, Try.ntmps51
    go_wp2_with fail
    go_ret
    exact ⟨rfl, b0 _⟩
  | false =>
    go_enter Try.func51, Try.ntmps51
    go_wp2_with fail
    go_ret
    exact ⟨rfl, b0 _⟩

def domB (z : Int) : Bool := decide (0 ≤ z) && decide (z < 3)
theorem domainMay_any (z : Int) (w : World) : Calls Try.prog 39 #[.int .i64 z] w fun e w' => e = .returned (.bool (domB z)) ∧ w' = w := by
  unfold domB
  by_cases h : 0 ≤ z
  · go_enter Try.func39, Try.ntmps39
    go_wp2_with fail
    go_ret
    exact ⟨by simp [h], rfl⟩
  · have h1 : decide (0 ≤ z) = false := decide_eq_false h
    go_enter Try.func39, Try.ntmps39
    go_wp2_with fail
    go_ret
    exact ⟨by simp [h1], rfl⟩

def WB (L : List Osd) : Prop := ∀ o ∈ L, 0 ≤ wO o ∧ wO o ≤ 16777216
theorem WB.nn {L : List Osd} (h : WB L) : NN L := fun o ho => (h o ho).1
theorem sum_le : ∀ {L : List Osd}, WB L → 0 ≤ sumW L ∧ sumW L ≤ L.length * 16777216
  | [], _ => by simp [sumW]
  | o :: L, h => by
    have h1 := h o List.mem_cons_self
    have h2 := sum_le (L := L) fun p hp => h p (List.mem_cons_of_mem _ hp)
    simp only [sumW, List.length_cons]
    omega
theorem WB.take {L : List Osd} (h : WB L) (k : Nat) : WB (L.take k) := fun o ho => h o (List.mem_of_mem_take ho)
theorem sum_take {L : List Osd} {k : Nat} {o : Osd} (h : L[k]? = some o) : sumW (L.take (k + 1)) = sumW (L.take k) + wO o := by
  rw [List.take_add_one, h, sumW_app]
  simp [sumW]

set_option maxHeartbeats 1600000 in
theorem total_any {w : World} {x : Option Addr} {n c : Nat} {L : List Osd} (h : At.Os w x n c L) (hn : n ≤ 64) (hB : WB L) :
    Calls Try.prog 62 #[.slice x n c] w fun e w' => e = .returned (.int .i64 (sumW L)) ∧ Below w.heap.size w w' := by
  have HO : Hid (At.Os w x n c L) := h
  have HL : Hid (L.length = n) := h.len
  have HW : Hid (WB L) := hB
  clear h hB
  go_enter Try.func62, Try.ntmps62
  go_wp2_with fail
  go_loopw [8, 3] (fun i a wr => ∃ (k : Nat) (C : Int), k ≤ n ∧ i = .int .i64 k ∧ a = .int .i64 C ∧ 0 ≤ C ∧ C ≤ 1073741824 ∧ Hid (Below w.heap.size w wr ∧ sumW (L.take k) = C)) (fun i _ _ => n - (intOf i).toNat)
  case atStart => exact ⟨0, 0, by omega, rfl, rfl, by omega, by omega, Below.refl _ _, rfl⟩
  case round =>
    obtain ⟨k, C, hk, rfl, rfl, hC1, hC2, HR⟩ := hrel
    by_cases hlt : k < n
    · have hkn : (k : Int) < (n : Int) := by omega
      obtain ⟨m, hLm⟩ : ∃ m, L[k]? = some m := ⟨L[k]'(by have := HL.out; omega), List.getElem?_eq_getElem (by have := HL.out; omega)⟩
      have ho := HO.out.below HR.out.1
      rcases ho.row with h0 | ⟨b, o, rfl, hbl, hcell⟩
      · omega
      obtain ⟨k0, k1, k2, k3, k4, k5, k6, k7⟩   := At.Os.at (n := n) (c := c) hcell hLm
      have c1 := fun W => weight_any m W
      have HS : Hid (sumW (L.take (k + 1)) = C + wO m ∧ 0 ≤ C + wO m ∧ C + wO m ≤ 1073741824) := by
        have e := sum_take hLm
        rw [HR.out.2] at e
        have hb := sum_le (HW.out.take (k + 1))
        rw [e] at hb
        have hl : (L.take (k + 1)).length ≤ 64 := by rw [List.length_take]; omega
        refine ⟨e, hb.1, ?_⟩
        have := hb.2
        omega
      have hw := HW.out m (List.mem_of_getElem? hLm)
      clear ho hcell hLm
      generalize wO m = z at *
      obtain ⟨id, up, inn, wt, life, boot, host, rack⟩ := m
      unfold vO at c1
      dsimp only at k0 k1 k2 k3 k4 k5 k6 k7 c1
      have b0 := al wr (.cells #[.int .i64 id, .bool up, .bool inn, .int .i64 wt, .int .i64 life, .int .i64 boot, .int .i64 host, .int .i64 rack] 45)
      go_wp2_with (go_at_call 51; refine (c1 _).mono ?_; rintro e w1 ⟨rfl, hb1⟩; clear c1)
      go_roundw
      case rel => exact ⟨k + 1, C + z, by omega, by go_num, by rfl, HS.out.2.1, HS.out.2.2, on HR.out.1 (on b0 hb1), HS.out.1⟩
      case measure => simp [intOf]; omega
    · have hk2 : k = n := by omega
      subst hk2
      go_wp2_with fail
      go_ret
      refine ⟨?_, HR.out.1⟩
      have := HR.out.2
      rw [← HL.out, List.take_length] at this
      rw [this]
      rfl

def cmpI (a b : Int) : Int := if a < b then -1 else if b < a then 1 else 0
theorem nan_any (a : Int) (w : World) : Calls Try.prog 60 #[.int .i64 a] w fun e w' => e = .returned (.bool false) ∧ w' = w := by
  go_enter Try.func60, Try.ntmps60
  go_wp2_with fail
  go_ret
  exact ⟨by simp, rfl⟩
theorem compare_any (a b : Int) (w : World) : Calls Try.prog 49 #[.int .i64 a, .int .i64 b] w fun e w' => e = .returned (.int .i64 (cmpI a b)) ∧ w' = w := by
  unfold cmpI
  have hN := fun a W => nan_any a W
  by_cases h : a < b
  · rw [if_pos h]
    go_enter Try.func49, Try.ntmps49
    go_wp2_with (go_at_call 60; refine (hN _ _).mono ?_; rintro e w1 ⟨rfl, rfl⟩)
    go_ret
    exact ⟨rfl, rfl⟩
  · rw [if_neg h]
    by_cases h2 : b < a
    · rw [if_pos h2]
      go_enter Try.func49, Try.ntmps49
      go_wp2_with (go_at_call 60; refine (hN _ _).mono ?_; rintro e w1 ⟨rfl, rfl⟩)
      go_ret
      exact ⟨rfl, rfl⟩
    · rw [if_neg h2]
      go_enter Try.func49, Try.ntmps49
      go_wp2_with (go_at_call 60; refine (hN _ _).mono ?_; rintro e w1 ⟨rfl, rfl⟩)
      go_ret
      exact ⟨rfl, rfl⟩

def or3 (a b c : Int) : Int := if a ≠ 0 then a else if b ≠ 0 then b else c
theorem or_any (a b c : Int) (g : Nat) (w : World) (h0 : w.cell? ⟨g, 0, none⟩ = some (.int .i64 a)) (h1 : w.cell? ⟨g, 1, none⟩ = some (.int .i64 b)) (h2 : w.cell? ⟨g, 2, none⟩ = some (.int .i64 c)) :
    Calls Try.prog 48 #[.slice (some ⟨g, 0, none⟩) 3 3] w fun e w' => e = .returned (.int .i64 (or3 a b c)) ∧ w' = w := by
  go_enter Try.func48, Try.ntmps48
  go_wp2_with fail
  go_loop [8] (fun i => ∃ k : Nat, k ≤ 3 ∧ i = .int .i64 k ∧ Hid ((1 ≤ k → a = 0) ∧ (2 ≤ k → b = 0) ∧ (3 ≤ k → c = 0))) (fun i => 3 - (intOf i).toNat)
  case atStart => exact ⟨0, by omega, rfl, by refine ⟨?_, ?_, ?_⟩ <;> intro h <;> omega⟩
  case round =>
    obtain ⟨k, hk, rfl, HR⟩ := hrel
    rcases (show k = 0 ∨ k = 1 ∨ k = 2 ∨ k = 3 by omega) with rfl | rfl | rfl | rfl
    · by_cases e : a = 0
      · have e1 : (a != 0) = false := by simpa using e
        go_wp2_with fail
        go_round
        case rel => exact ⟨1, by omega, by go_num, ⟨fun _ => e, fun h => by omega, fun h => by omega⟩⟩
        case measure => simp [intOf]
      · have e1 : (a != 0) = true := by simpa using e
        go_wp2_with fail
        go_ret
        exact ⟨by rw [show or3 a b c = a from if_pos e]; rfl, rfl⟩
    · have ha := HR.out.1 (by omega)
      by_cases e : b = 0
      · have e1 : (b != 0) = false := by simpa using e
        have HA := hid ha
        clear ha
        go_wp2_with fail
        go_round
        case rel => exact ⟨2, by omega, by go_num, ⟨fun _ => HA.out, fun _ => e, fun h => by omega⟩⟩
        case measure => simp [intOf]
      · have e1 : (b != 0) = true := by simpa using e
        have HA := hid ha
        clear ha
        go_wp2_with fail
        go_ret
        exact ⟨by rw [show or3 a b c = b by unfold or3; rw [if_neg (fun h => h HA.out), if_pos e]]; rfl, rfl⟩
    · have HA := hid (And.intro (HR.out.1 (by omega)) (HR.out.2.1 (by omega)))
      by_cases e : c = 0
      · have e1 : (c != 0) = false := by simpa using e
        have HE := hid e
        clear e
        go_wp2_with fail
        go_round
        case rel => exact ⟨3, by omega, by go_num, ⟨fun _ => HA.out.1, fun _ => HA.out.2, fun _ => HE.out⟩⟩
        case measure => simp [intOf]
      · have e1 : (c != 0) = true := by simpa using e
        go_wp2_with fail
        go_ret
        exact ⟨by rw [show or3 a b c = c by unfold or3; rw [if_neg (fun h => h HA.out.1), if_neg (fun h => h HA.out.2)]]; rfl, rfl⟩
    · have HA := hid (And.intro (HR.out.1 (by omega)) (And.intro (HR.out.2.1 (by omega)) (HR.out.2.2 (by omega))))
      go_wp2_with fail
      go_ret
      exact ⟨by rw [show or3 a b c = 0 by unfold or3; rw [if_neg (fun h => h HA.out.1), if_neg (fun h => h HA.out.2.1), HA.out.2.2]]; rfl, rfl⟩

end Go.Proofs.Ythlfmbijagpggaa.Cr

/-
  A tree's branches as they lie in memory; parts of lists.
  Conditions: none.
-/
namespace Go.Proofs.Ythlfmbijagpggaa.Cr
open Go.RowKit By Fl At
open Sr (Wd Ws enW)
set_option linter.unusedVariables false
set_option linter.unusedSimpArgs false
set_option maxRecDepth 100000

def cutO (sz : Nat) (x : Option Addr) (c k : Nat) : Option Addr := if c = k then x else x.map (·.add (k * sz))

theorem oelem_row : Try.prog.underlying 30 = some (.slice (Try.prog.elem 30)) := by kernel_rfl
theorem oelem_is : Try.prog.elem 30 = 45 := by kernel_rfl
theorem osize (w : World) : (sizeOf 45).run Try.prog w = .ok 8 w := by kernel_rfl
theorem elemw_row : Try.prog.underlying 77 = some (.slice (Try.prog.elem 77)) := by kernel_rfl
theorem elemw_is : Try.prog.elem 77 = 106 := by kernel_rfl
theorem sizew (w : World) : (sizeOf 106).run Try.prog w = .ok 2 w := by kernel_rfl

theorem add0 (x : Option Addr) (c : Nat) : (if c = 0 then x else x.map (·.add 0)) = x := by
  split
  · rfl
  · cases x with
    | none => rfl
    | some a => simp [Addr.add]

theorem ocut_head (x : Option Addr) (n c m : Nat) (w : World) (h : m ≤ c) :
    (Instr.slice 30 (.slice x n c) none (some (.int .i64 (m : Int))) none).run Try.prog w = .ok (.slice x m c) w := by
  rw [run_slice_h w 30 _ _ _ oelem_row .i64 (m : Int) (by omega) (by omega), oelem_is, osize]
  simp only [Result.andThen, sliced, Int.toNat_natCast, Nat.zero_mul, Nat.sub_zero]
  rw [add0]
theorem ocut_from (x : Option Addr) (n c k : Nat) (w : World) (h : k ≤ n) :
    (Instr.slice 30 (.slice x n c) (some (.int .i64 (k : Int))) none none).run Try.prog w = .ok (.slice (cutO 8 x c k) (n - k) (c - k)) w := by
  rw [run_slice_l w 30 _ _ _ oelem_row .i64 (k : Int) (by omega) (by omega), oelem_is, osize]
  simp only [Result.andThen, sliced, Int.toNat_natCast]
  rfl
theorem cutw_head (x : Option Addr) (n c m : Nat) (w : World) (h : m ≤ c) :
    (Instr.slice 77 (.slice x n c) none (some (.int .i64 (m : Int))) none).run Try.prog w = .ok (.slice x m c) w := by
  rw [run_slice_h w 77 _ _ _ elemw_row .i64 (m : Int) (by omega) (by omega), elemw_is, sizew]
  simp only [Result.andThen, sliced, Int.toNat_natCast, Nat.zero_mul, Nat.sub_zero]
  rw [add0]
theorem cutw_from (x : Option Addr) (n c k : Nat) (w : World) (h : k ≤ n) :
    (Instr.slice 77 (.slice x n c) (some (.int .i64 (k : Int))) none none).run Try.prog w = .ok (.slice (cutO 2 x c k) (n - k) (c - k)) w := by
  rw [run_slice_l w 77 _ _ _ elemw_row .i64 (k : Int) (by omega) (by omega), elemw_is, sizew]
  simp only [Result.andThen, sliced, Int.toNat_natCast]
  rfl

theorem os_from {w : World} {x : Option Addr} {n c : Nat} {L : List Osd} (h : At.Os w x n c L) (k : Nat) (hk : k ≤ n) : At.Os w (cutO 8 x c k) (n - k) (c - k) (L.drop k) := by
  have hle := h.le
  have hl := h.len
  refine ⟨by rw [List.length_drop, h.len], by omega, by have := h.small; omega, fun e => ?_, ?_⟩
  · unfold cutO at e
    split at e
    · have := h.nil e; omega
    · cases x with
      | none => have := h.nil rfl; omega
      | some a => cases e
  · by_cases h0 : n - k = 0
    · exact .inl h0
    · rcases h.row with hr | ⟨b, o, rfl, hb, hc⟩
      · omega
      · refine .inr ⟨b, o + k * 8, ?_, hb, fun i a hi j v hv => ?_⟩
        · unfold cutO
          rw [if_neg (by omega)]
          simp [add_at]
        · rw [List.getElem?_drop] at hi
          have := hc (k + i) a hi j v hv
          rw [show o + k * 8 + i * 8 + j = o + (k + i) * 8 + j by omega]
          exact this

theorem ws_from {w : World} {x : Option Addr} {n c : Nat} {L : List Wd} (h : Ws w x n c L) (k : Nat) (hk : k ≤ n) : Ws w (cutO 2 x c k) (n - k) (c - k) (L.drop k) := by
  have hle := h.le
  have hl := h.len
  refine ⟨by rw [List.length_drop, h.len], by omega, by have := h.small; omega, fun e => ?_, ?_⟩
  · unfold cutO at e
    split at e
    · have := h.nil e; omega
    · cases x with
      | none => have := h.nil rfl; omega
      | some a => cases e
  · by_cases h0 : n - k = 0
    · exact .inl h0
    · rcases h.row with hr | ⟨b, o, rfl, hb, hc⟩
      · omega
      · refine .inr ⟨b, o + k * 2, ?_, hb, fun i a hi => ?_⟩
        · unfold cutO
          rw [if_neg (by omega)]
          simp [add_at]
        · rw [List.getElem?_drop] at hi
          have := hc (k + i) a hi
          rw [show o + k * 2 + i * 2 = o + (k + i) * 2 by omega]
          exact this

theorem ws_take {w : World} {x : Option Addr} {n c k : Nat} {L : List Wd} (h : Ws w x n c L) (hk : k ≤ n) : Ws w x k c (L.take k) := by
  have hl := h.len
  refine ⟨by rw [List.length_take]; omega, by have := h.le; omega, by have := h.small; omega, fun e => by have := h.nil e; omega, ?_⟩
  rcases h.row with h0 | ⟨b, o, h1, h2, h3⟩
  · exact .inl (by omega)
  · refine .inr ⟨b, o, h1, h2, fun q a hq => h3 q a ?_⟩
    rw [List.getElem?_take] at hq
    split at hq
    · exact hq
    · cases hq

theorem ws_turns {w w' : World} {G : Nat → Prop} {x : Option Addr} {n c : Nat} {L : List Wd} (h : Ws w x n c L) (t : Turns G w w') (hx : n ≠ 0 → ∀ a, x = some a → ¬ G a.block) : Ws w' x n c L := by
  refine ⟨h.len, h.le, h.small, h.nil, ?_⟩
  rcases h.row with h0 | ⟨b, o, h1, h2, h3⟩
  · exact .inl h0
  · by_cases h0 : n = 0
    · exact .inl h0
    · have hb := t.block b h2 (hx h0 _ h1)
      exact .inr ⟨b, o, h1, Nat.lt_of_lt_of_le h2 t.size, fun k a hk => ⟨(World.cell?_of_block (a := ⟨b, o + k * 2, none⟩) hb).trans (h3 k a hk).1, (World.cell?_of_block (a := ⟨b, o + k * 2 + 1, none⟩) hb).trans (h3 k a hk).2⟩⟩

/- A branch: its numbers, and what is under each. -/
structure Bv where
  x : Option Addr
  n : Nat
  c : Nat
  y : Option Addr
  m : Nat
  d : Nat

def noB : Bv := ⟨none, 0, 0, none, 0, 0⟩
def enB (v : Bv) : List Value := [.slice v.x v.n v.c, .slice v.y v.m v.d]
def vB (v : Bv) : Value := .agg #[.slice v.x v.n v.c, .slice v.y v.m v.d]

theorem brow : Row 78 80 2 48 enB := by
  have hi : (Try.prog.info? 80).map (fun i => (i.zero, i.size, i.bytes)) = some (some (.agg #[.slice none 0 0, .slice none 0 0]), 2, 48) := by kernel_rfl
  obtain ⟨i0, h1, h2, h3, h4⟩ := info_parts hi
  exact ⟨Try.underlying78, ⟨i0, _, h1, h2, h3, h4, rfl⟩, by decide, by decide, fun a => rfl, fun a v hv => by simp [enB] at hv; rcases hv with rfl | rfl <;> rfl⟩

structure Bs (w : World) (x : Option Addr) (n c : Nat) (L : List Bv) : Prop where
  len : L.length = n
  le : n ≤ c
  row : n = 0 ∨ ∃ b o, x = some ⟨b, o, none⟩ ∧ b < w.heap.size ∧ ∀ (k : Nat) (a : Bv), L[k]? = some a → w.cell? ⟨b, o + k * 2, none⟩ = some (.slice a.x a.n a.c) ∧ w.cell? ⟨b, o + k * 2 + 1, none⟩ = some (.slice a.y a.m a.d)

theorem Bs.turns {w w' : World} {G : Nat → Prop} {x : Option Addr} {n c : Nat} {L : List Bv} (h : Bs w x n c L) (t : Turns G w w') (hx : n ≠ 0 → ∀ a, x = some a → ¬ G a.block) : Bs w' x n c L := by
  refine ⟨h.len, h.le, ?_⟩
  rcases h.row with h0 | ⟨b, o, h1, h2, h3⟩
  · exact .inl h0
  · by_cases h0 : n = 0
    · exact .inl h0
    · have hb := t.block b h2 (hx h0 _ h1)
      exact .inr ⟨b, o, h1, Nat.lt_of_lt_of_le h2 t.size, fun k a hk => ⟨(World.cell?_of_block (a := ⟨b, o + k * 2, none⟩) hb).trans (h3 k a hk).1, (World.cell?_of_block (a := ⟨b, o + k * 2 + 1, none⟩) hb).trans (h3 k a hk).2⟩⟩

theorem own_bs {w : World} {B : Nat} {x : Option Addr} {n c : Nat} {L : List Bv} (h : Own w B 80 2 enB (.slice x n c) L) : Bs w x n c L := by
  obtain ⟨x', c', e, h1, h2, h3⟩ := h.form
  injection e with e1 e2 e3
  subst e1 e2 e3
  refine ⟨rfl, h1, ?_⟩
  by_cases h0 : L.length = 0
  · exact .inl h0
  · cases x with
    | none => exact .inl (h2 rfl).1
    | some ad =>
      obtain ⟨g, rfl, hB, hg⟩ := h3 ad rfl
      exact .inr ⟨g, 0, rfl, hg, fun k a hk => ⟨by rw [Nat.zero_add]; exact h.cell brow.len hk (j := 0) rfl, by rw [Nat.zero_add]; exact h.cell brow.len hk (j := 1) rfl⟩⟩

def Inn (F : Nat → Prop) (x : Option Addr) (n : Nat) : Prop := n ≠ 0 → ∀ a, x = some a → F a.block

/- The branch of a list from a level down; its blocks are among F. -/
def BrAt (w : World) (F : Nat → Prop) : Nat → Bv → List Osd → Prop
  | 0, v, S => v = noB
  | d + 1, v, S => Ws w v.x v.n v.c (wg (d + 1) S) ∧ Inn F v.x v.n ∧ ∃ U : List Bv, Bs w v.y v.m v.d U ∧ Inn F v.y v.m ∧ U.length = (wg (d + 1) S).length ∧ ∀ (k : Nat) (a : Wd) (u : Bv), (wg (d + 1) S)[k]? = some a → U[k]? = some u → BrAt w F d u (sub S (d + 1) a.id)

theorem BrAt.turns {w w' : World} {G F : Nat → Prop} (t : Turns G w w') (hF : ∀ k, F k → ¬ G k) : ∀ (d : Nat) (v : Bv) (S : List Osd), BrAt w F d v S → BrAt w' F d v S
  | 0, v, S, h => h
  | d + 1, v, S, h => by
    obtain ⟨h1, h2, U, h3, h4, h5, h6⟩ := h
    exact ⟨ws_turns h1 t (fun hn a ha => hF _ (h2 hn a ha)), h2, U, h3.turns t (fun hn a ha => hF _ (h4 hn a ha)), h4, h5, fun k a u ha hu => BrAt.turns t hF d u _ (h6 k a u ha hu)⟩

theorem BrAt.mono {w : World} {F F' : Nat → Prop} (hF : ∀ k, F k → k < w.heap.size → F' k) : ∀ (d : Nat) (v : Bv) (S : List Osd), BrAt w F d v S → BrAt w F' d v S
  | 0, v, S, h => h
  | d + 1, v, S, h => by
    obtain ⟨h1, h2, U, h3, h4, h5, h6⟩ := h
    refine ⟨h1, fun hn a ha => ?_, U, h3, fun hn a ha => ?_, h5, fun k a u ha hu => BrAt.mono hF d u _ (h6 k a u ha hu)⟩
    · rcases h1.row with q | ⟨b, o, e, hb, _⟩
      · exact absurd q hn
      · rw [e] at ha
        cases ha
        exact hF b (h2 hn _ e) hb
    · rcases h3.row with q | ⟨b, o, e, hb, _⟩
      · exact absurd q hn
      · rw [e] at ha
        cases ha
        exact hF b (h4 hn _ e) hb

theorem BrAt.below {w w' : World} {F : Nat → Prop} (t : Below w.heap.size w w') (d : Nat) (v : Bv) (S : List Osd) (h : BrAt w F d v S) : BrAt w' F d v S := BrAt.turns (G := fun _ => False) (Turns.of_below t) (fun _ _ h => h) d v S h

/- How many at a list's beginning are in one domain. -/
def tg (k : Int) (d : Nat) (L : List Osd) : Nat := match L.findIdx? (fun o => !decide (kO d o = k)) with | some i => i | none => L.length

theorem tg_facts (k : Int) (d : Nat) (L : List Osd) : tg k d L ≤ L.length ∧ (∀ o ∈ L.take (tg k d L), kO d o = k) ∧ ∀ o, L[tg k d L]? = some o → kO d o ≠ k := by
  unfold tg
  cases h : L.findIdx? (fun o => !decide (kO d o = k)) with
  | none =>
    refine ⟨Nat.le_refl _, fun o ho => ?_, fun o ho => ?_⟩
    · obtain ⟨j, hj⟩ := List.mem_iff_getElem?.1 (List.mem_of_mem_take ho)
      have := idx_none h j o hj
      simpa using this
    · have := (List.getElem?_eq_some_iff.1 ho).1
      dsimp only at this
      omega
  | some i =>
    obtain ⟨a, ha, hp, hj⟩ := idx_some h
    have hi := (List.getElem?_eq_some_iff.1 ha).1
    refine ⟨by dsimp only; omega, fun o ho => ?_, fun o ho => ?_⟩
    · dsimp only at ho
      obtain ⟨j, hj2⟩ := List.mem_iff_getElem?.1 ho
      rw [List.getElem?_take] at hj2
      split at hj2
      · rename_i hlt
        have := hj j o hlt hj2
        simpa using this
      · cases hj2
    · dsimp only at ho
      rw [ha] at ho
      cases ho
      simpa using hp

theorem tg_pos {k : Int} {d : Nat} {L : List Osd} {a : Osd} (h : L[0]? = some a) (hk : kO d a = k) : 1 ≤ tg k d L := by
  obtain ⟨h1, h2, h3⟩ := tg_facts k d L
  rcases Nat.eq_zero_or_pos (tg k d L) with e | e
  · rw [e] at h3
    exact absurd hk (h3 a h)
  · exact e

/- Sorted from a level down. -/
def LexD : Nat → Osd → Osd → Prop
  | 0, _, _ => False
  | d + 1, a, b => kO (d + 1) a < kO (d + 1) b ∨ kO (d + 1) a = kO (d + 1) b ∧ LexD d a b
def Srt (d : Nat) (S : List Osd) : Prop := S.Pairwise (fun a b => ¬ LexD d b a)

theorem Srt.le {d : Nat} {S : List Osd} (h : Srt (d + 1) S) {i j : Nat} {a b : Osd} (hi : S[i]? = some a) (hj : S[j]? = some b) (hij : i < j) : kO (d + 1) a ≤ kO (d + 1) b := by
  obtain ⟨q1, e1⟩ := List.getElem?_eq_some_iff.1 hi
  obtain ⟨q2, e2⟩ := List.getElem?_eq_some_iff.1 hj
  have := List.pairwise_iff_getElem.1 h i j q1 q2 hij
  rw [e1, e2] at this
  unfold LexD at this
  omega

theorem Srt.part {d : Nat} {S : List Osd} {k : Int} (h : Srt (d + 1) S) (hk : ∀ o ∈ S, kO (d + 1) o = k) : Srt d S := by
  unfold Srt at h ⊢
  refine List.Pairwise.imp_of_mem (fun {a b} ha hb hab => ?_) h
  intro hl
  apply hab
  unfold LexD
  exact .inr ⟨by rw [hk a ha, hk b hb], hl⟩

theorem Srt.rest {d : Nat} {S : List Osd} (h : Srt d S) (k : Nat) : Srt d (S.drop k) := List.Pairwise.sublist (List.drop_sublist k S) h
theorem Srt.first {d : Nat} {S : List Osd} (h : Srt d S) (k : Nat) : Srt d (S.take k) := List.Pairwise.sublist (List.take_sublist k S) h

/- Behind a group all numbers are greater. -/
theorem tg_more {d : Nat} {S : List Osd} {a : Osd} (h : Srt (d + 1) S) (ha : S[0]? = some a) : ∀ o ∈ S.drop (tg (kO (d + 1) a) (d + 1) S), kO (d + 1) a < kO (d + 1) o := by
  intro o ho
  obtain ⟨h1, h2, h3⟩ := tg_facts (kO (d + 1) a) (d + 1) S
  have hp := tg_pos (d := d + 1) ha rfl
  obtain ⟨j, hj⟩ := List.mem_iff_getElem?.1 ho
  rw [List.getElem?_drop] at hj
  have hle := h.le ha hj (by omega)
  have hne : kO (d + 1) o ≠ kO (d + 1) a := by
    have hlt := (List.getElem?_eq_some_iff.1 hj).1
    obtain ⟨b, hb⟩ : ∃ b, S[tg (kO (d + 1) a) (d + 1) S]? = some b := ⟨_, List.getElem?_eq_getElem (by omega)⟩
    have q1 := h3 b hb
    have q2 := h.le ha hb (by omega)
    by_cases e : j = 0
    · subst e
      rw [Nat.add_zero, hb] at hj
      cases hj
      exact q1
    · have q3 := h.le hb hj (by omega)
      omega
  omega

end Go.Proofs.Ythlfmbijagpggaa.Cr

/-
  Package crush: together; what is known while a branch grows.
  Conditions: the list lies in memory.
-/
namespace Go.Proofs.Ythlfmbijagpggaa.Cr
open Go.RowKit By Fl At
open Sr (Wd Ws enW)
set_option linter.unusedVariables false
set_option linter.unusedSimpArgs false
set_option maxRecDepth 100000

def unl (d : Nat) (k : Int) (o : Osd) : Bool := !decide (kO d o = k)

set_option maxHeartbeats 1600000 in
theorem tog_clos {w : World} {x : Option Addr} {n c : Nat} {L : List Osd} {a : Osd} (z : Int) (bd bl : Nat) (h : At.Os w x n c L) (h0 : L[0]? = some a) (hd : w.cell? ⟨bd, 0, none⟩ = some (.int .i64 z)) (hl : w.cell? ⟨bl, 0, none⟩ = some (.slice x n c)) :
    Pr 78 #[.pointer (some ⟨bd, 0, none⟩), .pointer (some ⟨bl, 0, none⟩)] (unl (z + 1).toNat (kO (z + 1).toNat a)) w := by
  intro W p hW
  have h1 := keep hW hd
  have h2 := keep hW hl
  have hO := h.below hW
  have hn : 0 < n := by rw [← h.len]; exact (List.getElem?_eq_some_iff.1 h0).1
  rcases hO.row with q | ⟨b, o, rfl, hbl, hcell⟩
  · omega
  obtain ⟨k0, k1, k2, k3, k4, k5, k6, k7⟩ := At.Os.at (n := n) (c := c) hcell h0
  simp only [Nat.zero_mul, Nat.add_zero] at k0 k1 k2 k3 k4 k5 k6 k7
  have c1 := fun V => number_any p z V
  have c2 := fun V => number_any a z V
  unfold unl
  generalize kO (z + 1).toNat p = y1 at *
  generalize kO (z + 1).toNat a = y2 at *
  clear hd hl hW h h0 hO hcell
  obtain ⟨p0, p1, p2, p3, p4, p5, p6, p7⟩ := p
  obtain ⟨a0, a1, a2, a3, a4, a5, a6, a7⟩ := a
  unfold vO at c1 c2 ⊢
  dsimp only at k0 k1 k2 k3 k4 k5 k6 k7 c1 c2 ⊢
  show Calls Try.prog 78 #[.agg #[.int .i64 p0, .bool p1, .bool p2, .int .i64 p3, .int .i64 p4, .int .i64 p5, .int .i64 p6, .int .i64 p7], .pointer (some ⟨bd, 0, none⟩), .pointer (some ⟨bl, 0, none⟩)] W _
  obtain ⟨W0, hW0⟩ : ∃ W0, W0 = W.alloc (.cells #[.int .i64 p0, .bool p1, .bool p2, .int .i64 p3, .int .i64 p4, .int .i64 p5, .int .i64 p6, .int .i64 p7] 45) := ⟨_, rfl⟩
  have bA : Below W.heap.size W W0 := by rw [hW0]; exact al _ _
  have e0 := After.cell (keep bA h1)
  have e1 := After.cell (keep bA h2)
  have f0 := After.cell (keep bA k0)
  have f1 := After.cell (keep bA k1)
  have f2 := After.cell (keep bA k2)
  have f3 := After.cell (keep bA k3)
  have f4 := After.cell (keep bA k4)
  have f5 := After.cell (keep bA k5)
  have f6 := After.cell (keep bA k6)
  have f7 := After.cell (keep bA k7)
  have g0 : ∀ p : After W0, p.W.cell? ⟨W.heap.size, 0, none⟩ = some (.int .i64 p0) := After.cell (by rw [hW0]; go_simp)
  have g1 : ∀ p : After W0, p.W.cell? ⟨W.heap.size, 1, none⟩ = some (.bool p1) := After.cell (by rw [hW0]; go_simp)
  have g2 : ∀ p : After W0, p.W.cell? ⟨W.heap.size, 2, none⟩ = some (.bool p2) := After.cell (by rw [hW0]; go_simp)
  have g3 : ∀ p : After W0, p.W.cell? ⟨W.heap.size, 3, none⟩ = some (.int .i64 p3) := After.cell (by rw [hW0]; go_simp)
  have g4 : ∀ p : After W0, p.W.cell? ⟨W.heap.size, 4, none⟩ = some (.int .i64 p4) := After.cell (by rw [hW0]; go_simp)
  have g5 : ∀ p : After W0, p.W.cell? ⟨W.heap.size, 5, none⟩ = some (.int .i64 p5) := After.cell (by rw [hW0]; go_simp)
  have g6 : ∀ p : After W0, p.W.cell? ⟨W.heap.size, 6, none⟩ = some (.int .i64 p6) := After.cell (by rw [hW0]; go_simp)
  have g7 : ∀ p : After W0, p.W.cell? ⟨W.heap.size, 7, none⟩ = some (.int .i64 p7) := After.cell (by rw [hW0]; go_simp)
  have HW := hid hW0
  have HB := hid bA
  have hn1 : (0 : Int) < (n : Int) := by omega
  clear hW0 bA h1 h2 k0 k1 k2 k3 k4 k5 k6 k7
  haveI := After.ne W0
  go_enter Try.func78, Try.ntmps78
  go_wp2_with fail
  rw [← HW.out]
  refine wp_region_after (by kernel_rfl) (by kernel_rfl) ?_
  repeat (go_big_quiet_step ((first | (go_at_call 52; with_reducible refine Calls.after_of (c1 _)) | (go_at_call 52; with_reducible refine Calls.after_of (c2 _)))))
  refine wpQuiet_nil ?_
  rintro _ ⟨p, rfl⟩
  go_wp2_with fail
  go_ret
  refine ⟨?_, on HB.out p.h⟩
  by_cases e : y1 = y2 <;> simp [e]

theorem idx_tg (k : Int) (d : Nat) (L : List Osd) : (idx (unl d k) L < 0 ∧ tg k d L = L.length) ∨ (0 ≤ idx (unl d k) L ∧ idx (unl d k) L = (tg k d L : Int)) := by
  unfold idx tg unl
  cases h : L.findIdx? (fun o => !decide (kO d o = k)) with
  | none => left; simp
  | some i => right; simp

set_option maxHeartbeats 1600000 in
theorem together_any {w : World} {x : Option Addr} {n c : Nat} {L : List Osd} {a : Osd} (z : Int) (h : At.Os w x n c L) (h0 : L[0]? = some a) :
    Calls Try.prog 61 #[.slice x n c, .int .i64 z] w fun e w' => e = .returned (.int .i64 (tg (kO (z + 1).toNat a) (z + 1).toNat L : Nat)) ∧ Below w.heap.size w w' := by
  obtain ⟨W0, hW0⟩ : ∃ W0, W0 = (w.alloc (.cells #[.slice x n c] 30)).alloc (.cells #[.int .i64 z] 3) := ⟨_, rfl⟩
  have bA : Below w.heap.size w W0 := by rw [hW0]; exact on (al _ _) (al _ _)
  have eg : ∀ args w, (callFunc 78 args).run Try.prog w = .ok (.enter 78 args) w := enters_of Try.func78 (by kernel_rfl) rfl
  have e0 : W0.cell? ⟨w.heap.size, 0, none⟩ = some (.slice x n c) := by rw [hW0]; go_simp
  have e1 : W0.cell? ⟨w.heap.size + 1, 0, none⟩ = some (.int .i64 z) := by rw [hW0]; go_simp
  have hI := index_any _ 78 #[.pointer (some ⟨w.heap.size + 1, 0, none⟩), .pointer (some ⟨w.heap.size, 0, none⟩)] eg (h.below bA) (tog_clos z _ _ (h.below bA) h0 e1 e0)
  have HL := hid h.len
  have hsm := h.small
  clear h h0
  have hc := idx_tg (kO (z + 1).toNat a) (z + 1).toNat L
  generalize idx (unl (z + 1).toNat (kO (z + 1).toNat a)) L = r at *
  generalize tg (kO (z + 1).toNat a) (z + 1).toNat L = t at *
  have HB := hid bA
  have HW := hid hW0
  rw [hW0] at hI
  clear hW0 bA
  rcases hc with ⟨h1, h2⟩ | ⟨h1, h2⟩
  · have HT := hid h2
    clear h2
    go_enter Try.func61, Try.ntmps61
    go_wp2_with (go_at_call 37; refine hI.mono ?_; rintro e w1 ⟨rfl, hb1⟩; clear hI; rw [← HW.out] at hb1; have e2 := keep hb1 e0)
    go_ret
    exact ⟨by rw [HT.out, HL.out]; rfl, on HB.out hb1⟩
  · have HT := hid h2
    have h3 : ¬ r < 0 := by omega
    clear h2 h1
    go_enter Try.func61, Try.ntmps61
    go_wp2_with (go_at_call 37; refine hI.mono ?_; rintro e w1 ⟨rfl, hb1⟩; clear hI; rw [← HW.out] at hb1; have e2 := keep hb1 e0)
    go_ret
    exact ⟨by rw [← HT.out]; rfl, on HB.out hb1⟩

end Go.Proofs.Ythlfmbijagpggaa.Cr

/-
  What is known while a branch grows: its two lists, and what is under each number.
  Conditions: none.
-/
namespace Go.Proofs.Ythlfmbijagpggaa.Cr
open Go.RowKit By Fl At
open Sr (Wd Ws enW)
set_option linter.unusedVariables false
set_option linter.unusedSimpArgs false
set_option maxRecDepth 100000

def Fp (w : World) (RE RU : Value) (j : Nat) : Prop := w.heap.size + 2 ≤ j ∧ RE.ownBlock ≠ some j ∧ RU.ownBlock ≠ some j

structure Gw (w wr : World) (d : Nat) (A : List Osd) (W : List Wd) (RE RU : Value) (U : List Bv) : Prop where
  bel : Below w.heap.size w wr
  res : wr.heap[w.heap.size]? = some (.cells #[.slice none 0 0, .slice none 0 0] 80 (0, 0))
  loc : wr.heap[w.heap.size + 1]? = some (.cells #[RE, RU] 80 (0, 0))
  oe : Own wr (w.heap.size + 2) 106 2 enW RE W
  ou : Own wr (w.heap.size + 2) 80 2 enB RU U
  ul : U.length = (wg (d + 1) A).length
  subs : ∀ (k : Nat) (a : Wd) (u : Bv), (wg (d + 1) A)[k]? = some a → U[k]? = some u → BrAt wr (Fp w RE RU) d u (sub A (d + 1) a.id)

section
variable {w wr : World} {d : Nat} {A : List Osd} {W : List Wd} {RE RU : Value} {U : List Bv}

theorem Gw.lt (h : Gw w wr d A W RE RU U) : w.heap.size + 1 < wr.heap.size := (Array.getElem?_eq_some_iff.1 h.loc).1

theorem Gw.below {w' : World} (h : Gw w wr d A W RE RU U) (hb : Below wr.heap.size wr w') : Gw w w' d A W RE RU U := by
  have hl := h.lt
  exact ⟨on h.bel hb, (hb.block _ (by omega)).trans h.res, (hb.block _ hl).trans h.loc, h.oe.below hb, h.ou.below hb, h.ul, fun k a u ha hu => BrAt.below hb d u _ (h.subs k a u ha hu)⟩

theorem Gw.start (w : World) (d : Nat) : Gw w ((w.alloc (.cells #[.slice none 0 0, .slice none 0 0] 80)).alloc (.cells #[.slice none 0 0, .slice none 0 0] 80)) d [] (wg (d + 1) []) (.slice none 0 0) (.slice none 0 0) [] := by
  have s1 : (w.alloc (.cells #[.slice none 0 0, .slice none 0 0] 80)).heap.size = w.heap.size + 1 := by simp
  refine ⟨on (al _ _) (al _ _), ?_, ?_, Own.nil _ _ _ _ _, Own.nil _ _ _ _ _, rfl, fun k a u ha hu => by simp at hu⟩
  · exact ((al (w.alloc _) _).block _ (by omega)).trans (heap_alloc_new w _)
  · have := heap_alloc_new (w.alloc (.cells #[.slice none 0 0, .slice none 0 0] 80)) (.cells #[.slice none 0 0, .slice none 0 0] 80)
    rw [s1] at this
    exact this

theorem Gw.ee (h : Gw w wr d A W RE RU U) {j : Nat} (e : RE.ownBlock = some j) : RU.ownBlock ≠ some j := fun e2 => by
  have := (h.oe.tb e).2.same (h.ou.tb e2).2
  revert this
  decide

theorem Gw.pushE (h : Gw w wr d A W RE RU U) (k z : Int) (hW : W.length ≤ 1000) :
    ∃ x' c' w3, (Builtin.append_ #[77, 77] 77 #[RE, .slice (some ⟨wr.heap.size, 0, none⟩) 1 1]).run Try.prog (wr.alloc (.cells #[.int .i64 k, .int .i64 z] 106)) = .ok (.slice x' (W.length + 1) c') w3 ∧
      w3.cell? ⟨w.heap.size + 1, 0, none⟩ = some RE ∧ w3.frozen? ⟨w.heap.size + 1, 0, none⟩ = false ∧ Below w.heap.size w w3 ∧ Below wr.heap.size wr (wr.alloc (.cells #[.int .i64 k, .int .i64 z] 106)) ∧
      Hid (Gw w (w3.setCell ⟨w.heap.size + 1, 0, none⟩ (.slice x' (W.length + 1) c')) d A (W ++ [⟨k, z⟩]) (.slice x' (W.length + 1) c') RU U) := by
  have b1 := al wr (.cells #[.int .i64 k, .int .i64 z] 106)
  have h2 := h.below b1
  have hl := h2.lt
  obtain ⟨x', c', w3, hap, HO⟩ := h2.oe.push Sr.wrow (by omega) ⟨wr.heap.size, 0, none⟩ 1 1 [⟨k, z⟩] rfl (fun j u hj => by
    rw [add_at, Nat.zero_add]
    rw [flat_one] at hj
    match j, hj with
    | 0, hj => simpa [enW] using hj
    | 1, hj => simpa [enW] using hj
    | j + 2, hj => simp [enW] at hj) (by omega)
  obtain ⟨o3, t3, n3⟩ := HO.out
  generalize wr.alloc (.cells #[.int .i64 k, .int .i64 z] 106) = V at *
  have ne1 : ¬ RE.ownBlock = some (w.heap.size + 1) := fun e => by have := (h2.oe.tb e).1; omega
  have ne0 : ¬ RE.ownBlock = some w.heap.size := fun e => by have := (h2.oe.tb e).1; omega
  have l3 := (t3.block _ hl ne1).trans h2.loc
  have r3 := (t3.block _ (by omega) ne0).trans h2.res
  have t4 : Turns (fun j => j = w.heap.size + 1) w3 (w3.setCell ⟨w.heap.size + 1, 0, none⟩ (.slice x' (W.length + 1) c')) := turns_put (Turns.refl _ w3) 0 _
  have T : Turns (fun j => RE.ownBlock = some j ∨ j = w.heap.size + 1) V (w3.setCell ⟨w.heap.size + 1, 0, none⟩ (.slice x' (W.length + 1) c')) := (t3.weak fun j e => .inl e).trans (t4.weak fun j e => .inr e)
  have b3 : Below w.heap.size w w3 := h2.bel.trans (t3.below (fun j e => by have := (h2.oe.tb e).1; omega) (by omega))
  refine ⟨x', c', w3, hap, cell_heap l3 rfl, fr_heap l3 0, b3, b1, ?_, ?_, ?_, ?_, ?_, h.ul, fun i a u ha hu => ?_⟩
  · exact b3.trans (t4.below (fun j e => by omega) (by have := t3.size; omega))
  · exact (t4.block _ (by have := t3.size; omega) (by omega)).trans r3
  · exact heap_set l3 _
  · exact o3.turns t4 (fun g hg e => by have := (o3.tb hg).1; omega)
  · exact h2.ou.turns T (fun g hg e => by
      rcases e with e | e
      · exact h2.ee e hg
      · have := (h2.ou.tb hg).1; omega)
  · have q := BrAt.mono (F' := fun j => Fp w RE RU j ∧ j < V.heap.size) (fun j h1 h3 => ⟨h1, h3⟩) d u _ (h2.subs i a u ha hu)
    have q2 := BrAt.turns T (fun j hj e => by
      rcases e with e | e
      · exact hj.1.2.1 e
      · have := hj.1.1; omega) d u _ q
    refine BrAt.mono (fun j hj _ => ⟨hj.1.1, fun e => ?_, hj.1.2.2⟩) d u _ q2
    rcases n3 j e with e2 | e2
    · exact hj.1.2.1 e2
    · have := hj.2; omega

theorem sub_app (A G : List Osd) (d : Nat) (k : Int) : sub (A ++ G) d k = sub A d k ++ sub G d k := by simp [sub]
theorem sub_all {G : List Osd} {d : Nat} {k : Int} (h : ∀ o ∈ G, kO d o = k) : sub G d k = G := by
  unfold sub
  rw [List.filter_eq_self]
  intro o ho
  simp [h o ho]
theorem sub_no {G : List Osd} {d : Nat} {k : Int} (h : ∀ o ∈ G, kO d o ≠ k) : sub G d k = [] := by
  unfold sub
  rw [List.filter_eq_nil_iff]
  intro o ho
  simp [h o ho]

theorem Gw.pushU (h : Gw w wr d A W RE RU U) (v : Bv) (G : List Osd) (V0 : Nat) (k : Int) (hv : BrAt wr (fun j => V0 ≤ j) d v G) (h0 : w.heap.size + 2 ≤ V0) (h1 : ∀ j, RE.ownBlock = some j → j < V0) (h2' : ∀ j, RU.ownBlock = some j → j < V0)
    (hA : ∀ o ∈ A, kO (d + 1) o < k) (hG : ∀ o ∈ G, kO (d + 1) o = k) (hne : G ≠ []) (hU : U.length ≤ 1000) :
    ∃ x' c' w3, (Builtin.append_ #[78, 78] 78 #[RU, .slice (some ⟨wr.heap.size, 0, none⟩) 1 1]).run Try.prog (wr.alloc (.cells #[.slice v.x v.n v.c, .slice v.y v.m v.d] 80)) = .ok (.slice x' (U.length + 1) c') w3 ∧
      w3.cell? ⟨w.heap.size + 1, 1, none⟩ = some RU ∧ w3.frozen? ⟨w.heap.size + 1, 1, none⟩ = false ∧ Below w.heap.size w w3 ∧ Below wr.heap.size wr (wr.alloc (.cells #[.slice v.x v.n v.c, .slice v.y v.m v.d] 80)) ∧
      Hid (Gw w (w3.setCell ⟨w.heap.size + 1, 1, none⟩ (.slice x' (U.length + 1) c')) d (A ++ G) W RE (.slice x' (U.length + 1) c') (U ++ [v])) := by
  have b1 := al wr (.cells #[.slice v.x v.n v.c, .slice v.y v.m v.d] 80)
  have h2 := h.below b1
  have hl := h2.lt
  have hv2 := BrAt.below b1 d v G hv
  obtain ⟨x', c', w3, hap, HO⟩ := h2.ou.push brow (by omega) ⟨wr.heap.size, 0, none⟩ 1 1 [v] rfl (fun j u hj => by
    rw [add_at, Nat.zero_add]
    rw [flat_one] at hj
    match j, hj with
    | 0, hj => simpa [enB] using hj
    | 1, hj => simpa [enB] using hj
    | j + 2, hj => simp [enB] at hj) (by omega)
  obtain ⟨o3, t3, n3⟩ := HO.out
  generalize wr.alloc (.cells #[.slice v.x v.n v.c, .slice v.y v.m v.d] 80) = V at *
  have ne1 : ¬ RU.ownBlock = some (w.heap.size + 1) := fun e => by have := (h2.ou.tb e).1; omega
  have ne0 : ¬ RU.ownBlock = some w.heap.size := fun e => by have := (h2.ou.tb e).1; omega
  have l3 := (t3.block _ hl ne1).trans h2.loc
  have r3 := (t3.block _ (by omega) ne0).trans h2.res
  have t4 : Turns (fun j => j = w.heap.size + 1) w3 (w3.setCell ⟨w.heap.size + 1, 1, none⟩ (.slice x' (U.length + 1) c')) := turns_put (Turns.refl _ w3) 1 _
  have T : Turns (fun j => RU.ownBlock = some j ∨ j = w.heap.size + 1) V (w3.setCell ⟨w.heap.size + 1, 1, none⟩ (.slice x' (U.length + 1) c')) := (t3.weak fun j e => .inl e).trans (t4.weak fun j e => .inr e)
  have b3 : Below w.heap.size w w3 := h2.bel.trans (t3.below (fun j e => by have := (h2.ou.tb e).1; omega) (by omega))
  have hg := wg_group hA hG hne
  have move : ∀ (u : Bv) (K : List Osd), BrAt V (Fp w RE RU) d u K → BrAt (w3.setCell ⟨w.heap.size + 1, 1, none⟩ (.slice x' (U.length + 1) c')) (Fp w RE (.slice x' (U.length + 1) c')) d u K := fun u K q0 => by
    have q := BrAt.mono (F' := fun j => Fp w RE RU j ∧ j < V.heap.size) (fun j h1 h3 => ⟨h1, h3⟩) d u _ q0
    have q2 := BrAt.turns T (fun j hj e => by
      rcases e with e | e
      · exact hj.1.2.2 e
      · have := hj.1.1; omega) d u _ q
    refine BrAt.mono (fun j hj _ => ⟨hj.1.1, hj.1.2.1, fun e => ?_⟩) d u _ q2
    rcases n3 j e with e2 | e2
    · exact hj.1.2.2 e2
    · have := hj.2; omega
  refine ⟨x', c', w3, hap, cell_heap l3 rfl, fr_heap l3 1, b3, b1, ?_, ?_, ?_, ?_, ?_, ?_, fun i a u ha hu => ?_⟩
  · exact b3.trans (t4.below (fun j e => by omega) (by have := t3.size; omega))
  · exact (t4.block _ (by have := t3.size; omega) (by omega)).trans r3
  · exact heap_set l3 _
  · exact h2.oe.turns T (fun g hg e => by
      rcases e with e | e
      · exact h2.ee hg e
      · have := (h2.oe.tb hg).1; omega)
  · have := o3.turns t4 (fun g hg e => by have := (o3.tb hg).1; omega)
    exact this
  · rw [hg, List.length_append, List.length_append, h.ul]
    rfl
  · rw [hg] at ha
    by_cases hi : i < U.length
    · rw [List.getElem?_append_left (by rw [← h.ul]; exact hi)] at ha
      rw [List.getElem?_append_left hi] at hu
      have hak : a.id ≠ k := fun e => by
        obtain ⟨o, ho, e2⟩ := (wg_has (d + 1) a.id A).1 ⟨a, List.mem_of_getElem? ha, rfl⟩
        have := hA o ho
        omega
      rw [sub_app, sub_no (G := G) (fun o ho e => hak (by rw [← e, hG o ho])), List.append_nil]
      exact move u _ (h2.subs i a u ha hu)
    · have hi2 : i = U.length := by
        have := (List.getElem?_eq_some_iff.1 hu).1
        simp at this
        omega
      subst hi2
      rw [List.getElem?_append_right (Nat.le_refl _)] at hu
      rw [h.ul, List.getElem?_append_right (Nat.le_refl _)] at ha
      simp at ha hu
      subst ha hu
      rw [sub_app, sub_all hG, sub_no (G := A) (fun o ho e => by have := hA o ho; simp at e; omega), List.nil_append]
      refine move v _ (BrAt.mono (fun j hj _ => ⟨by omega, fun e => ?_, fun e => ?_⟩) d v _ hv2)
      · have := h1 j e; omega
      · have := h2' j e; omega

/- The end: the branch is handed back. -/
theorem Gw.done {xe xu : Option Addr} {ne ce nu cu : Nat} {S : List Osd} (h : Gw w wr d S (wg (d + 1) S) (.slice xe ne ce) (.slice xu nu cu) U) (hS : (wg (d + 1) S).length ≤ 1000) :
    Below w.heap.size w ((wr.setCell ⟨w.heap.size, 0, none⟩ (.slice xe ne ce)).setCell ⟨w.heap.size, 1, none⟩ (.slice xu nu cu)) ∧ BrAt ((wr.setCell ⟨w.heap.size, 0, none⟩ (.slice xe ne ce)).setCell ⟨w.heap.size, 1, none⟩ (.slice xu nu cu)) (fun j => w.heap.size ≤ j) (d + 1) ⟨xe, ne, ce, xu, nu, cu⟩ S := by
  have hl := h.lt
  have t4 : Turns (fun j => j = w.heap.size) wr ((wr.setCell ⟨w.heap.size, 0, none⟩ (.slice xe ne ce)).setCell ⟨w.heap.size, 1, none⟩ (.slice xu nu cu)) := turns_put (turns_put (Turns.refl _ wr) 0 _) 1 _
  refine ⟨h.bel.trans (t4.below (fun j e => by omega) (by omega)), ?_⟩
  have hw := Sr.own_ws h.oe (by omega)
  have hb := own_bs h.ou
  have i1 : Inn (fun j => w.heap.size + 2 ≤ j) xe ne := fun hn a ha => by
    subst ha
    have hf := h.oe.form
    obtain ⟨x', c', e, _, _, h3⟩ := hf
    injection e with e1 e2 e3
    obtain ⟨g, rfl, hB, _⟩ := h3 a e1.symm
    exact hB
  have i2 : Inn (fun j => w.heap.size + 2 ≤ j) xu nu := fun hn a ha => by
    subst ha
    have hf := h.ou.form
    obtain ⟨x', c', e, _, _, h3⟩ := hf
    injection e with e1 e2 e3
    obtain ⟨g, rfl, hB, _⟩ := h3 a e1.symm
    exact hB
  exact ⟨ws_turns hw t4 (fun hn a ha e => by have : w.heap.size + 2 ≤ a.block := i1 hn a ha; omega), fun hn a ha => by have : w.heap.size + 2 ≤ a.block := i1 hn a ha; show w.heap.size ≤ a.block; omega, U, hb.turns t4 (fun hn a ha e => by have : w.heap.size + 2 ≤ a.block := i2 hn a ha; omega), fun hn a ha => by have : w.heap.size + 2 ≤ a.block := i2 hn a ha; show w.heap.size ≤ a.block; omega, h.ul, fun k a u ha hu => BrAt.mono (fun j hj _ => by have := hj.1; omega) d u _ (BrAt.turns t4 (fun j hj e => by have := hj.1; omega) d u _ (h.subs k a u ha hu))⟩

end

end Go.Proofs.Ythlfmbijagpggaa.Cr

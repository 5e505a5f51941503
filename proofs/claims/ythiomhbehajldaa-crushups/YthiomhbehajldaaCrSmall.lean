/-
  Package crush: an OSD's number of a domain, its weight, all weights added; the document's own; cmp.Compare and cmp.Or at int.
  Conditions: the list lies in memory, and is one of a map that may be.
-/
import Derived.Test.YthiomhbehajldaaCrPlain
import Derived.Test.YthiomhbehajldaaAtQuiet
import Derived.Test.YthiomhbehajldaaAtFunc
namespace Go.Proofs.Ythiomhbehajldaa.Cr
open Go.RowKit By Fl At
set_option linter.unusedVariables false
set_option linter.unusedSimpArgs false
set_option maxRecDepth 100000

theorem kO_z2 (o : Osd) : kO ((2 : Int) + 1).toNat o = o.rack := rfl
theorem kO_z1 (o : Osd) : kO ((1 : Int) + 1).toNat o = o.host := rfl
theorem kO_z {z : Int} (o : Osd) (h2 : ¬ z = 2) (h1 : ¬ z = 1) : kO (z + 1).toNat o = o.id := by
  unfold kO
  rw [if_neg (by omega), if_neg (by omega)]
theorem kO_l {z : Int} (o : Osd) (h2 : ¬ z = 2) (h1 : ¬ z = 1) : kO (4 - z).toNat o = o.id := by
  unfold kO
  rw [if_neg (by omega), if_neg (by omega)]

theorem number_any (o : Osd) (z : Int) (w : World) : Calls Try.prog 47 #[vO o, .int .i64 z] w fun e w' => e = .returned (.int .i64 (kO (z + 1).toNat o)) ∧ Below w.heap.size w w' := by
  have b0 := fun x => al w x
  by_cases h2 : z = 2
  · subst h2
    rw [kO_z2]
    obtain ⟨id, up, inn, wt, life, boot, host, rack⟩ := o
    unfold vO
    dsimp only
    go_enter Try.func47, Try.ntmps47
    go_wp2_with fail
    go_ret
    exact ⟨rfl, b0 _⟩
  · by_cases h1 : z = 1
    · subst h1
      rw [kO_z1]
      clear h2
      obtain ⟨id, up, inn, wt, life, boot, host, rack⟩ := o
      unfold vO
      dsimp only
      go_enter Try.func47, Try.ntmps47
      go_wp2_with fail
      go_ret
      exact ⟨rfl, b0 _⟩
    · rw [kO_z o h2 h1]
      have g1 : (z == 2) = false := by simpa using h2
      have g2 : (z == 1) = false := by simpa using h1
      obtain ⟨id, up, inn, wt, life, boot, host, rack⟩ := o
      unfold vO
      dsimp only
      go_enter Try.func47, Try.ntmps47
      go_wp2_with fail
      go_ret
      exact ⟨rfl, b0 _⟩

theorem key_any (o : Osd) (z : Int) (w : World) : Calls Try.prog 31 #[vO o, .int .i64 z] w fun e w' => e = .returned (.int .i64 (kO (4 - z).toNat o)) ∧ Below w.heap.size w w' := by
  have b0 := fun x => al w x
  by_cases h2 : z = 2
  · subst h2
    rw [show kO ((4 : Int) - 2).toNat o = o.host from rfl]
    obtain ⟨id, up, inn, wt, life, boot, host, rack⟩ := o
    unfold vO
    dsimp only
    go_enter Try.func31, Try.ntmps31
    go_wp2_with fail
    go_ret
    exact ⟨rfl, b0 _⟩
  · by_cases h1 : z = 1
    · subst h1
      rw [show kO ((4 : Int) - 1).toNat o = o.rack from rfl]
      clear h2
      obtain ⟨id, up, inn, wt, life, boot, host, rack⟩ := o
      unfold vO
      dsimp only
      go_enter Try.func31, Try.ntmps31
      go_wp2_with fail
      go_ret
      exact ⟨rfl, b0 _⟩
    · rw [kO_l o h2 h1]
      have g1 : (z == 2) = false := by simpa using h2
      have g2 : (z == 1) = false := by simpa using h1
      obtain ⟨id, up, inn, wt, life, boot, host, rack⟩ := o
      unfold vO
      dsimp only
      go_enter Try.func31, Try.ntmps31
      go_wp2_with fail
      go_ret
      exact ⟨rfl, b0 _⟩

theorem weight_any (o : Osd) (w : World) : Calls Try.prog 46 #[vO o] w fun e w' => e = .returned (.int .i64 (wO o)) ∧ Below w.heap.size w w' := by
  have b0 := fun x => al w x
  obtain ⟨id, up, inn, wt, life, boot, host, rack⟩ := o
  unfold vO wO
  dsimp only
  cases inn with
  | true =>
    go_enter Try.func46, Try.ntmps46
    go_wp2_with fail
    go_ret
    exact ⟨rfl, b0 _⟩
  | false =>
    go_enter Try.func46, Try.ntmps46
    go_wp2_with fail
    go_ret
    exact ⟨rfl, b0 _⟩

def domB (z : Int) : Bool := decide (0 ≤ z) && decide (z < 3)
theorem domainMay_any (z : Int) (w : World) : Calls Try.prog 22 #[.int .i64 z] w fun e w' => e = .returned (.bool (domB z)) ∧ w' = w := by
  unfold domB
  by_cases h : 0 ≤ z
  · go_enter Try.func22, Try.ntmps22
    go_wp2_with fail
    go_ret
    exact ⟨by simp [h], rfl⟩
  · have h1 : decide (0 ≤ z) = false := decide_eq_false h
    go_enter Try.func22, Try.ntmps22
    go_wp2_with fail
    go_ret
    exact ⟨by simp [h1], rfl⟩

/- The document's level of a domain: 4 less what we count by. -/
theorem rdomain_any (z : Int) (w : World) (h0 : 0 ≤ z) (h3 : z < 3) : Calls Try.prog 25 #[.int .i64 z] w fun e w' => e = .returned (.int .i64 (3 - z)) ∧ w' = w := by
  by_cases h : z = 0
  · subst h
    go_enter Try.func25, Try.ntmps25
    go_wp2_with fail
    go_ret
    exact ⟨rfl, rfl⟩
  · by_cases h1 : z = 1
    · subst h1
      go_enter Try.func25, Try.ntmps25
      go_wp2_with fail
      go_ret
      exact ⟨rfl, rfl⟩
    · obtain rfl : z = 2 := by omega
      go_enter Try.func25, Try.ntmps25
      go_wp2_with fail
      go_ret
      exact ⟨rfl, rfl⟩

def WB (L : List Osd) : Prop := ∀ o ∈ L, 0 ≤ wO o ∧ wO o ≤ 16777216
theorem WB.nn {L : List Osd} (h : WB L) : NN L := fun o ho => (h o ho).1
theorem sum_le : ∀ {L : List Osd}, WB L → 0 ≤ sumW L ∧ sumW L ≤ L.length * 16777216
  | [], _ => by simp [sumW]
  | o :: L, h => by
    have h1 := h o List.mem_cons_self
    have h2 := sum_le (L := L) fun p hp => h p (List.mem_cons_of_mem _ hp)
    simp only [sumW, List.length_cons]
    omega
theorem WB.take {L : List Osd} (h : WB L) (k : Nat) : WB (L.take k) := fun o ho => h o (List.mem_of_mem_take ho)
theorem sum_take {L : List Osd} {k : Nat} {o : Osd} (h : L[k]? = some o) : sumW (L.take (k + 1)) = sumW (L.take k) + wO o := by
  rw [List.take_add_one, h, sumW_app]
  simp [sumW]

set_option maxHeartbeats 1600000 in
theorem total_any {w : World} {x : Option Addr} {n c : Nat} {L : List Osd} (h : At.Os w x n c L) (hn : n ≤ 64) (hB : WB L) :
    Calls Try.prog 58 #[.slice x n c] w fun e w' => e = .returned (.int .i64 (sumW L)) ∧ Below w.heap.size w w' := by
  have HO : Hid (At.Os w x n c L) := h
  have HL : Hid (L.length = n) := h.len
  have HW : Hid (WB L) := hB
  clear h hB
  go_enter Try.func58, Try.ntmps58
  go_wp2_with fail
  go_loopw [8, 3] (fun i a wr => ∃ (k : Nat) (C : Int), k ≤ n ∧ i = .int .i64 k ∧ a = .int .i64 C ∧ 0 ≤ C ∧ C ≤ 1073741824 ∧ Hid (Below w.heap.size w wr ∧ sumW (L.take k) = C)) (fun i _ _ => n - (intOf i).toNat)
  case atStart => exact ⟨0, 0, by omega, rfl, rfl, by omega, by omega, Below.refl _ _, rfl⟩
  case round =>
    obtain ⟨k, C, hk, rfl, rfl, hC1, hC2, HR⟩ := hrel
    by_cases hlt : k < n
    · have hkn : (k : Int) < (n : Int) := by omega
      obtain ⟨m, hLm⟩ : ∃ m, L[k]? = some m := ⟨L[k]'(by have := HL.out; omega), List.getElem?_eq_getElem (by have := HL.out; omega)⟩
      have ho := HO.out.below HR.out.1
      rcases ho.row with h0 | ⟨b, o, rfl, hbl, hcell⟩
      · omega
      obtain ⟨k0, k1, k2, k3, k4, k5, k6, k7⟩   := At.Os.at (n := n) (c := c) hcell hLm
      have c1 := fun W => weight_any m W
      have HS : Hid (sumW (L.take (k + 1)) = C + wO m ∧ 0 ≤ C + wO m ∧ C + wO m ≤ 1073741824) := by
        have e := sum_take hLm
        rw [HR.out.2] at e
        have hb := sum_le (HW.out.take (k + 1))
        rw [e] at hb
        have hl : (L.take (k + 1)).length ≤ 64 := by rw [List.length_take]; omega
        refine ⟨e, hb.1, ?_⟩
        have := hb.2
        omega
      have hw := HW.out m (List.mem_of_getElem? hLm)
      clear ho hcell hLm
      generalize wO m = z at *
      obtain ⟨id, up, inn, wt, life, boot, host, rack⟩ := m
      unfold vO at c1
      dsimp only at k0 k1 k2 k3 k4 k5 k6 k7 c1
      have b0 := al wr (.cells #[.int .i64 id, .bool up, .bool inn, .int .i64 wt, .int .i64 life, .int .i64 boot, .int .i64 host, .int .i64 rack] 44)
      go_wp2_with (go_at_call 46; refine (c1 _).mono ?_; rintro e w1 ⟨rfl, hb1⟩; clear c1)
      go_roundw
      case rel => exact ⟨k + 1, C + z, by omega, by go_num, by rfl, HS.out.2.1, HS.out.2.2, on HR.out.1 (on b0 hb1), HS.out.1⟩
      case measure => simp [intOf]; omega
    · have hk2 : k = n := by omega
      subst hk2
      go_wp2_with fail
      go_ret
      refine ⟨?_, HR.out.1⟩
      have := HR.out.2
      rw [← HL.out, List.take_length] at this
      rw [this]
      rfl

def cmpI (a b : Int) : Int := if a < b then -1 else if b < a then 1 else 0
theorem nan_any (a : Int) (w : World) : Calls Try.prog 56 #[.int .i64 a] w fun e w' => e = .returned (.bool false) ∧ w' = w := by
  go_enter Try.func56, Try.ntmps56
  go_wp2_with fail
  go_ret
  exact ⟨by simp, rfl⟩
theorem compare_any (a b : Int) (w : World) : Calls Try.prog 40 #[.int .i64 a, .int .i64 b] w fun e w' => e = .returned (.int .i64 (cmpI a b)) ∧ w' = w := by
  unfold cmpI
  have hN := fun a W => nan_any a W
  by_cases h : a < b
  · rw [if_pos h]
    go_enter Try.func40, Try.ntmps40
    go_wp2_with (go_at_call 56; refine (hN _ _).mono ?_; rintro e w1 ⟨rfl, rfl⟩)
    go_ret
    exact ⟨rfl, rfl⟩
  · rw [if_neg h]
    by_cases h2 : b < a
    · rw [if_pos h2]
      go_enter Try.func40, Try.ntmps40
      go_wp2_with (go_at_call 56; refine (hN _ _).mono ?_; rintro e w1 ⟨rfl, rfl⟩)
      go_ret
      exact ⟨rfl, rfl⟩
    · rw [if_neg h2]
      go_enter Try.func40, Try.ntmps40
      go_wp2_with (go_at_call 56; refine (hN _ _).mono ?_; rintro e w1 ⟨rfl, rfl⟩)
      go_ret
      exact ⟨rfl, rfl⟩

def or3 (a b c : Int) : Int := if a ≠ 0 then a else if b ≠ 0 then b else c
theorem or_any (a b c : Int) (g : Nat) (w : World) (h0 : w.cell? ⟨g, 0, none⟩ = some (.int .i64 a)) (h1 : w.cell? ⟨g, 1, none⟩ = some (.int .i64 b)) (h2 : w.cell? ⟨g, 2, none⟩ = some (.int .i64 c)) :
    Calls Try.prog 39 #[.slice (some ⟨g, 0, none⟩) 3 3] w fun e w' => e = .returned (.int .i64 (or3 a b c)) ∧ w' = w := by
  go_enter Try.func39, Try.ntmps39
  go_wp2_with fail
  go_loop [8] (fun i => ∃ k : Nat, k ≤ 3 ∧ i = .int .i64 k ∧ Hid ((1 ≤ k → a = 0) ∧ (2 ≤ k → b = 0) ∧ (3 ≤ k → c = 0))) (fun i => 3 - (intOf i).toNat)
  case atStart => exact ⟨0, by omega, rfl, by refine ⟨?_, ?_, ?_⟩ <;> intro h <;> omega⟩
  case round =>
    obtain ⟨k, hk, rfl, HR⟩ := hrel
    rcases (show k = 0 ∨ k = 1 ∨ k = 2 ∨ k = 3 by omega) with rfl | rfl | rfl | rfl
    · by_cases e : a = 0
      · have e1 : (a != 0) = false := by simpa using e
        go_wp2_with fail
        go_round
        case rel => exact ⟨1, by omega, by go_num, ⟨fun _ => e, fun h => by omega, fun h => by omega⟩⟩
        case measure => simp [intOf]
      · have e1 : (a != 0) = true := by simpa using e
        go_wp2_with fail
        go_ret
        exact ⟨by rw [show or3 a b c = a from if_pos e]; rfl, rfl⟩
    · have ha := HR.out.1 (by omega)
      by_cases e : b = 0
      · have e1 : (b != 0) = false := by simpa using e
        have HA := hid ha
        clear ha
        go_wp2_with fail
        go_round
        case rel => exact ⟨2, by omega, by go_num, ⟨fun _ => HA.out, fun _ => e, fun h => by omega⟩⟩
        case measure => simp [intOf]
      · have e1 : (b != 0) = true := by simpa using e
        have HA := hid ha
        clear ha
        go_wp2_with fail
        go_ret
        exact ⟨by rw [show or3 a b c = b by unfold or3; rw [if_neg (fun h => h HA.out), if_pos e]]; rfl, rfl⟩
    · have HA := hid (And.intro (HR.out.1 (by omega)) (HR.out.2.1 (by omega)))
      by_cases e : c = 0
      · have e1 : (c != 0) = false := by simpa using e
        have HE := hid e
        clear e
        go_wp2_with fail
        go_round
        case rel => exact ⟨3, by omega, by go_num, ⟨fun _ => HA.out.1, fun _ => HA.out.2, fun _ => HE.out⟩⟩
        case measure => simp [intOf]
      · have e1 : (c != 0) = true := by simpa using e
        go_wp2_with fail
        go_ret
        exact ⟨by rw [show or3 a b c = c by unfold or3; rw [if_neg (fun h => h HA.out.1), if_neg (fun h => h HA.out.2)]]; rfl, rfl⟩
    · have HA := hid (And.intro (HR.out.1 (by omega)) (And.intro (HR.out.2.1 (by omega)) (HR.out.2.2 (by omega))))
      go_wp2_with fail
      go_ret
      exact ⟨by rw [show or3 a b c = 0 by unfold or3; rw [if_neg (fun h => h HA.out.1), if_neg (fun h => h HA.out.2.1), HA.out.2.2]]; rfl, rfl⟩

end Go.Proofs.Ythiomhbehajldaa.Cr

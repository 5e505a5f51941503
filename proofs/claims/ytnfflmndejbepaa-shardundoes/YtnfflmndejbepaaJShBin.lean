/-
  2 texts of this proof, one behind the other: ShBin, ShSetP.
-/
import Derived.Test.YtnfflmndejbepaaJShMayP
import Derived.Lib.Bytealg
import Derived.Deep.Cut
import Derived.Test.YtnfflmndejbepaaJShPlain
/-
  strings.Compare; slices.BinarySearchFunc at items.
  Conditions: the items rise.
-/
namespace Go.Proofs.Ytnfflmndejbepaa.Sh
set_option linter.unusedSectionVars false
variable [Inhabited DZ]
open Go.RowKit By Fl
set_option linter.unusedVariables false
set_option linter.unusedSimpArgs false
set_option maxRecDepth 100000

theorem cmp_lt : ∀ x y : List UInt8, Lib.compareBytes x y < 0 ↔ Op.bytesLess x y = true
  | [], [] => by simp [Lib.compareBytes, Op.bytesLess]
  | [], b :: y => by simp [Lib.compareBytes, Op.bytesLess]
  | a :: x, [] => by simp [Lib.compareBytes, Op.bytesLess]
  | a :: x, b :: y => by
    have ih := cmp_lt x y
    unfold Lib.compareBytes Op.bytesLess
    by_cases h1 : a < b
    · simp [h1]
    · by_cases h2 : b < a
      · have h3 : a ≠ b := fun e => by subst e; exact h1 h2
        simp [h1, h2, h3]
      · have h3 : a = b := UInt8.le_antisymm (UInt8.not_lt.1 h2) (UInt8.not_lt.1 h1)
        subst h3
        simp [h1, ih]

theorem cmp_eq0 : ∀ x y : List UInt8, Lib.compareBytes x y = 0 ↔ x = y
  | [], [] => by simp [Lib.compareBytes]
  | [], b :: y => by simp [Lib.compareBytes]
  | a :: x, [] => by simp [Lib.compareBytes]
  | a :: x, b :: y => by
    have ih := cmp_eq0 x y
    unfold Lib.compareBytes
    by_cases h1 : a < b
    · have h3 : a ≠ b := fun e => by subst e; exact absurd h1 (UInt8.lt_irrefl a)
      simp [h1, h3]
    · by_cases h2 : b < a
      · have h3 : a ≠ b := fun e => by subst e; exact h1 h2
        simp [h1, h2, h3]
      · have h3 : a = b := UInt8.le_antisymm (UInt8.not_lt.1 h2) (UInt8.not_lt.1 h1)
        subst h3
        simp [h1, ih]

def cB (a b : ByteArray) : Int := Lib.compareBytes a.data.toList b.data.toList
theorem cB_lt (a b : ByteArray) : cB a b < 0 ↔ lt a b := by
  unfold cB lt
  rw [cmp_lt, ← Na.less_nat, ByteArray.toList_eq, ByteArray.toList_eq]
theorem cB_eq (a b : ByteArray) : cB a b = 0 ↔ a = b := by
  unfold cB
  rw [cmp_eq0]
  exact ⟨fun h => ByteArray.ext (Array.toList_inj.1 h), fun h => by rw [h]⟩

theorem cmpstr_any (a b : ByteArray) (w : World) :
    Calls Try.prog 96 #[.string a, .string b] w fun e w' => e = .returned (.int .i64 (cB a b)) ∧ w' = w := by
  go_enter Try.func96, Try.ntmps96
  go_wp2
  rw [run_callFunc_extern Try.func101 (by kernel_rfl) (by kernel_rfl) (by kernel_rfl) (e := Extern.BytealgCompare.compare) (by kernel_rfl), Lib.run_compareString]
  simp only [Result.andThen]
  rw [Oper.upon_value]
  go_wp2
  go_ret
  exact ⟨rfl, rfl⟩

theorem compare_any (a b : ByteArray) (w : World) :
    Calls Try.prog 90 #[.string a, .string b] w fun e w' => e = .returned (.int .i64 (cB a b)) ∧ w' = w := by
  go_enter Try.func90, Try.ntmps90
  go_wp2_with (go_at_call 96; refine (cmpstr_any _ _ _).mono ?_; rintro e w' ⟨rfl, rfl⟩)
  go_ret
  exact ⟨rfl, rfl⟩

theorem set1_any (v : IV) (nm : ByteArray) (w : World) : Calls Try.prog 89 #[vI v, .string nm] w fun e w' => e = .returned (.int .i64 (cB v.nm nm)) ∧ Below w.heap.size w w' := by
  have hC := fun W => compare_any v.nm nm W
  obtain ⟨n0, sz, x, m, c, dat, sum⟩ := v
  unfold vI
  dsimp only at *
  generalize cB n0 nm = r at *
  go_enter Try.func89, Try.ntmps89
  go_wp2_with (go_at_call 90; refine (hC _).mono ?_; rintro e w' ⟨rfl, hw⟩; subst w')
  go_ret
  exact ⟨rfl, al _ _⟩

/- Where a name is, or were to be. -/
def Found (w : World) (n : Nat) (L : List IV) (nm : ByteArray) (e : Ending) (w' : World) : Prop := ∃ (k : Nat) (t : Bool), e = .returned (.tuple #[.int .i64 k, .bool t]) ∧
  Hid (k ≤ n ∧ (∀ (j : Nat) (a : IV), j < k → L[j]? = some a → lt a.nm nm) ∧ (∀ (j : Nat) (a : IV), k ≤ j → L[j]? = some a → ¬ lt a.nm nm) ∧ (t = true ↔ ∃ a, L[k]? = some a ∧ a.nm = nm) ∧ Below w.heap.size w w')

set_option maxHeartbeats 3200000 in
theorem bsearch_any {w : World} {F : Nat → Prop} {x : Option Addr} {n c : Nat} {L : List IV} (nm : ByteArray) (h : Is w F x n c L) (hr : Rise (L.map pI)) :
    Calls Try.prog 88 #[.slice x n c, .string nm, .func (.func 89) #[] #[]] w fun e w' => Found w n L nm e w' := by
  have HA := hid h
  have hsm := h.small
  have HL := hid h.len
  have HR := hid (fun (i j : Nat) (a b : IV) (hij : i < j) (ha : L[i]? = some a) (hb : L[j]? = some b) => (rise_at hr hij (map_get ha) (map_get hb) : lt a.nm b.nm))
  clear h hr
  go_enter Try.func88, Try.ntmps88
  go_wp2_with fail
  go_loopw [9, 10] (fun i j wr => ∃ p q : Nat, i = .int .i64 p ∧ j = .int .i64 q ∧ p ≤ q ∧ q ≤ n ∧ Hid (Below w.heap.size w wr ∧ (∀ (j : Nat) (a : IV), j < p → L[j]? = some a → lt a.nm nm) ∧ (∀ (j : Nat) (a : IV), q ≤ j → L[j]? = some a → ¬ lt a.nm nm))) (fun i j _ => (intOf j).toNat - (intOf i).toNat)
  case atStart => exact ⟨0, n, rfl, rfl, by omega, by omega, Below.refl _ _, fun j a hj => by omega, fun j a hj ha => by have := (List.getElem?_eq_some_iff.1 ha).1; have := HL.out; omega⟩
  case round =>
    obtain ⟨p, q, rfl, rfl, hpq, hqn, HI⟩ := hrel
    by_cases hlt : p < q
    · have hkn : (p : Int) < (q : Int) := by omega
      obtain ⟨m, hm⟩ : ∃ m : Nat, ((p : Int) + (q : Int)) / 2 = (m : Int) := ⟨(p + q) / 2, by omega⟩
      have hpm : p ≤ m := by omega
      have hmq : m < q := by omega
      have hmn : (m : Int) < (n : Int) := by omega
      obtain ⟨a, ha, hma⟩ := Lis.some HA.out (k := m) (by omega)
      rcases HA.out.row with h0 | ⟨bl, o, rfl, hbl, _, hc⟩
      · omega
      obtain ⟨k0, k1, k2, k3⟩ := i_at hc ha
      have hbw := HI.out.1
      replace k0 := keep hbw k0
      replace k1 := keep hbw k1
      replace k2 := keep hbw k2
      replace k3 := keep hbw k3
      have hC := set1_any a nm wr
      have HM := hid ha
      have HT := hid (And.intro (cB_lt a.nm nm) (cB_eq a.nm nm))
      generalize hcb : cB a.nm nm = r at *
      clear hc ha hma hbl hbw hcb
      obtain ⟨n0, sz, x0, m0, c0, dat, sum⟩ := a
      unfold vI at hC
      dsimp only at k0 k1 k2 k3 hC
      by_cases hr : r < 0
      · go_wp2_with (go_at_call 89; refine hC.mono ?_; rintro e w2 ⟨rfl, hb2⟩; clear hC)
        go_roundw
        case rel =>
          refine ⟨m + 1, q, by go_num, rfl, by omega, hqn, on HI.out.1 hb2, fun j b hj hb => ?_, HI.out.2.2⟩
          by_cases e : j = m
          · subst e
            have := Option.some.inj (HM.out.symm.trans hb)
            rw [← this]
            exact HT.out.1.1 hr
          · exact lt_tr (HR.out j m b _ (by omega) hb HM.out) (HT.out.1.1 hr)
        case measure => simp [intOf]; omega
      · have hr2 : 0 ≤ r := by omega
        go_wp2_with (go_at_call 89; refine hC.mono ?_; rintro e w2 ⟨rfl, hb2⟩; clear hC)
        go_roundw
        case rel =>
          refine ⟨p, m, rfl, rfl, hpm, by omega, on HI.out.1 hb2, HI.out.2.1, fun j b hj hb hlt2 => ?_⟩
          by_cases e : j = m
          · subst e
            have := Option.some.inj (HM.out.symm.trans hb)
            rw [← this] at hlt2
            have := HT.out.1.2 hlt2
            omega
          · have h1 := HR.out m j _ b (by omega) HM.out hb
            have := HT.out.1.2 (lt_tr h1 hlt2)
            omega
        case measure => simp [intOf]; omega
    · have hk2 : p = q := by omega
      subst hk2
      have hpp : ¬ (p : Int) < (p : Int) := by omega
      by_cases hpn : p < n
      · have hpn' : (p : Int) < (n : Int) := by omega
        obtain ⟨a, ha, hma⟩ := Lis.some HA.out (k := p) (by omega)
        rcases HA.out.row with h0 | ⟨bl, o, rfl, hbl, _, hc⟩
        · omega
        obtain ⟨k0, k1, k2, k3⟩ := i_at hc ha
        have hbw := HI.out.1
        replace k0 := keep hbw k0
        replace k1 := keep hbw k1
        replace k2 := keep hbw k2
        replace k3 := keep hbw k3
        have hC := set1_any a nm wr
        have HM := hid ha
        have HT := hid (And.intro (cB_lt a.nm nm) (cB_eq a.nm nm))
        generalize hcb : cB a.nm nm = r at *
        clear hc ha hma hbl hbw hcb
        obtain ⟨n0, sz, x0, m0, c0, dat, sum⟩ := a
        unfold vI at hC
        dsimp only at k0 k1 k2 k3 hC
        go_wp2_with (go_at_call 89; refine hC.mono ?_; rintro e w2 ⟨rfl, hb2⟩; clear hC)
        go_ret2
        refine ⟨p, (r == 0), rfl, hqn, HI.out.2.1, HI.out.2.2, ?_, on HI.out.1 hb2⟩
        constructor
        · intro e
          exact ⟨_, HM.out, HT.out.2.1 (by simpa using e)⟩
        · rintro ⟨b, hb, he⟩
          have := Option.some.inj (HM.out.symm.trans hb)
          rw [← this] at he
          have := HT.out.2.2 he
          simp [this]
      · have hpn' : ¬ (p : Int) < (n : Int) := by omega
        have hpn2 : ¬ p < n := hpn
        have HF : Hid (false = true ↔ ∃ a, L[p]? = some a ∧ a.nm = nm) := hid ⟨fun e => (by cases e), fun ⟨b, hb, _⟩ => by
          have := (List.getElem?_eq_some_iff.1 hb).1
          have := HL.out
          omega⟩
        go_wp2_with fail
        refine bodyPost_ret (results_tmp2 rfl _ _ _) rfl ?_
        exact ⟨p, false, rfl, hid ⟨hqn, HI.out.2.1, HI.out.2.2, HF.out, HI.out.1⟩⟩

end Go.Proofs.Ytnfflmndejbepaa.Sh

/-
  An item set or gone, by its place.
  Conditions: none.
-/
namespace Go.Proofs.Ytnfflmndejbepaa.Sh
set_option linter.unusedVariables false
set_option linter.unusedSimpArgs false
set_option maxRecDepth 100000

/- All that lies ahead of the place is lower; nothing from it on is. -/
theorem del_high {nm : ByteArray} {L : List Itm} (h : ∀ x ∈ L, lt nm x.nm) : del nm L = L := by
  induction L with
  | nil => rfl
  | cons x L ih =>
    have := lt_ne (h x (List.mem_cons_self ..))
    simp [del, Ne.symm this, ih fun y hy => h y (List.mem_cons_of_mem _ hy)]

theorem set_here {nm : ByteArray} {c : Chk} {y : Itm} {L : List Itm} (hr : Rise (y :: L)) (hy : y.nm = nm) : setT nm c false (y :: L) = ⟨nm, c⟩ :: L ∧ del nm (y :: L) = L := by
  have h2 := List.pairwise_cons.1 hr
  have hh : ∀ x ∈ L, lt nm x.nm := fun x hx => by have := h2.1 x hx; rwa [hy] at this
  refine ⟨by rw [set_skip hy, set_above hh], by simp [del, hy, del_high hh]⟩

theorem set_place {nm : ByteArray} {c : Chk} : ∀ {L : List Itm} {k : Nat}, Rise L → k ≤ L.length → (∀ (j : Nat) (a : Itm), j < k → L[j]? = some a → lt a.nm nm) → (∀ (j : Nat) (a : Itm), k ≤ j → L[j]? = some a → ¬ lt a.nm nm) →
    ((∃ a, L[k]? = some a ∧ a.nm = nm) → setT nm c false L = L.take k ++ ⟨nm, c⟩ :: L.drop (k + 1) ∧ del nm L = L.take k ++ L.drop (k + 1)) ∧
    ((¬ ∃ a, L[k]? = some a ∧ a.nm = nm) → setT nm c false L = L.take k ++ ⟨nm, c⟩ :: L.drop k ∧ del nm L = L)
  | [], k, hr, hk, h1, h2 => by
    have : k = 0 := by simpa using hk
    subst this
    exact ⟨fun ⟨a, ha, _⟩ => by simp at ha, fun _ => ⟨rfl, rfl⟩⟩
  | x :: L, 0, hr, hk, h1, h2 => by
    refine ⟨fun ⟨a, ha, he⟩ => ?_, fun hn => ?_⟩
    · simp at ha
      subst ha
      have := set_here (c := c) hr he
      exact ⟨by simpa using this.1, by simpa using this.2⟩
    · have hxn : x.nm ≠ nm := fun e => hn ⟨x, rfl, e⟩
      have hall : ∀ y ∈ x :: L, lt nm y.nm := fun y hy => by
        obtain ⟨j, hj⟩ := List.mem_iff_getElem?.1 hy
        have h3 := h2 j y (by omega) hj
        have hne : y.nm ≠ nm := fun e => by
          cases j with
          | zero => simp at hj; subst hj; exact hxn e
          | succ j =>
            have hx := h2 0 x (by omega) rfl
            have hm : y ∈ L := List.mem_of_getElem? (by simpa using hj)
            have := (List.pairwise_cons.1 hr).1 y hm
            rw [e] at this
            exact hx this
        rcases lt_tot hne with h | h
        · exact absurd h h3
        · exact h
      exact ⟨by simpa using set_above hall, del_high hall⟩
  | x :: L, k + 1, hr, hk, h1, h2 => by
    have hx : lt x.nm nm := h1 0 x (by omega) rfl
    have hxn : x.nm ≠ nm := lt_ne hx
    have hf : isLt nm x.nm = false := by
      cases h3 : isLt nm x.nm with
      | false => rfl
      | true => exact absurd h3 (lt_asym hx)
    have ih := set_place (nm := nm) (c := c) (L := L) (k := k) (List.pairwise_cons.1 hr).2 (by simpa using hk) (fun j a hj ha => h1 (j + 1) a (by omega) (by simpa using ha)) (fun j a hj ha => h2 (j + 1) a (by omega) (by simpa using ha))
    have es : setT nm c false (x :: L) = x :: setT nm c false L := by simp [setT, hf, hxn]
    have ed : del nm (x :: L) = x :: del nm L := by simp [del, hxn]
    rw [es, ed]
    refine ⟨fun ⟨a, ha, he⟩ => ?_, fun hn => ?_⟩
    · have := ih.1 ⟨a, by simpa using ha, he⟩
      rw [this.1, this.2]
      simp
    · have := ih.2 fun ⟨a, ha, he⟩ => hn ⟨a, by simpa using ha, he⟩
      rw [this.1, this.2]
      simp

end Go.Proofs.Ytnfflmndejbepaa.Sh

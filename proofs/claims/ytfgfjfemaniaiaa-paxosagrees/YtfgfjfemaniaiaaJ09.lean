/-
  4 texts of this proof, one behind the other: PxDel, PxMap, PxNode, PxSmall.
-/
import Derived.Test.YtfgfjfemaniaiaaJ08
import Derived.Test.YtfgfjfemaniaiaaJ05
import Derived.Maps.OwnSet
import Derived.Maps.Ext
/-
  slices.IndexFunc and slices.DeleteFunc at decrees, with what learn asks of each.
  Conditions: the row is one's own.
-/
namespace Go.Proofs.Ytfgfjfemaniaiaa.Px
open Go.RowKit Wi By Fl Ba
set_option linter.unusedVariables false
set_option linter.unusedSimpArgs false
set_option maxRecDepth 100000

def hitD (d m : Dc) : Bool := decide (m.mon = d.mon) && decide (m.ser = d.ser)

def Box2 (w : World) (bx : Nat) (d : Dc) : Prop := w.cell? ⟨bx, 0, none⟩ = some (.int .i64 d.mon) ∧ w.cell? ⟨bx, 1, none⟩ = some (.int .i64 d.ser)

theorem Box2.lt {w : World} {bx : Nat} {d : Dc} (h : Box2 w bx d) : bx < w.heap.size := cell_lt' h.1
theorem Box2.below {w w' : World} {bx : Nat} {d : Dc} (h : Box2 w bx d) (b : Below w.heap.size w w') : Box2 w' bx d := ⟨keep b h.1, keep b h.2⟩
theorem Box2.turns {w w' : World} {bx g : Nat} {d : Dc} (h : Box2 w bx d) (t : Turns (fun k => k = g) w w') (hg : bx ≠ g) : Box2 w' bx d := ⟨keept t hg h.1, keept t hg h.2⟩

theorem clos_any (w : World) (bx : Nat) (m d : Dc) (hb : Box2 w bx d) :
    Calls Try.prog 76 #[.agg #[.int .i64 m.mon, .int .i64 m.ser, .string m.val], .pointer (some ⟨bx, 0, none⟩)] w fun e w' => e = .returned (.bool (hitD d m)) ∧ Below w.heap.size w w' := by
  have hlt := hb.lt
  obtain ⟨k0, k1⟩ := hb.below (al w (.cells #[.int .i64 m.mon, .int .i64 m.ser, .string m.val] 68))
  obtain ⟨m1, m2, s⟩ := m
  obtain ⟨d1, d2, ds⟩ := d
  unfold hitD
  dsimp only at *
  by_cases h1 : m1 = d1
  · subst h1
    by_cases h2 : m2 = d2
    · subst h2
      go_enter Try.func76, Try.ntmps76
      go_wp2_with fail
      go_ret
      exact ⟨by simp, al _ _⟩
    · have q2 : ((m2 : Int) == (d2 : Int)) = false := by simp; omega
      go_enter Try.func76, Try.ntmps76
      go_wp2_with fail
      go_ret
      exact ⟨by simp [h2], al _ _⟩
  · have q1 : ((m1 : Int) == (d1 : Int)) = false := by simp; omega
    go_enter Try.func76, Try.ntmps76
    go_wp2_with fail
    go_ret
    exact ⟨by simp [h1], al _ _⟩

section
variable {w : World} {B : Nat} {L : List Dc}

theorem index_any {g n c bx : Nat} (node : Dc) (h : Own w B 68 3 encD (.slice (some ⟨g, 0, none⟩) n c) L) (hb : Box2 w bx node) :
    Calls Try.prog 92 #[.slice (some ⟨g, 0, none⟩) n c, .func (.func 76) #[] #[.pointer (some ⟨bx, 0, none⟩)]] w fun e w' => ∃ r : Int, e = .returned (.int .i64 r) ∧
      Hid (Below w.heap.size w w' ∧ ((r = -1 ∧ ∀ (j : Nat) (m : Dc), L[j]? = some m → (hitD node m) = false) ∨ ∃ k, r = (k : Nat) ∧ k < n ∧ (∀ m : Dc, L[k]? = some m → (hitD node m) = true) ∧ ∀ (j : Nat) (m : Dc), j < k → L[j]? = some m → (hitD node m) = false)) := by
  obtain ⟨hL, _, hnc, hcm, _⟩ := h.heap
  have hm : n ≤ 9223372036854775807 := by unfold maxLen at hcm; omega
  have HO : Hid (Own w B 68 3 encD (.slice (some ⟨g, 0, none⟩) n c) L) := h
  have HB : Hid (Box2 w bx node) := hb
  clear h hb hcm
  go_enter Try.func92, Try.ntmps92
  go_wp2_with fail
  go_loopw [8, 5] (fun i _ wr => ∃ k : Nat, k ≤ n ∧ i = .int .i64 k ∧ Hid (Below w.heap.size w wr ∧ ∀ (j : Nat) (m : Dc), j < k → L[j]? = some m → (hitD node m) = false)) (fun i _ _ => n - (intOf i).toNat)
  case atStart => exact ⟨0, by omega, rfl, Below.refl _ _, fun j m hj => by omega⟩
  case round =>
    obtain ⟨k, hk, rfl, HR⟩ := hrel
    by_cases hlt : k < n
    · have hkn : (k : Int) < (n : Int) := by omega
      obtain ⟨m, hLm⟩ : ∃ m, L[k]? = some m := ⟨L[k]'(by omega), List.getElem?_eq_getElem (by omega)⟩
      have ho := HO.out.below HR.out.1
      have k0 := ho.cell drow.len hLm (j := 0) (v := .int .i64 m.mon) rfl
      rw [Nat.add_zero] at k0
      have k1 := ho.cell drow.len hLm (j := 1) (v := .int .i64 m.ser) rfl
      have k2 := ho.cell drow.len hLm (j := 2) (v := .string m.val) rfl
      have hc := clos_any wr bx m node (HB.out.below HR.out.1)
      have HM : Hid (L[k]? = some m) := hLm
      clear hLm ho
      cases ht : (hitD node m) with
      | true =>
        rw [ht] at hc
        have HT : Hid ((hitD node m) = true) := ht
        clear ht
        generalize m.mon = f at k0 hc
        generalize m.val = x at k2 hc
        have HT2 : Hid (∀ m' : Dc, L[k]? = some m' → (hitD node m') = true) := fun m' e => by
          have := HM.out
          rw [e] at this
          injection this with this
          rw [this]
          exact HT.out
        clear HT HM
        generalize m.ser = t at k1 hc
        go_wp2_with (go_at_call 76; refine hc.mono ?_; rintro e w2 ⟨rfl, hb2⟩; clear hc)
        go_ret
        exact ⟨k, rfl, HR.out.1.trans (hb2.mono HR.out.1.size), .inr ⟨k, rfl, hlt, HT2.out, HR.out.2⟩⟩
      | false =>
        rw [ht] at hc
        have HT2 : Hid (∀ m' : Dc, L[k]? = some m' → (hitD node m') = false) := fun m' e => by
          have := HM.out
          rw [e] at this
          injection this with this
          rw [this]
          exact ht
        clear ht HM
        generalize m.mon = f at k0 hc
        generalize m.val = x at k2 hc
        generalize m.ser = t at k1 hc
        go_wp2_with (go_at_call 76; refine hc.mono ?_; rintro e w2 ⟨rfl, hb2⟩; clear hc)
        go_roundw
        case rel =>
          refine ⟨k + 1, by omega, by go_num, HR.out.1.trans (hb2.mono HR.out.1.size), fun j m' hj e => ?_⟩
          by_cases hjk : j = k
          · subst hjk
            exact HT2.out m' e
          · exact HR.out.2 j m' (by omega) e
        case measure => simp [intOf]; omega
    · have hk2 : k = n := by omega
      subst hk2
      go_wp2_with fail
      go_ret
      refine ⟨-1, rfl, HR.out.1, .inl ⟨rfl, fun j m e => HR.out.2 j m ?_ e⟩⟩
      have := (List.getElem?_eq_some_iff.1 e).1
      omega

end

def keepN (node : Dc) (m : Dc) : Bool := !hitD node m
def left (node : Dc) (L : List Dc) : List Dc := L.filter (keepN node)

theorem left_all {node : Dc} {L : List Dc} (h : ∀ (j : Nat) (m : Dc), L[j]? = some m → (hitD node m) = false) : left node L = L := by
  unfold left
  rw [List.filter_eq_self]
  intro m hm
  obtain ⟨j, hj⟩ := List.getElem?_of_mem hm
  unfold keepN
  rw [h j m hj]
  rfl

structure KInv (node : Dc) (L K : List Dc) (n i j : Nat) : Prop where
  len : K.length = n
  lt : i < j
  le : j ≤ n
  take : K.take i = left node (L.take j)
  drop : K.drop j = L.drop j

theorem KInv.start {node : Dc} {L : List Dc} {n k : Nat} (hL : L.length = n) (hk : k < n) (h1 : ∀ m : Dc, L[k]? = some m → (hitD node m) = true) (h2 : ∀ (j : Nat) (m : Dc), j < k → L[j]? = some m → (hitD node m) = false) : KInv node L L n k (k + 1) := by
  refine ⟨hL, by omega, by omega, ?_, rfl⟩
  have hk' : k < L.length := by omega
  have hg : L[k]? = some (L[k]'hk') := List.getElem?_eq_getElem hk'
  rw [List.take_add_one, hg]
  unfold left
  rw [List.filter_append]
  have e1 : (L.take k).filter (keepN node) = L.take k := left_all (fun j m hj => by
    rw [List.getElem?_take] at hj
    split at hj
    · exact h2 j m (by assumption) hj
    · cases hj)
  have e2 : keepN node (L[k]'hk') = false := by
    unfold keepN
    rw [h1 _ hg]
    rfl
  simp [e1, e2]

theorem KInv.step {node : Dc} {L K : List Dc} {n i j : Nat} (h : KInv node L K n i j) (hL : L.length = n) (hj : j < n) (m : Dc) (hm : L[j]? = some m) :
    ((hitD node m) = true → KInv node L K n i (j + 1)) ∧ ((hitD node m) = false → KInv node L (K.set i m) n (i + 1) (j + 1)) := by
  have hd : K.drop (j + 1) = L.drop (j + 1) := by
    have := congrArg (List.drop 1) h.drop
    simpa [List.drop_drop] using this
  have ht : L.take (j + 1) = L.take j ++ [m] := by rw [List.take_add_one, hm]; rfl
  refine ⟨fun e => ⟨h.len, by have := h.lt; omega, by omega, ?_, hd⟩, fun e => ⟨by rw [List.length_set]; exact h.len, by have := h.lt; omega, by omega, ?_, ?_⟩⟩
  · rw [h.take, ht]
    unfold left
    rw [List.filter_append]
    simp [keepN, e]
  · have hi : i < (K.set i m).length := by rw [List.length_set, h.len]; have := h.lt; omega
    rw [List.take_add_one, List.getElem?_eq_getElem hi, List.getElem_set_self, ht]
    unfold left
    rw [List.filter_append, List.take_set_of_le (Nat.le_refl i), h.take]
    simp [left, keepN, e]
  · rw [List.drop_set_of_lt (by have := h.lt; omega)]
    exact hd

theorem KInv.at_ {node : Dc} {L K : List Dc} {n i j : Nat} (h : KInv node L K n i j) : K[j]? = L[j]? := by
  have := congrArg (fun l => l[0]?) h.drop
  simpa [List.getElem?_drop] using this

theorem encD_is (m : Dc) : encD m = [.int .i64 m.mon, .int .i64 m.ser, .string m.val] := rfl

theorem first_hit (node : Dc) : ∀ L : List Dc, (∀ (j : Nat) (m : Dc), L[j]? = some m → (hitD node m) = false) ∨ ∃ k, k < L.length ∧ (∀ m : Dc, L[k]? = some m → (hitD node m) = true) ∧ ∀ (j : Nat) (m : Dc), j < k → L[j]? = some m → (hitD node m) = false
  | [] => .inl fun j m h => by simp at h
  | a :: L => by
    cases ha : (hitD node a) with
    | true => exact .inr ⟨0, by simp, fun m hm => by simp at hm; rw [← hm]; exact ha, fun j m hj => by omega⟩
    | false =>
      rcases first_hit node L with h | ⟨k, h1, h2, h3⟩
      · refine .inl fun j m hm => ?_
        cases j with
        | zero => simp at hm; rw [← hm]; exact ha
        | succ j => exact h j m (by simpa using hm)
      · refine .inr ⟨k + 1, by simp; exact h1, fun m hm => h2 m (by simpa using hm), fun j m hj hm => ?_⟩
        cases j with
        | zero => simp at hm; rw [← hm]; exact ha
        | succ j => exact h3 j m (by omega) (by simpa using hm)

section
variable {w : World} {B : Nat} {L : List Dc}

theorem ownD_set {g n c i : Nat} (h : Own w B 68 3 encD (.slice (some ⟨g, 0, none⟩) n c) L) (m : Dc) :
    Own (((w.setCell ⟨g, i * 3, none⟩ (.int .i64 m.mon)).setCell ⟨g, i * 3 + 1, none⟩ (.int .i64 m.ser)).setCell ⟨g, i * 3 + 2, none⟩ (.string m.val)) B 68 3 encD (.slice (some ⟨g, 0, none⟩) n c) (L.set i m) := by
  obtain ⟨hL, _⟩ := h.heap
  subst hL
  unfold Own
  rw [flat_set3 _ _ _ encD_is, List.length_set]
  exact own_setCell (own_setCell (own_setCell h _ _) _ _) _ _

theorem deletef_any {g n c bx : Nat} (node : Dc) (h : Own w B 68 3 encD (.slice (some ⟨g, 0, none⟩) n c) L) (hb : Box2 w bx node) (hne : bx ≠ g) :
    Calls Try.prog 75 #[.slice (some ⟨g, 0, none⟩) n c, .func (.func 76) #[] #[.pointer (some ⟨bx, 0, none⟩)]] w fun e w' => ∃ q : Nat, e = .returned (.slice (some ⟨g, 0, none⟩) q c) ∧
      Hid (q = (left node L).length ∧ Own w' B 68 3 encD (.slice (some ⟨g, 0, none⟩) q c) (left node L) ∧ Turns (fun k => k = g) w w') := by
  obtain ⟨hL, _, hnc, hcm, _⟩ := h.heap
  have hm : n ≤ 9223372036854775807 := by unfold maxLen at hcm; omega
  have hgl : g < w.heap.size := (World.ownsRow.lt h g rfl).2
  have hI0 := index_any node h hb
  rcases first_hit node L with hno | ⟨k, hk, h1, h2⟩
  · have hI : Calls Try.prog 92 #[.slice (some ⟨g, 0, none⟩) n c, .func (.func 76) #[] #[.pointer (some ⟨bx, 0, none⟩)]] w fun e w' => e = .returned (.int .i64 (-1)) ∧ Hid (Below w.heap.size w w') := hI0.mono fun e w' ⟨r, e1, HI⟩ => by
      rcases HI.out.2 with ⟨rfl, _⟩ | ⟨k, _, hk, h1, _⟩
      · exact ⟨e1, HI.out.1⟩
      · have hg : L[k]? = some (L[k]'(by omega)) := List.getElem?_eq_getElem (by omega)
        have q := h1 _ hg
        rw [hno k _ hg] at q
        cases q
    have HN : Hid (∀ w', Below w.heap.size w w' → n = (left node L).length ∧ Own w' B 68 3 encD (.slice (some ⟨g, 0, none⟩) n c) (left node L) ∧ Turns (fun k => k = g) w w') := fun w' hb' => by
      rw [left_all hno]
      exact ⟨hL.symm, h.below hb', Turns.of_below hb'⟩
    clear h hb hcm hne hI0 hno
    go_enter Try.func75, Try.ntmps75
    go_wp2_with (go_at_call 92; refine hI.mono ?_; rintro e w1 ⟨rfl, HI⟩; clear hI)
    go_ret
    exact ⟨n, rfl, HN.out _ HI.out⟩
  · have hI : Calls Try.prog 92 #[.slice (some ⟨g, 0, none⟩) n c, .func (.func 76) #[] #[.pointer (some ⟨bx, 0, none⟩)]] w fun e w' => e = .returned (.int .i64 (k : Int)) ∧ Hid (Below w.heap.size w w') := hI0.mono fun e w' ⟨r, e1, HI⟩ => by
      have hg : L[k]? = some (L[k]'(by omega)) := List.getElem?_eq_getElem (by omega)
      rcases HI.out.2 with ⟨rfl, h3⟩ | ⟨kk, rfl, hkk, h3, h4⟩
      · have q := h1 _ hg
        rw [h3 k _ hg] at q
        cases q
      · rcases Nat.lt_trichotomy k kk with q | q | q
        · have := h4 k _ q hg
          rw [h1 _ hg] at this
          cases this
        · subst q
          exact ⟨e1, HI.out.1⟩
        · have hg' : L[kk]? = some (L[kk]'(by omega)) := List.getElem?_eq_getElem (by omega)
          have := h2 kk _ q hg'
          rw [h3 _ hg'] at this
          cases this
    have HS : Hid (KInv node L L n k (k + 1)) := KInv.start hL (by omega) h1 h2
    have HO : Hid (Own w B 68 3 encD (.slice (some ⟨g, 0, none⟩) n c) L ∧ L.length = n) := ⟨h, hL⟩
    have HB : Hid (Box2 w bx node ∧ bx ≠ g ∧ bx < w.heap.size) := ⟨hb, hne, hb.lt⟩
    have hkn : (k : Int) < (n : Int) := by omega
    have hk1 : (k : Int) ≠ -1 := by omega
    have hkn' : k < n := by omega
    have hnm : (n : Int) ≤ 9223372036854775807 := by omega
    clear h hb hcm hne hI0 h1 h2 hk hL
    go_enter Try.func75, Try.ntmps75
    go_wp2_with (go_at_call 92; refine hI.mono ?_; rintro e w1 ⟨rfl, HI⟩; clear hI)
    go_loopw [5, 6, 7] (fun s5 s6 _ wr => ∃ i j K, s5 = .int .i64 (i : Nat) ∧ s6 = .int .i64 (j : Nat) ∧ i < j ∧ j ≤ n ∧ Hid (KInv node L K n i j ∧ Own wr B 68 3 encD (.slice (some ⟨g, 0, none⟩) n c) K ∧ Turns (fun k => k = g) w wr)) (fun _ s6 _ _ => n - (intOf s6).toNat)
    case atStart => exact ⟨k, k + 1, L, rfl, by go_num, by omega, by omega, HS.out, HO.out.1.below HI.out, Turns.of_below HI.out⟩
    case round =>
      obtain ⟨i, j, K, rfl, rfl, hij, hjn, HR⟩ := hrel
      clear HI HS
      by_cases hlt : j < n
      · have hjz : (j : Int) < (n : Int) := by omega
        have hiz : (i : Int) < (n : Int) := by omega
        obtain ⟨hK, ho, ht⟩ := HR.out
        have hLn := HO.out.2
        obtain ⟨m, hLm⟩ : ∃ m, L[j]? = some m := ⟨L[j]'(by omega), List.getElem?_eq_getElem (by omega)⟩
        have hKm : K[j]? = some m := hK.at_.trans hLm
        have hst := hK.step hLn hlt m hLm
        obtain ⟨old, hKi⟩ : ∃ old, K[i]? = some old := ⟨K[i]'(by have := hK.len; omega), List.getElem?_eq_getElem (by have := hK.len; omega)⟩
        have k0 := ho.cell drow.len hKm (j := 0) (v := .int .i64 m.mon) rfl
        rw [Nat.add_zero] at k0
        have k1 := ho.cell drow.len hKm (j := 1) (v := .int .i64 m.ser) rfl
        have k2 := ho.cell drow.len hKm (j := 2) (v := .string m.val) rfl
        have hgr : g < wr.heap.size := (World.ownsRow.lt ho g rfl).2
        have b1 : Below wr.heap.size wr (wr.alloc (.cells #[.int .i64 m.mon, .int .i64 m.ser, .string m.val] 68)) := (Below.refl _ _).alloc (Nat.le_refl _) _
        have hbr : Box2 wr bx node := HB.out.1.turns ht HB.out.2.1
        have hc : Calls Try.prog 76 #[.agg #[.int .i64 m.mon, .int .i64 m.ser, .string m.val], .pointer (some ⟨bx, 0, none⟩)] (wr.alloc (.cells #[.int .i64 m.mon, .int .i64 m.ser, .string m.val] 68)) fun e w2 => e = .returned (.bool (hitD node m)) ∧
            (w2.cell? ⟨wr.heap.size, 0, none⟩ = some (.int .i64 m.mon) ∧ w2.cell? ⟨wr.heap.size, 1, none⟩ = some (.int .i64 m.ser) ∧ w2.cell? ⟨wr.heap.size, 2, none⟩ = some (.string m.val)) ∧
            (w2.cell? ⟨g, i * 3, none⟩ = some (.int .i64 old.mon) ∧ w2.cell? ⟨g, i * 3 + 1, none⟩ = some (.int .i64 old.ser) ∧ w2.cell? ⟨g, i * 3 + 2, none⟩ = some (.string old.val) ∧ (∀ q, w2.frozen? ⟨g, q, none⟩ = false)) ∧
            Hid (Own w2 B 68 3 encD (.slice (some ⟨g, 0, none⟩) n c) K ∧ Turns (fun k => k = g) w w2) := by
          refine (clos_any _ bx m node (hbr.below b1)).mono fun e w2 ⟨e1, hb2⟩ => ?_
          have hb3 : Below wr.heap.size wr w2 := b1.trans (hb2.mono b1.size)
          have ho2 := ho.below hb3
          have q0 := ho2.cell drow.len hKi (j := 0) (v := .int .i64 old.mon) rfl
          rw [Nat.add_zero] at q0
          refine ⟨e1, ⟨(hb2.cell (p := ⟨wr.heap.size, 0, none⟩) (by simp)).trans (by simp), (hb2.cell (p := ⟨wr.heap.size, 1, none⟩) (by simp)).trans (by simp), (hb2.cell (p := ⟨wr.heap.size, 2, none⟩) (by simp)).trans (by simp)⟩,
            ⟨q0, ho2.cell drow.len hKi (j := 1) rfl, ho2.cell drow.len hKi (j := 2) rfl, fun q => ho2.frozen⟩, ho2, ht.trans (Turns.of_below hb3)⟩
        have HST : Hid (((hitD node m) = true → KInv node L K n i (j + 1)) ∧ ((hitD node m) = false → KInv node L (K.set i m) n (i + 1) (j + 1))) := hst
        clear hK ho ht hLn hLm hKm hst hKi hbr b1 HR HO HB
        generalize old.mon = of at hc
        generalize old.ser = ot at hc
        generalize old.val = ox at hc
        cases htn : (hitD node m) with
        | true =>
          rw [htn] at hc HST
          have HF : Hid (KInv node L K n i (j + 1)) := HST.out.1 rfl
          clear htn HST
          generalize m.mon = f at k0 hc
          generalize m.ser = t at k1 hc
          generalize m.val = x at k2 hc
          go_wp2_with (go_at_call 76; refine hc.mono ?_; rintro e w2 ⟨rfl, ⟨q0, q1, q2⟩, ⟨p0, p1, p2, fz⟩, HN⟩; clear hc)
          refine ⟨⟨_, _, _, _, _, _, _, _, _, _, _, _, _, _, _, _, _, _, _, _, _, _, _, ?rel, rfl⟩, ?measure⟩
          case rel => exact ⟨i, j + 1, K, rfl, by go_num, by omega, by omega, HF.out, HN.out⟩
          case measure => simp [intOf]; omega
        | false =>
          rw [htn] at hc HST
          have HF : Hid (KInv node L (K.set i m) n (i + 1) (j + 1)) := HST.out.2 rfl
          have HG : Hid (∀ w2, Own w2 B 68 3 encD (.slice (some ⟨g, 0, none⟩) n c) K ∧ Turns (fun k => k = g) w w2 → Own (((w2.setCell ⟨g, i * 3, none⟩ (.int .i64 m.mon)).setCell ⟨g, i * 3 + 1, none⟩ (.int .i64 m.ser)).setCell ⟨g, i * 3 + 2, none⟩ (.string m.val)) B 68 3 encD (.slice (some ⟨g, 0, none⟩) n c) (K.set i m) ∧
            Turns (fun k => k = g) w (((w2.setCell ⟨g, i * 3, none⟩ (.int .i64 m.mon)).setCell ⟨g, i * 3 + 1, none⟩ (.int .i64 m.ser)).setCell ⟨g, i * 3 + 2, none⟩ (.string m.val))) := fun w2 ⟨h1, h2⟩ =>
            ⟨ownD_set h1 m, ((h2.setCell (p := ⟨g, i * 3, none⟩) (.inl rfl) _).setCell (p := ⟨g, i * 3 + 1, none⟩) (.inl rfl) _).setCell (p := ⟨g, i * 3 + 2, none⟩) (.inl rfl) _⟩
          clear htn HST
          generalize K.set i m = K2 at HF HG
          generalize m.mon = f at k0 hc HG
          generalize m.ser = t at k1 hc HG
          generalize m.val = x at k2 hc HG
          go_wp2_with (go_at_call 76; refine hc.mono ?_; rintro e w2 ⟨rfl, ⟨q0, q1, q2⟩, ⟨p0, p1, p2, fz⟩, HN⟩; clear hc)
          refine ⟨⟨_, _, _, _, _, _, _, _, _, _, _, _, _, _, _, _, _, _, _, _, _, _, _, ?rel, rfl⟩, ?measure⟩
          case rel => exact ⟨i + 1, j + 1, K2, by go_num, by go_num, by omega, by omega, HF.out, HG.out w2 HN.out⟩
          case measure => simp [intOf]; omega
      · have hj2 : j = n := by omega
        subst hj2
        obtain ⟨hK, ho, ht⟩ := HR.out
        obtain ⟨w2, hcl0, H2⟩ := ho.clear drow (k := i) (by omega) (i * 3) (c - i) (fun _ => rfl) (.agg #[.int .i64 0, .int .i64 0, .string ⟨#[]⟩]) (by kernel_rfl) rfl (by intro u hu; simp [Value.cells] at hu; rcases hu with rfl | rfl | rfl <;> rfl) 0
        have hcl : ∀ ty, (Builtin.clear_ #[59] ty #[.slice (some ⟨g, i * 3, none⟩) (j - i) (c - i)]).run Try.prog wr = .ok (.tuple #[]) w2 := fun ty => hcl0
        have HN : Hid (i = (left node L).length ∧ Own w2 B 68 3 encD (.slice (some ⟨g, 0, none⟩) i c) (left node L) ∧ Turns (fun k => k = g) w w2) := by
          have e1 : K.take i = left node L := by rw [hK.take, List.take_of_length_le (by have := HO.out.2; omega)]
          have h2 := H2.out.1
          rw [e1] at h2
          refine ⟨?_, h2, ht.trans H2.out.2⟩
          rw [← e1, List.length_take, hK.len]
          omega
        have hic : i ≤ c := by omega
        have hnci : ¬ c = i := by omega
        have hij2 : i ≤ j := by omega
        clear hK ho ht H2 hcl0 HR HO HB
        go_wp2_with fail
        go_ret
        exact ⟨i, rfl, HN.out⟩

end

theorem index_nil (w : World) (v : Value) : Calls Try.prog 92 #[.slice none 0 0, v] w fun e w' => e = .returned (.int .i64 (-1)) ∧ w' = w := by
  go_enter Try.func92, Try.ntmps92
  go_wp2_with fail
  go_loopw [8, 5] (fun i _ wr => i = .int .i64 0 ∧ wr = w) (fun i _ _ => 0)
  case atStart => exact ⟨rfl, rfl⟩
  case round =>
    obtain ⟨rfl, hw⟩ := hrel
    subst hw
    go_wp2_with fail
    go_ret
    exact ⟨rfl, rfl⟩

theorem deletef_nil (w : World) (v : Value) : Calls Try.prog 75 #[.slice none 0 0, v] w fun e w' => e = .returned (.slice none 0 0) ∧ w' = w := by
  have hI := index_nil w v
  go_enter Try.func75, Try.ntmps75
  go_wp2_with (go_at_call 92; refine hI.mono ?_; rintro e w1 ⟨rfl, hw⟩; subst w1; clear hI)
  go_ret
  exact ⟨rfl, rfl⟩

end Go.Proofs.Ytfgfjfemaniaiaa.Px

/-
  A map from numbers to acceptors as it lies in memory.
  Conditions: none.
-/
namespace Go.Proofs.Ytfgfjfemaniaiaa.Px
open Go.RowKit Wi By Fl Ba
set_option linter.unusedVariables false
set_option linter.unusedSimpArgs false
set_option maxRecDepth 100000

/- A list of bytes that nobody writes. -/
structure Sv (w : World) (x : Option Addr) (n c : Nat) (d : List Nat) : Prop where
  sl : Fl.Sl w x n c d
  sm : n ≤ 5000
  tb : ∀ a, x = some a → Tb w a.block 5

theorem Sv.turns {w w' : World} {G : Nat → Prop} {x : Option Addr} {n c : Nat} {d : List Nat} (h : Sv w x n c d) (t : Turns G w w') (hG : ∀ k, G k → ¬ Tb w k 5) : Sv w' x n c d :=
  ⟨h.sl.turns t (fun _ a ha hg => hG _ hg (h.tb a ha)), h.sm, fun a ha => (h.tb a ha).of_heap (t.block _ (h.tb a ha).lt (fun hg => hG _ hg (h.tb a ha)))⟩
theorem Sv.below {w w' : World} {x : Option Addr} {n c : Nat} {d : List Nat} (h : Sv w x n c d) (b : Below w.heap.size w w') : Sv w' x n c d := h.turns (Turns.of_below (F := fun _ => False) b) (fun _ h => h.elim)
theorem Sv.nil (w : World) : Sv w none 0 0 [] := ⟨Fl.Sl.empty w, by omega, fun a ha => by cases ha⟩
theorem vl_sv {w w' : World} {x : Option Addr} {n c : Nat} {d : List Nat} (h : Vl w w' x n c d) (hn : n ≤ 5000) : Sv w' x n c d := ⟨h.2.1, hn, fun a ha => (h.2.2 a ha).2⟩

theorem wfi_all {a : Int} (h1 : -9223372036854775808 ≤ a) (h2 : a ≤ 9223372036854775807) : wfi a := by
  have e1 : IntKind.i64.min = -9223372036854775808 := by decide
  have e2 : IntKind.i64.max = 9223372036854775807 := by decide
  unfold wfi Lit.wf
  simp [e1, e2]
  omega

def hva (v : Value) : Option (DataW Value × List MemPlace) := some (.held v, [])
def av (v : AccV) : Value := ac v.p v.a v.x v.n v.c
def acOf (v : AccV) : Ac := ⟨v.p, v.a, v.d⟩

theorem hva_inv {v : Value} {z : DataW Value × List MemPlace} (h : hva v = some z) : z = (.held v, []) := by
  injection h with h
  exact h.symm

theorem ilaw : Maps.Keyed Try.prog 3 := Maps.int_keyed Try.underlying3
def ilit (k : Nat) : Lit := .int .i64 (k : Int)
theorem ikey {k : Nat} (h : k < 4294967296) : keyOf Try.prog 3 (.int .i64 (k : Int)) = some (ilit k) := by
  have hw : wfi (k : Int) := wfi_all (by omega) (by omega)
  unfold keyOf mapKey ilit
  rw [Try.underlying3]
  unfold wfi at hw
  simp [hw]
theorem ilit_inj {a b : Nat} (h : ilit a = ilit b) : a = b := by
  unfold ilit at h
  injection h with _ h
  omega
theorem ilit_key (k : Nat) (h : k < 4294967296) : WideAt.IsKeyLit (ilit k) := ilaw.key (ikey h)
theorem azero (w : World) : (zeroValue 74).run Try.prog w = .ok (ac z0 z0 none 0 0) w := by kernel_rfl

/- An acceptor in memory. -/
structure AvOk (w : World) (v : AccV) : Prop where
  sv : Sv w v.x v.n v.c v.d
  p : bwf v.p
  a : bwf v.a

theorem AvOk.turns {w w' : World} {G : Nat → Prop} {v : AccV} (h : AvOk w v) (t : Turns G w w') (hG : ∀ k, G k → ¬ Tb w k 5) : AvOk w' v := ⟨h.sv.turns t hG, h.p, h.a⟩

def noAv : AccV := ⟨z0, z0, none, 0, 0, []⟩
theorem z0_wf : bwf z0 := ⟨wfi_all (a := 0) (by omega) (by omega), wfi_all (a := 0) (by omega) (by omega)⟩
theorem noAv_ok (w : World) : AvOk w noAv := ⟨Sv.nil w, z0_wf, z0_wf⟩

structure ApAt (w : World) (mb nb : Nat) (D : DataW Value) (M : Nat → Ac) : Prop where
  own : w.ownsMap Try.prog 3 hva mb nb D
  val : ∀ k, k < 4294967296 → (Maps.has D (ilit k) = false ∧ M k = noAc) ∨ ∃ v : AccV, (∀ z, D.atKey (ilit k) z = .held (av v)) ∧ AvOk w v ∧ M k = acOf v

section
variable {w w' : World} {mb nb : Nat} {D : DataW Value} {M : Nat → Ac}

theorem ApAt.isM (h : ApAt w mb nb D M) : Mb w mb := by
  obtain ⟨es, c, hb, _⟩ := h.own
  exact ⟨es, c, hb⟩
theorem ApAt.lt (h : ApAt w mb nb D M) : mb < w.heap.size := h.own.lt

theorem ApAt.turns {G : Nat → Prop} (h : ApAt w mb nb D M) (t : Turns G w w') (hm : ¬ G mb) (hG : ∀ k, G k → ¬ Tb w k 5) : ApAt w' mb nb D M := by
  obtain ⟨es, clock, hb, r⟩ := h.own
  refine ⟨⟨es, clock, (t.block mb h.own.lt hm).trans hb, r⟩, fun k hk => ?_⟩
  rcases h.val k hk with q | ⟨v, q1, q2, q3⟩
  · exact .inl q
  · exact .inr ⟨v, q1, q2.turns t hG, q3⟩

theorem ApAt.below (h : ApAt w mb nb D M) (b : Below w.heap.size w w') : ApAt w' mb nb D M := h.turns (Turns.of_below (F := fun _ => False) b) (fun h => h) (fun _ h => h.elim)

theorem ApAt.new (w : World) : ApAt (w.alloc (.map #[] 0)) w.heap.size 0 (.map []) (fun _ => noAc) :=
  ⟨World.ownsMap_made w _ _ _, fun _ _ => .inl ⟨rfl, rfl⟩⟩

theorem ApAt.look (h : ApAt w mb nb D M) (k : Nat) (hk : k < 4294967296) : ∃ v : AccV, (Instr.lookup 60 (.map (some mb)) (.int .i64 (k : Int)) false).run Try.prog w = .ok (av v) w ∧ AvOk w v ∧ M k = acOf v := by
  obtain ⟨v, ps, h1, h2⟩ := h.own.lookup (t := 60) (e := 74) ilaw Try.underlying60 (azero w) rfl (ikey hk)
  have h3 := congrArg Prod.fst (hva_inv h2)
  dsimp only at h3
  rcases h.val k hk with ⟨q1, q2⟩ | ⟨u, q1, q2, q3⟩
  · rw [Maps.atKey_of_not_has q1] at h3
    injection h3 with h3
    exact ⟨noAv, by rw [h1, ← h3]; rfl, noAv_ok w, q2⟩
  · rw [q1] at h3
    injection h3 with h3
    exact ⟨u, by rw [h1, ← h3], q2, q3⟩

def upA (M : Nat → Ac) (k : Nat) (a : Ac) : Nat → Ac := fun i => if i = k then a else M i

theorem mb_not_u8 (h : Mb w mb) : ∀ i, atB mb i → ¬ Tb w i 5 := fun i hi tb => by
  have e : i = mb := hi
  subst e
  exact tb.not_map h

theorem grown_at {w1 : World} {g : Nat} (h3 : w.grownBy w1 (some g)) : Turns (atB g) w w1 := ⟨h3.os, h3.tape, h3.output, h3.size, fun i hi hr => h3.block i hi (fun e => hr (by injection e))⟩

theorem ApAt.put (h : ApAt w mb nb D M) (k : Nat) (hk : k < 4294967296) (hn : nb < 4000000000000000000) (v : AccV) (hv : AvOk w v) :
    ∃ w1 D', (Instr.mapUpdate 60 (.map (some mb)) (.int .i64 (k : Int)) (av v)).run Try.prog w = .ok () w1 ∧ Hid (ApAt w1 mb (nb + 1) D' (upA M k (acOf v)) ∧ Turns (atB mb) w w1) := by
  obtain ⟨w1, h1, h2, h3⟩ := h.own.update (t := 60) (e := 74) ilaw Try.underlying60 (by unfold maxLen; omega) (ikey hk) (val := av v) (d := .held (av v)) (ps := []) rfl
  have t := grown_at h3
  have hG := mb_not_u8 h.isM
  refine ⟨w1, _, h1, ⟨h2, fun i hi => ?_⟩, t⟩
  unfold upA
  by_cases e : i = k
  · subst e
    rw [if_pos rfl]
    exact .inr ⟨v, fun z => Maps.atKey_put_same h.own.isMap (ilit_key i hi) _ z, hv.turns t hG, rfl⟩
  · rw [if_neg e]
    rcases h.val i hi with ⟨q1, q2⟩ | ⟨u, q1, q2, q3⟩
    · exact .inl ⟨by rw [Maps.has_put_other (fun h => e (ilit_inj h))]; exact q1, q2⟩
    · exact .inr ⟨u, fun z => by rw [Maps.atKey_put_other (fun h => e (ilit_inj h))]; exact q1 z, q2.turns t hG, q3⟩

theorem ApAt.del (h : ApAt w mb nb D M) (k : Nat) (hk : k < 4294967296) (ty : TypeId) :
    ∃ w1 D', (Builtin.delete_ #[60, 3] ty #[.map (some mb), .int .i64 (k : Int)]).run Try.prog w = .ok (.tuple #[]) w1 ∧ Hid (ApAt w1 mb nb D' (upA M k noAc) ∧ Turns (atB mb) w w1) := by
  obtain ⟨w1, h1, h2, h3⟩ := h.own.drop (t := 60) (e := 74) ilaw Try.underlying60 (ikey hk) ty
  have t := grown_at h3.grown
  have hG := mb_not_u8 h.isM
  refine ⟨w1, _, h1, ⟨h2, fun i hi => ?_⟩, t⟩
  unfold upA
  by_cases e : i = k
  · subst e
    rw [if_pos rfl]
    exact .inl ⟨Maps.has_del_same, rfl⟩
  · rw [if_neg e]
    rcases h.val i hi with ⟨q1, q2⟩ | ⟨u, q1, q2, q3⟩
    · exact .inl ⟨by rw [Maps.has_del_other (fun h => e (ilit_inj h))]; exact q1, q2⟩
    · exact .inr ⟨u, fun z => by rw [Maps.atKey_del_other (fun h => e (ilit_inj h))]; exact q1 z, q2.turns t hG, q3⟩

end

end Go.Proofs.Ytfgfjfemaniaiaa.Px

/-
  A monitor as it lies in memory; the smallest calls.
  Conditions: none.
-/
namespace Go.Proofs.Ytfgfjfemaniaiaa.Px
open Go.RowKit Wi By Fl Ba
set_option linter.unusedVariables false
set_option linter.unusedSimpArgs false
set_option maxRecDepth 100000

/- A monitor, plainly. -/
structure Bd where
  num : Nat
  bal : Bt
  val : List Nat
  told : Nat → Ac

structure Nd where
  id : Nat
  n : Nat
  dec : List Dc
  acc : Nat → Ac
  ser : Nat
  wait : List Dc
  bid : Option Bd
  turn : Nat

/- Where it lies. -/
structure Lb where
  bp : Nat
  tb : Nat
  tn : Nat
  tD : DataW Value
  x : Option Addr
  n : Nat
  c : Nat

structure Ln where
  p : Nat
  mb : Nat
  nb : Nat
  D : DataW Value
  Rd : Value
  Rw : Value
  b : Option Lb

def bidV (b : Option Lb) : Value := .pointer (b.map fun l => ⟨l.bp, 0, none⟩)

def obj8 (g : Ln) (st : Nd) : Nat → Value := fun k => if k = 0 then .int .i64 st.id else if k = 1 then .int .i64 st.n else if k = 2 then g.Rd else if k = 3 then .map (some g.mb) else if k = 4 then .int .i64 st.ser else if k = 5 then g.Rw else if k = 6 then bidV g.b else .int .i64 st.turn

def obj6 (l : Lb) (b : Bd) : Nat → Value := fun k => if k = 0 then .int .i64 b.num else if k = 1 then .int .i64 b.bal.1 else if k = 2 then .int .i64 b.bal.2 else if k = 3 then .slice l.x l.n l.c else .map (some l.tb)

def fpb (b : Option Lb) : Nat → Prop := fun k => ∃ l, b = some l ∧ (k = l.bp ∨ k = l.tb)
def fp (g : Ln) : Nat → Prop := fun k => k = g.p ∨ k = g.mb ∨ g.Rd.ownBlock = some k ∨ g.Rw.ownBlock = some k ∨ fpb g.b k

structure BdAt (w : World) (l : Lb) (b : Bd) : Prop where
  obj : Blk w l.bp 96 5 (obj6 l b)
  val : Sv w l.x l.n l.c b.val
  told : ApAt w l.tb l.tn l.tD b.told
  wf : bwf b.bal

structure NdAt (w : World) (B : Nat) (g : Ln) (st : Nd) : Prop where
  obj : Blk w g.p 63 8 (obj8 g st)
  dec : OwnD w B g.Rd st.dec
  wait : OwnD w B g.Rw st.wait
  ne : ∀ k, g.Rd.ownBlock = some k → g.Rw.ownBlock ≠ some k
  acc : ApAt w g.mb g.nb g.D st.acc
  bid : (g.b = none ∧ st.bid = none) ∨ ∃ l b, g.b = some l ∧ st.bid = some b ∧ BdAt w l b ∧ l.tb ≠ g.mb
  low : ∀ k, fp g k → B ≤ k
  dl : st.dec.length ≤ 80000
  wl : st.wait.length ≤ 80000
  dok : ∀ d ∈ st.dec, DOk d
  wok : ∀ d ∈ st.wait, DOk d

section
variable {w w' : World} {B : Nat} {g : Ln} {st : Nd}

/- None of its blocks is one of bytes. -/
theorem NdAt.u8 (h : NdAt w B g st) : ∀ k, fp g k → k < w.heap.size ∧ ¬ Tb w k 5 := fun k hk => by
  rcases hk with rfl | rfl | hk | hk | ⟨l, hl, hk⟩
  · exact ⟨h.obj.lt, fun t => by have := t.same h.obj.tb; revert this; decide⟩
  · exact ⟨h.acc.lt, fun t => t.not_map h.acc.isM⟩
  · exact ⟨(h.dec.tb hk).2.lt, fun t => by have := t.same (h.dec.tb hk).2; revert this; decide⟩
  · exact ⟨(h.wait.tb hk).2.lt, fun t => by have := t.same (h.wait.tb hk).2; revert this; decide⟩
  · rcases h.bid with ⟨q, _⟩ | ⟨l', b, q1, q2, q3, q4⟩
    · rw [hl] at q
      cases q
    · rw [hl] at q1
      injection q1 with q1
      subst q1
      rcases hk with rfl | rfl
      · exact ⟨q3.obj.lt, fun t => by have := t.same q3.obj.tb; revert this; decide⟩
      · exact ⟨q3.told.lt, fun t => t.not_map q3.told.isM⟩

theorem BdAt.turns {l : Lb} {b : Bd} {G : Nat → Prop} (h : BdAt w l b) (t : Turns G w w') (h1 : ¬ G l.bp) (h2 : ¬ G l.tb) (hu : ∀ k, G k → ¬ Tb w k 5) : BdAt w' l b :=
  ⟨t.blk h.obj h1, h.val.turns t hu, h.told.turns t h2 hu, h.wf⟩

theorem NdAt.turns {G : Nat → Prop} (h : NdAt w B g st) (t : Turns G w w') (hf : ∀ k, fp g k → ¬ G k) (hu : ∀ k, G k → ¬ Tb w k 5) : NdAt w' B g st := by
  refine ⟨t.blk h.obj (hf _ (.inl rfl)), h.dec.turns t (fun k hk => hf k (.inr (.inr (.inl hk)))), h.wait.turns t (fun k hk => hf k (.inr (.inr (.inr (.inl hk))))), h.ne, h.acc.turns t (hf _ (.inr (.inl rfl))) hu, ?_, h.low, h.dl, h.wl, h.dok, h.wok⟩
  rcases h.bid with q | ⟨l, b, q1, q2, q3, q4⟩
  · exact .inl q
  · exact .inr ⟨l, b, q1, q2, q3.turns t (hf _ (.inr (.inr (.inr (.inr ⟨l, q1, .inl rfl⟩))))) (hf _ (.inr (.inr (.inr (.inr ⟨l, q1, .inr rfl⟩))))) hu, q4⟩

theorem NdAt.below (h : NdAt w B g st) (b : Below w.heap.size w w') : NdAt w' B g st := h.turns (Turns.of_below (F := fun _ => False) b) (fun _ _ h => h) (fun _ h => h.elim)

theorem NdAt.c (h : NdAt w B g st) (k : Nat) (hk : k < 8) : w.cell? ⟨g.p, k, none⟩ = some (obj8 g st k) := h.obj.cell hk
theorem NdAt.c0 (h : NdAt w B g st) : w.cell? ⟨g.p, 0, none⟩ = some (.int .i64 st.id) := h.c 0 (by omega)
theorem NdAt.c1 (h : NdAt w B g st) : w.cell? ⟨g.p, 1, none⟩ = some (.int .i64 st.n) := h.c 1 (by omega)
theorem NdAt.c2 (h : NdAt w B g st) : w.cell? ⟨g.p, 2, none⟩ = some g.Rd := h.c 2 (by omega)
theorem NdAt.c3 (h : NdAt w B g st) : w.cell? ⟨g.p, 3, none⟩ = some (.map (some g.mb)) := h.c 3 (by omega)
theorem NdAt.c4 (h : NdAt w B g st) : w.cell? ⟨g.p, 4, none⟩ = some (.int .i64 st.ser) := h.c 4 (by omega)
theorem NdAt.c5 (h : NdAt w B g st) : w.cell? ⟨g.p, 5, none⟩ = some g.Rw := h.c 5 (by omega)
theorem NdAt.c6 (h : NdAt w B g st) : w.cell? ⟨g.p, 6, none⟩ = some (bidV g.b) := h.c 6 (by omega)
theorem NdAt.c7 (h : NdAt w B g st) : w.cell? ⟨g.p, 7, none⟩ = some (.int .i64 st.turn) := h.c 7 (by omega)
theorem NdAt.fz (h : NdAt w B g st) (k : Nat) : w.frozen? ⟨g.p, k, none⟩ = false := h.obj.frozen k

theorem NdAt.rd (h : NdAt w B g st) : ∃ x c, g.Rd = .slice x st.dec.length c ∧ st.dec.length ≤ c := by
  obtain ⟨x, c, e, h1, _⟩ := h.dec.form
  exact ⟨x, c, e, h1⟩
theorem NdAt.rw_ (h : NdAt w B g st) : ∃ x c, g.Rw = .slice x st.wait.length c ∧ st.wait.length ≤ c := by
  obtain ⟨x, c, e, h1, _⟩ := h.wait.form
  exact ⟨x, c, e, h1⟩

/- Its parts lie apart. -/
theorem NdAt.pm (h : NdAt w B g st) : g.p ≠ g.mb := fun e => h.obj.tb.not_map (e ▸ h.acc.isM)
theorem NdAt.pd (h : NdAt w B g st) : g.Rd.ownBlock ≠ some g.p := fun e => by have := (h.dec.tb e).2.same h.obj.tb; revert this; decide
theorem NdAt.pw (h : NdAt w B g st) : g.Rw.ownBlock ≠ some g.p := fun e => by have := (h.wait.tb e).2.same h.obj.tb; revert this; decide
theorem NdAt.md (h : NdAt w B g st) : g.Rd.ownBlock ≠ some g.mb := fun e => (h.dec.tb e).2.not_map h.acc.isM
theorem NdAt.mw (h : NdAt w B g st) : g.Rw.ownBlock ≠ some g.mb := fun e => (h.wait.tb e).2.not_map h.acc.isM

end

/- How often its maps were written. -/
def gnb (g : Ln) : Nat := g.nb + (match g.b with | some l => l.tn | none => 0)

/- A call that turns a monitor. -/
def Goes (w w' : World) (B : Nat) (g : Ln) (st' : Nd) (k : Nat) : Prop := ∃ g', g'.p = g.p ∧ NdAt w' B g' st' ∧ Turns (fp g) w w' ∧ gnb g' ≤ gnb g + k ∧ ∀ k, fp g' k → fp g k ∨ w.heap.size ≤ k

theorem Goes.same {w w' : World} {B : Nat} {g : Ln} {st : Nd} (h : NdAt w B g st) (b : Below w.heap.size w w') : Goes w w' B g st 0 :=
  ⟨g, rfl, h.below b, Turns.of_below b, Nat.le_refl _, fun k hk => .inl hk⟩

theorem Goes.mono {w w' : World} {B : Nat} {g : Ln} {st : Nd} {k k' : Nat} (h : Goes w w' B g st k) (hk : k ≤ k') : Goes w w' B g st k' := by
  obtain ⟨g1, a1, a2, a3, a4, a5⟩ := h
  exact ⟨g1, a1, a2, a3, by omega, a5⟩

theorem Goes.trans {w w1 w2 : World} {B : Nat} {g g1 : Ln} {st2 : Nd} {k1 k2 : Nat} (e : g1.p = g.p) (t : Turns (fp g) w w1) (hk : gnb g1 ≤ gnb g + k1) (hf : ∀ k, fp g1 k → fp g k ∨ w.heap.size ≤ k) (h2 : Goes w1 w2 B g1 st2 k2) : Goes w w2 B g st2 (k1 + k2) := by
  obtain ⟨g2, a1, a2, a3, a4, a5⟩ := h2
  refine ⟨g2, a1.trans e, a2, t.more a3 hf, by omega, fun k hk => ?_⟩
  rcases a5 k hk with q | q
  · exact hf k q
  · exact .inr (Nat.le_trans t.size q)

theorem Goes.then {w w' w2 : World} {B : Nat} {g : Ln} {st : Nd} {k : Nat} (h : Goes w w' B g st k) (b : Below w'.heap.size w' w2) : Goes w w2 B g st k := by
  obtain ⟨g1, a1, a2, a3, a4, a5⟩ := h
  exact Goes.trans (k2 := 0) a1 a3 a4 a5 (Goes.same a2 b)

section
variable {w w' w3 : World} {B : Nat} {g : Ln} {st : Nd}

theorem p_not_u8 (h : NdAt w B g st) : ∀ k, atB g.p k → ¬ Tb w k 5 := fun k hk => by
  have e : k = g.p := hk
  subst e
  exact (h.u8 _ (.inl rfl)).2

/- A plain field is written. -/
theorem NdAt.put (h : NdAt w B g st) (k : Nat) (u : Value) (st' : Nd) (he : ∀ j, j < 8 → upd (obj8 g st) k u j = obj8 g st' j) (e1 : st'.dec = st.dec) (e2 : st'.acc = st.acc) (e3 : st'.wait = st.wait) (e4 : st'.bid = st.bid) :
    NdAt (w.setCell ⟨g.p, k, none⟩ u) B g st' ∧ Turns (atB g.p) w (w.setCell ⟨g.p, k, none⟩ u) := by
  have t : Turns (atB g.p) w (w.setCell ⟨g.p, k, none⟩ u) := turns_put (Turns.refl _ _) k u
  have hu := p_not_u8 h
  refine ⟨⟨(h.obj.set k u).congr he, ?_, ?_, h.ne, ?_, ?_, h.low, by rw [e1]; exact h.dl, by rw [e3]; exact h.wl, by rw [e1]; exact h.dok, by rw [e3]; exact h.wok⟩, t⟩
  · rw [e1]
    exact h.dec.turns t (fun q hq e => h.pd (by have e' : q = g.p := e; rw [← e']; exact hq))
  · rw [e3]
    exact h.wait.turns t (fun q hq e => h.pw (by have e' : q = g.p := e; rw [← e']; exact hq))
  · rw [e2]
    exact h.acc.turns t (fun e => h.pm (by have e' : g.mb = g.p := e; exact e'.symm)) hu
  · rw [e4]
    rcases h.bid with q | ⟨l, b, q1, q2, q3, q4⟩
    · exact .inl q
    · refine .inr ⟨l, b, q1, q2, q3.turns t (fun e => ?_) (fun e => ?_) hu, q4⟩
      · have e' : l.bp = g.p := e
        have := q3.obj.tb.same (e' ▸ h.obj.tb)
        revert this
        decide
      · have e' : l.tb = g.p := e
        exact h.obj.tb.not_map (e' ▸ q3.told.isM)

end

end Go.Proofs.Ytfgfjfemaniaiaa.Px

/-
  A monitor's small calls: New, Len, Pending, Get, Crash.
  Conditions: the monitor is one that New gave ('NdAt').
-/
namespace Go.Proofs.Ytfgfjfemaniaiaa.Px
open Go.RowKit Wi By Fl Ba
set_option linter.unusedVariables false
set_option linter.unusedSimpArgs false
set_option maxRecDepth 100000

def fresh (id n : Nat) : Nd := ⟨id, n, [], fun _ => noAc, 0, [], none, 0⟩

section
variable {w w' : World} {B : Nat} {g : Ln} {st : Nd}

theorem made_yes (h : NdAt w B g st) : Calls Try.prog 26 #[.pointer (some ⟨g.p, 0, none⟩)] w fun e w' => e = .returned (.bool true) ∧ w' = w := by
  have c3 := h.c3
  have he : ∀ w : World, (binOp .neq 60 (.map (some g.mb)) (.map none)).run Try.prog w = .ok (.bool true) w := fun _ => by kernel_rfl
  clear h
  go_enter Try.func26, Try.ntmps26
  go_wp2_with fail
  go_ret
  exact ⟨rfl, rfl⟩

theorem len_any (h : NdAt w B g st) : Calls Try.prog 12 #[.pointer (some ⟨g.p, 0, none⟩)] w fun e w' => e = .returned (.int .i64 st.dec.length) ∧ w' = w := by
  have c2 := h.c2
  obtain ⟨x, c, e, _⟩ := h.rd
  rw [e] at c2
  clear h e
  generalize st.dec.length = n at *
  go_enter Try.func12, Try.ntmps12
  go_wp2_with fail
  go_ret
  exact ⟨rfl, rfl⟩

theorem pending_any (h : NdAt w B g st) : Calls Try.prog 14 #[.pointer (some ⟨g.p, 0, none⟩)] w fun e w' => e = .returned (.int .i64 st.wait.length) ∧ w' = w := by
  have c5 := h.c5
  obtain ⟨x, c, e, _⟩ := h.rw_
  rw [e] at c5
  clear h e
  generalize st.wait.length = n at *
  go_enter Try.func14, Try.ntmps14
  go_wp2_with fail
  go_ret
  exact ⟨rfl, rfl⟩

theorem get_yes (h : NdAt w B g st) (k : Nat) (d : Dc) (hd : st.dec[k]? = some d) : Calls Try.prog 24 #[.pointer (some ⟨g.p, 0, none⟩), .int .i64 ((k + 1 : Nat) : Int)] w fun e w' => ∃ y m cy, e = .returned (.tuple #[.slice y m cy, .bool true]) ∧ Hid (m = d.val.size ∧ Vl w w' y m cy (nat d.val)) := by
  have hL := len_any h
  have c2 := h.c2
  have hk := (List.getElem?_eq_some_iff.1 hd).1
  obtain ⟨b, c, e, hnc, _, _, _⟩ := h.dec.there (fun e => by rw [e] at hk; simp at hk)
  have hdl := h.dl
  have ho := h.dec
  rw [e] at c2 ho
  have q2 := ho.cell drow.len hd (j := 2) (v := .string d.val) rfl
  obtain ⟨cc, W1, hcv, HV⟩ := conv_text d.val w
  clear h ho e hd
  generalize d.val = s at *
  generalize st.dec.length = n at *
  have i1 : ¬ ((k + 1 : Nat) : Int) < 1 := by omega
  have i2 : ¬ (n : Int) < ((k + 1 : Nat) : Int) := by omega
  have i3 : ((k + 1 : Nat) : Int) - 1 = (k : Int) := by omega
  have i4 : (k : Int) < (n : Int) := by omega
  have i5 : (n : Int) ≤ 80000 := by omega
  obtain ⟨j, hj⟩ : ∃ j, j = k + 1 := ⟨_, rfl⟩
  rw [← hj] at i1 i2 i3 ⊢
  clear hj
  go_enter Try.func24, Try.ntmps24
  go_wp2_with (first
    | (
       go_at_call 12; refine hL.mono ?_; rintro e w' ⟨rfl, hw⟩; subst w'; clear hL))
  go_ret2
  exact ⟨_, _, _, rfl, rfl, HV.out⟩

theorem get_no (h : NdAt w B g st) (i : Int) (hi : i < 1 ∨ (st.dec.length : Int) < i) : Calls Try.prog 24 #[.pointer (some ⟨g.p, 0, none⟩), .int .i64 i] w fun e w' => e = .returned (.tuple #[.slice none 0 0, .bool false]) ∧ w' = w := by
  have hL := len_any h
  clear h
  generalize st.dec.length = n at *
  by_cases h1 : i < 1
  · go_enter Try.func24, Try.ntmps24
    go_wp2_with fail
    go_ret2
    exact ⟨rfl, rfl⟩
  · have h2 : (n : Int) < i := by omega
    clear hi
    go_enter Try.func24, Try.ntmps24
    go_wp2_with (first
      | (
         go_at_call 12; refine hL.mono ?_; rintro e w' ⟨rfl, hw⟩; subst w'; clear hL))
    go_ret2
    exact ⟨rfl, rfl⟩

def crashed (st : Nd) : Nd := { st with wait := [], bid := none, turn := 0 }

theorem NdAt.crash (h : NdAt w B g st) : Goes w (((w.setCell ⟨g.p, 5, none⟩ (.slice none 0 0)).setCell ⟨g.p, 6, none⟩ (.pointer none)).setCell ⟨g.p, 7, none⟩ (.int .i64 0)) B g (crashed st) 0 := by
  have t : Turns (atB g.p) w (((w.setCell ⟨g.p, 5, none⟩ (.slice none 0 0)).setCell ⟨g.p, 6, none⟩ (.pointer none)).setCell ⟨g.p, 7, none⟩ (.int .i64 0)) := turns_put (turns_put (turns_put (Turns.refl _ _) 5 _) 6 _) 7 _
  have hu := p_not_u8 h
  have hf : ∀ k, fp { g with Rw := .slice none 0 0, b := none } k → fp g k := fun k hk => by
    rcases hk with q | q | q | q | ⟨l, q, _⟩
    · exact .inl q
    · exact .inr (.inl q)
    · exact .inr (.inr (.inl q))
    · cases q
    · cases q
  refine ⟨{ g with Rw := .slice none 0 0, b := none }, rfl, ⟨(((h.obj.set 5 _).set 6 _).set 7 _).congr (fun j hj => ?_), ?_, Own.nil _ _ _ _ _, fun k _ e => (by cases e), ?_, .inl ⟨rfl, rfl⟩, fun k hk => h.low k (hf k hk), h.dl, Nat.zero_le _, h.dok, fun d hd => (by cases hd)⟩, t.weak (fun k hk => .inl hk), ?_, fun k hk => .inl (hf k hk)⟩
  · rcases j with _ | _ | _ | _ | _ | _ | _ | _ | j <;> first | rfl | omega
  · exact h.dec.turns t (fun q hq e => h.pd (by have e' : q = g.p := e; rw [← e']; exact hq))
  · exact h.acc.turns t (fun e => h.pm (by have e' : g.mb = g.p := e; exact e'.symm)) hu
  · show g.nb + 0 ≤ gnb g + 0
    unfold gnb
    omega

theorem crash_any (h : NdAt w B g st) : Calls Try.prog 23 #[.pointer (some ⟨g.p, 0, none⟩)] w fun e w' => e = .returned (.tuple #[]) ∧ Hid (Goes w w' B g (crashed st) 0) := by
  have hM := made_yes h
  have c5 := h.c5
  have c6 := h.c6
  have c7 := h.c7
  have f5 := h.fz 5
  have f6 := h.fz 6
  have f7 := h.fz 7
  have HC := hid h.crash
  clear h
  generalize g.Rw = Rw at *
  generalize bidV g.b = bv at *
  go_enter Try.func23, Try.ntmps23
  go_wp2_with (first
    | (
       go_at_call 26; refine hM.mono ?_; rintro e w' ⟨rfl, hw⟩; subst w'; clear hM))
  refine bodyPost_end (results_none rfl _ _ _) rfl ?_
  exact ⟨rfl, HC.out⟩

theorem new_no (id n : Int) (w : World) (h : n < 1 ∨ 7 < n ∨ id < 0 ∨ n ≤ id) : Calls Try.prog 21 #[.int .i64 id, .int .i64 n] w fun e w' => e = .returned (.tuple #[.pointer none, .int .i64 1]) ∧ w' = w := by
  by_cases h1 : n < 1
  · clear h
    go_enter Try.func21, Try.ntmps21
    go_wp2_with fail
    go_ret2
    exact ⟨rfl, rfl⟩
  · by_cases h2 : 7 < n
    · clear h
      go_enter Try.func21, Try.ntmps21
      go_wp2_with fail
      go_ret2
      exact ⟨rfl, rfl⟩
    · by_cases h3 : id < 0
      · clear h
        go_enter Try.func21, Try.ntmps21
        go_wp2_with fail
        go_ret2
        exact ⟨rfl, rfl⟩
      · have h4 : n ≤ id := by omega
        clear h
        go_enter Try.func21, Try.ntmps21
        go_wp2_with fail
        go_ret2
        exact ⟨rfl, rfl⟩

theorem new_yes (id n : Nat) (w : World) (h1 : 1 ≤ n) (h2 : n ≤ 7) (h3 : id < n) : Calls Try.prog 21 #[.int .i64 id, .int .i64 n] w fun e w' => e = .returned (.tuple #[.pointer (some ⟨w.heap.size + 1, 0, none⟩), .int .i64 0]) ∧ Hid (Below w.heap.size w w' ∧ ∃ g, g.p = w.heap.size + 1 ∧ NdAt w' w.heap.size g (fresh id n) ∧ gnb g = 0) := by
  have i1 : ¬ (n : Int) < 1 := by omega
  have i2 : ¬ 7 < (n : Int) := by omega
  have i3 : ¬ (id : Int) < 0 := by omega
  have i4 : ¬ (n : Int) ≤ (id : Int) := by omega
  have hmm := @run_makeMap Try.prog
  have HN : Hid (NdAt ((w.alloc (.map #[] 0)).alloc (.cells #[.int .i64 id, .int .i64 n, .slice none 0 0, .map (some w.heap.size), .int .i64 0, .slice none 0 0, .pointer none, .int .i64 0] 63)) w.heap.size ⟨w.heap.size + 1, w.heap.size, 0, .map [], .slice none 0 0, .slice none 0 0, none⟩ (fresh id n)) := by
    refine ⟨?_, Own.nil _ _ _ _ _, Own.nil _ _ _ _ _, fun k _ e => (by cases e), ?_, .inl ⟨rfl, rfl⟩, fun k hk => ?_, Nat.zero_le _, Nat.zero_le _, fun d hd => (by cases hd), fun d hd => (by cases hd)⟩
    · have e : (w.alloc (.map #[] 0)).heap.size = w.heap.size + 1 := by simp
      rw [← e]
      exact Blk.new _ _ 8 _ _ rfl
    · exact (ApAt.new w).below (al _ _)
    · rcases hk with rfl | rfl | q | q | ⟨l, q, _⟩
      · show w.heap.size ≤ w.heap.size + 1; omega
      · exact Nat.le_refl _
      · cases q
      · cases q
      · cases q
  clear h1 h2 h3
  go_enter Try.func21, Try.ntmps21
  go_wp2_with fail
  go_ret2
  exact ⟨rfl, on (al _ _) (al _ _), _, rfl, HN.out, rfl⟩

end

end Go.Proofs.Ytfgfjfemaniaiaa.Px

/-
  4 texts of this proof, one behind the other: PxDel, PxMap, PxMsg, PxEnc.
-/
import Derived.Test.YtdbahebhodoooaaJ08
import Derived.Test.YtdbahebhodoooaaJ04
import Derived.Maps.OwnSet
import Derived.Maps.Ext
/-
  slices.IndexFunc and slices.DeleteFunc at decrees, with what learn asks of each.
  Conditions: the row is one's own.
-/
namespace Go.Proofs.Ytdbahebhodoooaa.Px
open Go.RowKit Wi By Fl Ba
set_option linter.unusedVariables false
set_option linter.unusedSimpArgs false
set_option maxRecDepth 100000

def hitD (d m : Dc) : Bool := decide (m.mon = d.mon) && decide (m.ser = d.ser)

def Box2 (w : World) (bx : Nat) (d : Dc) : Prop := w.cell? ⟨bx, 0, none⟩ = some (.int .i64 d.mon) ∧ w.cell? ⟨bx, 1, none⟩ = some (.int .i64 d.ser)

theorem Box2.lt {w : World} {bx : Nat} {d : Dc} (h : Box2 w bx d) : bx < w.heap.size := cell_lt' h.1
theorem Box2.below {w w' : World} {bx : Nat} {d : Dc} (h : Box2 w bx d) (b : Below w.heap.size w w') : Box2 w' bx d := ⟨keep b h.1, keep b h.2⟩
theorem Box2.turns {w w' : World} {bx g : Nat} {d : Dc} (h : Box2 w bx d) (t : Turns (fun k => k = g) w w') (hg : bx ≠ g) : Box2 w' bx d := ⟨keept t hg h.1, keept t hg h.2⟩

theorem clos_any (w : World) (bx : Nat) (m d : Dc) (hb : Box2 w bx d) :
    Calls Try.prog 76 #[.agg #[.int .i64 m.mon, .int .i64 m.ser, .string m.val], .pointer (some ⟨bx, 0, none⟩)] w fun e w' => e = .returned (.bool (hitD d m)) ∧ Below w.heap.size w w' := by
  have hlt := hb.lt
  obtain ⟨k0, k1⟩ := hb.below (al w (.cells #[.int .i64 m.mon, .int .i64 m.ser, .string m.val] 68))
  obtain ⟨m1, m2, s⟩ := m
  obtain ⟨d1, d2, ds⟩ := d
  unfold hitD
  dsimp only at *
  by_cases h1 : m1 = d1
  · subst h1
    by_cases h2 : m2 = d2
    · subst h2
      go_enter Try.func76, Try.ntmps76
      go_wp2_with fail
      go_ret
      exact ⟨by simp, al _ _⟩
    · have q2 : ((m2 : Int) == (d2 : Int)) = false := by simp; omega
      go_enter Try.func76, Try.ntmps76
      go_wp2_with fail
      go_ret
      exact ⟨by simp [h2], al _ _⟩
  · have q1 : ((m1 : Int) == (d1 : Int)) = false := by simp; omega
    go_enter Try.func76, Try.ntmps76
    go_wp2_with fail
    go_ret
    exact ⟨by simp [h1], al _ _⟩

section
variable {w : World} {B : Nat} {L : List Dc}

theorem index_any {g n c bx : Nat} (node : Dc) (h : Own w B 68 3 encD (.slice (some ⟨g, 0, none⟩) n c) L) (hb : Box2 w bx node) :
    Calls Try.prog 92 #[.slice (some ⟨g, 0, none⟩) n c, .func (.func 76) #[] #[.pointer (some ⟨bx, 0, none⟩)]] w fun e w' => ∃ r : Int, e = .returned (.int .i64 r) ∧
      Hid (Below w.heap.size w w' ∧ ((r = -1 ∧ ∀ (j : Nat) (m : Dc), L[j]? = some m → (hitD node m) = false) ∨ ∃ k, r = (k : Nat) ∧ k < n ∧ (∀ m : Dc, L[k]? = some m → (hitD node m) = true) ∧ ∀ (j : Nat) (m : Dc), j < k → L[j]? = some m → (hitD node m) = false)) := by
  obtain ⟨hL, _, hnc, hcm, _⟩ := h.heap
  have hm : n ≤ 9223372036854775807 := by unfold maxLen at hcm; omega
  have HO : Hid (Own w B 68 3 encD (.slice (some ⟨g, 0, none⟩) n c) L) := h
  have HB : Hid (Box2 w bx node) := hb
  clear h hb hcm
  go_enter Try.func92, Try.ntmps92
  go_wp2_with fail
  go_loopw [8, 5] (fun i _ wr => ∃ k : Nat, k ≤ n ∧ i = .int .i64 k ∧ Hid (Below w.heap.size w wr ∧ ∀ (j : Nat) (m : Dc), j < k → L[j]? = some m → (hitD node m) = false)) (fun i _ _ => n - (intOf i).toNat)
  case atStart => exact ⟨0, by omega, rfl, Below.refl _ _, fun j m hj => by omega⟩
  case round =>
    obtain ⟨k, hk, rfl, HR⟩ := hrel
    by_cases hlt : k < n
    · have hkn : (k : Int) < (n : Int) := by omega
      obtain ⟨m, hLm⟩ : ∃ m, L[k]? = some m := ⟨L[k]'(by omega), List.getElem?_eq_getElem (by omega)⟩
      have ho := HO.out.below HR.out.1
      have k0 := ho.cell drow.len hLm (j := 0) (v := .int .i64 m.mon) rfl
      rw [Nat.add_zero] at k0
      have k1 := ho.cell drow.len hLm (j := 1) (v := .int .i64 m.ser) rfl
      have k2 := ho.cell drow.len hLm (j := 2) (v := .string m.val) rfl
      have hc := clos_any wr bx m node (HB.out.below HR.out.1)
      have HM : Hid (L[k]? = some m) := hLm
      clear hLm ho
      cases ht : (hitD node m) with
      | true =>
        rw [ht] at hc
        have HT : Hid ((hitD node m) = true) := ht
        clear ht
        generalize m.mon = f at k0 hc
        generalize m.val = x at k2 hc
        have HT2 : Hid (∀ m' : Dc, L[k]? = some m' → (hitD node m') = true) := fun m' e => by
          have := HM.out
          rw [e] at this
          injection this with this
          rw [this]
          exact HT.out
        clear HT HM
        generalize m.ser = t at k1 hc
        go_wp2_with (go_at_call 76; refine hc.mono ?_; rintro e w2 ⟨rfl, hb2⟩; clear hc)
        go_ret
        exact ⟨k, rfl, HR.out.1.trans (hb2.mono HR.out.1.size), .inr ⟨k, rfl, hlt, HT2.out, HR.out.2⟩⟩
      | false =>
        rw [ht] at hc
        have HT2 : Hid (∀ m' : Dc, L[k]? = some m' → (hitD node m') = false) := fun m' e => by
          have := HM.out
          rw [e] at this
          injection this with this
          rw [this]
          exact ht
        clear ht HM
        generalize m.mon = f at k0 hc
        generalize m.val = x at k2 hc
        generalize m.ser = t at k1 hc
        go_wp2_with (go_at_call 76; refine hc.mono ?_; rintro e w2 ⟨rfl, hb2⟩; clear hc)
        go_roundw
        case rel =>
          refine ⟨k + 1, by omega, by go_num, HR.out.1.trans (hb2.mono HR.out.1.size), fun j m' hj e => ?_⟩
          by_cases hjk : j = k
          · subst hjk
            exact HT2.out m' e
          · exact HR.out.2 j m' (by omega) e
        case measure => simp [intOf]; omega
    · have hk2 : k = n := by omega
      subst hk2
      go_wp2_with fail
      go_ret
      refine ⟨-1, rfl, HR.out.1, .inl ⟨rfl, fun j m e => HR.out.2 j m ?_ e⟩⟩
      have := (List.getElem?_eq_some_iff.1 e).1
      omega

end

def keepN (node : Dc) (m : Dc) : Bool := !hitD node m
def left (node : Dc) (L : List Dc) : List Dc := L.filter (keepN node)

theorem left_all {node : Dc} {L : List Dc} (h : ∀ (j : Nat) (m : Dc), L[j]? = some m → (hitD node m) = false) : left node L = L := by
  unfold left
  rw [List.filter_eq_self]
  intro m hm
  obtain ⟨j, hj⟩ := List.getElem?_of_mem hm
  unfold keepN
  rw [h j m hj]
  rfl

structure KInv (node : Dc) (L K : List Dc) (n i j : Nat) : Prop where
  len : K.length = n
  lt : i < j
  le : j ≤ n
  take : K.take i = left node (L.take j)
  drop : K.drop j = L.drop j

theorem KInv.start {node : Dc} {L : List Dc} {n k : Nat} (hL : L.length = n) (hk : k < n) (h1 : ∀ m : Dc, L[k]? = some m → (hitD node m) = true) (h2 : ∀ (j : Nat) (m : Dc), j < k → L[j]? = some m → (hitD node m) = false) : KInv node L L n k (k + 1) := by
  refine ⟨hL, by omega, by omega, ?_, rfl⟩
  have hk' : k < L.length := by omega
  have hg : L[k]? = some (L[k]'hk') := List.getElem?_eq_getElem hk'
  rw [List.take_add_one, hg]
  unfold left
  rw [List.filter_append]
  have e1 : (L.take k).filter (keepN node) = L.take k := left_all (fun j m hj => by
    rw [List.getElem?_take] at hj
    split at hj
    · exact h2 j m (by assumption) hj
    · cases hj)
  have e2 : keepN node (L[k]'hk') = false := by
    unfold keepN
    rw [h1 _ hg]
    rfl
  simp [e1, e2]

theorem KInv.step {node : Dc} {L K : List Dc} {n i j : Nat} (h : KInv node L K n i j) (hL : L.length = n) (hj : j < n) (m : Dc) (hm : L[j]? = some m) :
    ((hitD node m) = true → KInv node L K n i (j + 1)) ∧ ((hitD node m) = false → KInv node L (K.set i m) n (i + 1) (j + 1)) := by
  have hd : K.drop (j + 1) = L.drop (j + 1) := by
    have := congrArg (List.drop 1) h.drop
    simpa [List.drop_drop] using this
  have ht : L.take (j + 1) = L.take j ++ [m] := by rw [List.take_add_one, hm]; rfl
  refine ⟨fun e => ⟨h.len, by have := h.lt; omega, by omega, ?_, hd⟩, fun e => ⟨by rw [List.length_set]; exact h.len, by have := h.lt; omega, by omega, ?_, ?_⟩⟩
  · rw [h.take, ht]
    unfold left
    rw [List.filter_append]
    simp [keepN, e]
  · have hi : i < (K.set i m).length := by rw [List.length_set, h.len]; have := h.lt; omega
    rw [List.take_add_one, List.getElem?_eq_getElem hi, List.getElem_set_self, ht]
    unfold left
    rw [List.filter_append, List.take_set_of_le (Nat.le_refl i), h.take]
    simp [left, keepN, e]
  · rw [List.drop_set_of_lt (by have := h.lt; omega)]
    exact hd

theorem KInv.at_ {node : Dc} {L K : List Dc} {n i j : Nat} (h : KInv node L K n i j) : K[j]? = L[j]? := by
  have := congrArg (fun l => l[0]?) h.drop
  simpa [List.getElem?_drop] using this

theorem encD_is (m : Dc) : encD m = [.int .i64 m.mon, .int .i64 m.ser, .string m.val] := rfl

theorem first_hit (node : Dc) : ∀ L : List Dc, (∀ (j : Nat) (m : Dc), L[j]? = some m → (hitD node m) = false) ∨ ∃ k, k < L.length ∧ (∀ m : Dc, L[k]? = some m → (hitD node m) = true) ∧ ∀ (j : Nat) (m : Dc), j < k → L[j]? = some m → (hitD node m) = false
  | [] => .inl fun j m h => by simp at h
  | a :: L => by
    cases ha : (hitD node a) with
    | true => exact .inr ⟨0, by simp, fun m hm => by simp at hm; rw [← hm]; exact ha, fun j m hj => by omega⟩
    | false =>
      rcases first_hit node L with h | ⟨k, h1, h2, h3⟩
      · refine .inl fun j m hm => ?_
        cases j with
        | zero => simp at hm; rw [← hm]; exact ha
        | succ j => exact h j m (by simpa using hm)
      · refine .inr ⟨k + 1, by simp; exact h1, fun m hm => h2 m (by simpa using hm), fun j m hj hm => ?_⟩
        cases j with
        | zero => simp at hm; rw [← hm]; exact ha
        | succ j => exact h3 j m (by omega) (by simpa using hm)

section
variable {w : World} {B : Nat} {L : List Dc}

theorem ownD_set {g n c i : Nat} (h : Own w B 68 3 encD (.slice (some ⟨g, 0, none⟩) n c) L) (m : Dc) :
    Own (((w.setCell ⟨g, i * 3, none⟩ (.int .i64 m.mon)).setCell ⟨g, i * 3 + 1, none⟩ (.int .i64 m.ser)).setCell ⟨g, i * 3 + 2, none⟩ (.string m.val)) B 68 3 encD (.slice (some ⟨g, 0, none⟩) n c) (L.set i m) := by
  obtain ⟨hL, _⟩ := h.heap
  subst hL
  unfold Own
  rw [flat_set3 _ _ _ encD_is, List.length_set]
  exact own_setCell (own_setCell (own_setCell h _ _) _ _) _ _

theorem deletef_any {g n c bx : Nat} (node : Dc) (h : Own w B 68 3 encD (.slice (some ⟨g, 0, none⟩) n c) L) (hb : Box2 w bx node) (hne : bx ≠ g) :
    Calls Try.prog 75 #[.slice (some ⟨g, 0, none⟩) n c, .func (.func 76) #[] #[.pointer (some ⟨bx, 0, none⟩)]] w fun e w' => ∃ q : Nat, e = .returned (.slice (some ⟨g, 0, none⟩) q c) ∧
      Hid (q = (left node L).length ∧ Own w' B 68 3 encD (.slice (some ⟨g, 0, none⟩) q c) (left node L) ∧ Turns (fun k => k = g) w w') := by
  obtain ⟨hL, _, hnc, hcm, _⟩ := h.heap
  have hm : n ≤ 9223372036854775807 := by unfold maxLen at hcm; omega
  have hgl : g < w.heap.size := (World.ownsRow.lt h g rfl).2
  have hI0 := index_any node h hb
  rcases first_hit node L with hno | ⟨k, hk, h1, h2⟩
  · have hI : Calls Try.prog 92 #[.slice (some ⟨g, 0, none⟩) n c, .func (.func 76) #[] #[.pointer (some ⟨bx, 0, none⟩)]] w fun e w' => e = .returned (.int .i64 (-1)) ∧ Hid (Below w.heap.size w w') := hI0.mono fun e w' ⟨r, e1, HI⟩ => by
      rcases HI.out.2 with ⟨rfl, _⟩ | ⟨k, _, hk, h1, _⟩
      · exact ⟨e1, HI.out.1⟩
      · have hg : L[k]? = some (L[k]'(by omega)) := List.getElem?_eq_getElem (by omega)
        have q := h1 _ hg
        rw [hno k _ hg] at q
        cases q
    have HN : Hid (∀ w', Below w.heap.size w w' → n = (left node L).length ∧ Own w' B 68 3 encD (.slice (some ⟨g, 0, none⟩) n c) (left node L) ∧ Turns (fun k => k = g) w w') := fun w' hb' => by
      rw [left_all hno]
      exact ⟨hL.symm, h.below hb', Turns.of_below hb'⟩
    clear h hb hcm hne hI0 hno
    go_enter Try.func75, Try.ntmps75
    go_wp2_with (go_at_call 92; refine hI.mono ?_; rintro e w1 ⟨rfl, HI⟩; clear hI)
    go_ret
    exact ⟨n, rfl, HN.out _ HI.out⟩
  · have hI : Calls Try.prog 92 #[.slice (some ⟨g, 0, none⟩) n c, .func (.func 76) #[] #[.pointer (some ⟨bx, 0, none⟩)]] w fun e w' => e = .returned (.int .i64 (k : Int)) ∧ Hid (Below w.heap.size w w') := hI0.mono fun e w' ⟨r, e1, HI⟩ => by
      have hg : L[k]? = some (L[k]'(by omega)) := List.getElem?_eq_getElem (by omega)
      rcases HI.out.2 with ⟨rfl, h3⟩ | ⟨kk, rfl, hkk, h3, h4⟩
      · have q := h1 _ hg
        rw [h3 k _ hg] at q
        cases q
      · rcases Nat.lt_trichotomy k kk with q | q | q
        · have := h4 k _ q hg
          rw [h1 _ hg] at this
          cases this
        · subst q
          exact ⟨e1, HI.out.1⟩
        · have hg' : L[kk]? = some (L[kk]'(by omega)) := List.getElem?_eq_getElem (by omega)
          have := h2 kk _ q hg'
          rw [h3 _ hg'] at this
          cases this
    have HS : Hid (KInv node L L n k (k + 1)) := KInv.start hL (by omega) h1 h2
    have HO : Hid (Own w B 68 3 encD (.slice (some ⟨g, 0, none⟩) n c) L ∧ L.length = n) := ⟨h, hL⟩
    have HB : Hid (Box2 w bx node ∧ bx ≠ g ∧ bx < w.heap.size) := ⟨hb, hne, hb.lt⟩
    have hkn : (k : Int) < (n : Int) := by omega
    have hk1 : (k : Int) ≠ -1 := by omega
    have hkn' : k < n := by omega
    have hnm : (n : Int) ≤ 9223372036854775807 := by omega
    clear h hb hcm hne hI0 h1 h2 hk hL
    go_enter Try.func75, Try.ntmps75
    go_wp2_with (go_at_call 92; refine hI.mono ?_; rintro e w1 ⟨rfl, HI⟩; clear hI)
    go_loopw [5, 6, 7] (fun s5 s6 _ wr => ∃ i j K, s5 = .int .i64 (i : Nat) ∧ s6 = .int .i64 (j : Nat) ∧ i < j ∧ j ≤ n ∧ Hid (KInv node L K n i j ∧ Own wr B 68 3 encD (.slice (some ⟨g, 0, none⟩) n c) K ∧ Turns (fun k => k = g) w wr)) (fun _ s6 _ _ => n - (intOf s6).toNat)
    case atStart => exact ⟨k, k + 1, L, rfl, by go_num, by omega, by omega, HS.out, HO.out.1.below HI.out, Turns.of_below HI.out⟩
    case round =>
      obtain ⟨i, j, K, rfl, rfl, hij, hjn, HR⟩ := hrel
      clear HI HS
      by_cases hlt : j < n
      · have hjz : (j : Int) < (n : Int) := by omega
        have hiz : (i : Int) < (n : Int) := by omega
        obtain ⟨hK, ho, ht⟩ := HR.out
        have hLn := HO.out.2
        obtain ⟨m, hLm⟩ : ∃ m, L[j]? = some m := ⟨L[j]'(by omega), List.getElem?_eq_getElem (by omega)⟩
        have hKm : K[j]? = some m := hK.at_.trans hLm
        have hst := hK.step hLn hlt m hLm
        obtain ⟨old, hKi⟩ : ∃ old, K[i]? = some old := ⟨K[i]'(by have := hK.len; omega), List.getElem?_eq_getElem (by have := hK.len; omega)⟩
        have k0 := ho.cell drow.len hKm (j := 0) (v := .int .i64 m.mon) rfl
        rw [Nat.add_zero] at k0
        have k1 := ho.cell drow.len hKm (j := 1) (v := .int .i64 m.ser) rfl
        have k2 := ho.cell drow.len hKm (j := 2) (v := .string m.val) rfl
        have hgr : g < wr.heap.size := (World.ownsRow.lt ho g rfl).2
        have b1 : Below wr.heap.size wr (wr.alloc (.cells #[.int .i64 m.mon, .int .i64 m.ser, .string m.val] 68)) := (Below.refl _ _).alloc (Nat.le_refl _) _
        have hbr : Box2 wr bx node := HB.out.1.turns ht HB.out.2.1
        have hc : Calls Try.prog 76 #[.agg #[.int .i64 m.mon, .int .i64 m.ser, .string m.val], .pointer (some ⟨bx, 0, none⟩)] (wr.alloc (.cells #[.int .i64 m.mon, .int .i64 m.ser, .string m.val] 68)) fun e w2 => e = .returned (.bool (hitD node m)) ∧
            (w2.cell? ⟨wr.heap.size, 0, none⟩ = some (.int .i64 m.mon) ∧ w2.cell? ⟨wr.heap.size, 1, none⟩ = some (.int .i64 m.ser) ∧ w2.cell? ⟨wr.heap.size, 2, none⟩ = some (.string m.val)) ∧
            (w2.cell? ⟨g, i * 3, none⟩ = some (.int .i64 old.mon) ∧ w2.cell? ⟨g, i * 3 + 1, none⟩ = some (.int .i64 old.ser) ∧ w2.cell? ⟨g, i * 3 + 2, none⟩ = some (.string old.val) ∧ (∀ q, w2.frozen? ⟨g, q, none⟩ = false)) ∧
            Hid (Own w2 B 68 3 encD (.slice (some ⟨g, 0, none⟩) n c) K ∧ Turns (fun k => k = g) w w2) := by
          refine (clos_any _ bx m node (hbr.below b1)).mono fun e w2 ⟨e1, hb2⟩ => ?_
          have hb3 : Below wr.heap.size wr w2 := b1.trans (hb2.mono b1.size)
          have ho2 := ho.below hb3
          have q0 := ho2.cell drow.len hKi (j := 0) (v := .int .i64 old.mon) rfl
          rw [Nat.add_zero] at q0
          refine ⟨e1, ⟨(hb2.cell (p := ⟨wr.heap.size, 0, none⟩) (by simp)).trans (by simp), (hb2.cell (p := ⟨wr.heap.size, 1, none⟩) (by simp)).trans (by simp), (hb2.cell (p := ⟨wr.heap.size, 2, none⟩) (by simp)).trans (by simp)⟩,
            ⟨q0, ho2.cell drow.len hKi (j := 1) rfl, ho2.cell drow.len hKi (j := 2) rfl, fun q => ho2.frozen⟩, ho2, ht.trans (Turns.of_below hb3)⟩
        have HST : Hid (((hitD node m) = true → KInv node L K n i (j + 1)) ∧ ((hitD node m) = false → KInv node L (K.set i m) n (i + 1) (j + 1))) := hst
        clear hK ho ht hLn hLm hKm hst hKi hbr b1 HR HO HB
        generalize old.mon = of at hc
        generalize old.ser = ot at hc
        generalize old.val = ox at hc
        cases htn : (hitD node m) with
        | true =>
          rw [htn] at hc HST
          have HF : Hid (KInv node L K n i (j + 1)) := HST.out.1 rfl
          clear htn HST
          generalize m.mon = f at k0 hc
          generalize m.ser = t at k1 hc
          generalize m.val = x at k2 hc
          go_wp2_with (go_at_call 76; refine hc.mono ?_; rintro e w2 ⟨rfl, ⟨q0, q1, q2⟩, ⟨p0, p1, p2, fz⟩, HN⟩; clear hc)
          refine ⟨⟨_, _, _, _, _, _, _, _, _, _, _, _, _, _, _, _, _, _, _, _, _, _, _, ?rel, rfl⟩, ?measure⟩
          case rel => exact ⟨i, j + 1, K, rfl, by go_num, by omega, by omega, HF.out, HN.out⟩
          case measure => simp [intOf]; omega
        | false =>
          rw [htn] at hc HST
          have HF : Hid (KInv node L (K.set i m) n (i + 1) (j + 1)) := HST.out.2 rfl
          have HG : Hid (∀ w2, Own w2 B 68 3 encD (.slice (some ⟨g, 0, none⟩) n c) K ∧ Turns (fun k => k = g) w w2 → Own (((w2.setCell ⟨g, i * 3, none⟩ (.int .i64 m.mon)).setCell ⟨g, i * 3 + 1, none⟩ (.int .i64 m.ser)).setCell ⟨g, i * 3 + 2, none⟩ (.string m.val)) B 68 3 encD (.slice (some ⟨g, 0, none⟩) n c) (K.set i m) ∧
            Turns (fun k => k = g) w (((w2.setCell ⟨g, i * 3, none⟩ (.int .i64 m.mon)).setCell ⟨g, i * 3 + 1, none⟩ (.int .i64 m.ser)).setCell ⟨g, i * 3 + 2, none⟩ (.string m.val))) := fun w2 ⟨h1, h2⟩ =>
            ⟨ownD_set h1 m, ((h2.setCell (p := ⟨g, i * 3, none⟩) (.inl rfl) _).setCell (p := ⟨g, i * 3 + 1, none⟩) (.inl rfl) _).setCell (p := ⟨g, i * 3 + 2, none⟩) (.inl rfl) _⟩
          clear htn HST
          generalize K.set i m = K2 at HF HG
          generalize m.mon = f at k0 hc HG
          generalize m.ser = t at k1 hc HG
          generalize m.val = x at k2 hc HG
          go_wp2_with (go_at_call 76; refine hc.mono ?_; rintro e w2 ⟨rfl, ⟨q0, q1, q2⟩, ⟨p0, p1, p2, fz⟩, HN⟩; clear hc)
          refine ⟨⟨_, _, _, _, _, _, _, _, _, _, _, _, _, _, _, _, _, _, _, _, _, _, _, ?rel, rfl⟩, ?measure⟩
          case rel => exact ⟨i + 1, j + 1, K2, by go_num, by go_num, by omega, by omega, HF.out, HG.out w2 HN.out⟩
          case measure => simp [intOf]; omega
      · have hj2 : j = n := by omega
        subst hj2
        obtain ⟨hK, ho, ht⟩ := HR.out
        obtain ⟨w2, hcl0, H2⟩ := ho.clear drow (k := i) (by omega) (i * 3) (c - i) (fun _ => rfl) (.agg #[.int .i64 0, .int .i64 0, .string ⟨#[]⟩]) (by kernel_rfl) rfl (by intro u hu; simp [Value.cells] at hu; rcases hu with rfl | rfl | rfl <;> rfl) 0
        have hcl : ∀ ty, (Builtin.clear_ #[59] ty #[.slice (some ⟨g, i * 3, none⟩) (j - i) (c - i)]).run Try.prog wr = .ok (.tuple #[]) w2 := fun ty => hcl0
        have HN : Hid (i = (left node L).length ∧ Own w2 B 68 3 encD (.slice (some ⟨g, 0, none⟩) i c) (left node L) ∧ Turns (fun k => k = g) w w2) := by
          have e1 : K.take i = left node L := by rw [hK.take, List.take_of_length_le (by have := HO.out.2; omega)]
          have h2 := H2.out.1
          rw [e1] at h2
          refine ⟨?_, h2, ht.trans H2.out.2⟩
          rw [← e1, List.length_take, hK.len]
          omega
        have hic : i ≤ c := by omega
        have hnci : ¬ c = i := by omega
        have hij2 : i ≤ j := by omega
        clear hK ho ht H2 hcl0 HR HO HB
        go_wp2_with fail
        go_ret
        exact ⟨i, rfl, HN.out⟩

end

theorem index_nil (w : World) (v : Value) : Calls Try.prog 92 #[.slice none 0 0, v] w fun e w' => e = .returned (.int .i64 (-1)) ∧ w' = w := by
  go_enter Try.func92, Try.ntmps92
  go_wp2_with fail
  go_loopw [8, 5] (fun i _ wr => i = .int .i64 0 ∧ wr = w) (fun i _ _ => 0)
  case atStart => exact ⟨rfl, rfl⟩
  case round =>
    obtain ⟨rfl, hw⟩ := hrel
    subst hw
    go_wp2_with fail
    go_ret
    exact ⟨rfl, rfl⟩

theorem deletef_nil (w : World) (v : Value) : Calls Try.prog 75 #[.slice none 0 0, v] w fun e w' => e = .returned (.slice none 0 0) ∧ w' = w := by
  have hI := index_nil w v
  go_enter Try.func75, Try.ntmps75
  go_wp2_with (go_at_call 92; refine hI.mono ?_; rintro e w1 ⟨rfl, hw⟩; subst w1; clear hI)
  go_ret
  exact ⟨rfl, rfl⟩

end Go.Proofs.Ytdbahebhodoooaa.Px

/-
  A map from numbers to acceptors as it lies in memory.
  Conditions: none.
-/
namespace Go.Proofs.Ytdbahebhodoooaa.Px
open Go.RowKit Wi By Fl Ba
set_option linter.unusedVariables false
set_option linter.unusedSimpArgs false
set_option maxRecDepth 100000

/- A list of bytes that nobody writes. -/
structure Sv (w : World) (x : Option Addr) (n c : Nat) (d : List Nat) : Prop where
  sl : Fl.Sl w x n c d
  sm : n ≤ 5000
  tb : ∀ a, x = some a → Tb w a.block 5

theorem Sv.turns {w w' : World} {G : Nat → Prop} {x : Option Addr} {n c : Nat} {d : List Nat} (h : Sv w x n c d) (t : Turns G w w') (hG : ∀ k, G k → ¬ Tb w k 5) : Sv w' x n c d :=
  ⟨h.sl.turns t (fun _ a ha hg => hG _ hg (h.tb a ha)), h.sm, fun a ha => (h.tb a ha).of_heap (t.block _ (h.tb a ha).lt (fun hg => hG _ hg (h.tb a ha)))⟩
theorem Sv.below {w w' : World} {x : Option Addr} {n c : Nat} {d : List Nat} (h : Sv w x n c d) (b : Below w.heap.size w w') : Sv w' x n c d := h.turns (Turns.of_below (F := fun _ => False) b) (fun _ h => h.elim)
theorem Sv.nil (w : World) : Sv w none 0 0 [] := ⟨Fl.Sl.empty w, by omega, fun a ha => by cases ha⟩
theorem vl_sv {w w' : World} {x : Option Addr} {n c : Nat} {d : List Nat} (h : Vl w w' x n c d) (hn : n ≤ 5000) : Sv w' x n c d := ⟨h.2.1, hn, fun a ha => (h.2.2 a ha).2⟩

theorem wfi_all {a : Int} (h1 : -9223372036854775808 ≤ a) (h2 : a ≤ 9223372036854775807) : wfi a := by
  have e1 : IntKind.i64.min = -9223372036854775808 := by decide
  have e2 : IntKind.i64.max = 9223372036854775807 := by decide
  unfold wfi Lit.wf
  simp [e1, e2]
  omega

def hva (v : Value) : Option (DataW Value × List MemPlace) := some (.held v, [])
def av (v : AccV) : Value := ac v.p v.a v.x v.n v.c
def acOf (v : AccV) : Ac := ⟨v.p, v.a, v.d⟩

theorem hva_inv {v : Value} {z : DataW Value × List MemPlace} (h : hva v = some z) : z = (.held v, []) := by
  injection h with h
  exact h.symm

theorem ilaw : Maps.Keyed Try.prog 3 := Maps.int_keyed Try.underlying3
def ilit (k : Nat) : Lit := .int .i64 (k : Int)
theorem ikey {k : Nat} (h : k < 4294967296) : keyOf Try.prog 3 (.int .i64 (k : Int)) = some (ilit k) := by
  have hw : wfi (k : Int) := wfi_all (by omega) (by omega)
  unfold keyOf mapKey ilit
  rw [Try.underlying3]
  unfold wfi at hw
  simp [hw]
theorem ilit_inj {a b : Nat} (h : ilit a = ilit b) : a = b := by
  unfold ilit at h
  injection h with _ h
  omega
theorem ilit_key (k : Nat) (h : k < 4294967296) : WideAt.IsKeyLit (ilit k) := ilaw.key (ikey h)
theorem azero (w : World) : (zeroValue 74).run Try.prog w = .ok (ac z0 z0 none 0 0) w := by kernel_rfl

/- An acceptor in memory. -/
structure AvOk (w : World) (v : AccV) : Prop where
  sv : Sv w v.x v.n v.c v.d
  p : bwf v.p
  a : bwf v.a

theorem AvOk.turns {w w' : World} {G : Nat → Prop} {v : AccV} (h : AvOk w v) (t : Turns G w w') (hG : ∀ k, G k → ¬ Tb w k 5) : AvOk w' v := ⟨h.sv.turns t hG, h.p, h.a⟩

def noAv : AccV := ⟨z0, z0, none, 0, 0, []⟩
theorem z0_wf : bwf z0 := ⟨wfi_all (a := 0) (by omega) (by omega), wfi_all (a := 0) (by omega) (by omega)⟩
theorem noAv_ok (w : World) : AvOk w noAv := ⟨Sv.nil w, z0_wf, z0_wf⟩

structure ApAt (w : World) (mb nb : Nat) (D : DataW Value) (M : Nat → Ac) : Prop where
  own : w.ownsMap Try.prog 3 hva mb nb D
  val : ∀ k, k < 4294967296 → (Maps.has D (ilit k) = false ∧ M k = noAc) ∨ ∃ v : AccV, (∀ z, D.atKey (ilit k) z = .held (av v)) ∧ AvOk w v ∧ M k = acOf v

section
variable {w w' : World} {mb nb : Nat} {D : DataW Value} {M : Nat → Ac}

theorem ApAt.isM (h : ApAt w mb nb D M) : Mb w mb := by
  obtain ⟨es, c, hb, _⟩ := h.own
  exact ⟨es, c, hb⟩
theorem ApAt.lt (h : ApAt w mb nb D M) : mb < w.heap.size := h.own.lt

theorem ApAt.turns {G : Nat → Prop} (h : ApAt w mb nb D M) (t : Turns G w w') (hm : ¬ G mb) (hG : ∀ k, G k → ¬ Tb w k 5) : ApAt w' mb nb D M := by
  obtain ⟨es, clock, hb, r⟩ := h.own
  refine ⟨⟨es, clock, (t.block mb h.own.lt hm).trans hb, r⟩, fun k hk => ?_⟩
  rcases h.val k hk with q | ⟨v, q1, q2, q3⟩
  · exact .inl q
  · exact .inr ⟨v, q1, q2.turns t hG, q3⟩

theorem ApAt.below (h : ApAt w mb nb D M) (b : Below w.heap.size w w') : ApAt w' mb nb D M := h.turns (Turns.of_below (F := fun _ => False) b) (fun h => h) (fun _ h => h.elim)

theorem ApAt.new (w : World) : ApAt (w.alloc (.map #[] 0)) w.heap.size 0 (.map []) (fun _ => noAc) :=
  ⟨World.ownsMap_made w _ _ _, fun _ _ => .inl ⟨rfl, rfl⟩⟩

theorem ApAt.look (h : ApAt w mb nb D M) (k : Nat) (hk : k < 4294967296) : ∃ v : AccV, (Instr.lookup 60 (.map (some mb)) (.int .i64 (k : Int)) false).run Try.prog w = .ok (av v) w ∧ AvOk w v ∧ M k = acOf v := by
  obtain ⟨v, ps, h1, h2⟩ := h.own.lookup (t := 60) (e := 74) ilaw Try.underlying60 (azero w) rfl (ikey hk)
  have h3 := congrArg Prod.fst (hva_inv h2)
  dsimp only at h3
  rcases h.val k hk with ⟨q1, q2⟩ | ⟨u, q1, q2, q3⟩
  · rw [Maps.atKey_of_not_has q1] at h3
    injection h3 with h3
    exact ⟨noAv, by rw [h1, ← h3]; rfl, noAv_ok w, q2⟩
  · rw [q1] at h3
    injection h3 with h3
    exact ⟨u, by rw [h1, ← h3], q2, q3⟩

def upA (M : Nat → Ac) (k : Nat) (a : Ac) : Nat → Ac := fun i => if i = k then a else M i

theorem mb_not_u8 (h : Mb w mb) : ∀ i, atB mb i → ¬ Tb w i 5 := fun i hi tb => by
  have e : i = mb := hi
  subst e
  exact tb.not_map h

theorem grown_at {w1 : World} {g : Nat} (h3 : w.grownBy w1 (some g)) : Turns (atB g) w w1 := ⟨h3.os, h3.tape, h3.output, h3.size, fun i hi hr => h3.block i hi (fun e => hr (by injection e))⟩

theorem ApAt.put (h : ApAt w mb nb D M) (k : Nat) (hk : k < 4294967296) (hn : nb < 4000000000000000000) (v : AccV) (hv : AvOk w v) :
    ∃ w1 D', (Instr.mapUpdate 60 (.map (some mb)) (.int .i64 (k : Int)) (av v)).run Try.prog w = .ok () w1 ∧ Hid (ApAt w1 mb (nb + 1) D' (upA M k (acOf v)) ∧ Turns (atB mb) w w1) := by
  obtain ⟨w1, h1, h2, h3⟩ := h.own.update (t := 60) (e := 74) ilaw Try.underlying60 (by unfold maxLen; omega) (ikey hk) (val := av v) (d := .held (av v)) (ps := []) rfl
  have t := grown_at h3
  have hG := mb_not_u8 h.isM
  refine ⟨w1, _, h1, ⟨h2, fun i hi => ?_⟩, t⟩
  unfold upA
  by_cases e : i = k
  · subst e
    rw [if_pos rfl]
    exact .inr ⟨v, fun z => Maps.atKey_put_same h.own.isMap (ilit_key i hi) _ z, hv.turns t hG, rfl⟩
  · rw [if_neg e]
    rcases h.val i hi with ⟨q1, q2⟩ | ⟨u, q1, q2, q3⟩
    · exact .inl ⟨by rw [Maps.has_put_other (fun h => e (ilit_inj h))]; exact q1, q2⟩
    · exact .inr ⟨u, fun z => by rw [Maps.atKey_put_other (fun h => e (ilit_inj h))]; exact q1 z, q2.turns t hG, q3⟩

theorem ApAt.del (h : ApAt w mb nb D M) (k : Nat) (hk : k < 4294967296) (ty : TypeId) :
    ∃ w1 D', (Builtin.delete_ #[60, 3] ty #[.map (some mb), .int .i64 (k : Int)]).run Try.prog w = .ok (.tuple #[]) w1 ∧ Hid (ApAt w1 mb nb D' (upA M k noAc) ∧ Turns (atB mb) w w1) := by
  obtain ⟨w1, h1, h2, h3⟩ := h.own.drop (t := 60) (e := 74) ilaw Try.underlying60 (ikey hk) ty
  have t := grown_at h3.grown
  have hG := mb_not_u8 h.isM
  refine ⟨w1, _, h1, ⟨h2, fun i hi => ?_⟩, t⟩
  unfold upA
  by_cases e : i = k
  · subst e
    rw [if_pos rfl]
    exact .inl ⟨Maps.has_del_same, rfl⟩
  · rw [if_neg e]
    rcases h.val i hi with ⟨q1, q2⟩ | ⟨u, q1, q2, q3⟩
    · exact .inl ⟨by rw [Maps.has_del_other (fun h => e (ilit_inj h))]; exact q1, q2⟩
    · exact .inr ⟨u, fun z => by rw [Maps.atKey_del_other (fun h => e (ilit_inj h))]; exact q1 z, q2.turns t hG, q3⟩

end

end Go.Proofs.Ytdbahebhodoooaa.Px

/-
  Package paxos: seals; how ballots and messages are written.
  Conditions: what is written lies in memory.
-/
namespace Go.Proofs.Ytdbahebhodoooaa.Px
open Go.RowKit Wi By Fl Ba
set_option linter.unusedVariables false
set_option linter.unusedSimpArgs false
set_option maxRecDepth 100000

theorem fold_take (s : Nat) (l : List Nat) (k : Nat) (h : k < l.length) : (l.take (k + 1)).foldl sealStep s = sealStep ((l.take k).foldl sealStep s) (Fl.gl l k) := by
  rw [List.take_add_one, List.getElem?_eq_getElem h, List.foldl_append, Option.toList_some, List.foldl_cons, List.foldl_nil]
  simp [Fl.gl, h]

theorem fnv_take (l : List Nat) (k : Nat) (h : k < l.length) : fnv (l.take (k + 1)) = sealStep (fnv (l.take k)) (Fl.gl l k) := fold_take _ l k h

theorem xor_lt64 {a b : Nat} (ha : a < 18446744073709551616) (hb : b < 256) : a ^^^ b < 18446744073709551616 := Nat.xor_lt_two_pow (n := 64) ha (by omega)

theorem mul_wrap (a : Nat) : IntKind.u64.wrap ((a : Int) * 1099511628211) = ((a * 1099511628211 % 18446744073709551616 : Nat) : Int) := by
  simp [IntKind.wrap, IntKind.bits, IntKind.signed]

theorem seal_any (x : Option Addr) (n c : Nat) (l : List Nat) (w : World) (hl : Fl.Sl w x n c l) (hn : n ≤ 140737488355328) :
    Calls Try.prog 79 #[.slice x n c] w fun e w' => e = .returned (.int .u64 (fnv l : Nat)) ∧ w' = w := by
  have HL : Hid (Fl.Sl w x n c l) := hl
  clear hl
  go_enter Try.func79, Try.ntmps79
  go_wp2_with fail
  go_loopw [3, 5, 8] (fun s _ i wr => ∃ k : Nat, k ≤ n ∧ i = .int .i64 k ∧ s = .int .u64 (fnv (l.take k) : Nat) ∧ wr = w) (fun _ _ i _ => n - (intOf i).toNat)
  case atStart => exact ⟨0, by omega, rfl, rfl, rfl⟩
  case round =>
    obtain ⟨k, hk, rfl, rfl, hw⟩ := hrel
    subst hw
    by_cases hlt : k < n
    · have hkn : (k : Int) < (n : Int) := by omega
      obtain ⟨b, o, rfl, hb, hc⟩ := HL.out.row.resolve_left (by omega)
      have hck := hc k hlt
      have hv := Fl.gl_lt HL.out.lt k
      have hs := fnv_lt (l.take k)
      have hx := u64_xor_nat (fnv (l.take k)) (Fl.gl l k) hs (by omega)
      have hm := mul_wrap (fnv (l.take k) ^^^ Fl.gl l k)
      have HS : Hid (fnv (l.take (k + 1)) = (fnv (l.take k) ^^^ Fl.gl l k) * 1099511628211 % 18446744073709551616) := fnv_take l k (by rw [HL.out.len]; exact hlt)
      have hx2 := xor_lt64 hs hv
      clear HL hc hb
      generalize fnv (l.take k) = s at *
      generalize Fl.gl l k = v at *
      generalize s ^^^ v = xv at *
      generalize xv * 1099511628211 % 18446744073709551616 = mv at *
      go_wp2_with fail
      go_roundw
      case rel => exact ⟨k + 1, by omega, by go_num, by rw [HS.out], trivial⟩
      case measure => simp [intOf]; omega
    · obtain rfl : k = n := by omega
      go_wp2_with fail
      go_ret
      rw [List.take_of_length_le (by rw [HL.out.len]; exact Nat.le_refl _)]
      exact ⟨rfl, rfl⟩

theorem sealed_any (x : Option Addr) (n c : Nat) (l : List Nat) (w : World) (hl : Fl.Sl w x n c l) (hn : n ≤ 140737488351232) :
    Calls Try.prog 59 #[.slice x n c] w fun e w' => ∃ y m cy, e = .returned (.slice y m cy) ∧ Hid (m = n + 8 ∧ Vl w w' y m cy (sealed l)) := by
  have hS := seal_any x n c l w hl (by omega)
  have hF := fx8W x n c l (fnv l) w hl (fnv_lt l) (by omega)
  unfold sealed
  generalize fnv l = f at *
  clear hl
  go_enter Try.func59, Try.ntmps59
  go_wp2_with (first
    | (
       go_at_call 79; refine hS.mono ?_; rintro e w' ⟨rfl, hw⟩; subst w'; clear hS)
    | (
       go_at_call 78; refine hF.mono ?_; rintro e w1 ⟨y, m, cy, rfl, H1⟩; clear hF))
  go_ret
  exact ⟨y, m, cy, rfl, H1.out⟩

theorem wrap_u64 {a : Nat} (h : a < 18446744073709551616) : IntKind.u64.wrap (a : Int) = (a : Int) := by
  simp [IntKind.wrap, IntKind.bits, IntKind.signed]
  omega

set_option maxHeartbeats 800000 in
theorem wbal_any (x : Option Addr) (n c : Nat) (l : List Nat) (b : Bt) (hb1 : 0 ≤ b.1 ∧ b.1 < 9223372036854775808) (hb2 : 0 ≤ b.2 ∧ b.2 < 9223372036854775808) (w : World) (hl : Fl.Sl w x n c l) (hn : n ≤ 140737488340000) :
    Calls Try.prog 87 #[.slice x n c, bt b] w fun e w' => ∃ y m cy, e = .returned (.slice y m cy) ∧ Hid (m ≤ n + 20 ∧ Vl w w' y m cy (l ++ wBal b)) := by
  obtain ⟨r, m⟩ := b
  dsimp only [bt] at *
  obtain ⟨R, rfl⟩ : ∃ R : Nat, r = R := ⟨r.toNat, by omega⟩
  obtain ⟨M, rfl⟩ : ∃ M : Nat, m = M := ⟨m.toNat, by omega⟩
  have HE : Hid (l ++ wBal ((R : Int), (M : Int)) = l ++ uv R ++ uv M) := by
    show l ++ (uv R ++ uv M) = _
    simp
  have u1 := uv_ten (n := R) (by omega)
  have u2 := uv_ten (n := M) (by omega)
  have hU1 := fun W h => uvW x n c l R W h (by omega) (by omega)
  have HU : Hid ((uv R).length ≤ 10 ∧ (uv M).length ≤ 10) := ⟨u1, u2⟩
  have i1 : (R : Int) < 9223372036854775808 := by omega
  have i2 : (M : Int) < 9223372036854775808 := by omega
  have HM : Hid (M < 9223372036854775808 ∧ n ≤ 140737488340000) := ⟨by omega, hn⟩
  have hD : Fl.Sl (w.alloc (.cells #[.int .i64 (R : Int), .int .i64 (M : Int)] 72)).drew x n c l := hl.below (on (al _ _) (Below.refl _ _).drew)
  have wr1 := wrap_u64 (a := R) (by omega)
  have wr2 := wrap_u64 (a := M) (by omega)
  clear u1 u2 hb1 hb2 hn
  go_enter Try.func87, Try.ntmps87
  go_wp2_with fail
  have k0 : (w.alloc (.cells #[.int .i64 (R : Int), .int .i64 (M : Int)] 72)).drew.cell? ⟨w.heap.size, 0, none⟩ = some (.int .i64 (R : Int)) := by go_simp
  have k1 : (w.alloc (.cells #[.int .i64 (R : Int), .int .i64 (M : Int)] 72)).drew.cell? ⟨w.heap.size, 1, none⟩ = some (.int .i64 (M : Int)) := by go_simp
  have bD : Below w.heap.size w (w.alloc (.cells #[.int .i64 (R : Int), .int .i64 (M : Int)] 72)).drew := on (al _ _) (Below.refl _ _).drew
  refine wp_region_held_drew (S := fun v => v.cell? ⟨w.heap.size, 0, none⟩ = some (.int .i64 (R : Int)) ∧ v.cell? ⟨w.heap.size, 1, none⟩ = some (.int .i64 (M : Int))) (by kernel_rfl) ⟨k0, k1⟩ (fun hHeld => ?_)
  generalize (w.alloc (.cells #[.int .i64 (R : Int), .int .i64 (M : Int)] 72)).drew = wD at *
  refine wpAnyH_take (i := 0) (v := ?_) rfl (by kernel_rfl) (by kernel_rfl) (by kernel_rfl) (fun _ _ _ h => h) (Or.inl ⟨by rfl, ?_⟩) (by assumption) ?_
  case refine_2 => (intro w hSw; (try dsimp only at hSw); go_simp; (try with_reducible rfl))
  (try simp only [Act.put, List.getElem_toArray, List.getElem_cons_succ, List.getElem_cons_zero, List.setIfInBounds_toArray, List.set_cons_zero, List.set_cons_succ])
  refine wpAnyH_take (i := 1) (v := ?_) rfl (by kernel_rfl) (by kernel_rfl) (by kernel_rfl) (fun _ _ _ h => h) (Or.inl ⟨by rfl, ?_⟩) (by assumption) ?_
  case refine_2 => (intro w hSw; (try dsimp only at hSw); go_simp; (try with_reducible rfl))
  (try simp only [Act.put, List.getElem_toArray, List.getElem_cons_succ, List.getElem_cons_zero, List.setIfInBounds_toArray, List.set_cons_zero, List.set_cons_succ])
  refine wpAnyH_take (i := 2) (v := ?_) rfl (by kernel_rfl) (by kernel_rfl) (by kernel_rfl) (fun _ _ _ h => h) (Or.inl ⟨by rfl, ?_⟩) (by assumption) ?_
  case refine_2 => (intro w hSw; (try dsimp only at hSw); go_simp; (try with_reducible rfl))
  (try simp only [Act.put, List.getElem_toArray, List.getElem_cons_succ, List.getElem_cons_zero, List.setIfInBounds_toArray, List.set_cons_zero, List.set_cons_succ])
  refine wpAnyH_take (i := 3) (v := ?_) rfl (by kernel_rfl) (by kernel_rfl) (by kernel_rfl) (fun _ _ _ h => h) (Or.inl ⟨by rfl, ?_⟩) (by assumption) ?_
  case refine_2 => (intro w hSw; (try dsimp only at hSw); go_simp; (try with_reducible rfl))
  (try simp only [Act.put, List.getElem_toArray, List.getElem_cons_succ, List.getElem_cons_zero, List.setIfInBounds_toArray, List.set_cons_zero, List.set_cons_succ])
  refine wpAnyH_take (i := 5) (v := ?_) rfl (by kernel_rfl) (by kernel_rfl) (by kernel_rfl) (fun _ _ _ h => h) (Or.inl ⟨by rfl, ?_⟩) (by assumption) ?_
  case refine_2 => (intro w hSw; (try dsimp only at hSw); go_simp; (try with_reducible rfl))
  (try simp only [Act.put, List.getElem_toArray, List.getElem_cons_succ, List.getElem_cons_zero, List.setIfInBounds_toArray, List.set_cons_zero, List.set_cons_succ])
  refine wpAnyH_take (i := 6) (v := ?_) rfl (by kernel_rfl) (by kernel_rfl) (by kernel_rfl) (fun _ _ _ h => h) (Or.inl ⟨by rfl, ?_⟩) (by assumption) ?_
  case refine_2 => (intro w hSw; (try dsimp only at hSw); go_simp; (try with_reducible rfl))
  (try simp only [Act.put, List.getElem_toArray, List.getElem_cons_succ, List.getElem_cons_zero, List.setIfInBounds_toArray, List.set_cons_zero, List.set_cons_succ])
  refine wpAnyH_take (i := 7) (v := ?_) rfl (by kernel_rfl) (by kernel_rfl) (by kernel_rfl) (fun _ _ _ h => h) (Or.inl ⟨by rfl, ?_⟩) (by assumption) ?_
  case refine_2 => (intro w hSw; (try dsimp only at hSw); go_simp; (try with_reducible rfl))
  (try simp only [Act.put, List.getElem_toArray, List.getElem_cons_succ, List.getElem_cons_zero, List.setIfInBounds_toArray, List.set_cons_zero, List.set_cons_succ])
  refine wpAnyH_ready (rs := [4]) (by kernel_rfl) (by simp) ?_
  refine AllReadyH.cons rfl (fun K hK => ?_) AllReadyH.nil
  go_simp
  refine (hU1 _ hD).mono ?_
  rintro e w1 ⟨y1, m1, c1, rfl, H1⟩
  have hU2 := uvW y1 m1 c1 _ M w1 H1.out.2.2.1 (by have := HM.out.1; omega) (by have := H1.out.1; have := HU.out.1; have := HM.out.2; omega)
  refine hK.out _ _ ⟨keep H1.out.2.1 k0, keep H1.out.2.1 k1⟩ (fun hHeld => ?_)
  clear hK K
  refine wpAnyH_ready (rs := [8]) (by kernel_rfl) (by simp) ?_
  refine AllReadyH.cons rfl (fun K hK => ?_) AllReadyH.nil
  go_simp
  refine hU2.mono ?_
  rintro e w2 ⟨y2, m2, c2, rfl, H2⟩
  refine hK.out _ _ ⟨keep (on H1.out.2.1 H2.out.2.1) k0, keep (on H1.out.2.1 H2.out.2.1) k1⟩ (fun hHeld => ?_)
  clear hK K
  refine wpAnyH_take (i := 9) (v := ?_) rfl (by kernel_rfl) (by kernel_rfl) (by kernel_rfl) (fun _ _ _ h => h) (Or.inl ⟨by rfl, ?_⟩) (by assumption) ?_
  case refine_2 => (intro w hSw; (try dsimp only at hSw); go_simp; (try with_reducible rfl))
  (try simp only [Act.put, List.getElem_toArray, List.getElem_cons_succ, List.getElem_cons_zero, List.setIfInBounds_toArray, List.set_cons_zero, List.set_cons_succ])
  refine wpAnyH_done (by kernel_rfl) ?_ _
  go_wp2_with fail
  go_ret
  refine ⟨y2, m2, c2, rfl, ?_, ?_⟩
  · have := H1.out.1; have := H2.out.1; have := HU.out; omega
  · rw [HE.out]
    exact Vl.on bD (Vl.on H1.out.2.1 H2.out.2)

end Go.Proofs.Ytdbahebhodoooaa.Px

/-
  Package paxos: a message's bytes.
  Conditions: the message lies in memory.
-/
namespace Go.Proofs.Ytdbahebhodoooaa.Px
open Go.RowKit Wi By Fl Ba
set_option linter.unusedVariables false
set_option linter.unusedSimpArgs false
set_option maxRecDepth 100000

def mv (m : Ms) (x : Option Addr) (c : Nat) (y : Option Addr) (cy : Nat) : Value :=
  .agg #[.int .i64 m.kind, .int .i64 m.num, .int .i64 m.st.p.1, .int .i64 m.st.p.2, .int .i64 m.st.a.1, .int .i64 m.st.a.2, .slice x m.st.d.length c, .int .i64 m.known, .slice y m.decs.length cy]

def big : Nat := 9223372036854775808

structure BOk (b : Bt) : Prop where
  r0 : 0 ≤ b.1
  r1 : b.1 < 9223372036854775808
  m0 : 0 ≤ b.2
  m1 : b.2 < 9223372036854775808

structure MOk (w : World) (m : Ms) (x : Option Addr) (c : Nat) (y : Option Addr) : Prop where
  kind : m.kind < 9223372036854775808
  num : m.num < 9223372036854775808
  known : m.known < 9223372036854775808
  p : BOk m.st.p
  a : BOk m.st.a
  sl : Fl.Sl w x m.st.d.length c m.st.d
  small : m.st.d.length ≤ 5000
  dcs : DcsAt w y m.decs
  few : m.decs.length ≤ 64
  ok : ∀ d ∈ m.decs, DOk d

theorem nine_keep {w w1 : World} {g : Nat} {v0 v1 v2 v3 v4 v5 v6 v7 v8 : Value} (b : Below w.heap.size w w1)
    (h : w.cell? ⟨g, 0, none⟩ = some v0 ∧ w.cell? ⟨g, 1, none⟩ = some v1 ∧ w.cell? ⟨g, 2, none⟩ = some v2 ∧ w.cell? ⟨g, 3, none⟩ = some v3 ∧ w.cell? ⟨g, 4, none⟩ = some v4 ∧ w.cell? ⟨g, 5, none⟩ = some v5 ∧ w.cell? ⟨g, 6, none⟩ = some v6 ∧ w.cell? ⟨g, 7, none⟩ = some v7 ∧ w.cell? ⟨g, 8, none⟩ = some v8) :
    w1.cell? ⟨g, 0, none⟩ = some v0 ∧ w1.cell? ⟨g, 1, none⟩ = some v1 ∧ w1.cell? ⟨g, 2, none⟩ = some v2 ∧ w1.cell? ⟨g, 3, none⟩ = some v3 ∧ w1.cell? ⟨g, 4, none⟩ = some v4 ∧ w1.cell? ⟨g, 5, none⟩ = some v5 ∧ w1.cell? ⟨g, 6, none⟩ = some v6 ∧ w1.cell? ⟨g, 7, none⟩ = some v7 ∧ w1.cell? ⟨g, 8, none⟩ = some v8 := by
  obtain ⟨h0, h1, h2, h3, h4, h5, h6, h7, h8⟩ := h
  exact ⟨keep b h0, keep b h1, keep b h2, keep b h3, keep b h4, keep b h5, keep b h6, keep b h7, keep b h8⟩

set_option maxHeartbeats 1600000 in
theorem enc_know (m : Ms) (x y : Option Addr) (c cy fr : Nat) (w : World) (h : MOk w m x c y) (hk : m.kind = 4) (hf : fr < 9223372036854775808) :
    Calls Try.prog 69 #[mv m x c y cy, .int .i64 fr] w fun e w' => ∃ z l cz, e = .returned (.slice z l cz) ∧ Hid (l ≤ 500000 ∧ Vl w w' z l cz (encM m fr)) := by
  have HE : Hid (encM m fr = sealed (uv fr ++ uv 4 ++ uv m.num)) := by
    show encM m fr = _
    unfold encM body
    rw [hk, if_pos rfl, List.append_nil]
  have hnum := h.num
  dsimp only [mv]
  rw [hk]
  clear h hk
  generalize m.num = num at *
  generalize m.st.p.1 = p1 at *
  generalize m.st.p.2 = p2 at *
  generalize m.st.a.1 = a1 at *
  generalize m.st.a.2 = a2 at *
  generalize m.st.d.length = dn at *
  generalize m.known = kn at *
  generalize m.decs.length = dl at *
  have i1 : (fr : Int) < 9223372036854775808 := by omega
  have i2 : (num : Int) < 9223372036854775808 := by omega
  have HU : Hid ((uv fr).length ≤ 10 ∧ (uv 4).length ≤ 10 ∧ (uv num).length ≤ 10) := ⟨uv_ten (by omega), uv_ten (by omega), uv_ten (by omega)⟩
  have hU1 := fun W => uvW none 0 0 [] fr W (Fl.Sl.empty W) (by omega) (by omega)
  go_enter Try.func69, Try.ntmps69
  go_wp2_with (first
    | (
       go_at_call 85; refine (hU1 _).mono ?_; rintro e w1 ⟨y1, m1, c1, rfl, H1⟩; clear hU1
       have k0 := keep H1.out.2.1 (b := w.heap.size) (o := 0) (x := .int .i64 4) (by first | assumption | go_simp)
       have k1 := keep H1.out.2.1 (b := w.heap.size) (o := 1) (x := .int .i64 num) (by first | assumption | go_simp)
       have hU2 := uvW y1 m1 c1 _ 4 w1 H1.out.2.2.1 (by omega) (by have := H1.out.1; have := HU.out.1; omega)
       have B1 := on (al _ _) H1.out.2.1)
    | (
       go_at_call 85; refine hU2.mono ?_; rintro e w2 ⟨y2, m2, c2, rfl, H2⟩; clear hU2
       have k0 := keep H2.out.2.1 (b := w.heap.size) (o := 0) (x := .int .i64 4) (by first | assumption | go_simp)
       have k1 := keep H2.out.2.1 (b := w.heap.size) (o := 1) (x := .int .i64 num) (by first | assumption | go_simp)
       have hU3 := uvW y2 m2 c2 _ num w2 H2.out.2.2.1 (by omega) (by have := H1.out.1; have := HU.out.1; have := H2.out.1; have := HU.out.2.1; omega)
       have B2 := on B1 H2.out.2.1)
    | (
       go_at_call 85; refine hU3.mono ?_; rintro e w3 ⟨y3, m3, c3, rfl, H3⟩; clear hU3
       have k0 := keep H3.out.2.1 (b := w.heap.size) (o := 0) (x := .int .i64 4) (by first | assumption | go_simp)
       have k1 := keep H3.out.2.1 (b := w.heap.size) (o := 1) (x := .int .i64 num) (by first | assumption | go_simp)
       have HL : Hid (m3 ≤ 30) := by show m3 ≤ 30; have := H1.out.1; have := H2.out.1; have := H3.out.1; have := HU.out; omega
       have hS := sealed_any y3 m3 c3 _ w3 H3.out.2.2.1 (by have := HL.out; omega)
       have B3 := on B2 H3.out.2.1)
    | (
       go_at_call 59; refine hS.mono ?_; rintro e w4 ⟨y4, m4, c4, rfl, H4⟩; clear hS))
  go_ret
  refine ⟨y4, m4, c4, rfl, ?_, ?_⟩
  · have := H4.out.1; have := HL.out; omega
  · rw [HE.out]
    have := Vl.on B3 H4.out.2
    simpa using this

set_option maxHeartbeats 3200000 in
theorem enc_state (m : Ms) (x y : Option Addr) (c cy fr : Nat) (w : World) (h : MOk w m x c y) (hk4 : m.kind ≠ 4) (hk5 : m.kind ≠ 5) (hf : fr < 9223372036854775808) :
    Calls Try.prog 69 #[mv m x c y cy, .int .i64 fr] w fun e w' => ∃ z l cz, e = .returned (.slice z l cz) ∧ Hid (l ≤ 500000 ∧ Vl w w' z l cz (encM m fr)) := by
  have HE : Hid (encM m fr = sealed (uv fr ++ uv m.kind ++ uv m.num ++ wBal m.st.p ++ wBal m.st.a ++ (uv m.st.d.length ++ m.st.d))) := by
    show encM m fr = _
    unfold encM body
    rw [if_neg hk4, if_neg hk5]
    simp
  have hnum := h.num
  have hkind := h.kind
  have hp := h.p
  have ha := h.a
  have HS : Hid (Fl.Sl w x m.st.d.length c m.st.d ∧ m.st.d.length ≤ 5000) := ⟨h.sl, h.small⟩
  have hP := fun y n c l W => wbal_any y n c l m.st.p ⟨hp.r0, hp.r1⟩ ⟨hp.m0, hp.m1⟩ W
  have hA := fun y n c l W => wbal_any y n c l m.st.a ⟨ha.r0, ha.r1⟩ ⟨ha.m0, ha.m1⟩ W
  dsimp only [mv, bt] at *
  clear h hp ha
  generalize m.num = num at *
  generalize m.kind = kind at *
  generalize wBal m.st.p = wp at *
  generalize wBal m.st.a = wa at *
  generalize m.st.p.1 = p1 at *
  generalize m.st.p.2 = p2 at *
  generalize m.st.a.1 = a1 at *
  generalize m.st.a.2 = a2 at *
  generalize m.st.d.length = dn at *
  generalize m.st.d = dd at *
  generalize m.known = kn at *
  generalize m.decs.length = dl at *
  have i1 : (fr : Int) < 9223372036854775808 := by omega
  have i2 : (num : Int) < 9223372036854775808 := by omega
  have i3 : (kind : Int) < 9223372036854775808 := by omega
  have n4 : ((kind : Int) == 4) = false := by simp; omega
  have n5 : ((kind : Int) == 5) = false := by simp; omega
  have HU : Hid ((uv fr).length ≤ 10 ∧ (uv kind).length ≤ 10 ∧ (uv num).length ≤ 10 ∧ (uv dn).length ≤ 10) := ⟨uv_ten (by omega), uv_ten (by omega), uv_ten (by omega), uv_ten (by have := HS.out.2; omega)⟩
  have hU1 := fun W => uvW none 0 0 [] fr W (Fl.Sl.empty W) (by omega) (by omega)
  clear hk4 hk5
  go_enter Try.func69, Try.ntmps69
  go_wp2_with (first
    | (
       go_at_call 85; refine (hU1 _).mono ?_; rintro e w1 ⟨y1, m1, c1, rfl, H1⟩; clear hU1
       have k0 := keep H1.out.2.1 (b := w.heap.size) (o := 0) (x := .int .i64 kind) (by first | assumption | go_simp)
       have k1 := keep H1.out.2.1 (b := w.heap.size) (o := 1) (x := .int .i64 num) (by first | assumption | go_simp)
       have k2 := keep H1.out.2.1 (b := w.heap.size) (o := 2) (x := .int .i64 p1) (by first | assumption | go_simp)
       have k3 := keep H1.out.2.1 (b := w.heap.size) (o := 3) (x := .int .i64 p2) (by first | assumption | go_simp)
       have k4 := keep H1.out.2.1 (b := w.heap.size) (o := 4) (x := .int .i64 a1) (by first | assumption | go_simp)
       have k5 := keep H1.out.2.1 (b := w.heap.size) (o := 5) (x := .int .i64 a2) (by first | assumption | go_simp)
       have k6 := keep H1.out.2.1 (b := w.heap.size) (o := 6) (x := .slice x dn c) (by first | assumption | go_simp)
       have hU2 := uvW y1 m1 c1 _ kind w1 H1.out.2.2.1 (by omega) (by have := H1.out.1; have := HU.out.1; omega)
       have B1 := on (al _ _) H1.out.2.1)
    | (
       go_at_call 85; refine hU2.mono ?_; rintro e w2 ⟨y2, m2, c2, rfl, H2⟩; clear hU2
       have k0 := keep H2.out.2.1 (b := w.heap.size) (o := 0) (x := .int .i64 kind) (by first | assumption | go_simp)
       have k1 := keep H2.out.2.1 (b := w.heap.size) (o := 1) (x := .int .i64 num) (by first | assumption | go_simp)
       have k2 := keep H2.out.2.1 (b := w.heap.size) (o := 2) (x := .int .i64 p1) (by first | assumption | go_simp)
       have k3 := keep H2.out.2.1 (b := w.heap.size) (o := 3) (x := .int .i64 p2) (by first | assumption | go_simp)
       have k4 := keep H2.out.2.1 (b := w.heap.size) (o := 4) (x := .int .i64 a1) (by first | assumption | go_simp)
       have k5 := keep H2.out.2.1 (b := w.heap.size) (o := 5) (x := .int .i64 a2) (by first | assumption | go_simp)
       have k6 := keep H2.out.2.1 (b := w.heap.size) (o := 6) (x := .slice x dn c) (by first | assumption | go_simp)
       have hU3 := uvW y2 m2 c2 _ num w2 H2.out.2.2.1 (by omega) (by have := H1.out.1; have := HU.out.1; have := H2.out.1; have := HU.out.2.1; omega)
       have B2 := on B1 H2.out.2.1)
    | (
       go_at_call 85; refine hU3.mono ?_; rintro e w3 ⟨y3, m3, c3, rfl, H3⟩; clear hU3
       have k0 := keep H3.out.2.1 (b := w.heap.size) (o := 0) (x := .int .i64 kind) (by first | assumption | go_simp)
       have k1 := keep H3.out.2.1 (b := w.heap.size) (o := 1) (x := .int .i64 num) (by first | assumption | go_simp)
       have k2 := keep H3.out.2.1 (b := w.heap.size) (o := 2) (x := .int .i64 p1) (by first | assumption | go_simp)
       have k3 := keep H3.out.2.1 (b := w.heap.size) (o := 3) (x := .int .i64 p2) (by first | assumption | go_simp)
       have k4 := keep H3.out.2.1 (b := w.heap.size) (o := 4) (x := .int .i64 a1) (by first | assumption | go_simp)
       have k5 := keep H3.out.2.1 (b := w.heap.size) (o := 5) (x := .int .i64 a2) (by first | assumption | go_simp)
       have k6 := keep H3.out.2.1 (b := w.heap.size) (o := 6) (x := .slice x dn c) (by first | assumption | go_simp)
       have HL : Hid (m3 ≤ 30) := by show m3 ≤ 30; have := H1.out.1; have := H2.out.1; have := H3.out.1; have := HU.out; omega
       have hP2 := hP y3 m3 c3 _ w3 H3.out.2.2.1 (by have := HL.out; omega)
       have B3 := on B2 H3.out.2.1
       clear hP)
    | (
       go_at_call 87; refine hP2.mono ?_; rintro e w4 ⟨y4, m4, c4, rfl, H4⟩; clear hP2
       have k0 := keep H4.out.2.1 (b := w.heap.size) (o := 0) (x := .int .i64 kind) (by first | assumption | go_simp)
       have k1 := keep H4.out.2.1 (b := w.heap.size) (o := 1) (x := .int .i64 num) (by first | assumption | go_simp)
       have k2 := keep H4.out.2.1 (b := w.heap.size) (o := 2) (x := .int .i64 p1) (by first | assumption | go_simp)
       have k3 := keep H4.out.2.1 (b := w.heap.size) (o := 3) (x := .int .i64 p2) (by first | assumption | go_simp)
       have k4 := keep H4.out.2.1 (b := w.heap.size) (o := 4) (x := .int .i64 a1) (by first | assumption | go_simp)
       have k5 := keep H4.out.2.1 (b := w.heap.size) (o := 5) (x := .int .i64 a2) (by first | assumption | go_simp)
       have k6 := keep H4.out.2.1 (b := w.heap.size) (o := 6) (x := .slice x dn c) (by first | assumption | go_simp)
       have hA2 := hA y4 m4 c4 _ w4 H4.out.2.2.1 (by have := HL.out; have := H4.out.1; omega)
       have B4 := on B3 H4.out.2.1
       clear hA)
    | (
       go_at_call 87; refine hA2.mono ?_; rintro e w5 ⟨y5, m5, c5, rfl, H5⟩; clear hA2
       have k0 := keep H5.out.2.1 (b := w.heap.size) (o := 0) (x := .int .i64 kind) (by first | assumption | go_simp)
       have k1 := keep H5.out.2.1 (b := w.heap.size) (o := 1) (x := .int .i64 num) (by first | assumption | go_simp)
       have k2 := keep H5.out.2.1 (b := w.heap.size) (o := 2) (x := .int .i64 p1) (by first | assumption | go_simp)
       have k3 := keep H5.out.2.1 (b := w.heap.size) (o := 3) (x := .int .i64 p2) (by first | assumption | go_simp)
       have k4 := keep H5.out.2.1 (b := w.heap.size) (o := 4) (x := .int .i64 a1) (by first | assumption | go_simp)
       have k5 := keep H5.out.2.1 (b := w.heap.size) (o := 5) (x := .int .i64 a2) (by first | assumption | go_simp)
       have k6 := keep H5.out.2.1 (b := w.heap.size) (o := 6) (x := .slice x dn c) (by first | assumption | go_simp)
       have B5 := on B4 H5.out.2.1
       have HL5 : Hid (m5 ≤ 70) := by show m5 ≤ 70; have := HL.out; have := H4.out.1; have := H5.out.1; omega
       have hY := byW y5 m5 c5 _ x dn c dd w5 H5.out.2.2.1 (HS.out.1.below B5) (by have := HL5.out; have := HS.out.2; omega))
    | (
       go_at_call 88; refine hY.mono ?_; rintro e w6 ⟨y6, m6, c6, rfl, H6⟩; clear hY
       have B6 := on B5 H6.out.2.1
       have HL6 : Hid (m6 ≤ 5080) := by show m6 ≤ 5080; have := HL5.out; have := H6.out.1; have := HS.out.2; have := HU.out; omega
       have hZ := sealed_any y6 m6 c6 _ w6 H6.out.2.2.1 (by have := HL6.out; omega))
    | (
       go_at_call 59; refine hZ.mono ?_; rintro e w7 ⟨y7, m7, c7, rfl, H7⟩; clear hZ))
  go_ret
  refine ⟨y7, m7, c7, rfl, ?_, ?_⟩
  · have := H7.out.1; have := HL6.out; omega
  · rw [HE.out]
    have := Vl.on B6 H7.out.2
    simpa using this

end Go.Proofs.Ytdbahebhodoooaa.Px

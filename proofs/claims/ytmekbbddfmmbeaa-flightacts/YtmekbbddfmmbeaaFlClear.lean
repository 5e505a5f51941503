/-
  slices.DeleteFunc at messages, as Clear calls it; Clear.
  Conditions: the row is one's own; the flight is one that New gave ('FlAt').
-/
import Derived.Test.YtmekbbddfmmbeaaFlFunc
namespace Go.Proofs.Ytmekbbddfmmbeaa.Fl
open Go.RowKit By
set_option linter.unusedVariables false
set_option linter.unusedSimpArgs false
set_option maxRecDepth 100000

def keepN (node : Int) (m : MV) : Bool := !(m.to == node)
def left (node : Int) (L : List MV) : List MV := L.filter (keepN node)

theorem left_all {node : Int} {L : List MV} (h : ∀ (j : Nat) (m : MV), L[j]? = some m → (m.to == node) = false) : left node L = L := by
  unfold left
  rw [List.filter_eq_self]
  intro m hm
  obtain ⟨j, hj⟩ := List.getElem?_of_mem hm
  unfold keepN
  rw [h j m hj]
  rfl

structure KInv (node : Int) (L K : List MV) (n i j : Nat) : Prop where
  len : K.length = n
  lt : i < j
  le : j ≤ n
  take : K.take i = left node (L.take j)
  drop : K.drop j = L.drop j

theorem KInv.start {node : Int} {L : List MV} {n k : Nat} (hL : L.length = n) (hk : k < n) (h1 : ∀ m : MV, L[k]? = some m → (m.to == node) = true) (h2 : ∀ (j : Nat) (m : MV), j < k → L[j]? = some m → (m.to == node) = false) : KInv node L L n k (k + 1) := by
  refine ⟨hL, by omega, by omega, ?_, rfl⟩
  have hk' : k < L.length := by omega
  have hg : L[k]? = some (L[k]'hk') := List.getElem?_eq_getElem hk'
  rw [List.take_add_one, hg]
  unfold left
  rw [List.filter_append]
  have e1 : (L.take k).filter (keepN node) = L.take k := left_all (fun j m hj => by
    rw [List.getElem?_take] at hj
    split at hj
    · exact h2 j m (by assumption) hj
    · cases hj)
  have e2 : keepN node (L[k]'hk') = false := by
    unfold keepN
    rw [h1 _ hg]
    rfl
  simp [e1, e2]

theorem KInv.step {node : Int} {L K : List MV} {n i j : Nat} (h : KInv node L K n i j) (hL : L.length = n) (hj : j < n) (m : MV) (hm : L[j]? = some m) :
    ((m.to == node) = true → KInv node L K n i (j + 1)) ∧ ((m.to == node) = false → KInv node L (K.set i m) n (i + 1) (j + 1)) := by
  have hd : K.drop (j + 1) = L.drop (j + 1) := by
    have := congrArg (List.drop 1) h.drop
    simpa [List.drop_drop] using this
  have ht : L.take (j + 1) = L.take j ++ [m] := by rw [List.take_add_one, hm]; rfl
  refine ⟨fun e => ⟨h.len, by have := h.lt; omega, by omega, ?_, hd⟩, fun e => ⟨by rw [List.length_set]; exact h.len, by have := h.lt; omega, by omega, ?_, ?_⟩⟩
  · rw [h.take, ht]
    unfold left
    rw [List.filter_append]
    simp [keepN, e]
  · have hi : i < (K.set i m).length := by rw [List.length_set, h.len]; have := h.lt; omega
    rw [List.take_add_one, List.getElem?_eq_getElem hi, List.getElem_set_self, ht]
    unfold left
    rw [List.filter_append, List.take_set_of_le (Nat.le_refl i), h.take]
    simp [left, keepN, e]
  · rw [List.drop_set_of_lt (by have := h.lt; omega)]
    exact hd

theorem KInv.at_ {node : Int} {L K : List MV} {n i j : Nat} (h : KInv node L K n i j) : K[j]? = L[j]? := by
  have := congrArg (fun l => l[0]?) h.drop
  simpa [List.getElem?_drop] using this

theorem encM_is (m : MV) : encM m = [.int .i64 m.fr, .int .i64 m.to, .slice m.x m.n m.c] := rfl

theorem first_hit (node : Int) : ∀ L : List MV, (∀ (j : Nat) (m : MV), L[j]? = some m → (m.to == node) = false) ∨ ∃ k, k < L.length ∧ (∀ m : MV, L[k]? = some m → (m.to == node) = true) ∧ ∀ (j : Nat) (m : MV), j < k → L[j]? = some m → (m.to == node) = false
  | [] => .inl fun j m h => by simp at h
  | a :: L => by
    cases ha : (a.to == node) with
    | true => exact .inr ⟨0, by simp, fun m hm => by simp at hm; rw [← hm]; exact ha, fun j m hj => by omega⟩
    | false =>
      rcases first_hit node L with h | ⟨k, h1, h2, h3⟩
      · refine .inl fun j m hm => ?_
        cases j with
        | zero => simp at hm; rw [← hm]; exact ha
        | succ j => exact h j m (by simpa using hm)
      · refine .inr ⟨k + 1, by simp; exact h1, fun m hm => h2 m (by simpa using hm), fun j m hj hm => ?_⟩
        cases j with
        | zero => simp at hm; rw [← hm]; exact ha
        | succ j => exact h3 j m (by omega) (by simpa using hm)

section
variable {w : World} {B : Nat} {L : List MV}

theorem Own.set {g n c i : Nat} (h : Own w B 62 3 encM (.slice (some ⟨g, 0, none⟩) n c) L) (m : MV) :
    Own (((w.setCell ⟨g, i * 3, none⟩ (.int .i64 m.fr)).setCell ⟨g, i * 3 + 1, none⟩ (.int .i64 m.to)).setCell ⟨g, i * 3 + 2, none⟩ (.slice m.x m.n m.c)) B 62 3 encM (.slice (some ⟨g, 0, none⟩) n c) (L.set i m) := by
  obtain ⟨hL, _⟩ := h.heap
  subst hL
  unfold Own
  rw [flat_set3 _ _ _ encM_is, List.length_set]
  exact own_setCell (own_setCell (own_setCell h _ _) _ _) _ _

theorem deletef_any {g n c bx : Nat} (node : Int) (h : Own w B 62 3 encM (.slice (some ⟨g, 0, none⟩) n c) L) (hb : w.cell? ⟨bx, 0, none⟩ = some (.int .i64 node)) (hne : bx ≠ g) :
    Calls Try.prog 29 #[.slice (some ⟨g, 0, none⟩) n c, .func (.func 30) #[] #[.pointer (some ⟨bx, 0, none⟩)]] w fun e w' => ∃ q : Nat, e = .returned (.slice (some ⟨g, 0, none⟩) q c) ∧
      Hid (q = (left node L).length ∧ Own w' B 62 3 encM (.slice (some ⟨g, 0, none⟩) q c) (left node L) ∧ Turns (fun k => k = g) w w') := by
  obtain ⟨hL, _, hnc, hcm, _⟩ := h.heap
  have hm : n ≤ 9223372036854775807 := by unfold maxLen at hcm; omega
  have hgl : g < w.heap.size := (World.ownsRow.lt h g rfl).2
  have hI0 := index_any node h hb
  rcases first_hit node L with hno | ⟨k, hk, h1, h2⟩
  · have hI : Calls Try.prog 31 #[.slice (some ⟨g, 0, none⟩) n c, .func (.func 30) #[] #[.pointer (some ⟨bx, 0, none⟩)]] w fun e w' => e = .returned (.int .i64 (-1)) ∧ Hid (Below w.heap.size w w') := hI0.mono fun e w' ⟨r, e1, HI⟩ => by
      rcases HI.out.2 with ⟨rfl, _⟩ | ⟨k, _, hk, h1, _⟩
      · exact ⟨e1, HI.out.1⟩
      · have hg : L[k]? = some (L[k]'(by omega)) := List.getElem?_eq_getElem (by omega)
        have q := h1 _ hg
        rw [hno k _ hg] at q
        cases q
    have HN : Hid (∀ w', Below w.heap.size w w' → n = (left node L).length ∧ Own w' B 62 3 encM (.slice (some ⟨g, 0, none⟩) n c) (left node L) ∧ Turns (fun k => k = g) w w') := fun w' hb' => by
      rw [left_all hno]
      exact ⟨hL.symm, h.below hb', Turns.of_below hb'⟩
    clear h hb hcm hne hI0 hno
    go_enter Try.func29, Try.ntmps29
    go_wp2_with (go_at_call 31; refine hI.mono ?_; rintro e w1 ⟨rfl, HI⟩; clear hI)
    go_ret
    exact ⟨n, rfl, HN.out _ HI.out⟩
  · have hI : Calls Try.prog 31 #[.slice (some ⟨g, 0, none⟩) n c, .func (.func 30) #[] #[.pointer (some ⟨bx, 0, none⟩)]] w fun e w' => e = .returned (.int .i64 (k : Int)) ∧ Hid (Below w.heap.size w w') := hI0.mono fun e w' ⟨r, e1, HI⟩ => by
      have hg : L[k]? = some (L[k]'(by omega)) := List.getElem?_eq_getElem (by omega)
      rcases HI.out.2 with ⟨rfl, h3⟩ | ⟨kk, rfl, hkk, h3, h4⟩
      · have q := h1 _ hg
        rw [h3 k _ hg] at q
        cases q
      · rcases Nat.lt_trichotomy k kk with q | q | q
        · have := h4 k _ q hg
          rw [h1 _ hg] at this
          cases this
        · subst q
          exact ⟨e1, HI.out.1⟩
        · have hg' : L[kk]? = some (L[kk]'(by omega)) := List.getElem?_eq_getElem (by omega)
          have := h2 kk _ q hg'
          rw [h3 _ hg'] at this
          cases this
    have HS : Hid (KInv node L L n k (k + 1)) := KInv.start hL (by omega) h1 h2
    have HO : Hid (Own w B 62 3 encM (.slice (some ⟨g, 0, none⟩) n c) L ∧ L.length = n) := ⟨h, hL⟩
    have HB : Hid (w.cell? ⟨bx, 0, none⟩ = some (.int .i64 node) ∧ bx ≠ g ∧ bx < w.heap.size) := ⟨hb, hne, cell_lt' hb⟩
    have hkn : (k : Int) < (n : Int) := by omega
    have hk1 : (k : Int) ≠ -1 := by omega
    have hkn' : k < n := by omega
    have hnm : (n : Int) ≤ 9223372036854775807 := by omega
    clear h hb hcm hne hI0 h1 h2 hk hL
    go_enter Try.func29, Try.ntmps29
    go_wp2_with (go_at_call 31; refine hI.mono ?_; rintro e w1 ⟨rfl, HI⟩; clear hI)
    go_loopw [5, 6, 7] (fun s5 s6 _ wr => ∃ i j K, s5 = .int .i64 (i : Nat) ∧ s6 = .int .i64 (j : Nat) ∧ i < j ∧ j ≤ n ∧ Hid (KInv node L K n i j ∧ Own wr B 62 3 encM (.slice (some ⟨g, 0, none⟩) n c) K ∧ Turns (fun k => k = g) w wr)) (fun _ s6 _ _ => n - (intOf s6).toNat)
    case atStart => exact ⟨k, k + 1, L, rfl, by go_num, by omega, by omega, HS.out, HO.out.1.below HI.out, Turns.of_below HI.out⟩
    case round =>
      obtain ⟨i, j, K, rfl, rfl, hij, hjn, HR⟩ := hrel
      clear HI HS
      by_cases hlt : j < n
      · have hjz : (j : Int) < (n : Int) := by omega
        have hiz : (i : Int) < (n : Int) := by omega
        obtain ⟨hK, ho, ht⟩ := HR.out
        have hLn := HO.out.2
        obtain ⟨m, hLm⟩ : ∃ m, L[j]? = some m := ⟨L[j]'(by omega), List.getElem?_eq_getElem (by omega)⟩
        have hKm : K[j]? = some m := hK.at_.trans hLm
        have hst := hK.step hLn hlt m hLm
        obtain ⟨old, hKi⟩ : ∃ old, K[i]? = some old := ⟨K[i]'(by have := hK.len; omega), List.getElem?_eq_getElem (by have := hK.len; omega)⟩
        have k0 := ho.cell mrow.len hKm (j := 0) (v := .int .i64 m.fr) rfl
        rw [Nat.add_zero] at k0
        have k1 := ho.cell mrow.len hKm (j := 1) (v := .int .i64 m.to) rfl
        have k2 := ho.cell mrow.len hKm (j := 2) (v := .slice m.x m.n m.c) rfl
        have hgr : g < wr.heap.size := (World.ownsRow.lt ho g rfl).2
        have b1 : Below wr.heap.size wr (wr.alloc (.cells #[.int .i64 m.fr, .int .i64 m.to, .slice m.x m.n m.c] 62)) := (Below.refl _ _).alloc (Nat.le_refl _) _
        have hbr : wr.cell? ⟨bx, 0, none⟩ = some (.int .i64 node) := (World.cell?_of_block (a := ⟨bx, 0, none⟩) (ht.block bx HB.out.2.2 HB.out.2.1)).trans HB.out.1
        have hc : Calls Try.prog 30 #[.agg #[.int .i64 m.fr, .int .i64 m.to, .slice m.x m.n m.c], .pointer (some ⟨bx, 0, none⟩)] (wr.alloc (.cells #[.int .i64 m.fr, .int .i64 m.to, .slice m.x m.n m.c] 62)) fun e w2 => e = .returned (.bool (m.to == node)) ∧
            (w2.cell? ⟨wr.heap.size, 0, none⟩ = some (.int .i64 m.fr) ∧ w2.cell? ⟨wr.heap.size, 1, none⟩ = some (.int .i64 m.to) ∧ w2.cell? ⟨wr.heap.size, 2, none⟩ = some (.slice m.x m.n m.c)) ∧
            (w2.cell? ⟨g, i * 3, none⟩ = some (.int .i64 old.fr) ∧ w2.cell? ⟨g, i * 3 + 1, none⟩ = some (.int .i64 old.to) ∧ w2.cell? ⟨g, i * 3 + 2, none⟩ = some (.slice old.x old.n old.c) ∧ (∀ q, w2.frozen? ⟨g, q, none⟩ = false)) ∧
            Hid (Own w2 B 62 3 encM (.slice (some ⟨g, 0, none⟩) n c) K ∧ Turns (fun k => k = g) w w2) := by
          refine (clos_any _ bx m.fr m.to node m.x m.n m.c ((b1.cell (p := ⟨bx, 0, none⟩) (cell_lt' hbr)).trans hbr)).mono fun e w2 ⟨e1, hb2⟩ => ?_
          have hb3 : Below wr.heap.size wr w2 := b1.trans (hb2.mono b1.size)
          have ho2 := ho.below hb3
          have q0 := ho2.cell mrow.len hKi (j := 0) (v := .int .i64 old.fr) rfl
          rw [Nat.add_zero] at q0
          refine ⟨e1, ⟨(hb2.cell (p := ⟨wr.heap.size, 0, none⟩) (by simp)).trans (by simp), (hb2.cell (p := ⟨wr.heap.size, 1, none⟩) (by simp)).trans (by simp), (hb2.cell (p := ⟨wr.heap.size, 2, none⟩) (by simp)).trans (by simp)⟩,
            ⟨q0, ho2.cell mrow.len hKi (j := 1) rfl, ho2.cell mrow.len hKi (j := 2) rfl, fun q => ho2.frozen⟩, ho2, ht.trans (Turns.of_below hb3)⟩
        have HST : Hid (((m.to == node) = true → KInv node L K n i (j + 1)) ∧ ((m.to == node) = false → KInv node L (K.set i m) n (i + 1) (j + 1))) := hst
        clear hK ho ht hLn hLm hKm hst hKi hbr b1 HR HO HB
        generalize old.fr = of at hc
        generalize old.to = ot at hc
        generalize old.x = ox at hc
        generalize old.n = on at hc
        generalize old.c = oc at hc
        cases htn : (m.to == node) with
        | true =>
          rw [htn] at hc HST
          have HF : Hid (KInv node L K n i (j + 1)) := HST.out.1 rfl
          clear htn HST
          generalize m.fr = f at k0 hc
          generalize m.to = t at k1 hc
          generalize m.x = x at k2 hc
          generalize m.n = mn at k2 hc
          generalize m.c = mc at k2 hc
          go_wp2_with (go_at_call 30; refine hc.mono ?_; rintro e w2 ⟨rfl, ⟨q0, q1, q2⟩, ⟨p0, p1, p2, fz⟩, HN⟩; clear hc)
          refine ⟨⟨_, _, _, _, _, _, _, _, _, _, _, _, _, _, _, _, _, _, _, _, _, _, _, ?rel, rfl⟩, ?measure⟩
          case rel => exact ⟨i, j + 1, K, rfl, by go_num, by omega, by omega, HF.out, HN.out⟩
          case measure => simp [intOf]; omega
        | false =>
          rw [htn] at hc HST
          have HF : Hid (KInv node L (K.set i m) n (i + 1) (j + 1)) := HST.out.2 rfl
          have HG : Hid (∀ w2, Own w2 B 62 3 encM (.slice (some ⟨g, 0, none⟩) n c) K ∧ Turns (fun k => k = g) w w2 → Own (((w2.setCell ⟨g, i * 3, none⟩ (.int .i64 m.fr)).setCell ⟨g, i * 3 + 1, none⟩ (.int .i64 m.to)).setCell ⟨g, i * 3 + 2, none⟩ (.slice m.x m.n m.c)) B 62 3 encM (.slice (some ⟨g, 0, none⟩) n c) (K.set i m) ∧
            Turns (fun k => k = g) w (((w2.setCell ⟨g, i * 3, none⟩ (.int .i64 m.fr)).setCell ⟨g, i * 3 + 1, none⟩ (.int .i64 m.to)).setCell ⟨g, i * 3 + 2, none⟩ (.slice m.x m.n m.c))) := fun w2 ⟨h1, h2⟩ =>
            ⟨h1.set m, ((h2.setCell (p := ⟨g, i * 3, none⟩) (.inl rfl) _).setCell (p := ⟨g, i * 3 + 1, none⟩) (.inl rfl) _).setCell (p := ⟨g, i * 3 + 2, none⟩) (.inl rfl) _⟩
          clear htn HST
          generalize K.set i m = K2 at HF HG
          generalize m.fr = f at k0 hc HG
          generalize m.to = t at k1 hc HG
          generalize m.x = x at k2 hc HG
          generalize m.n = mn at k2 hc HG
          generalize m.c = mc at k2 hc HG
          go_wp2_with (go_at_call 30; refine hc.mono ?_; rintro e w2 ⟨rfl, ⟨q0, q1, q2⟩, ⟨p0, p1, p2, fz⟩, HN⟩; clear hc)
          refine ⟨⟨_, _, _, _, _, _, _, _, _, _, _, _, _, _, _, _, _, _, _, _, _, _, _, ?rel, rfl⟩, ?measure⟩
          case rel => exact ⟨i + 1, j + 1, K2, by go_num, by go_num, by omega, by omega, HF.out, HG.out w2 HN.out⟩
          case measure => simp [intOf]; omega
      · have hj2 : j = n := by omega
        subst hj2
        obtain ⟨hK, ho, ht⟩ := HR.out
        obtain ⟨w2, hcl0, H2⟩ := ho.clear mrow (k := i) (by omega) (i * 3) (c - i) (fun _ => rfl) (.agg #[.int .i64 0, .int .i64 0, .slice none 0 0]) (by kernel_rfl) rfl (by intro u hu; simp [Value.cells] at hu; rcases hu with rfl | rfl | rfl <;> rfl) 0
        have hcl : ∀ ty, (Builtin.clear_ #[46] ty #[.slice (some ⟨g, i * 3, none⟩) (j - i) (c - i)]).run Try.prog wr = .ok (.tuple #[]) w2 := fun ty => hcl0
        have HN : Hid (i = (left node L).length ∧ Own w2 B 62 3 encM (.slice (some ⟨g, 0, none⟩) i c) (left node L) ∧ Turns (fun k => k = g) w w2) := by
          have e1 : K.take i = left node L := by rw [hK.take, List.take_of_length_le (by have := HO.out.2; omega)]
          have h2 := H2.out.1
          rw [e1] at h2
          refine ⟨?_, h2, ht.trans H2.out.2⟩
          rw [← e1, List.length_take, hK.len]
          omega
        have hic : i ≤ c := by omega
        have hnci : ¬ c = i := by omega
        have hij2 : i ≤ j := by omega
        clear hK ho ht H2 hcl0 HR HO HB
        go_wp2_with fail
        go_ret
        exact ⟨i, rfl, HN.out⟩

end

end Go.Proofs.Ytmekbbddfmmbeaa.Fl

/-
  2 texts of this proof, one behind the other: ShDelF, ShComP.
-/
import Derived.Test.YtnfflmndejbepaaShCopy
import Derived.Test.YtnfflmndejbepaaShDel
import Derived.Test.YtnfflmndejbepaaJShStgP
/-
  slices.IndexFunc and slices.DeleteFunc at Undos, with what Commit asks of each.
  Conditions: the row is one's own.
-/
namespace Go.Proofs.Ytnfflmndejbepaa.Sh
set_option linter.unusedSectionVars false
variable [Inhabited DZ]
open Go.RowKit By Fl
set_option linter.unusedVariables false
set_option linter.unusedSimpArgs false
set_option maxRecDepth 100000

def hitU (head : Int) (m : UV) : Bool := decide (m.seq ≤ head)
def BoxI (w : World) (bx : Nat) (z : Int) : Prop := w.cell? ⟨bx, 0, none⟩ = some (.int .i64 z)

theorem clos_any (w : World) (bx : Nat) (m : UV) (d : Int) (hb : BoxI w bx d) :
    Calls Try.prog 63 #[vU m, .pointer (some ⟨bx, 0, none⟩)] w fun e w' => e = .returned (.bool (hitU d m)) ∧ Below w.heap.size w w' := by
  have k0 := keep (al w (.cells #[.int .i64 m.seq, .string m.nm, .bool m.has, .int .i64 m.was.sz, .slice m.was.x m.was.n m.was.c, .int .u32 m.was.sum] 89)) hb
  unfold vU hitU
  by_cases h1 : m.seq ≤ d
  · go_enter Try.func63, Try.ntmps63
    go_wp2_with fail
    go_ret
    exact ⟨by simp [h1], al _ _⟩
  · go_enter Try.func63, Try.ntmps63
    go_wp2_with fail
    go_ret
    exact ⟨by simp [h1], al _ _⟩

section
variable {w : World} {B : Nat} {L : List UV}

theorem indexU_any {n c bx : Nat} {x : Option Addr} (node : Int) (h : Own w B 89 6 enU (.slice x n c) L) (hb : BoxI w bx node) (hn : L.length = n) (hsm : n ≤ 100000000) :
    Calls Try.prog 82 #[.slice x n c, .func (.func 63) #[] #[.pointer (some ⟨bx, 0, none⟩)]] w fun e w' => ∃ r : Int, e = .returned (.int .i64 r) ∧
      Hid (Below w.heap.size w w' ∧ ((r = -1 ∧ ∀ (j : Nat) (m : UV), L[j]? = some m → hitU node m = false) ∨ ∃ k, r = (k : Nat) ∧ k < n ∧ (∀ m : UV, L[k]? = some m → hitU node m = true) ∧ ∀ (j : Nat) (m : UV), j < k → L[j]? = some m → hitU node m = false)) := by
  have HO := hid h
  have HB : Hid (BoxI w bx node) := hb
  have HLn := hid hn
  clear h hb hn
  go_enter Try.func82, Try.ntmps82
  go_wp2_with fail
  go_loopw [8, 5] (fun i _ wr => ∃ k : Nat, k ≤ n ∧ i = .int .i64 k ∧ Hid (Below w.heap.size w wr ∧ ∀ (j : Nat) (m : UV), j < k → L[j]? = some m → hitU node m = false)) (fun i _ _ => n - (intOf i).toNat)
  case atStart => exact ⟨0, by omega, rfl, Below.refl _ _, fun j m hj => by omega⟩
  case round =>
    obtain ⟨k, hk, rfl, HR⟩ := hrel
    by_cases hlt : k < n
    · have hkn : (k : Int) < (n : Int) := by omega
      obtain ⟨m, hLm⟩ : ∃ m, L[k]? = some m := ⟨_, List.getElem?_eq_getElem (by have := HLn.out; omega)⟩
      obtain ⟨g, c', hR, _, _, _, _⟩ := HO.out.there (fun e => by rw [e] at hLm; simp at hLm)
      injection hR with e1 e2 e3
      subst e1
      have ho := HO.out.below HR.out.1
      have k0 := ho.cell urow.len hLm (j := 0) (v := .int .i64 m.seq) rfl
      have k1 := ho.cell urow.len hLm (j := 1) (v := .string m.nm) rfl
      have k2 := ho.cell urow.len hLm (j := 2) (v := .bool m.has) rfl
      have k3 := ho.cell urow.len hLm (j := 3) (v := .int .i64 m.was.sz) rfl
      have k4 := ho.cell urow.len hLm (j := 4) (v := .slice m.was.x m.was.n m.was.c) rfl
      have k5 := ho.cell urow.len hLm (j := 5) (v := .int .u32 m.was.sum) rfl
      rw [Nat.add_zero] at k0
      have hc := clos_any wr bx m node (keep HR.out.1 HB.out)
      have HM : Hid (L[k]? = some m) := hLm
      clear hLm ho e2 e3
      unfold vU at hc
      cases ht : hitU node m with
      | true =>
        rw [ht] at hc
        have HT2 : Hid (∀ m' : UV, L[k]? = some m' → hitU node m' = true) := hid fun m' e => by
          have := HM.out.symm.trans e
          injection this with this
          rw [← this]
          exact ht
        clear ht HM
        go_wp2_with (go_at_call 63; refine hc.mono ?_; rintro e w2 ⟨rfl, hb2⟩; clear hc)
        go_ret
        exact ⟨k, rfl, on HR.out.1 hb2, .inr ⟨k, rfl, hlt, HT2.out, HR.out.2⟩⟩
      | false =>
        rw [ht] at hc
        have HT2 : Hid (∀ m' : UV, L[k]? = some m' → hitU node m' = false) := hid fun m' e => by
          have := HM.out.symm.trans e
          injection this with this
          rw [← this]
          exact ht
        clear ht HM
        go_wp2_with (go_at_call 63; refine hc.mono ?_; rintro e w2 ⟨rfl, hb2⟩; clear hc)
        go_roundw
        case rel =>
          refine ⟨k + 1, by omega, by go_num, on HR.out.1 hb2, fun j m' hj e => ?_⟩
          by_cases hjk : j = k
          · subst hjk
            exact HT2.out m' e
          · exact HR.out.2 j m' (by omega) e
        case measure => simp [intOf]; try omega
    · have hk2 : k = n := by omega
      subst hk2
      go_wp2_with fail
      go_ret
      refine ⟨-1, rfl, HR.out.1, .inl ⟨rfl, fun j m e => HR.out.2 j m ?_ e⟩⟩
      have := (List.getElem?_eq_some_iff.1 e).1
      have := HLn.out
      omega
end

def keepU (node : Int) (m : UV) : Bool := !hitU node m
def left (node : Int) (L : List UV) : List UV := L.filter (keepU node)

theorem left_all {node : Int} {L : List UV} (h : ∀ (j : Nat) (m : UV), L[j]? = some m → (hitU node m) = false) : left node L = L := by
  unfold left
  rw [List.filter_eq_self]
  intro m hm
  obtain ⟨j, hj⟩ := List.getElem?_of_mem hm
  unfold keepU
  rw [h j m hj]
  rfl

structure KInv (node : Int) (L K : List UV) (n i j : Nat) : Prop where
  len : K.length = n
  lt : i < j
  le : j ≤ n
  take : K.take i = left node (L.take j)
  drop : K.drop j = L.drop j

theorem KInv.start {node : Int} {L : List UV} {n k : Nat} (hL : L.length = n) (hk : k < n) (h1 : ∀ m : UV, L[k]? = some m → (hitU node m) = true) (h2 : ∀ (j : Nat) (m : UV), j < k → L[j]? = some m → (hitU node m) = false) : KInv node L L n k (k + 1) := by
  refine ⟨hL, by omega, by omega, ?_, rfl⟩
  have hk' : k < L.length := by omega
  have hg : L[k]? = some (L[k]'hk') := List.getElem?_eq_getElem hk'
  rw [List.take_add_one, hg]
  unfold left
  rw [List.filter_append]
  have e1 : (L.take k).filter (keepU node) = L.take k := left_all (fun j m hj => by
    rw [List.getElem?_take] at hj
    split at hj
    · exact h2 j m (by assumption) hj
    · cases hj)
  have e2 : keepU node (L[k]'hk') = false := by
    unfold keepU
    rw [h1 _ hg]
    rfl
  simp [e1, e2]

theorem KInv.step {node : Int} {L K : List UV} {n i j : Nat} (h : KInv node L K n i j) (hL : L.length = n) (hj : j < n) (m : UV) (hm : L[j]? = some m) :
    ((hitU node m) = true → KInv node L K n i (j + 1)) ∧ ((hitU node m) = false → KInv node L (K.set i m) n (i + 1) (j + 1)) := by
  have hd : K.drop (j + 1) = L.drop (j + 1) := by
    have := congrArg (List.drop 1) h.drop
    simpa [List.drop_drop] using this
  have ht : L.take (j + 1) = L.take j ++ [m] := by rw [List.take_add_one, hm]; rfl
  refine ⟨fun e => ⟨h.len, by have := h.lt; omega, by omega, ?_, hd⟩, fun e => ⟨by rw [List.length_set]; exact h.len, by have := h.lt; omega, by omega, ?_, ?_⟩⟩
  · rw [h.take, ht]
    unfold left
    rw [List.filter_append]
    simp [keepU, e]
  · have hi : i < (K.set i m).length := by rw [List.length_set, h.len]; have := h.lt; omega
    rw [List.take_add_one, List.getElem?_eq_getElem hi, List.getElem_set_self, ht]
    unfold left
    rw [List.filter_append, List.take_set_of_le (Nat.le_refl i), h.take]
    simp [left, keepU, e]
  · rw [List.drop_set_of_lt (by have := h.lt; omega)]
    exact hd

theorem KInv.at_ {node : Int} {L K : List UV} {n i j : Nat} (h : KInv node L K n i j) : K[j]? = L[j]? := by
  have := congrArg (fun l => l[0]?) h.drop
  simpa [List.getElem?_drop] using this

theorem first_hit (node : Int) : ∀ L : List UV, (∀ (j : Nat) (m : UV), L[j]? = some m → (hitU node m) = false) ∨ ∃ k, k < L.length ∧ (∀ m : UV, L[k]? = some m → (hitU node m) = true) ∧ ∀ (j : Nat) (m : UV), j < k → L[j]? = some m → (hitU node m) = false
  | [] => .inl fun j m h => by simp at h
  | a :: L => by
    cases ha : (hitU node a) with
    | true => exact .inr ⟨0, by simp, fun m hm => by simp at hm; rw [← hm]; exact ha, fun j m hj => by omega⟩
    | false =>
      rcases first_hit node L with h | ⟨k, h1, h2, h3⟩
      · refine .inl fun j m hm => ?_
        cases j with
        | zero => simp at hm; rw [← hm]; exact ha
        | succ j => exact h j m (by simpa using hm)
      · refine .inr ⟨k + 1, by simp; exact h1, fun m hm => h2 m (by simpa using hm), fun j m hj hm => ?_⟩
        cases j with
        | zero => simp at hm; rw [← hm]; exact ha
        | succ j => exact h3 j m (by omega) (by simpa using hm)

section
variable {w : World} {B : Nat} {L : List UV}

def put6u (w : World) (g i : Nat) (m : UV) : World := ((((((w.setCell ⟨g, i * 6, none⟩ (.int .i64 m.seq)).setCell ⟨g, i * 6 + 1, none⟩ (.string m.nm)).setCell ⟨g, i * 6 + 2, none⟩ (.bool m.has)).setCell ⟨g, i * 6 + 3, none⟩ (.int .i64 m.was.sz)).setCell ⟨g, i * 6 + 4, none⟩ (.slice m.was.x m.was.n m.was.c)).setCell ⟨g, i * 6 + 5, none⟩ (.int .u32 m.was.sum))
theorem turns_put6u (w : World) (g i : Nat) (m : UV) : Turns (fun k => k = g) w (put6u w g i m) := turns_put (turns_put (turns_put (turns_put (turns_put (turns_put (Turns.refl _ w) _ _) _ _) _ _) _ _) _ _) _ _

theorem ownU_set {g n c i : Nat} (h : Own w B 89 6 enU (.slice (some ⟨g, 0, none⟩) n c) L) (m : UV) : Own (put6u w g i m) B 89 6 enU (.slice (some ⟨g, 0, none⟩) n c) (L.set i m) := by
  have hL := h.heap.1
  unfold Own at h ⊢
  rw [List.length_set, flat_setU]
  rw [hL] at h ⊢
  exact own_setCell (own_setCell (own_setCell (own_setCell (own_setCell (own_setCell h _ _) _ _) _ _) _ _) _ _) _ _

set_option maxHeartbeats 1600000 in
theorem deletefU_any {n c bx : Nat} {x : Option Addr} {t : TypeId} {A : Array Value} (node : Int) (h : Own w B 89 6 enU (.slice x n c) L) (hb : w.heap[bx]? = some (.cells A t (0, 0))) (hA : A[0]? = some (.int .i64 node)) (ht : 89 ≠ t) (hL : L.length = n) (hsm : n ≤ 100000000) :
    Calls Try.prog 62 #[.slice x n c, .func (.func 63) #[] #[.pointer (some ⟨bx, 0, none⟩)]] w fun e w' => ∃ q : Nat, e = .returned (.slice x q c) ∧
      Hid (q = (left node L).length ∧ Own w' B 89 6 enU (.slice x q c) (left node L) ∧ Turns (fun k => (Value.slice x n c).ownBlock = some k) w w') := by
  have hbc := cell_heap hb hA
  have hI0 := indexU_any node h hbc hL hsm
  rcases first_hit node L with hno | ⟨k, hk, h1, h2⟩
  · have hI : Calls Try.prog 82 #[.slice x n c, .func (.func 63) #[] #[.pointer (some ⟨bx, 0, none⟩)]] w fun e w' => e = .returned (.int .i64 (-1)) ∧ Hid (Below w.heap.size w w') := hI0.mono fun e w' ⟨r, e1, HI⟩ => by
      subst e1
      rcases HI.out.2 with ⟨rfl, _⟩ | ⟨k, _, hk, h1, _⟩
      · exact ⟨rfl, HI.out.1⟩
      · have hg : L[k]? = some (L[k]'(by omega)) := List.getElem?_eq_getElem (by omega)
        have q := h1 _ hg
        rw [hno k _ hg] at q
        cases q
    have HN : Hid (∀ w', Below w.heap.size w w' → n = (left node L).length ∧ Own w' B 89 6 enU (.slice x n c) (left node L) ∧ Turns (fun k => (Value.slice x n c).ownBlock = some k) w w') := hid fun w' hb' => by
      rw [left_all hno]
      exact ⟨hL.symm, h.below hb', Turns.of_below hb'⟩
    clear h hb hbc hI0 hno
    go_enter Try.func62, Try.ntmps62
    go_wp2_with (go_at_call 82; refine hI.mono ?_; rintro e w1 ⟨rfl, HI⟩; clear hI)
    go_ret
    exact ⟨n, rfl, HN.out _ HI.out⟩
  · obtain ⟨g, c', hR, hnc, hcm, _, hgl⟩ := h.there (fun e => by rw [e] at hk; simp at hk)
    injection hR with e1 e2 e3
    subst e1
    rw [← e3] at hnc
    rw [hL] at hnc hk
    have hne : bx ≠ g := box_ne h hb ht rfl
    have hI : Calls Try.prog 82 #[.slice (some ⟨g, 0, none⟩) n c, .func (.func 63) #[] #[.pointer (some ⟨bx, 0, none⟩)]] w fun e w' => e = .returned (.int .i64 (k : Int)) ∧ Hid (Below w.heap.size w w') := hI0.mono fun e w' ⟨r, e1, HI⟩ => by
      subst e1
      have hg : L[k]? = some (L[k]'(by omega)) := List.getElem?_eq_getElem (by omega)
      rcases HI.out.2 with ⟨rfl, h3⟩ | ⟨kk, rfl, hkk, h3, h4⟩
      · have q := h1 _ hg
        rw [h3 k _ hg] at q
        cases q
      · rcases Nat.lt_trichotomy k kk with q | q | q
        · have := h4 k _ q hg
          rw [h1 _ hg] at this
          cases this
        · subst q
          exact ⟨rfl, HI.out.1⟩
        · have hg' : L[kk]? = some (L[kk]'(by omega)) := List.getElem?_eq_getElem (by omega)
          have := h2 kk _ q hg'
          rw [h3 _ hg'] at this
          cases this
    have HS : Hid (KInv node L L n k (k + 1)) := KInv.start hL hk h1 h2
    have HO : Hid (Own w B 89 6 enU (.slice (some ⟨g, 0, none⟩) n c) L ∧ L.length = n) := hid ⟨h, hL⟩
    have HB : Hid (BoxI w bx node ∧ bx ≠ g ∧ bx < w.heap.size) := hid ⟨hbc, hne, lt_heap hb⟩
    have hkn : (k : Int) < (n : Int) := by omega
    have hk1 : ((k : Int) == -1) = false := by simp
    have hkn' : k < n := by omega
    clear h hb hbc hcm hne hI0 h1 h2 hk hL e2 e3
    go_enter Try.func62, Try.ntmps62
    go_wp2_with (go_at_call 82; refine hI.mono ?_; rintro e w1 ⟨rfl, HI⟩; clear hI)
    go_loopw [5, 6, 7] (fun s5 s6 _ wr => ∃ i j K, s5 = .int .i64 (i : Nat) ∧ s6 = .int .i64 (j : Nat) ∧ i < j ∧ j ≤ n ∧ Hid (KInv node L K n i j ∧ Own wr B 89 6 enU (.slice (some ⟨g, 0, none⟩) n c) K ∧ Turns (fun k => k = g) w wr)) (fun _ s6 _ _ => n - (intOf s6).toNat)
    case atStart => exact ⟨k, k + 1, L, rfl, by go_num, by omega, by omega, HS.out, HO.out.1.below HI.out, Turns.of_below HI.out⟩
    case round =>
      obtain ⟨i, j, K, rfl, rfl, hij, hjn, HR⟩ := hrel
      clear HI HS
      by_cases hlt : j < n
      · have hjz : (j : Int) < (n : Int) := by omega
        have hiz : (i : Int) < (n : Int) := by omega
        have hin : i < n := by omega
        obtain ⟨hK, ho, htt⟩ := HR.out
        have hLn := HO.out.2
        obtain ⟨m, hLm⟩ : ∃ m, L[j]? = some m := ⟨L[j]'(by omega), List.getElem?_eq_getElem (by omega)⟩
        have hKm : K[j]? = some m := hK.at_.trans hLm
        have hst := hK.step hLn hlt m hLm
        obtain ⟨old, hKi⟩ : ∃ old, K[i]? = some old := ⟨K[i]'(by have := hK.len; omega), List.getElem?_eq_getElem (by have := hK.len; omega)⟩
        have k0 := ho.cell urow.len hKm (j := 0) (v := .int .i64 m.seq) rfl
        have k1 := ho.cell urow.len hKm (j := 1) (v := .string m.nm) rfl
        have k2 := ho.cell urow.len hKm (j := 2) (v := .bool m.has) rfl
        have k3 := ho.cell urow.len hKm (j := 3) (v := .int .i64 m.was.sz) rfl
        have k4 := ho.cell urow.len hKm (j := 4) (v := .slice m.was.x m.was.n m.was.c) rfl
        have k5 := ho.cell urow.len hKm (j := 5) (v := .int .u32 m.was.sum) rfl
        rw [Nat.add_zero] at k0
        have b1 := al wr (.cells #[.int .i64 m.seq, .string m.nm, .bool m.has, .int .i64 m.was.sz, .slice m.was.x m.was.n m.was.c, .int .u32 m.was.sum] 89)
        have l1 := heap_alloc_new wr (.cells #[.int .i64 m.seq, .string m.nm, .bool m.has, .int .i64 m.was.sz, .slice m.was.x m.was.n m.was.c, .int .u32 m.was.sum] 89)
        have hbr : BoxI wr bx node := (World.cell?_of_block (a := ⟨bx, 0, none⟩) (htt.block bx HB.out.2.2 HB.out.2.1)).trans HB.out.1
        have hc := clos_any (wr.alloc (.cells #[.int .i64 m.seq, .string m.nm, .bool m.has, .int .i64 m.was.sz, .slice m.was.x m.was.n m.was.c, .int .u32 m.was.sum] 89)) bx m node (keep b1 hbr)
        have HN0 := hid (And.intro ho htt)
        have HB1 := hid (And.intro b1 l1)
        have HKi := hid hKi
        have HST := hid hst
        unfold vU at hc
        clear hK ho htt hLn hLm hKm hst hKi hbr b1 l1 HR
        cases htn : hitU node m with
        | true =>
          rw [htn] at hc HST
          have HF : Hid (KInv node L K n i (j + 1)) := HST.out.1 rfl
          clear htn HST
          go_wp2_with (go_at_call 63; refine hc.mono ?_; rintro e w2 ⟨rfl, hb2⟩; clear hc)
          go_roundw
          case rel => exact ⟨i, j + 1, K, rfl, by go_num, by omega, by omega, HF.out, (HN0.out.1.below HB1.out.1).below hb2, HN0.out.2.trans (Turns.of_below (on HB1.out.1 hb2))⟩
          case measure => simp [intOf]; try omega
        | false =>
          rw [htn] at hc HST
          have HF : Hid (KInv node L (K.set i m) n (i + 1) (j + 1)) := HST.out.2 rfl
          clear htn HST
          go_upto_region 9 with (go_at_call 63; refine hc.mono ?_; rintro e w2 ⟨rfl, hb2⟩; clear hc; have HB2 := hid (on HB1.out.1 hb2); have l2 := (hb2.block _ (lt_heap HB1.out.2)).trans HB1.out.2; clear hb2)
          have o2 := HN0.out.1.below HB2.out
          have q0 : w2.cell? ⟨wr.heap.size, 0, none⟩ = some (.int .i64 m.seq) := cell_heap l2 rfl
          have q1 : w2.cell? ⟨wr.heap.size, 1, none⟩ = some (.string m.nm) := cell_heap l2 rfl
          have q2 : w2.cell? ⟨wr.heap.size, 2, none⟩ = some (.bool m.has) := cell_heap l2 rfl
          have q3 : w2.cell? ⟨wr.heap.size, 3, none⟩ = some (.int .i64 m.was.sz) := cell_heap l2 rfl
          have q4 : w2.cell? ⟨wr.heap.size, 4, none⟩ = some (.slice m.was.x m.was.n m.was.c) := cell_heap l2 rfl
          have q5 : w2.cell? ⟨wr.heap.size, 5, none⟩ = some (.int .u32 m.was.sum) := cell_heap l2 rfl
          have p0 := o2.cell urow.len HKi.out (j := 0) (v := .int .i64 old.seq) rfl
          have p1 := o2.cell urow.len HKi.out (j := 1) (v := .string old.nm) rfl
          have p2 := o2.cell urow.len HKi.out (j := 2) (v := .bool old.has) rfl
          have p3 := o2.cell urow.len HKi.out (j := 3) (v := .int .i64 old.was.sz) rfl
          have p4 := o2.cell urow.len HKi.out (j := 4) (v := .slice old.was.x old.was.n old.was.c) rfl
          have p5 := o2.cell urow.len HKi.out (j := 5) (v := .int .u32 old.was.sum) rfl
          rw [Nat.add_zero] at p0
          have f0 := o2.frozen (k := i * 6)
          have f1 := o2.frozen (k := i * 6 + 1)
          have f2 := o2.frozen (k := i * 6 + 2)
          have f3 := o2.frozen (k := i * 6 + 3)
          have f4 := o2.frozen (k := i * 6 + 4)
          have f5 := o2.frozen (k := i * 6 + 5)
          have HO2 := hid o2
          clear l2 o2 k0 k1 k2 k3 k4 k5
          go_upto_region 10 with (fail)
          have e6 : ((((((w2.setCell ⟨g, i * 6, none⟩ (.int .i64 m.seq)).setCell ⟨g, i * 6 + 1, none⟩ (.string m.nm)).setCell ⟨g, i * 6 + 2, none⟩ (.bool m.has)).setCell ⟨g, i * 6 + 3, none⟩ (.int .i64 m.was.sz)).setCell ⟨g, i * 6 + 4, none⟩ (.slice m.was.x m.was.n m.was.c)).setCell ⟨g, i * 6 + 5, none⟩ (.int .u32 m.was.sum)) = put6u w2 g i m := rfl
          rw [e6]
          have o3 := ownU_set (i := i) HO2.out m
          have t3 := HN0.out.2.trans ((Turns.of_below HB2.out).trans (turns_put6u w2 g i m))
          generalize put6u w2 g i m = w3 at *
          have HO3 := hid (And.intro o3 t3)
          clear e6 o3 t3 q0 q1 q2 q3 q4 q5 p0 p1 p2 p3 p4 p5 f0 f1 f2 f3 f4 f5
          go_wp2_with fail
          go_roundw
          case rel => exact ⟨i + 1, j + 1, K.set i m, by go_num, by go_num, by omega, by omega, HF.out, HO3.out⟩
          case measure => simp [intOf]; try omega
      · have hj2 : j = n := by omega
        subst hj2
        obtain ⟨hK, ho, htt⟩ := HR.out
        obtain ⟨w2, hcl0, H2⟩ := ho.clear urow (k := i) (by omega) (i * 6) (c - i) (fun _ => rfl) (.agg #[.int .i64 0, .string ⟨#[]⟩, .bool false, .int .i64 0, .slice none 0 0, .int .u32 0]) (by kernel_rfl) rfl (by intro u hu; simp [Value.cells] at hu; rcases hu with rfl | rfl | rfl | rfl | rfl | rfl <;> rfl) 0
        have hcl : ∀ ty, (Builtin.clear_ #[24] ty #[.slice (some ⟨g, i * 6, none⟩) (j - i) (c - i)]).run Try.prog wr = .ok (.tuple #[]) w2 := fun ty => hcl0
        have HN : Hid (i = (left node L).length ∧ Own w2 B 89 6 enU (.slice (some ⟨g, 0, none⟩) i c) (left node L) ∧ Turns (fun k => (Value.slice (some ⟨g, 0, none⟩) j c).ownBlock = some k) w w2) := hid (by
          have e1 : K.take i = left node L := by rw [hK.take, List.take_of_length_le (by have := HO.out.2; omega)]
          have h2 := H2.out.1
          rw [e1] at h2
          refine ⟨?_, h2, (htt.trans H2.out.2).weak fun q hq => by rw [hq]; rfl⟩
          rw [← e1, List.length_take, hK.len]
          omega)
        have hic : i ≤ c := by omega
        have hnci : ¬ c = i := by omega
        have hij2 : i ≤ j := by omega
        clear hK ho htt H2 hcl0 HR HO HB
        go_wp2_with fail
        go_ret
        exact ⟨i, rfl, HN.out⟩
end

end Go.Proofs.Ytnfflmndejbepaa.Sh

/-
  Commit, plainly; a shard that has fewer Undos.
  Conditions: none.
-/
namespace Go.Proofs.Ytnfflmndejbepaa.Sh
set_option linter.unusedSectionVars false
variable [Inhabited DZ]
open Go.RowKit By Fl
set_option linter.unusedVariables false
set_option linter.unusedSimpArgs false
set_option maxRecDepth 100000

def commitP (H : Hld) (since head : Int) : Hld × Int :=
  if (actP H since).2 ≠ 0 then actP H since else if decide (0 ≤ head ∧ head ≤ ((actP H since).1.now.log.length : Int)) then (⟨(actP H since).1.fe, commitU head (actP H since).1.now, (actP H since).1.nx⟩, 0) else (H, 1)

theorem left_map (head : Int) : ∀ L : List UV, (left head L).map pU = (L.map pU).filter fun u => decide (head < u.seq)
  | [] => rfl
  | a :: L => by
    have ih := left_map head L
    unfold left at ih ⊢
    by_cases h : a.seq ≤ head
    · rw [List.filter_cons_of_neg (by unfold keepU hitU; simp [h]), List.map_cons, List.filter_cons_of_neg (by show ¬ decide (head < (pU a).seq) = true; simp; exact h)]
      exact ih
    · rw [List.filter_cons_of_pos (by unfold keepU hitU; simp [h]), List.map_cons, List.map_cons, List.filter_cons_of_pos (by show decide (head < (pU a).seq) = true; simp; show head < a.seq; omega), ih]

/- Fewer Undos. -/
theorem undo_less {w w3 w4 : World} {G : Nat → Prop} {p of q : Nat} {A : Array Value} {T : TypeId} {v : SV} {head : Int} (hp : w.heap[p]? = some (.cells A T (0, 0))) (hA : BoxS A of v) (hT : 79 ≠ T ∧ 67 ≠ T ∧ 89 ≠ T ∧ 5 ≠ T) (ho : OwS w G v)
    (H : q = (left head v.U).length ∧ Own w3 0 89 6 enU (.slice v.x3 q v.c3) (left head v.U) ∧ Turns (fun j => (Value.slice v.x3 v.n3 v.c3).ownBlock = some j) w w3)
    (t4 : Turns (fun k => k = p) w3 w4) (hp4 : w4.heap[p]? = some (.cells (A.setIfInBounds (of + 4) (.slice v.x3 q v.c3)) T (0, 0))) :
    Turned w G p of A T (commitU head (pS v)) w4 := by
  obtain ⟨hTI, hTE, hTU, hT8⟩ := hT
  obtain ⟨hq, hO, T3⟩ := H
  have TT : Turns (fun q => q = p ∨ (Value.slice v.x3 v.n3 v.c3).ownBlock = some q) w w4 := (T3.weak fun q hq => .inr hq).trans (t4.weak fun q hq => .inl hq)
  have eb : ∀ g, (Value.slice v.x3 q v.c3).ownBlock = some g → (Value.slice v.x3 v.n3 v.c3).ownBlock = some g := fun g hg => by
    cases hx : v.x3 with
    | none => rw [hx] at hg; cases hg
    | some a => rw [hx] at hg; exact hg
  have npu : ∀ g, (Value.slice v.x3 q v.c3).ownBlock = some g → g ≠ p := fun g hg e => box_ne ho.ou hp hTU (eb g hg) e.symm
  have ou4 := hO.turns t4 (fun q hq e => npu q hq e)
  have oi4 := ho.oi.turns TT (fun q hq e => by
    rcases e with e | e
    · exact box_ne ho.oi hp hTI hq e.symm
    · exact own_ne ho.oi ho.ou (by decide) hq e rfl)
  have oe4 := ho.oe.turns TT (fun q hq e => by
    rcases e with e | e
    · exact box_ne ho.oe hp hTE hq e.symm
    · exact own_ne ho.oe ho.ou (by decide) hq e rfl)
  have KB : Keeps (Nb G w) w w4 := ⟨TT.size, fun b hb hlt => TT.block b hlt (fun e => by
    rcases e with e | e
    · exact hT8 (hb.2.same ⟨_, _, e ▸ hp⟩)
    · exact own_nb ho.ou (by decide) e hb rfl)⟩
  have nb4 := nb_more KB (G' := fun q => G q ∨ New w w4 q) fun q hq => .inl hq
  have hlf : (left head v.U).length ≤ v.U.length := List.length_filter_le _ _
  have hs : pS ⟨v.pl, v.si, v.x1, v.n1, v.c1, v.I, v.x2, v.n2, v.c2, v.E, v.x3, q, v.c3, left head v.U⟩ = commitU head (pS v) := by
    unfold pS commitU
    dsimp only
    rw [left_map]
  rw [← hs]
  refine turned_here hp4 ⟨?_, ?_, ?_, ?_, ?_⟩ (fun j hj => by rw [arr_ne (by omega)]) ⟨oi4, oe4, ou4, fun q hq => .inl (ho.gi q hq), fun q hq => .inl (ho.ge q hq), fun g hg => .inl (ho.gu g (eb g hg)), fun a ha => ((ho.ci a ha).keeps KB).weak nb4, fun a ha => ho.ce a ha, fun a ha => ((ho.cu a (List.mem_filter.1 ha).1).keeps KB).weak nb4, ho.li, ho.le, Nat.le_trans hlf ho.lu⟩ (TT.weak fun q hq => hq.imp id fun h => ho.gu q h)
  · rw [arr_ne (by omega)]; exact hA.1
  · rw [arr_ne (by omega)]; exact hA.2.1
  · rw [arr_ne (by omega)]; exact hA.2.2.1
  · rw [arr_ne (by omega)]; exact hA.2.2.2.1
  · exact arr_eq hA.2.2.2.2

end Go.Proofs.Ytnfflmndejbepaa.Sh

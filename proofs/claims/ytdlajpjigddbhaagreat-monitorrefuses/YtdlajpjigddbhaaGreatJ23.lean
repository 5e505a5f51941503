/-
  4 texts of this proof, one behind the other: AtInj, AtDecP, AtDecM, AtDecC.
-/
import Derived.Test.YtdlajpjigddbhaaGreatJ20
import Derived.Test.YtdlajpjigddbhaaGreatJ22
import Derived.Test.YtdlajpjigddbhaaGreatJ07
import Derived.WideShapes
import Derived.Test.YtdlajpjigddbhaaGreatJ18
/-
  Unlike maps, and unlike changes, have unlike bytes.
  Conditions: maps and changes that may be.
-/
namespace Go.Proofs.YtdlajpjigddbhaaGreat.At
open Go.RowKit By Fl Wi
set_option linter.unusedVariables false
set_option linter.unusedSimpArgs false
set_option maxRecDepth 100000

theorem uv_split {a b : Nat} {s t : List Nat} (ha : a < 18446744073709551616) (hb : b < 18446744073709551616) (h : uv a ++ s = uv b ++ t) : a = b ∧ s = t := by
  have h1 := lead_uv ha s
  rw [h, lead_uv hb t] at h1
  injection h1 with h1
  injection h1 with h1 h2
  subst h1
  exact ⟨rfl, List.append_cancel_left h⟩

def Okn (l : List Int) : Prop := ∀ v ∈ l, 0 ≤ v ∧ v ≤ 2147483647

theorem wrB_split : ∀ (l k : List Int) (s t : List Nat), Okn l → Okn k → l.length = k.length → wrB l ++ s = wrB k ++ t → l = k ∧ s = t
  | [], [], s, t, _, _, _, h => ⟨rfl, h⟩
  | [], b :: k, _, _, _, _, h, _ => by cases h
  | a :: l, [], _, _, _, _, h, _ => by cases h
  | a :: l, b :: k, s, t, hl, hk, hn, h => by
    have h' : uv a.toNat ++ (wrB l ++ s) = uv b.toNat ++ (wrB k ++ t) := by simpa [wrB, List.append_assoc] using h
    have ha := hl a List.mem_cons_self
    have hb := hk b List.mem_cons_self
    obtain ⟨e1, e2⟩ := uv_split (by omega) (by omega) h'
    obtain ⟨e3, e4⟩ := wrB_split l k s t (fun v hv => hl v (List.mem_cons_of_mem _ hv)) (fun v hv => hk v (List.mem_cons_of_mem _ hv)) (by simpa using hn) e2
    have : a = b := by omega
    subst this e3
    exact ⟨rfl, e4⟩

theorem bitI_inj {a b : Bool} (h : bitI a = bitI b) : a = b := by cases a <;> cases b <;> simp [bitI] at h <;> rfl

theorem partsP_inj {a b : Osd} (h : partsP a = partsP b) : a = b := by
  obtain ⟨a0, a1, a2, a3, a4, a5, a6, a7⟩ := a
  obtain ⟨b0, b1, b2, b3, b4, b5, b6, b7⟩ := b
  simp only [partsP, List.cons.injEq, and_true] at h
  obtain ⟨h0, h1, h2, h3, h4, h5, h6, h7⟩ := h
  rw [h0, bitI_inj h1, bitI_inj h2, h3, h4, h5, h6, h7]

theorem flatP_inj : ∀ (l k : List Osd), l.flatMap partsP = k.flatMap partsP → l.length = k.length → l = k
  | [], [], _, _ => rfl
  | [], b :: k, _, h => by cases h
  | a :: l, [], _, h => by cases h
  | a :: l, b :: k, h, hn => by
    rw [List.flatMap_cons, List.flatMap_cons] at h
    obtain ⟨e1, e2⟩ := List.append_inj h rfl
    rw [partsP_inj e1, flatP_inj l k e2 (by simpa using hn)]

theorem okn_all {m : Mp} (h : mayM m = true) : Okn (m.osds.flatMap partsP) := fun v hv => by
  have := nums_ok h m.osds.length
  rw [List.take_length] at this
  exact this v (List.mem_append_right _ hv)

theorem map_unlike {a b : Mp} (ha : mayM a = true) (hb : mayM b = true) (h : wrB (numsM a) = wrB (numsM b)) : a = b := by
  unfold numsM at h
  rw [wrB_app, wrB_app] at h
  obtain ⟨e1, e2⟩ := wrB_split (headP a) (headP b) _ _ (head_ok ha) (head_ok hb) rfl h
  simp only [headP, List.cons.injEq, and_true] at e1
  obtain ⟨h0, h1, h2, h3, h4, h5⟩ := e1
  have hn : a.osds.length = b.osds.length := by omega
  obtain ⟨e3, _⟩ := wrB_split (a.osds.flatMap partsP) (b.osds.flatMap partsP) [] [] (okn_all ha) (okn_all hb) (by rw [flat_parts_len, flat_parts_len, hn]) (by rw [List.append_nil, List.append_nil]; exact e2)
  have e4 := flatP_inj _ _ e3 hn
  obtain ⟨ea, ⟨a1, a2, a3, a4⟩, la⟩ := a
  obtain ⟨eb, ⟨b1, b2, b3, b4⟩, lb⟩ := b
  simp only at h0 h1 h2 h3 h4 e4
  rw [h0, h1, h2, h3, h4, e4]

theorem change_unlike {c d : Ch} (hc : mayC c = true) (hd : mayC d = true) (h : wrB (numsC c) = wrB (numsC d)) : c = d := by
  have oc := osd_of_kind hc
  have od := osd_of_kind hd
  obtain ⟨e1, _⟩ := wrB_split (numsC c) (numsC d) [] [] (fun v hv => by
    simp only [numsC, List.mem_cons] at hv
    rcases hv with rfl | hv
    · omega
    · exact oc.2 v hv) (fun v hv => by
    simp only [numsC, List.mem_cons] at hv
    rcases hv with rfl | hv
    · omega
    · exact od.2 v hv) rfl (by rw [h])
  simp only [numsC, List.cons.injEq] at e1
  have e2 := partsP_inj e1.2
  obtain ⟨ck, co⟩ := c
  obtain ⟨dk, do'⟩ := d
  simp only at e1 e2
  rw [e1.1, e2]

/- Their bytes as strings. -/
theorem map_text {a b : Mp} (ha : mayM a = true) (hb : mayM b = true) : decide (str (wrB (numsM a)) = str (wrB (numsM b))) = eqM a b := by
  by_cases e : a = b
  · subst e
    rw [(eqM_iff _ _).2 rfl]
    simp
  · have h1 : eqM a b = false := by
      cases h : eqM a b with
      | true => exact absurd ((eqM_iff _ _).1 h) e
      | false => rfl
    rw [h1]
    refine decide_eq_false fun h => e (map_unlike ha hb ?_)
    have := congrArg nat h
    rwa [nat_str (wrB_lt _), nat_str (wrB_lt _)] at this

theorem change_text {c d : Ch} (hc : mayC c = true) (hd : mayC d = true) : decide (str (wrB (numsC c)) = str (wrB (numsC d))) = eqC c d := by
  by_cases e : c = d
  · subst e
    rw [(eqC_iff _ _).2 rfl]
    simp
  · have h1 : eqC c d = false := by
      cases h : eqC c d with
      | true => exact absurd ((eqC_iff _ _).1 h) e
      | false => rfl
    rw [h1]
    refine decide_eq_false fun h => e (change_unlike hc hd ?_)
    have := congrArg nat h
    rwa [nat_str (wrB_lt _), nat_str (wrB_lt _)] at this

theorem eq_change (a b : Ch) (w : World) : (binOp .eql 37 (vC a) (vC b)).run Tryz.prog w = .ok (.bool (eqC a b)) w := by
  obtain ⟨ak, a0, a1, a2, a3, a4, a5, a6, a7⟩ := a
  obtain ⟨bk, b0, b1, b2, b3, b4, b5, b6, b7⟩ := b
  unfold vC eqC eqO
  dsimp only
  go_simp
  by_cases ek : ak = bk <;> by_cases e0 : a0 = b0 <;> by_cases e1 : a1 = b1 <;> by_cases e2 : a2 = b2 <;> by_cases e3 : a3 = b3 <;> by_cases e4 : a4 = b4 <;> by_cases e5 : a5 = b5 <;> by_cases e6 : a6 = b6 <;> by_cases e7 : a7 = b7 <;> simp [ek, e0, e1, e2, e3, e4, e5, e6, e7]

theorem beq_str (s t : ByteArray) : (s.toList == t.toList) = decide (s = t) := beq_nat _ _ _ ⟨fun h => decide_eq_true (nat_inj h), fun h => by rw [of_decide_eq_true h]⟩

theorem eq_str (s t : ByteArray) (w : World) : (binOp .eql 9 (.string s) (.string t)).run Tryz.prog w = .ok (.bool (decide (s = t))) w := by
  go_simp
  exact beq_nat _ _ _ ⟨fun h => decide_eq_true (nat_inj h), fun h => by rw [of_decide_eq_true h]⟩

theorem After.conv {w : World} {x : Option Addr} {n c : Nat} {l : List Nat} (h : Go.Proofs.YtdlajpjigddbhaaGreat.Sl w x n c l) (q : After w) : (convert 73 9 (.slice x n c)).run Tryz.prog q.W = .ok (.string (str l)) q.W := conv_sl ⟨h.len, h.le, h.nil, (h.below q.h).row, h.lt⟩

theorem okWide_array {P : Program} {w : World} {base : Nat} {t e : TypeId} {k : Nat} {v : Value} (ht : P.underlying t = some (.array k e)) (h : Value.okWide P w .any base t v) : ∃ cs, v = .agg cs ∧ cs.size = P.cellsOf t := by
  simp only [Value.okWide, ht] at h
  obtain ⟨cs, h1, h2, _⟩ := h
  exact ⟨cs, h1, h2⟩

/- The law's own blocks: two maps, two changes. -/
structure FU (w W : World) (pc pd : Nat) (A B C D : Array Value) : Prop where
  bel : Below w.heap.size w W
  a : W.heap[w.heap.size]? = some (.cells A 56 (0, 0))
  b : W.heap[w.heap.size + 1]? = some (.cells B 56 (0, 0))
  c : W.heap[pc]? = some (.cells C 37 (0, 0))
  d : W.heap[pd]? = some (.cells D 37 (0, 0))

theorem heap_keep {w v : World} {b : Nat} {o : Obj} (hb : Below w.heap.size w v) (h : w.heap[b]? = some o) : v.heap[b]? = some o :=
  (hb.block b (Array.getElem?_eq_some_iff.1 h).1).trans h

theorem FU.below {w W W' : World} {pc pd : Nat} {A B C D : Array Value} (h : FU w W pc pd A B C D) (hb : Below W.heap.size W W') : FU w W' pc pd A B C D :=
  ⟨on h.bel hb, heap_keep hb h.a, heap_keep hb h.b, heap_keep hb h.c, heap_keep hb h.d⟩

theorem FU.one (w : World) (A B C D : Array Value) (l : Obj) : FU w (((((w.alloc (.cells A 56)).alloc (.cells B 56)).alloc l).alloc (.cells C 37)).alloc (.cells D 37)).drew (w.heap.size + 1 + 1 + 1) (w.heap.size + 1 + 1 + 1 + 1) A B C D := by
  have a1 := al w (.cells A 56)
  have a2 := al (w.alloc (.cells A 56)) (.cells B 56)
  have h1 := heap_alloc_new w (.cells A 56)
  have h2 := heap_alloc_new (w.alloc (.cells A 56)) (.cells B 56)
  have e1 : (w.alloc (.cells A 56)).heap.size = w.heap.size + 1 := by simp
  generalize w.alloc (.cells A 56) = w1 at *
  have e2 : (w1.alloc (.cells B 56)).heap.size = w.heap.size + 1 + 1 := by simp [e1]
  generalize w1.alloc (.cells B 56) = w2 at *
  have a3 := al w2 l
  have e3 : (w2.alloc l).heap.size = w.heap.size + 1 + 1 + 1 := by simp [e2]
  generalize w2.alloc l = w3 at *
  have a4 := al w3 (.cells C 37)
  have h4 := heap_alloc_new w3 (.cells C 37)
  have e4 : (w3.alloc (.cells C 37)).heap.size = w.heap.size + 1 + 1 + 1 + 1 := by simp [e3]
  generalize w3.alloc (.cells C 37) = w4 at *
  have a5 := (al w4 (.cells D 37)).drew
  have h5 : (w4.alloc (.cells D 37)).drew.heap[w4.heap.size]? = some (.cells D 37 (0, 0)) := heap_alloc_new w4 (.cells D 37)
  generalize (w4.alloc (.cells D 37)).drew = w5 at *
  rw [e1] at h2
  rw [e3] at h4
  rw [e4] at h5
  exact ⟨on (on (on (on a1 a2) a3) a4) a5, heap_keep (on (on (on a2 a3) a4) a5) h1, heap_keep (on (on a3 a4) a5) h2, heap_keep a5 h4, h5⟩

theorem FU.two (w : World) (A B C D : Array Value) (l : Obj) : FU w (((((w.alloc (.cells A 56)).alloc (.cells B 56)).alloc l).alloc (.cells D 37)).alloc (.cells C 37)).drew (w.heap.size + 1 + 1 + 1 + 1) (w.heap.size + 1 + 1 + 1) A B C D :=
  let h := FU.one w A B D C l
  ⟨h.bel, h.a, h.b, h.d, h.c⟩

end Go.Proofs.YtdlajpjigddbhaaGreat.At

/-
  What numbers are read of bytes that were written, and of which bytes numbers are read: plainly.
  Conditions: bytes from 0 to 255.
-/
namespace Go.Proofs.YtdlajpjigddbhaaGreat.At
open Go.RowKit By Fl Wi
set_option linter.unusedVariables false
set_option linter.unusedSimpArgs false
set_option maxRecDepth 100000

def Fit : List Int → List Int → Prop
  | [], [] => True
  | t :: ts, v :: vs => (0 ≤ v ∧ v ≤ t) ∧ Fit ts vs
  | _, _ => False

def Lim (ts : List Int) : Prop := ∀ t ∈ ts, t ≤ 2147483647

theorem rNum_uv {t v : Int} (h0 : 0 ≤ v) (h1 : v ≤ t) (ht : t ≤ 2147483647) (s : List Nat) : rNum t (uv v.toNat ++ s) 0 = (v.toNat, s, 0) := by
  have hl : lead (uv v.toNat ++ s) = some (v.toNat, (uv v.toNat).length) := lead_uv (by omega) s
  have hu : rUv (uv v.toNat ++ s) 0 = (v.toNat, s, 0) := by rw [rUv_yes hl, List.drop_left]
  rw [rNum_yes (by rw [hu]) (by rw [hu]; dsimp only; omega), hu]

theorem numsR_wr : ∀ (ts vs : List Int) (s : List Nat), Fit ts vs → Lim ts → numsR ts (wrB vs ++ s) 0 = (vs, s, 0)
  | [], [], s, _, _ => rfl
  | [], v :: vs, s, h, _ => h.elim
  | t :: ts, [], s, h, _ => h.elim
  | t :: ts, v :: vs, s, h, hl => by
    have e : wrB (v :: vs) ++ s = uv v.toNat ++ (wrB vs ++ s) := by simp [wrB]
    have hn := rNum_uv h.1.1 h.1.2 (hl t List.mem_cons_self) (wrB vs ++ s)
    rw [e]
    simp only [numsR, hn]
    rw [numsR_wr ts vs s h.2 (fun x hx => hl x (List.mem_cons_of_mem _ hx))]
    have := h.1.1
    rw [show ((v.toNat : Nat) : Int) = v by omega]

theorem rNum_e {t : Int} {l : List Nat} {e : Nat} (h : e ≠ 0) : (rNum t l e).2.2 = e := by rw [rNum_bad h]

theorem numsR_e : ∀ (ts : List Int) (l : List Nat) (e : Nat), e ≠ 0 → (numsR ts l e).2.2 = e
  | [], l, e, h => rfl
  | t :: ts, l, e, h => by
    simp only [numsR]
    rw [rNum_e h]
    exact numsR_e ts _ e h

theorem rNum_back {t : Int} {l : List Nat} (hl : ∀ v ∈ l, v < 256) (h : (rNum t l 0).2.2 = 0) : l = uv (rNum t l 0).1 ++ (rNum t l 0).2.1 ∧ ((rNum t l 0).1 : Int) ≤ t := by
  by_cases h1 : (rUv l 0).2.2 = 0
  · by_cases h2 : t < 0 ∨ t < ((rUv l 0).1 : Int)
    · rw [rNum_long h1 h2] at h
      cases h
    · rw [rNum_yes h1 h2]
      cases hd : lead l with
      | none => rw [rUv_no hd] at h1; cases h1
      | some p =>
        obtain ⟨n, k⟩ := p
        obtain ⟨c1, c2, c3, c4⟩ := lead_canon hl hd
        have hu := rUv_yes hd
        rw [hu] at h2 ⊢
        dsimp only at h2 ⊢
        exact ⟨by rw [← c1, List.take_append_drop], by omega⟩
  · rw [rNum_no h1] at h
    exact absurd h h1

theorem numsR_back : ∀ (ts : List Int) (l : List Nat), (∀ v ∈ l, v < 256) → (numsR ts l 0).2.2 = 0 → l = wrB (numsR ts l 0).1 ++ (numsR ts l 0).2.1 ∧ Fit ts (numsR ts l 0).1
  | [], l, _, _ => ⟨rfl, trivial⟩
  | t :: ts, l, hl, h => by
    simp only [numsR] at h ⊢
    by_cases h1 : (rNum t l 0).2.2 = 0
    · obtain ⟨e1, e2⟩ := rNum_back hl h1
      rw [h1] at h ⊢
      have hl2 : ∀ v ∈ (rNum t l 0).2.1, v < 256 := fun v hv => hl v (by rw [e1]; exact List.mem_append_right _ hv)
      obtain ⟨e3, e4⟩ := numsR_back ts _ hl2 h
      refine ⟨?_, ⟨by omega, e2⟩, e4⟩
      have e5 : wrB (((rNum t l 0).1 : Int) :: (numsR ts (rNum t l 0).2.1 0).1) = uv (rNum t l 0).1 ++ wrB (numsR ts (rNum t l 0).2.1 0).1 := by simp [wrB]
      rw [e5, List.append_assoc, ← e3]
      exact e1
    · rw [numsR_e _ _ _ h1] at h
      exact absurd h h1

theorem fit_len : ∀ (ts vs : List Int), Fit ts vs → vs.length = ts.length
  | [], [], _ => rfl
  | [], v :: vs, h => h.elim
  | t :: ts, [], h => h.elim
  | t :: ts, v :: vs, h => by simp [fit_len ts vs h.2]

theorem bit_one (b : Bool) : (bitI b == 1) = b := by cases b <;> rfl

theorem osdN_parts (o : Osd) : osdN (partsP o) = o := by
  obtain ⟨a0, a1, a2, a3, a4, a5, a6, a7⟩ := o
  simp only [osdN, partsP, List.getD_cons_zero, List.getD_cons_succ, bit_one]

theorem bitI_of {t : Int} (h0 : 0 ≤ t) (h1 : t ≤ 1) : bitI (t == 1) = t := by
  have : t = 0 ∨ t = 1 := by omega
  rcases this with rfl | rfl <;> rfl

theorem parts_osdN {T : List Int} (h : Fit osdT T) : partsP (osdN T) = T := by
  have hl := fit_len _ _ h
  obtain ⟨t0, t1, t2, t3, t4, t5, t6, t7, rfl⟩ : ∃ t0 t1 t2 t3 t4 t5 t6 t7, T = [t0, t1, t2, t3, t4, t5, t6, t7] := by
    match T, hl with
    | [t0, t1, t2, t3, t4, t5, t6, t7], _ => exact ⟨t0, t1, t2, t3, t4, t5, t6, t7, rfl⟩
  simp only [osdT, Fit] at h
  obtain ⟨h0, h1, h2, h3, h4, h5, h6, h7, _⟩ := h
  simp only [osdN, partsP, List.getD_cons_zero, List.getD_cons_succ, bitI_of h1.1 h1.2, bitI_of h2.1 h2.2]

theorem lim_osd : Lim osdT := fun t ht => by
  simp only [osdT, List.mem_cons, List.not_mem_nil, or_false] at ht
  omega

def bigT (n : Nat) : List Int := List.replicate n 2147483647
theorem lim_big (n : Nat) : Lim (bigT n) := fun t ht => by have := List.eq_of_mem_replicate ht; omega

theorem fit_big : ∀ (vs : List Int), (∀ v ∈ vs, 0 ≤ v ∧ v ≤ 2147483647) → Fit (bigT vs.length) vs
  | [], _ => trivial
  | v :: vs, h => by
    show Fit (2147483647 :: bigT vs.length) (v :: vs)
    exact ⟨h v List.mem_cons_self, fit_big vs (fun x hx => h x (List.mem_cons_of_mem _ hx))⟩

/- Changes: the program's, and the document's. -/
def zCh : Ch := ⟨0, ⟨0, false, false, 0, 0, 0, 0, 0⟩⟩
def chN (T : List Int) (o : Osd) : Ch := ⟨T.getD 0 0, o⟩

def decC (l : List Nat) : Ch × Bool :=
  let a := numsR [6] l 0
  let b := numsR osdT a.2.1 a.2.2
  if rDone b.2.1 b.2.2 = 0 ∧ mayC (chN a.1 (osdN b.1)) = true then (chN a.1 (osdN b.1), true) else (zCh, false)

theorem rDone_zero {l : List Nat} {e : Nat} (h : rDone l e = 0) : l = [] ∧ e = 0 := by
  unfold rDone at h
  split at h
  · contradiction
  · rename_i h1
    split at h
    · cases h
    · rename_i h2
      exact ⟨List.eq_nil_of_length_eq_zero (by omega), by omega⟩

theorem decC_back {l : List Nat} {c : Ch} (hl : ∀ v ∈ l, v < 256) (h : decC l = (c, true)) : mayC c = true ∧ l = wrB (numsC c) := by
  unfold decC at h
  dsimp only at h
  split at h
  · rename_i h1
    obtain ⟨h1, h2⟩ := h1
    injection h with h3 _
    obtain ⟨e1, e2⟩ := rDone_zero h1
    have e0 : (numsR [6] l 0).2.2 = 0 := by
      by_cases h4 : (numsR [6] l 0).2.2 = 0
      · exact h4
      · rw [numsR_e _ _ _ h4] at e2; exact absurd e2 h4
    obtain ⟨q1, q2⟩ := numsR_back [6] l hl e0
    rw [e0] at e1 e2 h2 h3
    have hl2 : ∀ v ∈ (numsR [6] l 0).2.1, v < 256 := fun v hv => hl v (by rw [q1]; exact List.mem_append_right _ hv)
    obtain ⟨q3, q4⟩ := numsR_back osdT _ hl2 e2
    rw [e1, List.append_nil] at q3
    refine ⟨by rw [← h3]; exact h2, ?_⟩
    have hk : (numsR [6] l 0).1 = [c.kind] := by
      have := fit_len _ _ q2
      obtain ⟨t, ht⟩ : ∃ t, (numsR [6] l 0).1 = [t] := by
        match h5 : (numsR [6] l 0).1, this with
        | [t], _ => exact ⟨t, rfl⟩
      rw [ht, ← h3, ht]
      rfl
    have ho : (numsR osdT (numsR [6] l 0).2.1 0).1 = partsP c.osd := by
      rw [← h3]
      exact (parts_osdN q4).symm
    rw [q1, q3, hk, ho, ← wrB_app]
    rfl
  · injection h with _ h
    cases h

theorem osd_fit {o : Osd} (h : osdB o = true) : Fit osdT (partsP o) := by
  obtain ⟨p1, p2, p3, p4, p5, p6⟩ := osd_parts h
  have hl : 0 ≤ least o.up := by unfold least; split <;> omega
  have hb : ∀ b, 0 ≤ bitI b ∧ bitI b ≤ 1 := fun b => by unfold bitI; split <;> omega
  have h1 := hb o.up
  have h2 := hb o.inn
  simp only [osdT, partsP, Fit, and_true]
  omega

end Go.Proofs.YtdlajpjigddbhaaGreat.At

/-
  The program's and the document's way to read changes and maps come to the same, plainly.
  Conditions: bytes from 0 to 255.
-/
namespace Go.Proofs.YtdlajpjigddbhaaGreat.At
open Go.RowKit By Fl Wi
set_option linter.unusedVariables false
set_option linter.unusedSimpArgs false
set_option maxRecDepth 100000

theorem change_fit {c : Ch} (h : mayC c = true) : (1 ≤ c.kind ∧ c.kind ≤ 6) ∧ Fit osdT (partsP c.osd) := by
  unfold mayC at h
  simp only [Bool.and_eq_true, wi_iff] at h
  refine ⟨h.1, ?_⟩
  have hm := h.2
  unfold mayK at hm
  have hb : ∀ b, 0 ≤ bitI b ∧ bitI b ≤ 1 := fun b => by unfold bitI; split <;> omega
  have h3 := hb false
  split at hm
  · exact osd_fit hm
  · split at hm
    · unfold upB at hm
      simp only [Bool.and_eq_true, wi_iff, eqO_iff] at hm
      obtain ⟨e, h2⟩ := hm
      rw [e]
      simp only [osdT, partsP, Fit, and_true]
      omega
    · split at hm
      · unfold wtB at hm
        simp only [Bool.and_eq_true, wi_iff, eqO_iff] at hm
        obtain ⟨e, h2⟩ := hm
        rw [e]
        simp only [osdT, partsP, Fit, and_true]
        omega
      · unfold idB noO at hm
        simp only [Bool.and_eq_true, wi_iff, eqO_iff] at hm
        obtain ⟨e, h2⟩ := hm
        rw [e]
        simp only [osdT, partsP, Fit, and_true]
        omega

theorem decC_forth {c : Ch} (h : mayC c = true) : decC (wrB (numsC c)) = (c, true) := by
  obtain ⟨h1, h2⟩ := change_fit h
  have e1 : wrB (numsC c) = wrB [c.kind] ++ (wrB (partsP c.osd) ++ []) := by rw [List.append_nil, ← wrB_app]; rfl
  have q1 := numsR_wr [6] [c.kind] (wrB (partsP c.osd) ++ []) ⟨⟨by omega, h1.2⟩, trivial⟩ (fun t ht => by simp at ht; omega)
  have q2 := numsR_wr osdT (partsP c.osd) [] h2 lim_osd
  unfold decC
  rw [e1]
  dsimp only
  rw [q1]
  dsimp only
  rw [q2]
  dsimp only
  have e2 : chN [c.kind] (osdN (partsP c.osd)) = c := by rw [osdN_parts]; rfl
  rw [e2, if_pos ⟨rfl, h⟩]

def decCR (l : List Nat) : Ch × Bool :=
  let T := numsR (bigT 9) l 0
  if mayC (chN T.1 (osdN (T.1.drop 1))) = true ∧ wrB (numsC (chN T.1 (osdN (T.1.drop 1)))) = l then (chN T.1 (osdN (T.1.drop 1)), true) else (zCh, false)

theorem nums_fit {c : Ch} (h : mayC c = true) : ∀ v ∈ numsC c, 0 ≤ v ∧ v ≤ 2147483647 := fun v hv => by
  obtain ⟨h1, h2⟩ := osd_of_kind h
  simp only [numsC, List.mem_cons] at hv
  rcases hv with rfl | hv
  · omega
  · exact h2 v hv

theorem decCR_forth {c : Ch} (h : mayC c = true) : decCR (wrB (numsC c)) = (c, true) := by
  have q := numsR_wr (bigT 9) (numsC c) [] (fit_big (numsC c) (nums_fit h)) (lim_big 9)
  rw [List.append_nil] at q
  unfold decCR
  dsimp only
  rw [q]
  dsimp only
  have e2 : chN (numsC c) (osdN ((numsC c).drop 1)) = c := by
    show chN _ (osdN (partsP c.osd)) = c
    rw [osdN_parts]
    rfl
  rw [e2, if_pos ⟨h, rfl⟩]

theorem decCR_back {l : List Nat} {c : Ch} (h : decCR l = (c, true)) : mayC c = true ∧ l = wrB (numsC c) := by
  unfold decCR at h
  dsimp only at h
  split at h
  · rename_i h1
    injection h with h3 _
    rw [h3] at h1
    exact ⟨h1.1, h1.2.symm⟩
  · injection h with _ h
    cases h

theorem decC_no {l : List Nat} (h : (decC l).2 = false) : decC l = (zCh, false) := by
  unfold decC at h ⊢
  dsimp only at h ⊢
  split at h
  · cases h
  · rename_i h1; rw [if_neg h1]
theorem decCR_no {l : List Nat} (h : (decCR l).2 = false) : decCR l = (zCh, false) := by
  unfold decCR at h ⊢
  dsimp only at h ⊢
  split at h
  · cases h
  · rename_i h1; rw [if_neg h1]

theorem decC_eq {l : List Nat} (hl : ∀ v ∈ l, v < 256) : decC l = decCR l := by
  cases h1 : (decC l).2 with
  | true =>
    obtain ⟨a, b⟩ := decC_back (c := (decC l).1) hl (by rw [← h1])
    have := decCR_forth a
    rw [← b] at this
    rw [this, ← h1]
  | false =>
    cases h2 : (decCR l).2 with
    | true =>
      obtain ⟨a, b⟩ := decCR_back (c := (decCR l).1) (by rw [← h2])
      have := decC_forth a
      rw [← b] at this
      rw [this] at h1
      cases h1
    | false => rw [decC_no h1, decCR_no h2]

/- Maps. -/
def osdsR (oT : List Int) : Nat → List Nat → Nat → List Osd × List Nat × Nat
  | 0, l, e => ([], l, e)
  | k + 1, l, e => (osdN (numsR oT l e).1 :: (osdsR oT k (numsR oT l e).2.1 (numsR oT l e).2.2).1, (osdsR oT k (numsR oT l e).2.1 (numsR oT l e).2.2).2)

def zMp : Mp := ⟨0, ⟨0, 0, 0, 0⟩, []⟩
def mpN (H : List Int) (L : List Osd) : Mp := ⟨H.getD 0 0, ⟨H.getD 1 0, H.getD 2 0, H.getD 3 0, H.getD 4 0⟩, L⟩
def headT : List Int := [1048576, 32, 32, 32, 2, 64]
def headR : List Int := bigT 5 ++ [64]

def decM (l : List Nat) : Mp × Bool :=
  let h := numsR headT l 0
  let r := osdsR osdT (h.1.getD 5 0).toNat h.2.1 h.2.2
  if rDone r.2.1 r.2.2 = 0 ∧ mayM (mpN h.1 r.1) = true then (mpN h.1 r.1, true) else (zMp, false)

def decMR (l : List Nat) : Mp × Bool :=
  let h := numsR headR l 0
  let r := osdsR (bigT 8) (h.1.getD 5 0).toNat h.2.1 h.2.2
  if mayM (mpN h.1 r.1) = true ∧ wrB (numsM (mpN h.1 r.1)) = l then (mpN h.1 r.1, true) else (zMp, false)

theorem osdsR_wr (oT : List Int) (hL : Lim oT) : ∀ (L : List Osd) (s : List Nat), (∀ o ∈ L, Fit oT (partsP o)) → osdsR oT L.length (wrB (L.flatMap partsP) ++ s) 0 = (L, s, 0)
  | [], s, _ => rfl
  | o :: L, s, h => by
    have e : wrB ((o :: L).flatMap partsP) ++ s = wrB (partsP o) ++ (wrB (L.flatMap partsP) ++ s) := by rw [List.flatMap_cons, wrB_app, List.append_assoc]
    have q := numsR_wr oT (partsP o) (wrB (L.flatMap partsP) ++ s) (h o List.mem_cons_self) hL
    rw [e]
    show (osdN (numsR oT _ 0).1 :: _, _) = _
    rw [q]
    dsimp only
    rw [osdsR_wr oT hL L s (fun x hx => h x (List.mem_cons_of_mem _ hx)), osdN_parts]

theorem osdsR_e (oT : List Int) : ∀ (k : Nat) (l : List Nat) (e : Nat), e ≠ 0 → (osdsR oT k l e).2.2 = e
  | 0, l, e, h => rfl
  | k + 1, l, e, h => by
    show (osdsR oT k _ _).2.2 = e
    rw [numsR_e _ _ _ h]
    exact osdsR_e oT k _ e h

theorem osdsR_len (oT : List Int) : ∀ (k : Nat) (l : List Nat) (e : Nat), (osdsR oT k l e).1.length = k
  | 0, l, e => rfl
  | k + 1, l, e => by
    show (_ :: (osdsR oT k _ _).1).length = k + 1
    rw [List.length_cons, osdsR_len oT k]

theorem osdsR_back : ∀ (k : Nat) (l : List Nat), (∀ v ∈ l, v < 256) → (osdsR osdT k l 0).2.2 = 0 → l = wrB ((osdsR osdT k l 0).1.flatMap partsP) ++ (osdsR osdT k l 0).2.1
  | 0, l, _, _ => rfl
  | k + 1, l, hl, h => by
    have h' : (osdsR osdT k (numsR osdT l 0).2.1 (numsR osdT l 0).2.2).2.2 = 0 := h
    have e0 : (numsR osdT l 0).2.2 = 0 := by
      by_cases h4 : (numsR osdT l 0).2.2 = 0
      · exact h4
      · rw [osdsR_e _ _ _ _ h4] at h'; exact absurd h' h4
    obtain ⟨q1, q2⟩ := numsR_back osdT l hl e0
    have hl2 : ∀ v ∈ (numsR osdT l 0).2.1, v < 256 := fun v hv => hl v (by rw [q1]; exact List.mem_append_right _ hv)
    rw [e0] at h'
    have q3 := osdsR_back k _ hl2 h'
    show l = wrB ((osdN (numsR osdT l 0).1 :: (osdsR osdT k (numsR osdT l 0).2.1 (numsR osdT l 0).2.2).1).flatMap partsP) ++ (osdsR osdT k (numsR osdT l 0).2.1 (numsR osdT l 0).2.2).2.1
    rw [e0, List.flatMap_cons, wrB_app, parts_osdN q2, List.append_assoc, ← q3]
    exact q1

theorem head_fit {m : Mp} (h : mayM m = true) : Fit headT (headP m) := by
  obtain ⟨p1, p2, p3, p4⟩ := may_parts h
  obtain ⟨q1, q2, q3, q4⟩ := pool_parts p2
  simp only [headT, headP, Fit, and_true]
  omega

theorem head_fitR {m : Mp} (h : mayM m = true) : Fit headR (headP m) := by
  obtain ⟨p1, p2, p3, p4⟩ := may_parts h
  obtain ⟨q1, q2, q3, q4⟩ := pool_parts p2
  simp only [headR, bigT, List.replicate, List.cons_append, List.nil_append, headP, Fit, and_true]
  omega

theorem osds_fit {m : Mp} (h : mayM m = true) : ∀ o ∈ m.osds, osdB o = true := fun o ho => by
  obtain ⟨k, hk⟩ := List.mem_iff_getElem?.1 ho
  exact ((may_parts h).2.2.2 k o hk).1

theorem mpN_head (m : Mp) : mpN (headP m) m.osds = m := rfl

theorem decM_forth {m : Mp} (h : mayM m = true) : decM (wrB (numsM m)) = (m, true) := by
  have e1 : wrB (numsM m) = wrB (headP m) ++ (wrB (m.osds.flatMap partsP) ++ []) := by rw [List.append_nil, ← wrB_app]; rfl
  have q1 := numsR_wr headT (headP m) (wrB (m.osds.flatMap partsP) ++ []) (head_fit h) (fun t ht => by simp only [headT, List.mem_cons, List.not_mem_nil, or_false] at ht; omega)
  have q2 := osdsR_wr osdT lim_osd m.osds [] (fun o ho => osd_fit (osds_fit h o ho))
  have q3 : ((headP m).getD 5 0).toNat = m.osds.length := by simp [headP]
  unfold decM
  rw [e1]
  dsimp only
  rw [q1]
  dsimp only
  rw [q3, q2]
  dsimp only
  rw [mpN_head, if_pos ⟨rfl, h⟩]

theorem decMR_forth {m : Mp} (h : mayM m = true) : decMR (wrB (numsM m)) = (m, true) := by
  have e1 : wrB (numsM m) = wrB (headP m) ++ (wrB (m.osds.flatMap partsP) ++ []) := by rw [List.append_nil, ← wrB_app]; rfl
  have q1 := numsR_wr headR (headP m) (wrB (m.osds.flatMap partsP) ++ []) (head_fitR h) (fun t ht => by simp only [headR, bigT, List.replicate, List.cons_append, List.nil_append, List.mem_cons, List.not_mem_nil, or_false] at ht; omega)
  have q2 := osdsR_wr (bigT 8) (lim_big 8) m.osds [] (fun o ho => fit_big (partsP o) (parts_ok (osds_fit h o ho)))
  have q3 : ((headP m).getD 5 0).toNat = m.osds.length := by simp [headP]
  unfold decMR
  have e2 : numsR headR (wrB (numsM m)) 0 = (headP m, wrB (m.osds.flatMap partsP) ++ [], 0) := by rw [e1]; exact q1
  dsimp only
  rw [e2]
  dsimp only
  rw [q3, q2]
  dsimp only
  rw [mpN_head, if_pos ⟨h, rfl⟩]

theorem decM_back {l : List Nat} {m : Mp} (hl : ∀ v ∈ l, v < 256) (h : decM l = (m, true)) : mayM m = true ∧ l = wrB (numsM m) := by
  unfold decM at h
  dsimp only at h
  split at h
  · rename_i h1
    obtain ⟨h1, h2⟩ := h1
    injection h with h3 _
    obtain ⟨e1, e2⟩ := rDone_zero h1
    have e0 : (numsR headT l 0).2.2 = 0 := by
      by_cases h4 : (numsR headT l 0).2.2 = 0
      · exact h4
      · rw [osdsR_e _ _ _ _ h4] at e2; exact absurd e2 h4
    obtain ⟨q1, q2⟩ := numsR_back headT l hl e0
    rw [e0] at e1 e2 h2 h3
    have hl2 : ∀ v ∈ (numsR headT l 0).2.1, v < 256 := fun v hv => hl v (by rw [q1]; exact List.mem_append_right _ hv)
    have q3 := osdsR_back _ _ hl2 e2
    have q5 := osdsR_len osdT ((numsR headT l 0).1.getD 5 0).toNat (numsR headT l 0).2.1 0
    rw [e1, List.append_nil] at q3
    refine ⟨by rw [← h3]; exact h2, ?_⟩
    generalize osdsR osdT ((numsR headT l 0).1.getD 5 0).toNat (numsR headT l 0).2.1 0 = r at *
    generalize numsR headT l 0 = hh at *
    have hd : hh.1 = headP m := by
      have hn := fit_len _ _ q2
      obtain ⟨t0, t1, t2, t3, t4, t5, ht⟩ : ∃ t0 t1 t2 t3 t4 t5, hh.1 = [t0, t1, t2, t3, t4, t5] := by
        match h5 : hh.1, hn with
        | [t0, t1, t2, t3, t4, t5], _ => exact ⟨t0, t1, t2, t3, t4, t5, rfl⟩
      rw [ht] at q2 q5 h3 ⊢
      simp only [headT, Fit] at q2
      simp only [List.getD_cons_zero, List.getD_cons_succ] at q5
      rw [← h3]
      simp only [mpN, headP, List.getD_cons_zero, List.getD_cons_succ, q5]
      rw [show ((t5.toNat : Nat) : Int) = t5 by omega]
    have ho : m.osds = r.1 := by rw [← h3]; rfl
    rw [q1, q3, hd, ← ho, ← wrB_app]
    rfl
  · injection h with _ h
    cases h

theorem decMR_back {l : List Nat} {m : Mp} (h : decMR l = (m, true)) : mayM m = true ∧ l = wrB (numsM m) := by
  unfold decMR at h
  dsimp only at h
  split at h
  · rename_i h1
    injection h with h3 _
    rw [h3] at h1
    exact ⟨h1.1, h1.2.symm⟩
  · injection h with _ h
    cases h

theorem decM_no {l : List Nat} (h : (decM l).2 = false) : decM l = (zMp, false) := by
  unfold decM at h ⊢
  dsimp only at h ⊢
  split at h
  · cases h
  · rename_i h1; rw [if_neg h1]
theorem decMR_no {l : List Nat} (h : (decMR l).2 = false) : decMR l = (zMp, false) := by
  unfold decMR at h ⊢
  dsimp only at h ⊢
  split at h
  · cases h
  · rename_i h1; rw [if_neg h1]

theorem decM_eq {l : List Nat} (hl : ∀ v ∈ l, v < 256) : decM l = decMR l := by
  cases h1 : (decM l).2 with
  | true =>
    obtain ⟨a, b⟩ := decM_back (m := (decM l).1) hl (by rw [← h1])
    have := decMR_forth a
    rw [← b] at this
    rw [this, ← h1]
  | false =>
    cases h2 : (decMR l).2 with
    | true =>
      obtain ⟨a, b⟩ := decMR_back (m := (decMR l).1) (by rw [← h2])
      have := decM_forth a
      rw [← b] at this
      rw [this] at h1
      cases h1
    | false => rw [decM_no h1, decMR_no h2]

end Go.Proofs.YtdlajpjigddbhaaGreat.At

/-
  Package atlas: DecodeChange.
  Conditions: bytes that lie in memory.
-/
namespace Go.Proofs.YtdlajpjigddbhaaGreat.At
open Go.RowKit By Fl Wi
set_option linter.unusedVariables false
set_option linter.unusedSimpArgs false
set_option maxRecDepth 100000

def cod (b : Bool) : Int := if b then 0 else 5

theorem decC_parts (l : List Nat) : ∃ t l1 e1 U l2 e2, numsR [6] l 0 = ([t], l1, e1) ∧ numsR osdT l1 e1 = (U, l2, e2) ∧ decC l = if rDone l2 e2 = 0 ∧ mayC ⟨t, osdN U⟩ = true then (⟨t, osdN U⟩, true) else (zCh, false) := by
  have h1 : numsR [6] l 0 = ([((rNum 6 l 0).1 : Int)], (rNum 6 l 0).2.1, (rNum 6 l 0).2.2) := by simp only [numsR]
  obtain ⟨U, l2, e2, h2⟩ : ∃ U l2 e2, numsR osdT (rNum 6 l 0).2.1 (rNum 6 l 0).2.2 = (U, l2, e2) := ⟨_, _, _, rfl⟩
  refine ⟨_, _, _, U, l2, e2, h1, h2, ?_⟩
  unfold decC
  dsimp only
  rw [h1]
  dsimp only
  rw [h2]
  dsimp only
  rfl

def put9 (w : World) (g : Nat) (v0 v1 v2 v3 v4 v5 v6 v7 v8 : Value) : World := (((((((((w.setCell ⟨g, 0, none⟩ v0).setCell ⟨g, 1, none⟩ v1).setCell ⟨g, 2, none⟩ v2).setCell ⟨g, 3, none⟩ v3).setCell ⟨g, 4, none⟩ v4).setCell ⟨g, 5, none⟩ v5).setCell ⟨g, 6, none⟩ v6).setCell ⟨g, 7, none⟩ v7).setCell ⟨g, 8, none⟩ v8)

theorem put9_turns (w : World) (g : Nat) (v0 v1 v2 v3 v4 v5 v6 v7 v8 : Value) : Turns (fun k => k = g) w (put9 w g v0 v1 v2 v3 v4 v5 v6 v7 v8) := (turns_put (turns_put (turns_put (turns_put (turns_put (turns_put (turns_put (turns_put (turns_put (Turns.refl _ _) _ _) _ _) _ _) _ _) _ _) _ _) _ _) _ _) _ _)

theorem put9_heap {w : World} {g : Nat} {t : TypeId} {z0 z1 z2 z3 z4 z5 z6 z7 z8 : Value} (h : w.heap[g]? = some (.cells #[z0, z1, z2, z3, z4, z5, z6, z7, z8] t (0, 0))) (v0 v1 v2 v3 v4 v5 v6 v7 v8 : Value) : (put9 w g v0 v1 v2 v3 v4 v5 v6 v7 v8).heap[g]? = some (.cells #[v0, v1, v2, v3, v4, v5, v6, v7, v8] t (0, 0)) := by
  unfold put9
  refine ((heap_set (heap_set (heap_set (heap_set (heap_set (heap_set (heap_set (heap_set (heap_set h _) _) _) _) _) _) _) _) _)).trans ?_
  simp

structure DC (w W : World) (p N pc : Nat) (C : Array Value) (l : List Nat) (e : Nat) : Prop where
  bel : Below w.heap.size w W
  res : W.heap[w.heap.size]? = some (.cells #[.int .i64 0, .int .i64 0, .bool false, .bool false, .int .i64 0, .int .i64 0, .int .i64 0, .int .i64 0, .int .i64 0] 37 (0, 0))
  box : W.heap[pc]? = some (.cells C 37 (0, 0))
  ne : pc ≠ w.heap.size
  rd : Rdr W p N l e

set_option maxHeartbeats 6400000 in
theorem decodeChange_any (x : Option Addr) (n c : Nat) (l : List Nat) (w : World) (hl : Go.Proofs.YtdlajpjigddbhaaGreat.Sl w x n c l) (hn : n ≤ 140737488355328) :
    Calls Tryz.prog 62 #[.slice x n c] w fun ed w' => ed = .returned (.tuple #[vC (decC l).1, .int .i64 (cod (decC l).2)]) ∧ Below w.heap.size w w' := by
  have bA := al w (.cells #[.int .i64 0, .int .i64 0, .bool false, .bool false, .int .i64 0, .int .i64 0, .int .i64 0, .int .i64 0, .int .i64 0] 37)
  have hRd := readR x n c l (w.alloc (.cells #[.int .i64 0, .int .i64 0, .bool false, .bool false, .int .i64 0, .int .i64 0, .int .i64 0, .int .i64 0, .int .i64 0] 37)) (hl.below bA) hn
  have HX := hid (heap_alloc_new w (.cells #[.int .i64 0, .int .i64 0, .bool false, .bool false, .int .i64 0, .int .i64 0, .int .i64 0, .int .i64 0, .int .i64 0] 37))
  obtain ⟨t, l1, e1, U, l2, e2, hq, hu, hDec⟩ := decC_parts l
  have HBA := hid bA
  clear hl hn bA
  have HQ := hid hq
  obtain ⟨o, ho⟩ : ∃ o, o = osdN U := ⟨_, rfl⟩
  rw [← ho] at hDec
  have hCk := fun W => checkChange_any ⟨t, o⟩ W
  have hRo := fun (W : World) (p N : Nat) (h1 : Rdr W p N l1 e1) (h2 : N ≤ W.heap.size) => readOsd_any h1 h2
  rw [hu] at hRo
  dsimp only at hRo
  rw [← ho] at hRo
  generalize mayC ⟨t, o⟩ = tc at *
  have HD := hid hDec
  clear hq hu ho hDec
  obtain ⟨i0, i1, i2, i3, i4, i5, i6, i7⟩ := o
  unfold vC at hCk
  unfold vO at hRo
  dsimp only at hCk hRo
  go_enter Tryz.func62, Tryz.ntmps62
  go_wp2_with (first
    | (
       go_at_call 74; refine hRd.mono ?_; rintro ed w1 ⟨p, rfl, H1⟩; clear hRd
       have hsz : w.heap.size + 1 ≤ p ∧ p < w1.heap.size := ⟨by simpa using H1.out.1, H1.out.2.2.lt⟩
       have bN := al w1 (.cells #[.int .i64 6] 3)
       have hLr := readL_any (H1.out.2.2.below bN) bN.size (ns_one w1 6) (fun a ha e => by injection ha with ha; subst ha; have e2 : w1.heap.size = p := e; omega) (fun t ht => by simp at ht; omega) (by omega)
       rw [HQ.out] at hLr
       dsimp only at hLr
       have HSz := hid hsz
       clear hsz)
    | (
       go_at_call 89; refine hLr.mono ?_; rintro ed w2 ⟨g, rfl, H2⟩; clear hLr))
  rename_i Q' K hKK
  have key : ∀ (pc : Nat) (W : World), DC w W p w1.heap.size pc #[.int .i64 t, .int .i64 i0, .bool i1, .bool i2, .int .i64 i3, .int .i64 i4, .int .i64 i5, .int .i64 i6, .int .i64 i7] l2 e2 → Exit.then K Q' Exit.normal (⟨#[.slice x n c, undef, .pointer (some ⟨w.heap.size, 0, none⟩), .int .i64 0, .pointer (some ⟨p, 0, none⟩), .slice (some ⟨g, 0, none⟩) 1 1, .pointer (some ⟨pc, 0, none⟩), .slice x n c, .pointer (some ⟨p, 0, none⟩), .pointer (some ⟨p, 0, none⟩), .slice (some ⟨w1.heap.size, 0, none⟩) 1 1, .slice (some ⟨g, 0, none⟩) 1 1, .slice (some ⟨g, 0, none⟩) 1 1, .pointer (some ⟨g, 0, none⟩), .int .i64 t, .pointer (some ⟨p, 0, none⟩), .agg #[.int .i64 i0, .bool i1, .bool i2, .int .i64 i3, .int .i64 i4, .int .i64 i5, .int .i64 i6, .int .i64 i7], .agg #[.int .i64 t, .int .i64 i0, .bool i1, .bool i2, .int .i64 i3, .int .i64 i4, .int .i64 i5, .int .i64 i6, .int .i64 i7], undef, undef, undef, undef, undef, undef, undef, undef, undef, undef], []⟩ : Act) W := by
    intro pc W hF
    have hDn := doneR hF.rd
    have hlt : w.heap.size < W.heap.size := (Array.getElem?_eq_some_iff.1 hF.res).1
    have hne := hF.ne
    have B1 := hF.bel
    have r0 : W.cell? ⟨w.heap.size, 0, none⟩ = some (.int .i64 0) := cell_heap hF.res rfl
    have r1 : W.cell? ⟨w.heap.size, 1, none⟩ = some (.int .i64 0) := cell_heap hF.res rfl
    have r2 : W.cell? ⟨w.heap.size, 2, none⟩ = some (.bool false) := cell_heap hF.res rfl
    have r3 : W.cell? ⟨w.heap.size, 3, none⟩ = some (.bool false) := cell_heap hF.res rfl
    have r4 : W.cell? ⟨w.heap.size, 4, none⟩ = some (.int .i64 0) := cell_heap hF.res rfl
    have r5 : W.cell? ⟨w.heap.size, 5, none⟩ = some (.int .i64 0) := cell_heap hF.res rfl
    have r6 : W.cell? ⟨w.heap.size, 6, none⟩ = some (.int .i64 0) := cell_heap hF.res rfl
    have r7 : W.cell? ⟨w.heap.size, 7, none⟩ = some (.int .i64 0) := cell_heap hF.res rfl
    have r8 : W.cell? ⟨w.heap.size, 8, none⟩ = some (.int .i64 0) := cell_heap hF.res rfl
    have f0 := fr_heap hF.res 0
    have f1 := fr_heap hF.res 1
    have f2 := fr_heap hF.res 2
    have f3 := fr_heap hF.res 3
    have f4 := fr_heap hF.res 4
    have f5 := fr_heap hF.res 5
    have f6 := fr_heap hF.res 6
    have f7 := fr_heap hF.res 7
    have f8 := fr_heap hF.res 8
    have k0 : W.cell? ⟨pc, 0, none⟩ = some (.int .i64 t) := cell_heap hF.box rfl
    have k1 : W.cell? ⟨pc, 1, none⟩ = some (.int .i64 i0) := cell_heap hF.box rfl
    have k2 : W.cell? ⟨pc, 2, none⟩ = some (.bool i1) := cell_heap hF.box rfl
    have k3 : W.cell? ⟨pc, 3, none⟩ = some (.bool i2) := cell_heap hF.box rfl
    have k4 : W.cell? ⟨pc, 4, none⟩ = some (.int .i64 i3) := cell_heap hF.box rfl
    have k5 : W.cell? ⟨pc, 5, none⟩ = some (.int .i64 i4) := cell_heap hF.box rfl
    have k6 : W.cell? ⟨pc, 6, none⟩ = some (.int .i64 i5) := cell_heap hF.box rfl
    have k7 : W.cell? ⟨pc, 7, none⟩ = some (.int .i64 i6) := cell_heap hF.box rfl
    have k8 : W.cell? ⟨pc, 8, none⟩ = some (.int .i64 i7) := cell_heap hF.box rfl
    have HF := hid hF
    obtain ⟨D, hDD⟩ : ∃ D, D = rDone l2 e2 := ⟨_, rfl⟩
    rw [← hDD] at hDn HD
    clear hF hDD
    by_cases h0 : D = 0
    · subst h0
      cases tc with
      | false =>
        have hD : decC l = (zCh, false) := by rw [HD.out, if_neg (by simp)]
        have hCf : errB false = 1 := rfl
        rw [hCf] at hCk
        go_wp2_with (first
          | (
             go_at_call 80; refine hDn.mono ?_; rintro ed W1 ⟨rfl, h1⟩; replace h1 := h1.symm; subst h1; clear hDn)
          | (
             go_at_call 54; refine (hCk _).mono ?_; rintro ed W2 ⟨rfl, hb2⟩; clear hCk
             replace r0 := keep hb2 r0
             replace r1 := keep hb2 r1
             replace r2 := keep hb2 r2
             replace r3 := keep hb2 r3
             replace r4 := keep hb2 r4
             replace r5 := keep hb2 r5
             replace r6 := keep hb2 r6
             replace r7 := keep hb2 r7
             replace r8 := keep hb2 r8
             replace f0 := keepf hb2 hlt f0
             replace f1 := keepf hb2 hlt f1
             replace f2 := keepf hb2 hlt f2
             replace f3 := keepf hb2 hlt f3
             replace f4 := keepf hb2 hlt f4
             replace f5 := keepf hb2 hlt f5
             replace f6 := keepf hb2 hlt f6
             replace f7 := keepf hb2 hlt f7
             replace f8 := keepf hb2 hlt f8
             replace k0 := keep hb2 k0
             replace k1 := keep hb2 k1
             replace k2 := keep hb2 k2
             replace k3 := keep hb2 k3
             replace k4 := keep hb2 k4
             replace k5 := keep hb2 k5
             replace k6 := keep hb2 k6
             replace k7 := keep hb2 k7
             replace k8 := keep hb2 k8
             have B2 := on B1 hb2
             replace hlt : w.heap.size < W2.heap.size := cell_lt' r0
             clear hb2))
        refine bodyPost_ret (v := .tuple #[.agg #[.int .i64 0, .int .i64 0, .bool false, .bool false, .int .i64 0, .int .i64 0, .int .i64 0, .int .i64 0, .int .i64 0], .int .i64 5]) ?_ rfl ?_
        · rw [results_cell2 rfl]
          go_simp
        · refine ⟨by rw [hD]; first | rfl | (unfold vC; rfl), ?_⟩
          repeat (first | with_reducible exact B2 | (with_reducible refine Below.setCell ?_ (by first | (simp; done) | (simp; omega) | omega) _) | (with_reducible refine Below.alloc ?_ (by first | (simp; done) | (simp; omega) | omega) _))
      | true =>
        have hD : decC l = (⟨t, ⟨i0, i1, i2, i3, i4, i5, i6, i7⟩⟩, true) := by rw [HD.out, if_pos ⟨rfl, rfl⟩]
        have hCt : errB true = 0 := rfl
        rw [hCt] at hCk
        go_wp2_with (first
          | (
             go_at_call 80; refine hDn.mono ?_; rintro ed W1 ⟨rfl, h1⟩; replace h1 := h1.symm; subst h1; clear hDn)
          | (
             go_at_call 54; refine (hCk _).mono ?_; rintro ed W2 ⟨rfl, hb2⟩; clear hCk
             replace r0 := keep hb2 r0
             replace r1 := keep hb2 r1
             replace r2 := keep hb2 r2
             replace r3 := keep hb2 r3
             replace r4 := keep hb2 r4
             replace r5 := keep hb2 r5
             replace r6 := keep hb2 r6
             replace r7 := keep hb2 r7
             replace r8 := keep hb2 r8
             replace f0 := keepf hb2 hlt f0
             replace f1 := keepf hb2 hlt f1
             replace f2 := keepf hb2 hlt f2
             replace f3 := keepf hb2 hlt f3
             replace f4 := keepf hb2 hlt f4
             replace f5 := keepf hb2 hlt f5
             replace f6 := keepf hb2 hlt f6
             replace f7 := keepf hb2 hlt f7
             replace f8 := keepf hb2 hlt f8
             replace k0 := keep hb2 k0
             replace k1 := keep hb2 k1
             replace k2 := keep hb2 k2
             replace k3 := keep hb2 k3
             replace k4 := keep hb2 k4
             replace k5 := keep hb2 k5
             replace k6 := keep hb2 k6
             replace k7 := keep hb2 k7
             replace k8 := keep hb2 k8
             have B2 := on B1 hb2
             replace hlt : w.heap.size < W2.heap.size := cell_lt' r0
             clear hb2))
        refine bodyPost_ret (v := .tuple #[.agg #[.int .i64 t, .int .i64 i0, .bool i1, .bool i2, .int .i64 i3, .int .i64 i4, .int .i64 i5, .int .i64 i6, .int .i64 i7], .int .i64 0]) ?_ rfl ?_
        · rw [results_cell2 rfl]
          go_simp
        · refine ⟨by rw [hD]; first | rfl | (unfold vC; rfl), ?_⟩
          repeat (first | with_reducible exact B2 | (with_reducible refine Below.setCell ?_ (by first | (simp; done) | (simp; omega) | omega) _) | (with_reducible refine Below.alloc ?_ (by first | (simp; done) | (simp; omega) | omega) _))
    · have hD : decC l = (zCh, false) := by rw [HD.out, if_neg (fun h => h0 h.1)]
      obtain ⟨dI, hdI⟩ : ∃ dI : Int, dI = (D : Int) := ⟨_, rfl⟩
      rw [← hdI] at hDn
      have hd1 : (dI != 0) = true := by simp; omega
      have hd2 : dI ≠ 0 := by omega
      clear hdI
      go_wp2_with (
             go_at_call 80; refine hDn.mono ?_; rintro ed W1 ⟨rfl, h1⟩; replace h1 := h1.symm; subst h1; clear hDn)
      refine bodyPost_ret (v := .tuple #[.agg #[.int .i64 0, .int .i64 0, .bool false, .bool false, .int .i64 0, .int .i64 0, .int .i64 0, .int .i64 0, .int .i64 0], .int .i64 5]) ?_ rfl ?_
      · rw [results_cell2 rfl]
        go_simp
      · refine ⟨by rw [hD]; first | rfl | (unfold vC; rfl), ?_⟩
        repeat (first | with_reducible exact B1 | (with_reducible refine Below.setCell ?_ (by first | (simp; done) | (simp; omega) | omega) _) | (with_reducible refine Below.alloc ?_ (by first | (simp; done) | (simp; omega) | omega) _))
  clear hCk HD
  have HT2 := hid H2.out.1
  obtain ⟨wD, hwD⟩ : ∃ wD, wD = w2.drew := ⟨_, rfl⟩
  have c0 : wD.cell? ⟨g, 0, none⟩ = some (.int .i64 t) := by rw [hwD]; exact H2.out.2.2.1.cell rfl
  have hgp : g ≠ p := by have h5 := H2.out.2.2.2; have h6 := HSz.out; have h7 := (al w1 (.cells #[.int .i64 6] 3)).size; omega
  have TA : Turns (atP p) (w1.alloc (.cells #[.int .i64 6] 3)) wD := by rw [hwD]; exact H2.out.1.drew
  have RD : Rdr wD p w1.heap.size l1 e1 := by
    rw [hwD]
    exact H2.out.2.1.turns (G := fun _ => False) ((Turns.refl _ w2).drew) (fun h => h) (fun _ h => h.elim)
  have hND : w1.heap.size ≤ wD.heap.size := Nat.le_trans (al w1 (.cells #[.int .i64 6] 3)).size TA.size
  have hpD : p < wD.heap.size := RD.lt
  have bel0 : Below w.heap.size w wD := (on HBA.out H1.out.2.1).trans (((al w1 (.cells #[.int .i64 6] 3)).mono (by have := HSz.out; omega)).trans (TA.below (B := w.heap.size) (fun k hk => by have e3 : k = p := hk; have := HSz.out; omega) (by have := HSz.out; simp; omega)))
  have res0 : wD.heap[w.heap.size]? = some (.cells #[.int .i64 0, .int .i64 0, .bool false, .bool false, .int .i64 0, .int .i64 0, .int .i64 0, .int .i64 0, .int .i64 0] 37 (0, 0)) := by
    have h1 := (H1.out.2.1.block _ (Array.getElem?_eq_some_iff.1 HX.out).1).trans HX.out
    have h2 := ((al w1 (.cells #[.int .i64 6] 3)).block _ (Array.getElem?_eq_some_iff.1 h1).1).trans h1
    exact (TA.block _ (Array.getElem?_eq_some_iff.1 h2).1 (fun e => by have e3 : w.heap.size = p := e; have := HSz.out; omega)).trans h2
  have HWD := hid hwD.symm
  have HK := hid (And.intro bel0 (And.intro res0 RD))
  clear hwD bel0 res0 TA RD
  refine wp_region_held_drew (S := fun v => v.cell? ⟨g, 0, none⟩ = some (.int .i64 t)) (by kernel_rfl) (by rw [HWD.out]; exact c0) (fun hHeld => ?_)
  rw [HWD.out] at hHeld ⊢
  refine wpAnyH_take (i := 0) (v := ?_) rfl (by kernel_rfl) (by kernel_rfl) (by kernel_rfl) (fun _ _ _ h => h) (Or.inl ⟨by rfl, ?_⟩) (by assumption) ?_
  case refine_2 => (intro w hSw; (try dsimp only at hSw); go_simp; (try with_reducible rfl))
  (try simp only [Act.put, List.getElem_toArray, List.getElem_cons_succ, List.getElem_cons_zero, List.setIfInBounds_toArray, List.set_cons_zero, List.set_cons_succ])
  refine wpAnyH_take (i := 1) (v := ?_) rfl (by kernel_rfl) (by kernel_rfl) (by kernel_rfl) (fun _ _ _ h => h) (Or.inl ⟨by rfl, ?_⟩) (by assumption) ?_
  case refine_2 => (intro w hSw; (try dsimp only at hSw); go_simp; (try with_reducible rfl))
  (try simp only [Act.put, List.getElem_toArray, List.getElem_cons_succ, List.getElem_cons_zero, List.setIfInBounds_toArray, List.set_cons_zero, List.set_cons_succ])
  refine wpAnyH_take (i := 2) (v := ?_) rfl (by kernel_rfl) (by kernel_rfl) (by kernel_rfl) (fun _ _ _ h => h) (Or.inl ⟨by rfl, ?_⟩) (by assumption) ?_
  case refine_2 => (intro w hSw; (try dsimp only at hSw); go_simp; (try with_reducible rfl))
  (try simp only [Act.put, List.getElem_toArray, List.getElem_cons_succ, List.getElem_cons_zero, List.setIfInBounds_toArray, List.set_cons_zero, List.set_cons_succ])
  refine wpAnyH_take (i := 3) (v := ?_) rfl (by kernel_rfl) (by kernel_rfl) (by kernel_rfl) (fun _ _ _ h => h) (Or.inl ⟨by rfl, ?_⟩) (by assumption) ?_
  case refine_2 => (intro w hSw; (try dsimp only at hSw); go_simp; (try with_reducible rfl))
  (try simp only [Act.put, List.getElem_toArray, List.getElem_cons_succ, List.getElem_cons_zero, List.setIfInBounds_toArray, List.set_cons_zero, List.set_cons_succ])
  refine wpAnyH_ready (rs := [4, 6]) (by kernel_rfl) (by simp) ?_
  refine AllReadyH.cons rfl (fun K hK => ?_) (AllReadyH.cons rfl (fun K hK => ?_) AllReadyH.nil)
  · go_simp
    refine (hRo wD p w1.heap.size HK.out.2.2 hND).mono ?_
    rintro ed w3 ⟨rfl, H3⟩
    have c3 := keept H3.out.1 hgp c0
    have bA := al w3 (.cells #[.int .i64 0, .int .i64 0, .bool false, .bool false, .int .i64 0, .int .i64 0, .int .i64 0, .int .i64 0, .int .i64 0] 37)
    have bF := al w3 (.cells #[.int .i64 t, .int .i64 i0, .bool i1, .bool i2, .int .i64 i3, .int .i64 i4, .int .i64 i5, .int .i64 i6, .int .i64 i7] 37)
    refine hK.out _ _ c3 (fun hHeld => ?_)
    clear hK K
    refine wpAnyH_take (i := 5) (v := ?_) rfl (by kernel_rfl) (by kernel_rfl) (by kernel_rfl) (fun _ _ _ h => h) (Or.inl ⟨by rfl, ?_⟩) (by assumption) ?_
    case refine_2 => (intro w hSw; (try dsimp only at hSw); go_simp; (try with_reducible rfl))
    (try simp only [Act.put, List.getElem_toArray, List.getElem_cons_succ, List.getElem_cons_zero, List.setIfInBounds_toArray, List.set_cons_zero, List.set_cons_succ])
    refine wpAnyH_ready (rs := [6]) (by kernel_rfl) (by simp) ?_
    refine AllReadyH.cons rfl (fun K hK => ?_) AllReadyH.nil
    go_simp
    refine hK.out _ _ (keep bA c3) (fun hHeld => ?_)
    clear hK K
    refine wpAnyH_ready (rs := [7]) (by kernel_rfl) (by simp) ?_
    refine AllReadyH.cons rfl (fun K hK => ?_) AllReadyH.nil
    go_simp
    refine hK.out _ _ (keep bF c3) (fun hHeld => ?_)
    clear hK K
    refine wpAnyH_done (by kernel_rfl) ?_ _
    clear hHeld
    have hp3 : p < w3.heap.size := H3.out.2.lt
    exact key w3.heap.size _ ⟨(HK.out.1.trans (H3.out.1.below (B := w.heap.size) (fun k hk => by have e3 : k = p := hk; have := HSz.out; omega) HK.out.1.size)).trans (bF.mono (by have := HSz.out; omega)), heap_keep bF ((H3.out.1.block _ (Array.getElem?_eq_some_iff.1 HK.out.2.1).1 (fun e => by have e3 : w.heap.size = p := e; have := HSz.out; omega)).trans HK.out.2.1), heap_alloc_new _ _, by have := HSz.out; omega, H3.out.2.below bF⟩
  · go_simp
    have bA := al wD (.cells #[.int .i64 0, .int .i64 0, .bool false, .bool false, .int .i64 0, .int .i64 0, .int .i64 0, .int .i64 0, .int .i64 0] 37)
    have hbx := heap_alloc_new wD (.cells #[.int .i64 0, .int .i64 0, .bool false, .bool false, .int .i64 0, .int .i64 0, .int .i64 0, .int .i64 0, .int .i64 0] 37)
    obtain ⟨wX, hwX⟩ : ∃ wX, wX = wD.alloc (.cells #[.int .i64 0, .int .i64 0, .bool false, .bool false, .int .i64 0, .int .i64 0, .int .i64 0, .int .i64 0, .int .i64 0] 37) := ⟨_, rfl⟩
    rw [← hwX] at bA hbx ⊢
    clear hwX
    have cX := keep bA c0
    refine hK.out _ _ cX (fun hHeld => ?_)
    clear hK K
    refine wpAnyH_ready (rs := [4]) (by kernel_rfl) (by simp) ?_
    refine AllReadyH.cons rfl (fun K hK => ?_) AllReadyH.nil
    go_simp
    refine (hRo wX p w1.heap.size (HK.out.2.2.below bA) (Nat.le_trans hND bA.size)).mono ?_
    rintro ed w3 ⟨rfl, H3⟩
    have c3 := keept H3.out.1 hgp cX
    refine hK.out _ _ c3 (fun hHeld => ?_)
    clear hK K
    refine wpAnyH_take (i := 5) (v := ?_) rfl (by kernel_rfl) (by kernel_rfl) (by kernel_rfl) (fun _ _ _ h => h) (Or.inl ⟨by rfl, ?_⟩) (by assumption) ?_
    case refine_2 => (intro w hSw; (try dsimp only at hSw); go_simp; (try with_reducible rfl))
    (try simp only [Act.put, List.getElem_toArray, List.getElem_cons_succ, List.getElem_cons_zero, List.setIfInBounds_toArray, List.set_cons_zero, List.set_cons_succ])
    have hbx3 : w3.heap[wD.heap.size]? = some (.cells #[.int .i64 0, .int .i64 0, .bool false, .bool false, .int .i64 0, .int .i64 0, .int .i64 0, .int .i64 0, .int .i64 0] 37 (0, 0)) := (H3.out.1.block _ (Array.getElem?_eq_some_iff.1 hbx).1 (fun e => by have e3 : wD.heap.size = p := e; omega)).trans hbx
    have d0 : w3.cell? ⟨wD.heap.size, 0, none⟩ = some (.int .i64 0) := cell_heap hbx3 rfl
    have f0 := fr_heap hbx3 0
    have d1 : w3.cell? ⟨wD.heap.size, 1, none⟩ = some (.int .i64 0) := cell_heap hbx3 rfl
    have f1 := fr_heap hbx3 1
    have d2 : w3.cell? ⟨wD.heap.size, 2, none⟩ = some (.bool false) := cell_heap hbx3 rfl
    have f2 := fr_heap hbx3 2
    have d3 : w3.cell? ⟨wD.heap.size, 3, none⟩ = some (.bool false) := cell_heap hbx3 rfl
    have f3 := fr_heap hbx3 3
    have d4 : w3.cell? ⟨wD.heap.size, 4, none⟩ = some (.int .i64 0) := cell_heap hbx3 rfl
    have f4 := fr_heap hbx3 4
    have d5 : w3.cell? ⟨wD.heap.size, 5, none⟩ = some (.int .i64 0) := cell_heap hbx3 rfl
    have f5 := fr_heap hbx3 5
    have d6 : w3.cell? ⟨wD.heap.size, 6, none⟩ = some (.int .i64 0) := cell_heap hbx3 rfl
    have f6 := fr_heap hbx3 6
    have d7 : w3.cell? ⟨wD.heap.size, 7, none⟩ = some (.int .i64 0) := cell_heap hbx3 rfl
    have f7 := fr_heap hbx3 7
    have d8 : w3.cell? ⟨wD.heap.size, 8, none⟩ = some (.int .i64 0) := cell_heap hbx3 rfl
    have f8 := fr_heap hbx3 8
    have hgD : g ≠ wD.heap.size := by have := cell_lt' c0; have e5 : (⟨g, 0, none⟩ : Addr).block = g := rfl; omega
    have c4 := keept (put9_turns w3 wD.heap.size (.int .i64 t) (.int .i64 i0) (.bool i1) (.bool i2) (.int .i64 i3) (.int .i64 i4) (.int .i64 i5) (.int .i64 i6) (.int .i64 i7)) (fun e => hgD e) c3
    refine wpAnyH_ready (rs := [7]) (by kernel_rfl) (by simp) ?_
    refine AllReadyH.cons rfl (fun K hK => ?_) AllReadyH.nil
    go_simp
    refine hK.out _ _ c4 (fun hHeld => ?_)
    clear hK K
    refine wpAnyH_done (by kernel_rfl) ?_ _
    clear hHeld
    have lwD : w.heap.size < wD.heap.size := (Array.getElem?_eq_some_iff.1 HK.out.2.1).1
    have res3 : w3.heap[w.heap.size]? = some (.cells #[.int .i64 0, .int .i64 0, .bool false, .bool false, .int .i64 0, .int .i64 0, .int .i64 0, .int .i64 0, .int .i64 0] 37 (0, 0)) := (H3.out.1.block _ (by have := bA.size; omega) (fun e => by have e3 : w.heap.size = p := e; have := HSz.out; omega)).trans (heap_keep bA HK.out.2.1)
    have B3 : Below w.heap.size w w3 := (on HK.out.1 bA).trans (H3.out.1.below (B := w.heap.size) (fun k hk => by have e3 : k = p := hk; have := HSz.out; omega) (by have := bA.size; omega))
    have hDC : DC w (put9 w3 wD.heap.size (.int .i64 t) (.int .i64 i0) (.bool i1) (.bool i2) (.int .i64 i3) (.int .i64 i4) (.int .i64 i5) (.int .i64 i6) (.int .i64 i7)) p w1.heap.size wD.heap.size #[.int .i64 t, .int .i64 i0, .bool i1, .bool i2, .int .i64 i3, .int .i64 i4, .int .i64 i5, .int .i64 i6, .int .i64 i7] l2 e2 :=
      ⟨B3.trans ((put9_turns w3 wD.heap.size (.int .i64 t) (.int .i64 i0) (.bool i1) (.bool i2) (.int .i64 i3) (.int .i64 i4) (.int .i64 i5) (.int .i64 i6) (.int .i64 i7)).below (B := w.heap.size) (fun k hk => by have e3 : k = wD.heap.size := hk; omega) B3.size), ((put9_turns w3 wD.heap.size (.int .i64 t) (.int .i64 i0) (.bool i1) (.bool i2) (.int .i64 i3) (.int .i64 i4) (.int .i64 i5) (.int .i64 i6) (.int .i64 i7)).block _ (Array.getElem?_eq_some_iff.1 res3).1 (fun e => by have e3 : w.heap.size = wD.heap.size := e; omega)).trans res3, put9_heap hbx3 (.int .i64 t) (.int .i64 i0) (.bool i1) (.bool i2) (.int .i64 i3) (.int .i64 i4) (.int .i64 i5) (.int .i64 i6) (.int .i64 i7), by omega, H3.out.2.turns (put9_turns w3 wD.heap.size (.int .i64 t) (.int .i64 i0) (.bool i1) (.bool i2) (.int .i64 i3) (.int .i64 i4) (.int .i64 i5) (.int .i64 i6) (.int .i64 i7)) (fun e => by have e3 : p = wD.heap.size := e; omega) (fun k hk => by have e3 : k = wD.heap.size := hk; omega)⟩
    exact key wD.heap.size _ hDC

end Go.Proofs.YtdlajpjigddbhaaGreat.At

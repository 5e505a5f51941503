/-
  Unlike maps, and unlike changes, have unlike bytes.
  Conditions: maps and changes that may be.
-/
import Derived.Test.YtnddhlkdemibgaaJ08
import Derived.Test.YtnddhlkdemibgaaJ03
import Derived.WideShapes
namespace Go.Proofs.Ytnddhlkdemibgaa.At
open Go.RowKit By Fl Wi
set_option linter.unusedVariables false
set_option linter.unusedSimpArgs false
set_option maxRecDepth 100000

theorem uv_split {a b : Nat} {s t : List Nat} (ha : a < 18446744073709551616) (hb : b < 18446744073709551616) (h : uv a ++ s = uv b ++ t) : a = b ∧ s = t := by
  have h1 := lead_uv ha s
  rw [h, lead_uv hb t] at h1
  injection h1 with h1
  injection h1 with h1 h2
  subst h1
  exact ⟨rfl, List.append_cancel_left h⟩

def Okn (l : List Int) : Prop := ∀ v ∈ l, 0 ≤ v ∧ v ≤ 2147483647

theorem wrB_split : ∀ (l k : List Int) (s t : List Nat), Okn l → Okn k → l.length = k.length → wrB l ++ s = wrB k ++ t → l = k ∧ s = t
  | [], [], s, t, _, _, _, h => ⟨rfl, h⟩
  | [], b :: k, _, _, _, _, h, _ => by cases h
  | a :: l, [], _, _, _, _, h, _ => by cases h
  | a :: l, b :: k, s, t, hl, hk, hn, h => by
    have h' : uv a.toNat ++ (wrB l ++ s) = uv b.toNat ++ (wrB k ++ t) := by simpa [wrB, List.append_assoc] using h
    have ha := hl a List.mem_cons_self
    have hb := hk b List.mem_cons_self
    obtain ⟨e1, e2⟩ := uv_split (by omega) (by omega) h'
    obtain ⟨e3, e4⟩ := wrB_split l k s t (fun v hv => hl v (List.mem_cons_of_mem _ hv)) (fun v hv => hk v (List.mem_cons_of_mem _ hv)) (by simpa using hn) e2
    have : a = b := by omega
    subst this e3
    exact ⟨rfl, e4⟩

theorem bitI_inj {a b : Bool} (h : bitI a = bitI b) : a = b := by cases a <;> cases b <;> simp [bitI] at h <;> rfl

theorem partsP_inj {a b : Osd} (h : partsP a = partsP b) : a = b := by
  obtain ⟨a0, a1, a2, a3, a4, a5, a6, a7⟩ := a
  obtain ⟨b0, b1, b2, b3, b4, b5, b6, b7⟩ := b
  simp only [partsP, List.cons.injEq, and_true] at h
  obtain ⟨h0, h1, h2, h3, h4, h5, h6, h7⟩ := h
  rw [h0, bitI_inj h1, bitI_inj h2, h3, h4, h5, h6, h7]

theorem flatP_inj : ∀ (l k : List Osd), l.flatMap partsP = k.flatMap partsP → l.length = k.length → l = k
  | [], [], _, _ => rfl
  | [], b :: k, _, h => by cases h
  | a :: l, [], _, h => by cases h
  | a :: l, b :: k, h, hn => by
    rw [List.flatMap_cons, List.flatMap_cons] at h
    obtain ⟨e1, e2⟩ := List.append_inj h rfl
    rw [partsP_inj e1, flatP_inj l k e2 (by simpa using hn)]

theorem okn_all {m : Mp} (h : mayM m = true) : Okn (m.osds.flatMap partsP) := fun v hv => by
  have := nums_ok h m.osds.length
  rw [List.take_length] at this
  exact this v (List.mem_append_right _ hv)

theorem map_unlike {a b : Mp} (ha : mayM a = true) (hb : mayM b = true) (h : wrB (numsM a) = wrB (numsM b)) : a = b := by
  unfold numsM at h
  rw [wrB_app, wrB_app] at h
  obtain ⟨e1, e2⟩ := wrB_split (headP a) (headP b) _ _ (head_ok ha) (head_ok hb) rfl h
  simp only [headP, List.cons.injEq, and_true] at e1
  obtain ⟨h0, h1, h2, h3, h4, h5⟩ := e1
  have hn : a.osds.length = b.osds.length := by omega
  obtain ⟨e3, _⟩ := wrB_split (a.osds.flatMap partsP) (b.osds.flatMap partsP) [] [] (okn_all ha) (okn_all hb) (by rw [flat_parts_len, flat_parts_len, hn]) (by rw [List.append_nil, List.append_nil]; exact e2)
  have e4 := flatP_inj _ _ e3 hn
  obtain ⟨ea, ⟨a1, a2, a3, a4⟩, la⟩ := a
  obtain ⟨eb, ⟨b1, b2, b3, b4⟩, lb⟩ := b
  simp only at h0 h1 h2 h3 h4 e4
  rw [h0, h1, h2, h3, h4, e4]

theorem change_unlike {c d : Ch} (hc : mayC c = true) (hd : mayC d = true) (h : wrB (numsC c) = wrB (numsC d)) : c = d := by
  have oc := osd_of_kind hc
  have od := osd_of_kind hd
  obtain ⟨e1, _⟩ := wrB_split (numsC c) (numsC d) [] [] (fun v hv => by
    simp only [numsC, List.mem_cons] at hv
    rcases hv with rfl | hv
    · omega
    · exact oc.2 v hv) (fun v hv => by
    simp only [numsC, List.mem_cons] at hv
    rcases hv with rfl | hv
    · omega
    · exact od.2 v hv) rfl (by rw [h])
  simp only [numsC, List.cons.injEq] at e1
  have e2 := partsP_inj e1.2
  obtain ⟨ck, co⟩ := c
  obtain ⟨dk, do'⟩ := d
  simp only at e1 e2
  rw [e1.1, e2]

/- Their bytes as strings. -/
theorem map_text {a b : Mp} (ha : mayM a = true) (hb : mayM b = true) : decide (str (wrB (numsM a)) = str (wrB (numsM b))) = eqM a b := by
  by_cases e : a = b
  · subst e
    rw [(eqM_iff _ _).2 rfl]
    simp
  · have h1 : eqM a b = false := by
      cases h : eqM a b with
      | true => exact absurd ((eqM_iff _ _).1 h) e
      | false => rfl
    rw [h1]
    refine decide_eq_false fun h => e (map_unlike ha hb ?_)
    have := congrArg nat h
    rwa [nat_str (wrB_lt _), nat_str (wrB_lt _)] at this

theorem change_text {c d : Ch} (hc : mayC c = true) (hd : mayC d = true) : decide (str (wrB (numsC c)) = str (wrB (numsC d))) = eqC c d := by
  by_cases e : c = d
  · subst e
    rw [(eqC_iff _ _).2 rfl]
    simp
  · have h1 : eqC c d = false := by
      cases h : eqC c d with
      | true => exact absurd ((eqC_iff _ _).1 h) e
      | false => rfl
    rw [h1]
    refine decide_eq_false fun h => e (change_unlike hc hd ?_)
    have := congrArg nat h
    rwa [nat_str (wrB_lt _), nat_str (wrB_lt _)] at this

theorem eq_change (a b : Ch) (w : World) : (binOp .eql 30 (vC a) (vC b)).run Try.prog w = .ok (.bool (eqC a b)) w := by
  obtain ⟨ak, a0, a1, a2, a3, a4, a5, a6, a7⟩ := a
  obtain ⟨bk, b0, b1, b2, b3, b4, b5, b6, b7⟩ := b
  unfold vC eqC eqO
  dsimp only
  go_simp
  by_cases ek : ak = bk <;> by_cases e0 : a0 = b0 <;> by_cases e1 : a1 = b1 <;> by_cases e2 : a2 = b2 <;> by_cases e3 : a3 = b3 <;> by_cases e4 : a4 = b4 <;> by_cases e5 : a5 = b5 <;> by_cases e6 : a6 = b6 <;> by_cases e7 : a7 = b7 <;> simp [ek, e0, e1, e2, e3, e4, e5, e6, e7]

theorem beq_str (s t : ByteArray) : (s.toList == t.toList) = decide (s = t) := beq_nat _ _ _ ⟨fun h => decide_eq_true (nat_inj h), fun h => by rw [of_decide_eq_true h]⟩

theorem eq_str (s t : ByteArray) (w : World) : (binOp .eql 9 (.string s) (.string t)).run Try.prog w = .ok (.bool (decide (s = t))) w := by
  go_simp
  exact beq_nat _ _ _ ⟨fun h => decide_eq_true (nat_inj h), fun h => by rw [of_decide_eq_true h]⟩

theorem After.conv {w : World} {x : Option Addr} {n c : Nat} {l : List Nat} (h : Go.Proofs.Ytnddhlkdemibgaa.Sl w x n c l) (q : After w) : (convert 52 9 (.slice x n c)).run Try.prog q.W = .ok (.string (str l)) q.W := conv_sl ⟨h.len, h.le, h.nil, (h.below q.h).row, h.lt⟩

theorem okWide_array {P : Program} {w : World} {base : Nat} {t e : TypeId} {k : Nat} {v : Value} (ht : P.underlying t = some (.array k e)) (h : Value.okWide P w .any base t v) : ∃ cs, v = .agg cs ∧ cs.size = P.cellsOf t := by
  simp only [Value.okWide, ht] at h
  obtain ⟨cs, h1, h2, _⟩ := h
  exact ⟨cs, h1, h2⟩

/- The law's own blocks: two maps, two changes. -/
structure FU (w W : World) (pc pd : Nat) (A B C D : Array Value) : Prop where
  bel : Below w.heap.size w W
  a : W.heap[w.heap.size]? = some (.cells A 26 (0, 0))
  b : W.heap[w.heap.size + 1]? = some (.cells B 26 (0, 0))
  c : W.heap[pc]? = some (.cells C 30 (0, 0))
  d : W.heap[pd]? = some (.cells D 30 (0, 0))

theorem heap_keep {w v : World} {b : Nat} {o : Obj} (hb : Below w.heap.size w v) (h : w.heap[b]? = some o) : v.heap[b]? = some o :=
  (hb.block b (Array.getElem?_eq_some_iff.1 h).1).trans h

theorem FU.below {w W W' : World} {pc pd : Nat} {A B C D : Array Value} (h : FU w W pc pd A B C D) (hb : Below W.heap.size W W') : FU w W' pc pd A B C D :=
  ⟨on h.bel hb, heap_keep hb h.a, heap_keep hb h.b, heap_keep hb h.c, heap_keep hb h.d⟩

theorem FU.one (w : World) (A B C D : Array Value) (l : Obj) : FU w (((((w.alloc (.cells A 26)).alloc (.cells B 26)).alloc l).alloc (.cells C 30)).alloc (.cells D 30)).drew (w.heap.size + 1 + 1 + 1) (w.heap.size + 1 + 1 + 1 + 1) A B C D := by
  have a1 := al w (.cells A 26)
  have a2 := al (w.alloc (.cells A 26)) (.cells B 26)
  have h1 := heap_alloc_new w (.cells A 26)
  have h2 := heap_alloc_new (w.alloc (.cells A 26)) (.cells B 26)
  have e1 : (w.alloc (.cells A 26)).heap.size = w.heap.size + 1 := by simp
  generalize w.alloc (.cells A 26) = w1 at *
  have e2 : (w1.alloc (.cells B 26)).heap.size = w.heap.size + 1 + 1 := by simp [e1]
  generalize w1.alloc (.cells B 26) = w2 at *
  have a3 := al w2 l
  have e3 : (w2.alloc l).heap.size = w.heap.size + 1 + 1 + 1 := by simp [e2]
  generalize w2.alloc l = w3 at *
  have a4 := al w3 (.cells C 30)
  have h4 := heap_alloc_new w3 (.cells C 30)
  have e4 : (w3.alloc (.cells C 30)).heap.size = w.heap.size + 1 + 1 + 1 + 1 := by simp [e3]
  generalize w3.alloc (.cells C 30) = w4 at *
  have a5 := (al w4 (.cells D 30)).drew
  have h5 : (w4.alloc (.cells D 30)).drew.heap[w4.heap.size]? = some (.cells D 30 (0, 0)) := heap_alloc_new w4 (.cells D 30)
  generalize (w4.alloc (.cells D 30)).drew = w5 at *
  rw [e1] at h2
  rw [e3] at h4
  rw [e4] at h5
  exact ⟨on (on (on (on a1 a2) a3) a4) a5, heap_keep (on (on (on a2 a3) a4) a5) h1, heap_keep (on (on a3 a4) a5) h2, heap_keep a5 h4, h5⟩

theorem FU.two (w : World) (A B C D : Array Value) (l : Obj) : FU w (((((w.alloc (.cells A 26)).alloc (.cells B 26)).alloc l).alloc (.cells D 30)).alloc (.cells C 30)).drew (w.heap.size + 1 + 1 + 1 + 1) (w.heap.size + 1 + 1 + 1) A B C D :=
  let h := FU.one w A B D C l
  ⟨h.bel, h.a, h.b, h.d, h.c⟩

end Go.Proofs.Ytnddhlkdemibgaa.At

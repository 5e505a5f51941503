/-
  2 texts of this proof, one behind the other: ShRSetP, ShRSet.
-/
import Derived.Test.YtnfflmndejbepaaShOwn
import Derived.Test.YtnfflmndejbepaaJShMayP
import Derived.Deep.Cut
import Derived.Lib.AppendZerosOnto
/-
  The document's set: what its list is round by round.
  Conditions: none.
-/
namespace Go.Proofs.Ytnfflmndejbepaa.Sh
set_option linter.unusedSectionVars false
variable [Inhabited DZ]
open Go.RowKit By Fl
set_option linter.unusedVariables false
set_option linter.unusedSimpArgs false
set_option maxRecDepth 100000

/- k items seen; an item put in ahead of the next one or not; all seen. -/
def SetSt (w1 wr : World) (L : List IV) (nm : ByteArray) (ch : CV) (has : Bool) (k : Nat) (R : Value) (dn : Bool) : Prop :=
  ∃ L', Own wr w1.heap.size 79 4 enI R L' ∧ L'.map pI ++ setT nm (pC ch) dn ((L.drop k).map pI) = setT nm (pC ch) (!has) (L.map pI) ∧ L'.length + (if dn then 0 else 1) ≤ k + 1 ∧ (∀ a ∈ L', a ∈ L ∨ a = ⟨nm, ch⟩) ∧ Below w1.heap.size w1 wr
def MidSt (w1 wr : World) (L : List IV) (nm : ByteArray) (ch : CV) (has : Bool) (k : Nat) (x : IV) (R : Value) (dn : Bool) : Prop :=
  ∃ L', Own wr w1.heap.size 79 4 enI R L' ∧ L'.map pI ++ ((if x.nm = nm then [] else [pI x]) ++ setT nm (pC ch) dn ((L.drop (k + 1)).map pI)) = setT nm (pC ch) (!has) (L.map pI) ∧ L'.length + (if dn then 0 else 1) ≤ k + 1 ∧ (∀ a ∈ L', a ∈ L ∨ a = ⟨nm, ch⟩) ∧ Below w1.heap.size w1 wr
def RSetOk (w1 w' : World) (L : List IV) (nm : ByteArray) (ch : CV) (has : Bool) (R : Value) : Prop :=
  ∃ L', Own w' w1.heap.size 79 4 enI R L' ∧ L'.map pI = setI (L.map pI) nm has (pC ch) ∧ L'.length ≤ L.length + 1 ∧ (∀ a ∈ L', a ∈ L ∨ a = ⟨nm, ch⟩) ∧ Below w1.heap.size w1 w'

section
variable {w1 wr : World} {L : List IV} {nm : ByteArray} {ch : CV} {has dn : Bool} {k : Nat} {x : IV} {R : Value}

theorem drop_at (hx : L[k]? = some x) : L.drop k = x :: L.drop (k + 1) := by
  obtain ⟨h1, rfl⟩ := List.getElem?_eq_some_iff.1 hx
  exact List.drop_eq_getElem_cons h1

theorem SetSt.bel (h : SetSt w1 wr L nm ch has k R dn) : Below w1.heap.size w1 wr := by obtain ⟨_, _, _, _, _, b⟩ := h; exact b
theorem MidSt.bel (h : MidSt w1 wr L nm ch has k x R dn) : Below w1.heap.size w1 wr := by obtain ⟨_, _, _, _, _, b⟩ := h; exact b

theorem SetSt.start (w1 : World) (L : List IV) (nm : ByteArray) (ch : CV) (has : Bool) : SetSt w1 (w1.alloc (.cells #[] 79)) L nm ch has 0 (.slice (some ⟨w1.heap.size, 0, none⟩) 0 0) (!has) :=
  ⟨[], Own.empty w1 (Nat.le_refl _) _ _ _, rfl, by split <;> simp, fun a ha => (by cases ha), al _ _⟩

theorem SetSt.mid (h : SetSt w1 wr L nm ch has k R dn) (hx : L[k]? = some x) (hn : (!dn && isLt nm x.nm) = false) : MidSt w1 wr L nm ch has k x R dn := by
  obtain ⟨L', h1, h2, h3, h4, h5⟩ := h
  refine ⟨L', h1, ?_, h3, h4, h5⟩
  rw [← h2, drop_at hx, List.map_cons]
  show _ = L'.map pI ++ ((if !dn && isLt nm (pI x).nm then [⟨nm, pC ch⟩] else []) ++ ((if (pI x).nm = nm then [] else [pI x]) ++ setT nm (pC ch) (dn || isLt nm (pI x).nm) ((L.drop (k + 1)).map pI)))
  have e : (dn || isLt nm x.nm) = dn := by cases dn <;> simp_all
  have hn' : (!dn && isLt nm (pI x).nm) = false := hn
  have e' : (dn || isLt nm (pI x).nm) = dn := e
  rw [hn', e']
  rfl

/- What a push leaves. -/
theorem push_st {K : List IV} {a : IV} (h1 : Own wr w1.heap.size 79 4 enI R K) (hb : Below w1.heap.size w1 wr) (hs : K.length + 1 ≤ 100000000) :
    ∃ x' n' c' w3, (Builtin.append_ #[22, 22] 22 #[R, .slice (some ⟨wr.heap.size, 0, none⟩) 1 1]).run Try.prog (wr.alloc (.cells #[.string a.nm, .int .i64 a.ch.sz, .slice a.ch.x a.ch.n a.ch.c, .int .u32 a.ch.sum] 79)) = .ok (.slice x' n' c') w3 ∧
      Own w3 w1.heap.size 79 4 enI (.slice x' n' c') (K ++ [a]) ∧ Below w1.heap.size w1 w3 := by
  have b := al wr (.cells #[.string a.nm, .int .i64 a.ch.sz, .slice a.ch.x a.ch.n a.ch.c, .int .u32 a.ch.sum] 79)
  have l := heap_alloc_new wr (.cells #[.string a.nm, .int .i64 a.ch.sz, .slice a.ch.x a.ch.n a.ch.c, .int .u32 a.ch.sum] 79)
  obtain ⟨x', c', w3, hap, H⟩ := push2 (h1.below b) irow (Nat.le_trans hb.size b.size) ⟨wr.heap.size, 0, none⟩ 1 1 [a] rfl (fun j u hj => by
    rw [show ((⟨wr.heap.size, 0, none⟩ : Addr).add j) = ⟨wr.heap.size, j, none⟩ by rw [add_at, Nat.zero_add]]
    exact cell_heap l (by simpa [enI, flat_one] using hj)) hs
  have := hb.size
  exact ⟨x', _, c', w3, hap, H.out.1, (on hb b).trans (H.out.2.1.below (fun q hq => (World.ownsRow.lt h1 q hq).1) (Nat.le_trans hb.size b.size))⟩

theorem SetSt.ins (h : SetSt w1 wr L nm ch has k R false) (hx : L[k]? = some x) (hn : isLt nm x.nm = true) (hs : k < 99999990) :
    ∃ x' n' c' w3, (Builtin.append_ #[22, 22] 22 #[R, .slice (some ⟨wr.heap.size, 0, none⟩) 1 1]).run Try.prog (wr.alloc (.cells #[.string nm, .int .i64 ch.sz, .slice ch.x ch.n ch.c, .int .u32 ch.sum] 79)) = .ok (.slice x' n' c') w3 ∧ Hid (MidSt w1 w3 L nm ch has k x (.slice x' n' c') true) := by
  obtain ⟨L', h1, h2, h3, h4, h5⟩ := h
  simp at h3
  obtain ⟨x', n', c', w3, hap, ho, hb⟩ := push_st (a := ⟨nm, ch⟩) h1 h5 (by omega)
  refine ⟨x', n', c', w3, hap, hid ⟨_, ho, ?_, ?_, fun a ha => ?_, hb⟩⟩
  · rw [← h2, drop_at hx, List.map_cons, List.map_append]
    show _ = L'.map pI ++ ((if !false && isLt nm (pI x).nm then [⟨nm, pC ch⟩] else []) ++ ((if (pI x).nm = nm then [] else [pI x]) ++ setT nm (pC ch) (false || isLt nm (pI x).nm) ((L.drop (k + 1)).map pI)))
    have hn' : isLt nm (pI x).nm = true := hn
    rw [hn', List.append_assoc]
    rfl
  · simp; omega
  · rcases List.mem_append.1 ha with q | q
    · exact h4 a q
    · exact .inr (List.mem_singleton.1 q)

theorem MidSt.skip (h : MidSt w1 wr L nm ch has k x R dn) (hx : x.nm = nm) : SetSt w1 wr L nm ch has (k + 1) R dn := by
  obtain ⟨L', h1, h2, h3, h4, h5⟩ := h
  rw [if_pos hx] at h2
  exact ⟨L', h1, h2, by omega, h4, h5⟩

theorem MidSt.keep (h : MidSt w1 wr L nm ch has k x R dn) (hg : L[k]? = some x) (hx : x.nm ≠ nm) (hs : k < 99999990) :
    ∃ x' n' c' w3, (Builtin.append_ #[22, 22] 22 #[R, .slice (some ⟨wr.heap.size, 0, none⟩) 1 1]).run Try.prog (wr.alloc (.cells #[.string x.nm, .int .i64 x.ch.sz, .slice x.ch.x x.ch.n x.ch.c, .int .u32 x.ch.sum] 79)) = .ok (.slice x' n' c') w3 ∧ Hid (SetSt w1 w3 L nm ch has (k + 1) (.slice x' n' c') dn) := by
  obtain ⟨L', h1, h2, h3, h4, h5⟩ := h
  obtain ⟨x', n', c', w3, hap, ho, hb⟩ := push_st (a := x) h1 h5 (by omega)
  rw [if_neg hx] at h2
  refine ⟨x', n', c', w3, hap, hid ⟨_, ho, ?_, ?_, fun a ha => ?_, hb⟩⟩
  · rw [← h2, List.map_append, List.append_assoc]
    rfl
  · rw [List.length_append, List.length_singleton]; omega
  · rcases List.mem_append.1 ha with q | q
    · exact h4 a q
    · rw [List.mem_singleton.1 q]; exact .inl (List.mem_of_getElem? hg)

theorem SetSt.stop (h : SetSt w1 wr L nm ch has k R true) (hk : k = L.length) : RSetOk w1 wr L nm ch has R := by
  obtain ⟨L', h1, h2, h3, h4, h5⟩ := h
  subst hk
  rw [List.drop_length] at h2
  simp [setT] at h2 h3
  exact ⟨L', h1, h2, by omega, h4, h5⟩

theorem SetSt.last (h : SetSt w1 wr L nm ch has k R false) (hk : k = L.length) (hs : k < 99999990) :
    ∃ x' n' c' w3, (Builtin.append_ #[22, 22] 22 #[R, .slice (some ⟨wr.heap.size, 0, none⟩) 1 1]).run Try.prog (wr.alloc (.cells #[.string nm, .int .i64 ch.sz, .slice ch.x ch.n ch.c, .int .u32 ch.sum] 79)) = .ok (.slice x' n' c') w3 ∧ Hid (RSetOk w1 w3 L nm ch has (.slice x' n' c')) := by
  obtain ⟨L', h1, h2, h3, h4, h5⟩ := h
  simp at h3
  obtain ⟨x', n', c', w3, hap, ho, hb⟩ := push_st (a := ⟨nm, ch⟩) h1 h5 (by omega)
  subst hk
  rw [List.drop_length] at h2
  refine ⟨x', n', c', w3, hap, hid ⟨_, ho, ?_, ?_, fun a ha => ?_, hb⟩⟩
  · unfold setI
    rw [← h2, List.map_append]
    rfl
  · rw [List.length_append, List.length_singleton]; omega
  · rcases List.mem_append.1 ha with q | q
    · exact h4 a q
    · exact .inr (List.mem_singleton.1 q)

theorem SetSt.form (h : SetSt w1 wr L nm ch has k R dn) : ∃ x n c, R = .slice x n c := by
  obtain ⟨L', h1, _⟩ := h
  obtain ⟨x', c', e, _⟩ := h1.form
  exact ⟨_, _, _, e⟩
end

end Go.Proofs.Ytnfflmndejbepaa.Sh

/-
  The document's set.
  Conditions: the items lie in memory, are not too many.
-/
namespace Go.Proofs.Ytnfflmndejbepaa.Sh
set_option linter.unusedSectionVars false
variable [Inhabited DZ]
open Go.RowKit By Fl
set_option linter.unusedVariables false
set_option linter.unusedSimpArgs false
set_option maxRecDepth 100000

def RSets (w : World) (L : List IV) (nm : ByteArray) (ch : CV) (has : Bool) (e : Ending) (w' : World) : Prop :=
  ∃ y cy L', e = .returned (.slice y (L'.length : Nat) cy) ∧ Hid (Own w' w.heap.size 79 4 enI (.slice y L'.length cy) L' ∧ L'.map pI = setI (L.map pI) nm has (pC ch) ∧ L'.length ≤ L.length + 1 ∧ (∀ a ∈ L', a ∈ L ∨ a = ⟨nm, ch⟩) ∧ Below w.heap.size w w')

theorem RSetOk.tell {w w1 w' : World} {L : List IV} {nm : ByteArray} {ch : CV} {has : Bool} {x : Option Addr} {n c : Nat} (h : RSetOk w1 w' L nm ch has (.slice x n c)) (hb : Below w.heap.size w w1) : RSets w L nm ch has (.returned (.slice x n c)) w' := by
  obtain ⟨L', h1, h2, h3, h4, h5⟩ := h
  obtain ⟨x', c', e, _⟩ := h1.form
  injection e with e1 e2 e3
  subst e1 e2 e3
  exact ⟨x, c, L', rfl, hid ⟨⟨h1.1, h1.2.imp id (fun ⟨g, cap, cur, q1, q2, q3⟩ => ⟨g, cap, cur, q1, Nat.le_trans hb.size q2, q3⟩)⟩, h2, h3, h4, on hb h5⟩⟩

set_option maxHeartbeats 6400000 in
theorem rset_any {w : World} {F : Nat → Prop} {x : Option Addr} {n c : Nat} {L : List IV} (nm : ByteArray) (has : Bool) (ch : CV) (h : Is w F x n c L) (hsm : n < 99999990) :
    Calls Try.prog 55 #[.slice x n c, .string nm, .bool has, vC ch] w fun e w' => RSets w L nm ch has e w' := by
  obtain ⟨w1, hw1⟩ : ∃ w1, w1 = w.alloc (.cells #[.int .i64 ch.sz, .slice ch.x ch.n ch.c, .int .u32 ch.sum] 36) := ⟨_, rfl⟩
  have b1 : Below w.heap.size w w1 := by rw [hw1]; exact al _ _
  have g0 : w1.heap[w.heap.size]? = some (.cells #[.int .i64 ch.sz, .slice ch.x ch.n ch.c, .int .u32 ch.sum] 36 (0, 0)) := by rw [hw1]; exact heap_alloc_new _ _
  have HCh : Hid (∀ W, Below w1.heap.size w1 W → W.cell? ⟨w.heap.size, 0, none⟩ = some (.int .i64 ch.sz) ∧ W.cell? ⟨w.heap.size, 1, none⟩ = some (.slice ch.x ch.n ch.c) ∧ W.cell? ⟨w.heap.size, 2, none⟩ = some (.int .u32 ch.sum)) := hid fun W hW => ⟨keep hW (cell_heap g0 rfl), keep hW (cell_heap g0 rfl), keep hW (cell_heap g0 rfl)⟩
  have HB := hid b1
  have HW := hid hw1
  have HI := hid (Is.below h b1)
  have HLn := hid h.len
  have HSt := hid (SetSt.start w1 L nm ch has)
  clear h b1 g0 hw1
  unfold vC
  go_enter Try.func55, Try.ntmps55
  go_upto_region 1 with (fail)
  rw [← HW.out]
  go_wp2_with fail
  generalize w1.alloc (.cells #[] 79) = w2 at *
  go_loopw [9, 10, 11] (fun r d i wr => ∃ (k : Nat) (dn : Bool), k ≤ n ∧ i = .int .i64 k ∧ d = .bool dn ∧ (∃ y m cy, r = .slice y m cy) ∧ Hid (SetSt w1 wr L nm ch has k r dn)) (fun _ _ i _ => n - (intOf i).toNat)
  case atStart => exact ⟨0, !has, by omega, rfl, rfl, ⟨_, _, _, rfl⟩, HSt.out⟩
  case round =>
    clear HSt
    obtain ⟨k, dn, hk, rfl, rfl, ⟨y, m, cy, rfl⟩, HR⟩ := hrel
    by_cases hlt : k < n
    · have hkn : (k : Int) < (n : Int) := by omega
      obtain ⟨ea, hLa, hma⟩ := Lis.some HI.out hlt
      rcases HI.out.row with h0 | ⟨b, o, rfl, hbl, hF, hcell⟩
      · omega
      obtain ⟨r0, r1, r2, r3⟩ := i_at hcell hLa
      have HK : Hid (∀ W, Below w1.heap.size w1 W → W.cell? ⟨b, o + k * 4, none⟩ = some (.string ea.nm) ∧ W.cell? ⟨b, o + k * 4 + 1, none⟩ = some (.int .i64 ea.ch.sz) ∧ W.cell? ⟨b, o + k * 4 + 2, none⟩ = some (.slice ea.ch.x ea.ch.n ea.ch.c) ∧ W.cell? ⟨b, o + k * 4 + 3, none⟩ = some (.int .u32 ea.ch.sum)) := hid fun W hW => ⟨keep hW r0, keep hW r1, keep hW r2, keep hW r3⟩
      have HLa := hid hLa
      have hbw := HR.out.bel
      obtain ⟨k0, k1, k2, k3⟩ := HK.out wr hbw
      obtain ⟨c0, c1, c2⟩ := HCh.out wr hbw
      obtain ⟨t1, ht1⟩ : ∃ t, Op.bytesLess ea.nm.toList nm.toList = t := ⟨_, rfl⟩
      obtain ⟨t2, ht2⟩ : ∃ t, (ea.nm.toList == nm.toList) = t := ⟨_, rfl⟩
      have ht2' : (ea.nm.toList != nm.toList) = !t2 := by rw [← ht2]; rfl
      have HT2 : Hid (t2 = true ↔ ea.nm = nm) := hid (by rw [← ht2, str_eq]; simp)
      have HT1 : Hid (isLt nm ea.nm = !(t1 || t2)) := hid (by
        have := cmp_is ea.nm nm
        rw [ht1, ht2] at this
        unfold lt at this
        unfold isLt
        cases hb : (t1 || t2) <;> cases hc : Na.lessN (Na.nat nm) (Na.nat ea.nm) <;> simp_all)
      have hks : k < 99999990 := by omega
      have HKs := hid hks
      clear hcell hma hLa r0 r1 r2 r3 hF hbl hks
      cases dn with
      | true =>
        cases t2 with
        | false =>
          simp only [Bool.not_true, Bool.not_false] at ht2'
          have HM := hid (HR.out.mid HLa.out (by rfl))
          obtain ⟨y2, m2, d2, w4, hap2, HE⟩ := HM.out.keep HLa.out (fun q => by have := HT2.out.2 q; cases this) HKs.out
          clear hbw 
          go_wp2_with (at_builtin; refine Lib.wpList_append_run _ rfl _ _ _ _ rfl _ _ rfl rfl _ _ hap2 ?_)
          go_roundw
          case rel => exact ⟨k + 1, _, by omega, by go_num, rfl, ⟨_, _, _, rfl⟩, HE.out⟩
          case measure => simp [intOf]; omega
        | true =>
          simp only [Bool.not_true, Bool.not_false] at ht2'
          have HM := hid (HR.out.mid HLa.out (by rfl))
          have HE := hid (HM.out.skip (HT2.out.1 rfl))
          clear hbw 
          go_wp2_with fail
          go_roundw
          case rel => exact ⟨k + 1, _, by omega, by go_num, rfl, ⟨_, _, _, rfl⟩, HE.out⟩
          case measure => simp [intOf]; omega
      | false =>
        cases t2 with
        | true =>
          simp only [Bool.not_true, Bool.not_false] at ht2'
          have e1 : isLt nm ea.nm = false := by rw [HT1.out, Bool.or_true]; rfl
          replace HT1 := hid e1
          clear e1
          have HM := hid (HR.out.mid HLa.out (by rw [HT1.out]; rfl))
          have HE := hid (HM.out.skip (HT2.out.1 rfl))
          clear hbw 
          go_wp2_with fail
          go_roundw
          case rel => exact ⟨k + 1, _, by omega, by go_num, rfl, ⟨_, _, _, rfl⟩, HE.out⟩
          case measure => simp [intOf]; omega
        | false =>
          simp only [Bool.not_true, Bool.not_false] at ht2'
          cases t1 with
          | false =>
            replace HT1 : Hid (isLt nm ea.nm = true) := HT1
            obtain ⟨y1, m1, d1, w3, hap1, H3⟩ := HR.out.ins HLa.out HT1.out HKs.out
            have HM := H3
            have hb3 := H3.out.bel
            obtain ⟨j0, j1, j2, j3⟩ := HK.out w3 hb3
            obtain ⟨y2, m2, d2, w4, hap2, HE⟩ := HM.out.keep HLa.out (fun q => by have := HT2.out.2 q; cases this) HKs.out
            clear hbw hb3 
            go_wp2_with (first | (at_builtin; refine Lib.wpList_append_run _ rfl _ _ _ _ rfl _ _ rfl rfl _ _ hap1 ?_) | (at_builtin; refine Lib.wpList_append_run _ rfl _ _ _ _ rfl _ _ rfl rfl _ _ hap2 ?_))
            go_roundw
            case rel => exact ⟨k + 1, _, by omega, by go_num, rfl, ⟨_, _, _, rfl⟩, HE.out⟩
            case measure => simp [intOf]; omega
          | true =>
            replace HT1 : Hid (isLt nm ea.nm = false) := HT1
            have HM := hid (HR.out.mid HLa.out (by rw [HT1.out]; rfl))
            obtain ⟨y2, m2, d2, w4, hap2, HE⟩ := HM.out.keep HLa.out (fun q => by have := HT2.out.2 q; cases this) HKs.out
            clear hbw 
            go_wp2_with (at_builtin; refine Lib.wpList_append_run _ rfl _ _ _ _ rfl _ _ rfl rfl _ _ hap2 ?_)
            go_roundw
            case rel => exact ⟨k + 1, _, by omega, by go_num, rfl, ⟨_, _, _, rfl⟩, HE.out⟩
            case measure => simp [intOf]; omega
    · have hk2 : n = k := by omega
      subst hk2
      obtain ⟨c0, c1, c2⟩ := HCh.out wr HR.out.bel
      cases dn with
      | true =>
        go_wp2_with fail
        go_ret
        exact (HR.out.stop HLn.out.symm).tell HB.out
      | false =>
        obtain ⟨y1, m1, d1, w3, hap1, H3⟩ := HR.out.last HLn.out.symm hsm
        go_wp2_with (at_builtin; refine Lib.wpList_append_run _ rfl _ _ _ _ rfl _ _ rfl rfl _ _ hap1 ?_)
        go_ret
        exact H3.out.tell HB.out

end Go.Proofs.Ytnfflmndejbepaa.Sh

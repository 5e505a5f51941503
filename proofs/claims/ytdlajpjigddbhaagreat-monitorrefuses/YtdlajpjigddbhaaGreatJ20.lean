/-
  5 texts of this proof, one behind the other: AtFacts, AtMay, AtEnc, AtEncC, AtNew.
-/
import Derived.Test.YtdlajpjigddbhaaGreatJ17
import Derived.Test.YtdlajpjigddbhaaGreatJ19
import Derived.Test.YtdlajpjigddbhaaGreatJ07
import Derived.Test.YtdlajpjigddbhaaGreatJ18
import Derived.Test.YtdlajpjigddbhaaGreatJ16
/-
  A map that may be is followed by one that may be.
  Conditions: none.
-/
namespace Go.Proofs.YtdlajpjigddbhaaGreat.At
open Go.RowKit By Fl
set_option linter.unusedVariables false
set_option linter.unusedSimpArgs false
set_option maxRecDepth 100000

theorem good_pw (L : List Osd) : Good L ↔ (∀ a ∈ L, osdB a = true) ∧ L.Pairwise (fun b a => lowB a b = true) := by
  rw [List.pairwise_iff_getElem]
  constructor
  · intro h
    refine ⟨fun a ha => ?_, fun i j hi hj hij => ?_⟩
    · obtain ⟨k, hk⟩ := List.mem_iff_getElem?.1 ha
      exact (h k a hk).1
    · exact (h j L[j] (List.getElem?_eq_getElem hj)).2 i L[i] hij (List.getElem?_eq_getElem hi)
  · rintro ⟨h1, h2⟩ i a hi
    obtain ⟨hl, e⟩ := List.getElem?_eq_some_iff.1 hi
    refine ⟨h1 a (List.mem_of_getElem? hi), fun k b hk hb => ?_⟩
    obtain ⟨hl2, e2⟩ := List.getElem?_eq_some_iff.1 hb
    have := h2 k i hl2 hl hk
    rw [e, e2] at this
    exact this

theorem good_ins {L : List Osd} {o : Osd} (h : Good L) (ho : osdB o = true) (hno : L.findIdx? (isId o.id) = none) : goodB (ins o L) = !movedB L o := by
  have hne : ∀ a ∈ L, a.id ≠ o.id := fun a ha e => by
    obtain ⟨k, hk⟩ := List.mem_iff_getElem?.1 ha
    have := idx_none hno k a hk
    unfold isId at this
    simp [e] at this
  rw [ins_at]
  have hlow : ∀ a ∈ L.take (inAt o L), a.id < o.id := fun a ha => by
    obtain ⟨k, hk⟩ := List.mem_iff_getElem?.1 ha
    rw [List.getElem?_take] at hk
    split at hk
    · rename_i hki
      have hov : overId o.id a = false := by
        unfold inAt at hki
        cases hq : L.findIdx? (overId o.id) with
        | none => exact idx_none hq k a hk
        | some q =>
          rw [hq] at hki
          obtain ⟨_, _, _, h4⟩ := idx_some hq
          exact h4 k a hki hk
      unfold overId at hov
      simp at hov
      have := hne a (List.mem_of_getElem? hk)
      omega
    · cases hk
  have hhigh : ∀ b ∈ L.drop (inAt o L), o.id < b.id := fun b hb => by
    obtain ⟨k, hk⟩ := List.mem_iff_getElem?.1 hb
    rw [List.getElem?_drop] at hk
    unfold inAt at hk
    cases hq : L.findIdx? (overId o.id) with
    | none =>
      rw [hq] at hk
      have := (List.getElem?_eq_some_iff.1 hk).1
      simp only [] at this
      omega
    | some q =>
      rw [hq] at hk
      obtain ⟨a, ha, h3, _⟩ := idx_some hq
      unfold overId at h3
      simp at h3
      by_cases hk0 : k = 0
      · subst hk0
        have := Option.some.inj (ha.symm.trans hk)
        subst this
        exact h3
      · have := ((lowB_iff _ _).1 ((h (q + k) b hk).2 q a (by omega) ha)).1
        omega
  have hmem : ∀ a, a ∈ L.take (inAt o L) ∨ a ∈ L.drop (inAt o L) ↔ a ∈ L := fun a => by
    rw [← List.mem_append, List.take_append_drop]
  obtain ⟨h1, h2⟩ := (good_pw L).1 h
  cases hmv : movedB L o with
  | true =>
    obtain ⟨x, hx, e1, e2⟩ := (moved_iff L o).1 hmv
    show goodB _ = false
    cases hg : goodB (L.take (inAt o L) ++ o :: L.drop (inAt o L)) with
    | false => rfl
    | true =>
      obtain ⟨_, g2⟩ := (good_pw _).1 ((goodB_iff _).1 hg)
      rw [List.pairwise_append, List.pairwise_cons] at g2
      rcases (hmem x).2 hx with q | q
      · exact absurd (((lowB_iff _ _).1 (g2.2.2 x q o List.mem_cons_self)).2 e1) e2
      · exact absurd (((lowB_iff _ _).1 (g2.2.1.1 x q)).2 e1.symm) (fun e => e2 e.symm)
  | false =>
    have hm := (moved_no L o).1 hmv
    show goodB _ = true
    rw [goodB_iff, good_pw]
    have h2' := h2
    rw [← List.take_append_drop (inAt o L) L, List.pairwise_append] at h2'
    refine ⟨fun a ha => ?_, ?_⟩
    · rw [List.mem_append, List.mem_cons] at ha
      rcases ha with q | q | q
      · exact h1 a ((hmem a).1 (.inl q))
      · rw [q]; exact ho
      · exact h1 a ((hmem a).1 (.inr q))
    · rw [List.pairwise_append, List.pairwise_cons]
      refine ⟨h2'.1, ⟨fun b hb => (lowB_iff _ _).2 ⟨hhigh b hb, fun e => (hm b ((hmem b).1 (.inr hb)) e.symm).symm⟩, h2'.2.1⟩, fun a ha b hb => ?_⟩
      rw [List.mem_cons] at hb
      rcases hb with q | q
      · rw [q]
        exact (lowB_iff _ _).2 ⟨hlow a ha, hm a ((hmem a).1 (.inl ha))⟩
      · exact h2'.2.2 a ha b q

theorem good_set {L : List Osd} {k : Nat} {x y : Osd} (h : Good L) (hx : L[k]? = some x) (e1 : y.id = x.id) (e2 : y.host = x.host) (e3 : y.rack = x.rack) (ho : osdB y = true) : Good (L.set k y) := by
  have key : ∀ (i : Nat) (a : Osd), (L.set k y)[i]? = some a → ∃ a', L[i]? = some a' ∧ a.id = a'.id ∧ a.host = a'.host ∧ a.rack = a'.rack ∧ osdB a = true := fun i a ha => by
    rw [List.getElem?_set] at ha
    split at ha
    · rename_i e
      subst e
      split at ha
      · injection ha with ha
        subst ha
        exact ⟨x, hx, e1, e2, e3, ho⟩
      · cases ha
    · exact ⟨a, ha, rfl, rfl, rfl, (h i a ha).1⟩
  intro i a ha
  obtain ⟨a', h1, h2, h3, h4, h5⟩ := key i a ha
  refine ⟨h5, fun j b hj hb => ?_⟩
  obtain ⟨b', g1, g2, g3, g4, g5⟩ := key j b hb
  have := (lowB_iff _ _).1 ((h i a' h1).2 j b' hj g1)
  rw [lowB_iff, h2, h3, h4, g2, g3, g4]
  exact this

theorem osd_parts {o : Osd} (h : osdB o = true) : (0 ≤ o.id ∧ o.id ≤ 999) ∧ (0 ≤ o.host ∧ o.host ≤ 999) ∧ (0 ≤ o.rack ∧ o.rack ≤ 999) ∧ (0 ≤ o.wt ∧ o.wt ≤ 16777216) ∧ (least o.up ≤ o.life ∧ o.life ≤ 2147483647) ∧ (least o.up ≤ o.boot ∧ o.boot ≤ 2147483647) := by
  unfold osdB at h
  simp only [Bool.and_eq_true, wi_iff, and_assoc] at h
  simp only [and_assoc]
  exact h

theorem osd_mk {o : Osd} (h : (0 ≤ o.id ∧ o.id ≤ 999) ∧ (0 ≤ o.host ∧ o.host ≤ 999) ∧ (0 ≤ o.rack ∧ o.rack ≤ 999) ∧ (0 ≤ o.wt ∧ o.wt ≤ 16777216) ∧ (least o.up ≤ o.life ∧ o.life ≤ 2147483647) ∧ (least o.up ≤ o.boot ∧ o.boot ≤ 2147483647)) : osdB o = true := by
  unfold osdB
  simp only [Bool.and_eq_true, wi_iff, and_assoc]
  simp only [and_assoc] at h
  exact h

theorem byK_same (k : Int) (o x : Osd) : (byK k o x).id = x.id ∧ (byK k o x).host = x.host ∧ (byK k o x).rack = x.rack := by
  unfold byK
  repeat' split
  all_goals exact ⟨rfl, rfl, rfl⟩

theorem byK_may {k : Int} {o x : Osd} (h1 : k ≠ 1) (hm : mayK k o = true) (hx : osdB x = true) : osdB (byK k o x) = true := by
  obtain ⟨p1, p2, p3, p4, p5, p6⟩ := osd_parts hx
  have hl : least x.up ≤ 1 ∧ 0 ≤ least x.up := by unfold least; split <;> omega
  unfold mayK at hm
  rw [if_neg h1] at hm
  unfold byK
  by_cases e2 : k = 2
  · rw [if_pos e2] at hm ⊢
    unfold upB at hm
    simp only [Bool.and_eq_true, wi_iff] at hm
    refine osd_mk ⟨p1, p2, p3, p4, ?_, ?_⟩
    · exact hm.2.1.2
    · exact hm.2.2
  · rw [if_neg e2] at hm ⊢
    by_cases e3 : k = 3
    · rw [if_pos e3]
      refine osd_mk ⟨p1, p2, p3, p4, ?_, ?_⟩
      · show least false ≤ x.life ∧ x.life ≤ 2147483647
        have : least false = 0 := rfl
        rw [this]
        omega
      · show least false ≤ x.boot ∧ x.boot ≤ 2147483647
        have : least false = 0 := rfl
        rw [this]
        omega
    · rw [if_neg e3]
      by_cases e4 : k = 4
      · rw [if_pos e4]
        exact osd_mk ⟨p1, p2, p3, p4, p5, p6⟩
      · rw [if_neg e4]
        by_cases e5 : k = 5
        · rw [if_pos e5]
          exact osd_mk ⟨p1, p2, p3, p4, p5, p6⟩
        · rw [if_neg e5]
          by_cases e6 : k = 6
          · rw [if_pos e6] at hm
            unfold wtB at hm
            simp only [Bool.and_eq_true, wi_iff] at hm
            exact osd_mk ⟨p1, p2, p3, hm.2.2, p5, p6⟩
          · rw [if_neg e6] at hm
            unfold idB at hm
            simp only [Bool.and_eq_true, eqO_iff] at hm
            refine osd_mk ⟨p1, p2, p3, ?_, p5, p6⟩
            show 0 ≤ o.wt ∧ _
            rw [hm.1]
            show (0 : Int) ≤ 0 ∧ (0 : Int) ≤ 16777216
            omega

theorem may_parts {m : Mp} (h : mayM m = true) : (0 ≤ m.ep ∧ m.ep ≤ 1048576) ∧ poolB m.pool = true ∧ m.osds.length ≤ 64 ∧ Good m.osds := by
  unfold mayM osdsB at h
  simp only [Bool.and_eq_true, wi_iff, decide_eq_true_eq, goodB_iff] at h
  exact ⟨h.1.1, h.1.2, h.2.1, h.2.2⟩

theorem may_mk {m : Mp} (h : (0 ≤ m.ep ∧ m.ep ≤ 1048576) ∧ poolB m.pool = true ∧ m.osds.length ≤ 64 ∧ Good m.osds) : mayM m = true := by
  unfold mayM osdsB
  simp only [Bool.and_eq_true, wi_iff, decide_eq_true_eq, goodB_iff]
  exact ⟨⟨h.1, h.2.1⟩, h.2.2.1, h.2.2.2⟩

theorem adv_may {m : Mp} {c : Ch} (h : mayM m = true) (h0 : (advP m c).1 = 0) : mayM (advP m c).2 = true ∧ (advP m c).2.ep = m.ep + 1 := by
  obtain ⟨p1, p2, p3, p4⟩ := may_parts h
  unfold advP at h0 ⊢
  by_cases hno : mayC c = false ∨ m.ep = 1048576
  · rw [if_pos hno] at h0
    cases h0
  · rw [if_neg hno] at h0 ⊢
    have he : m.ep ≠ 1048576 := fun e => hno (.inr e)
    have hc : mayC c = true := by
      cases hq : mayC c with
      | true => rfl
      | false => exact absurd (.inl hq) hno
    by_cases hd : (doP c.kind m.osds c.osd).1 = 0
    · rw [if_pos hd]
      refine ⟨may_mk ⟨⟨by show 0 ≤ m.ep + 1; omega, by show m.ep + 1 ≤ 1048576; omega⟩, p2, ?_⟩, rfl⟩
      unfold mayC at hc
      simp only [Bool.and_eq_true] at hc
      unfold doP at hd ⊢
      by_cases hk : c.kind = 1
      · rw [if_pos hk] at hd ⊢
        have hm := hc.2
        rw [hk] at hm
        unfold mayK at hm
        rw [if_pos rfl] at hm
        unfold addP at hd ⊢
        cases hf : m.osds.findIdx? (isId c.osd.id) with
        | some q => simp [hf] at hd
        | none =>
          rw [hf] at hd
          by_cases h64 : 64 ≤ m.osds.length
          · simp [h64] at hd
          · cases hmv : movedB m.osds c.osd with
            | true => simp [h64, hmv] at hd
            | false =>
              simp only [Option.isSome_none, Bool.false_eq_true, if_false, h64]
              refine ⟨?_, ?_⟩
              · show (ins c.osd m.osds).length ≤ 64
                rw [ins_at]
                simp
                have := inAt_le c.osd m.osds
                omega
              · show Good (ins c.osd m.osds)
                have := good_ins p4 hm hf
                rw [hmv] at this
                exact (goodB_iff _).1 this
      · rw [if_neg hk] at hd ⊢
        rw [turnP_len]
        refine ⟨p3, ?_⟩
        unfold turnP at hd ⊢
        cases hf : m.osds.findIdx? (isId c.osd.id) with
        | none => simp [hf] at hd
        | some q =>
          obtain ⟨x, hx, _, _⟩ := idx_some hf
          rw [hf] at hd
          simp only [hx] at hd ⊢
          by_cases hq : eqO (byK c.kind c.osd x) x = true
          · simp [hq] at hd
          · simp only [hq]
            obtain ⟨s1, s2, s3⟩ := byK_same c.kind c.osd x
            exact good_set p4 hx s1 s2 s3 (byK_may hk hc.2 (p4 q x hx).1)
    · rw [if_neg hd] at h0
      exact absurd h0 hd

def applyP (m : Mp) (c : Ch) : Int × Mp := if mayM m = true then (if (advP m c).1 = 0 then advP m c else ((advP m c).1, noM)) else (1, noM)

end Go.Proofs.YtdlajpjigddbhaaGreat.At

/-
  Package atlas: which lists of OSDs and which maps may be.
  Conditions: the list lies in memory.
-/
namespace Go.Proofs.YtdlajpjigddbhaaGreat.At
open Go.RowKit By Fl
set_option linter.unusedVariables false
set_option linter.unusedSimpArgs false
set_option maxRecDepth 100000

/- All ahead of k are as they should be. -/
def GoodTo (L : List Osd) (k : Nat) : Prop := ∀ (i : Nat) (a : Osd), i < k → L[i]? = some a → osdB a = true ∧ ∀ (j : Nat) (b : Osd), j < i → L[j]? = some b → lowB a b = true

theorem GoodTo.all {L : List Osd} (h : GoodTo L L.length) : goodB L = true := (goodB_iff L).2 fun i a ha => h i a (List.getElem?_eq_some_iff.1 ha).1 ha

theorem GoodTo.step {L : List Osd} {k : Nat} {a : Osd} (h : GoodTo L k) (ha : L[k]? = some a) (h1 : osdB a = true) (h2 : ∀ b, 0 < k → L[k - 1]? = some b → b.id < a.id) (h3 : movedB (L.take k) a = false) : GoodTo L (k + 1) := fun i c hi hc => by
  by_cases e : i = k
  · subst e
    have := Option.some.inj (ha.symm.trans hc)
    subst this
    refine ⟨h1, fun j b hj hb => (lowB_iff _ _).2 ⟨?_, ?_⟩⟩
    · have hlt := (List.getElem?_eq_some_iff.1 ha).1
      have hl : L[i - 1]? = some (L[i - 1]'(by omega)) := List.getElem?_eq_getElem _
      have hx := h2 _ (by omega) hl
      by_cases ej : j = i - 1
      · subst ej
        rw [hl] at hb
        injection hb with hb
        rw [← hb]
        exact hx
      · have := ((lowB_iff _ _).1 ((h (i - 1) _ (by omega) hl).2 j b (by omega) hb)).1
        omega
    · exact (moved_no _ _).1 h3 b (by
        rw [List.mem_iff_getElem?]
        exact ⟨j, by rw [List.getElem?_take, if_pos hj]; exact hb⟩)
  · exact h i c (by omega) hc

theorem bad_low {L : List Osd} {k : Nat} {a b : Osd} (ha : L[k + 1]? = some a) (hb : L[k]? = some b) (h : a.id ≤ b.id) : goodB L = false :=
  goodB_false ha (.inr ⟨k, b, by omega, hb, by
    cases hl : lowB a b with
    | false => rfl
    | true => have := ((lowB_iff _ _).1 hl).1; omega⟩)

theorem bad_moved {L : List Osd} {k : Nat} {a : Osd} (ha : L[k]? = some a) (h : movedB (L.take k) a = true) : goodB L = false := by
  obtain ⟨x, hx, h1, h2⟩ := (moved_iff _ _).1 h
  obtain ⟨j, hj⟩ := List.mem_iff_getElem?.1 hx
  rw [List.getElem?_take] at hj
  split at hj
  · rename_i hjk
    exact goodB_false ha (.inr ⟨j, x, hjk, hj, by
      cases hl : lowB a x with
      | false => rfl
      | true => exact absurd (((lowB_iff _ _).1 hl).2 h1) h2⟩)
  · cases hj

set_option maxHeartbeats 1600000 in
theorem osdsMay_any {w : World} {x : Option Addr} {n c : Nat} {L : List Osd} (h : Os w x n c L) :
    Calls Tryz.prog 126 #[.slice x n c] w fun e w' => e = .returned (.bool (osdsB L)) ∧ Below w.heap.size w w' := by
  have hm := h.small
  have hlen := h.len
  unfold osdsB
  rw [hlen]
  by_cases h64 : 64 < n
  · have i64 : (64 : Int) < (n : Int) := by omega
    go_enter Tryz.func126, Tryz.ntmps126
    go_wp2_with fail
    go_ret
    exact ⟨by rw [decide_eq_false (by omega)]; rfl, Below.refl _ _⟩
  have i64 : (n : Int) ≤ 64 := by omega
  rw [decide_eq_true (by omega), Bool.true_and]
  have HO : Hid (Os w x n c L) := h
  have HL : Hid (L.length = n) := hlen
  clear h hlen hm h64
  go_enter Tryz.func126, Tryz.ntmps126
  go_wp2_with fail
  go_loopw [10, 3, 4] (fun i _ _ wr => ∃ k : Nat, k ≤ n ∧ i = .int .i64 k ∧ Hid (Below w.heap.size w wr ∧ GoodTo L k)) (fun i _ _ _ => n - (intOf i).toNat)
  case atStart => exact ⟨0, by omega, rfl, Below.refl _ _, fun i a hi => by omega⟩
  case round =>
    obtain ⟨k, hk, rfl, HR⟩ := hrel
    by_cases hlt : k < n
    · have hkn : (k : Int) < (n : Int) := by omega
      obtain ⟨m, hLm⟩ : ∃ m, L[k]? = some m := ⟨L[k]'(by have := HL.out; omega), List.getElem?_eq_getElem (by have := HL.out; omega)⟩
      have ho := HO.out.below HR.out.1
      have hO := osdMay_any m
      have hM := fun (p : After (wr.alloc (.cells #[.int .i64 m.id, .bool m.up, .bool m.inn, .int .i64 m.wt, .int .i64 m.life, .int .i64 m.boot, .int .i64 m.host, .int .i64 m.rack] 35))) => moved_any m ((ho.take hk).below (on (al _ _) p.h))
      obtain ⟨tm, htm⟩ : ∃ t, t = movedB (L.take k) m := ⟨_, rfl⟩
      obtain ⟨tq, hto⟩ : ∃ t, t = osdB m := ⟨_, rfl⟩
      rw [← htm] at hM
      rw [← hto] at hO
      have HM : Hid (L[k]? = some m ∧ tm = movedB (L.take k) m ∧ tq = osdB m) := ⟨hLm, htm, hto⟩
      rcases ho.row with h0 | ⟨b, o, rfl, hbl, hcell⟩
      · omega
      obtain ⟨k0, k1, k2, k3, k4, k5, k6, k7⟩ := Os.at (n := n) (c := c) hcell hLm
      have HC := hid hcell
      clear ho hLm hcell htm hto
      have HB : Hid (∀ b, 0 < k → L[k - 1]? = some b → True) := fun _ _ _ => trivial
      obtain ⟨id, up, inn, wt, life, boot, host, rack⟩ := m
      unfold vO at hO hM
      dsimp only at k0 k1 k2 k3 k4 k5 k6 k7 hO hM
      have b0 := al wr (.cells #[.int .i64 id, .bool up, .bool inn, .int .i64 wt, .int .i64 life, .int .i64 boot, .int .i64 host, .int .i64 rack] 35)
      obtain ⟨w0, hw0⟩ : ∃ w0, w0 = wr.alloc (.cells #[.int .i64 id, .bool up, .bool inn, .int .i64 wt, .int .i64 life, .int .i64 boot, .int .i64 host, .int .i64 rack] 35) := ⟨_, rfl⟩
      have c0 : w0.cell? ⟨wr.heap.size, 0, none⟩ = some (.int .i64 id) := by rw [hw0]; go_simp
      have c1 : w0.cell? ⟨wr.heap.size, 1, none⟩ = some (.bool up) := by rw [hw0]; go_simp
      have c2 : w0.cell? ⟨wr.heap.size, 2, none⟩ = some (.bool inn) := by rw [hw0]; go_simp
      have c3 : w0.cell? ⟨wr.heap.size, 3, none⟩ = some (.int .i64 wt) := by rw [hw0]; go_simp
      have c4 : w0.cell? ⟨wr.heap.size, 4, none⟩ = some (.int .i64 life) := by rw [hw0]; go_simp
      have c5 : w0.cell? ⟨wr.heap.size, 5, none⟩ = some (.int .i64 boot) := by rw [hw0]; go_simp
      have c6 : w0.cell? ⟨wr.heap.size, 6, none⟩ = some (.int .i64 host) := by rw [hw0]; go_simp
      have c7 : w0.cell? ⟨wr.heap.size, 7, none⟩ = some (.int .i64 rack) := by rw [hw0]; go_simp
      have HW := hid hw0
      rw [← hw0] at hM b0
      have B0 : Hid (Below w.heap.size w w0) := on HR.out.1 b0
      have q0 := After.cell c0
      have q1 := After.cell c1
      have q2 := After.cell c2
      have q3 := After.cell c3
      have q4 := After.cell c4
      have q5 := After.cell c5
      have q6 := After.cell c6
      have q7 := After.cell c7
      have HP : Hid (∀ (q : Nat) (a : Osd), L[q]? = some a → w0.cell? ⟨b, o + q * 8, none⟩ = some (.int .i64 a.id)) := fun q a ha => keep b0 (HC.out q a ha 0 _ rfl)
      clear hw0 c0 c1 c2 c3 c4 c5 c6 c7 b0 HC HB
      haveI := After.ne w0
      go_wp2_with fail
      rw [← HW.out]
      clear k0 k1 k2 k3 k4 k5 k6 k7
      cases tq with
      | false =>
        clear hM
        refine wp_region_after (by kernel_rfl) (by kernel_rfl) ?_
        repeat (go_big_quiet_step ((first | (go_at_call 96; refine Calls.after_of (hO _)) | (go_at_call 129; refine Calls.after_of (hM _)))))
        refine wpQuiet_nil ?_
        rintro _ ⟨p, rfl⟩
        go_wp2_with fail
        go_ret
        exact ⟨by rw [goodB_false HM.out.1 (.inl HM.out.2.2.symm)]; rfl, on B0.out p.h⟩
      | true =>
        by_cases hk0 : k = 0
        · have hn0 : decide (0 < k) = false := by simp; omega
          have htm : tm = false := by rw [HM.out.2.1, hk0]; rfl
          subst htm
          have HK := hid hk0
          have hkc : (k : Int) ≤ (c : Int) := by have := HO.out.le; omega
          clear hk0
          refine wp_region_after (by kernel_rfl) (by kernel_rfl) ?_
          repeat (go_big_quiet_step ((first | (go_at_call 96; refine Calls.after_of (hO _)) | (go_at_call 129; refine Calls.after_of (hM _)))))
          refine wpQuiet_nil ?_
          rintro _ ⟨p, rfl⟩
          go_wp2_with fail
          go_roundw
          case rel =>
            exact ⟨k + 1, by omega, by go_num, on B0.out p.h, HR.out.2.step HM.out.1 HM.out.2.2.symm (fun b hb => by have := HK.out; omega) HM.out.2.1.symm⟩
          case measure => simp [intOf]; omega
        · obtain ⟨q, rfl⟩ : ∃ q, k = q + 1 := ⟨k - 1, by omega⟩
          obtain ⟨m2, hm2⟩ : ∃ m, L[q]? = some m := ⟨L[q]'(by have := HL.out; omega), List.getElem?_eq_getElem (by have := HL.out; omega)⟩
          have r0 := After.cell (HP.out q m2 hm2)
          have HM2 := hid hm2
          have hkc : ((q + 1 : Nat) : Int) ≤ (c : Int) := by have := HO.out.le; omega
          have sub1 : ((q + 1 : Nat) : Int) - 1 = (q : Int) := by omega
          have hq0 : (0 : Int) < ((q + 1 : Nat) : Int) := by omega
          have hqn : (q : Int) < (n : Int) := by omega
          obtain ⟨id2, hid2⟩ : ∃ i, i = m2.id := ⟨_, rfl⟩
          rw [← hid2] at r0
          have HI := hid hid2
          clear hid2 hm2 hk0
          by_cases hle : id ≤ id2
          · clear hM
            refine wp_region_after (by kernel_rfl) (by kernel_rfl) ?_
            repeat (go_big_quiet_step ((first | (go_at_call 96; refine Calls.after_of (hO _)) | (go_at_call 129; refine Calls.after_of (hM _)))))
            refine wpQuiet_nil ?_
            rintro _ ⟨p, rfl⟩
            go_wp2_with fail
            go_ret
            exact ⟨by rw [bad_low HM.out.1 HM2.out (by rw [← HI.out]; exact hle)]; rfl, on B0.out p.h⟩
          · cases tm with
            | true =>
              refine wp_region_after (by kernel_rfl) (by kernel_rfl) ?_
              repeat (go_big_quiet_step ((first | (go_at_call 96; refine Calls.after_of (hO _)) | (go_at_call 129; refine Calls.after_of (hM _)))))
              refine wpQuiet_nil ?_
              rintro _ ⟨p, rfl⟩
              go_wp2_with fail
              go_ret
              exact ⟨by rw [bad_moved HM.out.1 HM.out.2.1.symm]; rfl, on B0.out p.h⟩
            | false =>
              refine wp_region_after (by kernel_rfl) (by kernel_rfl) ?_
              repeat (go_big_quiet_step ((first | (go_at_call 96; refine Calls.after_of (hO _)) | (go_at_call 129; refine Calls.after_of (hM _)))))
              refine wpQuiet_nil ?_
              rintro _ ⟨p, rfl⟩
              go_wp2_with fail
              go_roundw
              case rel =>
                refine ⟨q + 1 + 1, by omega, by go_num, on B0.out p.h, HR.out.2.step HM.out.1 HM.out.2.2.symm (fun b hb hbb => ?_) HM.out.2.1.symm⟩
                have := Option.some.inj (HM2.out.symm.trans hbb)
                have h3 := HI.out
                rw [this] at h3
                show b.id < id
                omega
              case measure => simp [intOf]; omega
    · have hk2 : k = n := by omega
      subst hk2
      go_wp2_with fail
      go_ret
      exact ⟨by rw [GoodTo.all (by rw [HL.out]; exact HR.out.2)]; rfl, HR.out.1⟩

theorem check_any {w : World} {x : Option Addr} {n c : Nat} (m : Mp) (h : Os w x n c m.osds) (hk : m.pool.k ≤ 9223372036854775807) :
    Calls Tryz.prog 91 #[vM m.ep m.pool x n c] w fun e w' => e = .returned (.int .i64 (errB (mayM m))) ∧ Below w.heap.size w w' := by
  obtain ⟨ep, p, L⟩ := m
  have hW := fun n a b W => within_any n a b W
  have hP := fun W => poolMay_any p W hk
  have HO := hid h
  have hM := fun W (hb : Below w.heap.size w W) => osdsMay_any (HO.out.below hb)
  unfold mayM
  dsimp only at hM ⊢
  generalize poolB p = tp at *
  generalize osdsB L = tl at *
  clear h hk
  obtain ⟨k, m, g, d⟩ := p
  unfold vM
  unfold vP at hP
  dsimp only at hP ⊢
  have b0 := al w (.cells #[.int .i64 ep, .int .i64 k, .int .i64 m, .int .i64 g, .int .i64 d, .slice x n c] 56)
  have k5 : (w.alloc (.cells #[.int .i64 ep, .int .i64 k, .int .i64 m, .int .i64 g, .int .i64 d, .slice x n c] 56)).cell? ⟨w.heap.size, 5, none⟩ = some (.slice x n c) := by go_simp
  cases hwi : wi ep 0 1048576 with
  | false =>
    go_enter Tryz.func91, Tryz.ntmps91
    go_wp2_with (go_at_call 68; refine (hW _ _ _ _).mono ?_; rintro e w1 ⟨rfl, rfl⟩)
    go_ret
    exact ⟨by simp [errB], b0⟩
  | true =>
    cases tp with
    | false =>
      go_enter Tryz.func91, Tryz.ntmps91
      go_wp2_with (first
        | (go_at_call 68; refine (hW _ _ _ _).mono ?_; rintro e w1 ⟨rfl, rfl⟩)
        | (go_at_call 51; refine (hP _).mono ?_; rintro e w2 ⟨rfl, hb2⟩; clear hP))
      go_ret
      exact ⟨by simp [errB], on b0 hb2⟩
    | true =>
      cases tl with
      | false =>
        go_enter Tryz.func91, Tryz.ntmps91
        go_wp2_with (first
          | (go_at_call 68; refine (hW _ _ _ _).mono ?_; rintro e w1 ⟨rfl, rfl⟩)
          | (go_at_call 51; refine (hP _).mono ?_; rintro e w2 ⟨rfl, hb2⟩; clear hP; have q5 := keep hb2 k5; have hM2 := hM _ (on b0 hb2))
          | (go_at_call 126; refine hM2.mono ?_; rintro e w3 ⟨rfl, hb3⟩; clear hM2))
        go_ret
        exact ⟨by simp [errB], on (on b0 hb2) hb3⟩
      | true =>
        go_enter Tryz.func91, Tryz.ntmps91
        go_wp2_with (first
          | (go_at_call 68; refine (hW _ _ _ _).mono ?_; rintro e w1 ⟨rfl, rfl⟩)
          | (go_at_call 51; refine (hP _).mono ?_; rintro e w2 ⟨rfl, hb2⟩; clear hP; have q5 := keep hb2 k5; have hM2 := hM _ (on b0 hb2))
          | (go_at_call 126; refine hM2.mono ?_; rintro e w3 ⟨rfl, hb3⟩; clear hM2))
        go_ret
        exact ⟨by simp [errB], on (on b0 hb2) hb3⟩

end Go.Proofs.YtdlajpjigddbhaaGreat.At

/-
  Package atlas: parts, Encode, EncodeChange.
  Conditions: lists lie in memory.
-/
namespace Go.Proofs.YtdlajpjigddbhaaGreat.At
open Go.RowKit By Fl Wi
set_option linter.unusedVariables false
set_option linter.unusedSimpArgs false
set_option maxRecDepth 100000

theorem parts_any (o : Osd) (w : World) : Calls Tryz.prog 56 #[vO o] w fun e w' => ∃ g, e = .returned (.slice (some ⟨g, 0, none⟩) 8 8) ∧ Hid (Below w.heap.size w w' ∧ Ns w' g 3 (partsP o) ∧ w.heap.size ≤ g) := by
  have hT := fun b W => truth_any b W
  obtain ⟨i0, i1, i2, i3, i4, i5, i6, i7⟩ := o
  unfold vO partsP
  dsimp only
  obtain ⟨w0, hw0⟩ : ∃ w0, w0 = (w.alloc (.cells #[.int .i64 i0, .bool i1, .bool i2, .int .i64 i3, .int .i64 i4, .int .i64 i5, .int .i64 i6, .int .i64 i7] 35)).drew := ⟨_, rfl⟩
  have b0 : Below w.heap.size w w0 := by rw [hw0]; exact (al _ _).drew
  have c0 : w0.cell? ⟨w.heap.size, 0, none⟩ = some (.int .i64 i0) := by rw [hw0]; go_simp
  have c1 : w0.cell? ⟨w.heap.size, 1, none⟩ = some (.bool i1) := by rw [hw0]; go_simp
  have c2 : w0.cell? ⟨w.heap.size, 2, none⟩ = some (.bool i2) := by rw [hw0]; go_simp
  have c3 : w0.cell? ⟨w.heap.size, 3, none⟩ = some (.int .i64 i3) := by rw [hw0]; go_simp
  have c4 : w0.cell? ⟨w.heap.size, 4, none⟩ = some (.int .i64 i4) := by rw [hw0]; go_simp
  have c5 : w0.cell? ⟨w.heap.size, 5, none⟩ = some (.int .i64 i5) := by rw [hw0]; go_simp
  have c6 : w0.cell? ⟨w.heap.size, 6, none⟩ = some (.int .i64 i6) := by rw [hw0]; go_simp
  have c7 : w0.cell? ⟨w.heap.size, 7, none⟩ = some (.int .i64 i7) := by rw [hw0]; go_simp
  have HW := hid hw0
  clear hw0
  go_enter Tryz.func56, Tryz.ntmps56
  go_wp2_with fail
  refine wp_region_held_drew (S := fun v => v.cell? ⟨w.heap.size, 0, none⟩ = some (.int .i64 i0) ∧ v.cell? ⟨w.heap.size, 1, none⟩ = some (.bool i1) ∧ v.cell? ⟨w.heap.size, 2, none⟩ = some (.bool i2) ∧ v.cell? ⟨w.heap.size, 3, none⟩ = some (.int .i64 i3) ∧ v.cell? ⟨w.heap.size, 4, none⟩ = some (.int .i64 i4) ∧ v.cell? ⟨w.heap.size, 5, none⟩ = some (.int .i64 i5) ∧ v.cell? ⟨w.heap.size, 6, none⟩ = some (.int .i64 i6) ∧ v.cell? ⟨w.heap.size, 7, none⟩ = some (.int .i64 i7)) (by kernel_rfl) (by rw [← HW.out]; exact ⟨c0, c1, c2, c3, c4, c5, c6, c7⟩) (fun hHeld => ?_)
  rw [← HW.out] at hHeld ⊢
  refine wpAnyH_take (i := 0) (v := ?_) rfl (by kernel_rfl) (by kernel_rfl) (by kernel_rfl) (fun _ _ _ h => h) (Or.inl ⟨by rfl, ?_⟩) (by assumption) ?_
  case refine_2 => (intro w hSw; (try dsimp only at hSw); go_simp; (try with_reducible rfl))
  (try simp only [Act.put, List.getElem_toArray, List.getElem_cons_succ, List.getElem_cons_zero, List.setIfInBounds_toArray, List.set_cons_zero, List.set_cons_succ])
  refine wpAnyH_take (i := 1) (v := ?_) rfl (by kernel_rfl) (by kernel_rfl) (by kernel_rfl) (fun _ _ _ h => h) (Or.inl ⟨by rfl, ?_⟩) (by assumption) ?_
  case refine_2 => (intro w hSw; (try dsimp only at hSw); go_simp; (try with_reducible rfl))
  (try simp only [Act.put, List.getElem_toArray, List.getElem_cons_succ, List.getElem_cons_zero, List.setIfInBounds_toArray, List.set_cons_zero, List.set_cons_succ])
  refine wpAnyH_take (i := 2) (v := ?_) rfl (by kernel_rfl) (by kernel_rfl) (by kernel_rfl) (fun _ _ _ h => h) (Or.inl ⟨by rfl, ?_⟩) (by assumption) ?_
  case refine_2 => (intro w hSw; (try dsimp only at hSw); go_simp; (try with_reducible rfl))
  (try simp only [Act.put, List.getElem_toArray, List.getElem_cons_succ, List.getElem_cons_zero, List.setIfInBounds_toArray, List.set_cons_zero, List.set_cons_succ])
  refine wpAnyH_take (i := 3) (v := ?_) rfl (by kernel_rfl) (by kernel_rfl) (by kernel_rfl) (fun _ _ _ h => h) (Or.inl ⟨by rfl, ?_⟩) (by assumption) ?_
  case refine_2 => (intro w hSw; (try dsimp only at hSw); go_simp; (try with_reducible rfl))
  (try simp only [Act.put, List.getElem_toArray, List.getElem_cons_succ, List.getElem_cons_zero, List.setIfInBounds_toArray, List.set_cons_zero, List.set_cons_succ])
  refine wpAnyH_take (i := 5) (v := ?_) rfl (by kernel_rfl) (by kernel_rfl) (by kernel_rfl) (fun _ _ _ h => h) (Or.inl ⟨by rfl, ?_⟩) (by assumption) ?_
  case refine_2 => (intro w hSw; (try dsimp only at hSw); go_simp; (try with_reducible rfl))
  (try simp only [Act.put, List.getElem_toArray, List.getElem_cons_succ, List.getElem_cons_zero, List.setIfInBounds_toArray, List.set_cons_zero, List.set_cons_succ])
  refine wpAnyH_take (i := 6) (v := ?_) rfl (by kernel_rfl) (by kernel_rfl) (by kernel_rfl) (fun _ _ _ h => h) (Or.inl ⟨by rfl, ?_⟩) (by assumption) ?_
  case refine_2 => (intro w hSw; (try dsimp only at hSw); go_simp; (try with_reducible rfl))
  (try simp only [Act.put, List.getElem_toArray, List.getElem_cons_succ, List.getElem_cons_zero, List.setIfInBounds_toArray, List.set_cons_zero, List.set_cons_succ])
  refine wpAnyH_take (i := 8) (v := ?_) rfl (by kernel_rfl) (by kernel_rfl) (by kernel_rfl) (fun _ _ _ h => h) (Or.inl ⟨by rfl, ?_⟩) (by assumption) ?_
  case refine_2 => (intro w hSw; (try dsimp only at hSw); go_simp; (try with_reducible rfl))
  (try simp only [Act.put, List.getElem_toArray, List.getElem_cons_succ, List.getElem_cons_zero, List.setIfInBounds_toArray, List.set_cons_zero, List.set_cons_succ])
  refine wpAnyH_take (i := 9) (v := ?_) rfl (by kernel_rfl) (by kernel_rfl) (by kernel_rfl) (fun _ _ _ h => h) (Or.inl ⟨by rfl, ?_⟩) (by assumption) ?_
  case refine_2 => (intro w hSw; (try dsimp only at hSw); go_simp; (try with_reducible rfl))
  (try simp only [Act.put, List.getElem_toArray, List.getElem_cons_succ, List.getElem_cons_zero, List.setIfInBounds_toArray, List.set_cons_zero, List.set_cons_succ])
  refine wpAnyH_take (i := 10) (v := ?_) rfl (by kernel_rfl) (by kernel_rfl) (by kernel_rfl) (fun _ _ _ h => h) (Or.inl ⟨by rfl, ?_⟩) (by assumption) ?_
  case refine_2 => (intro w hSw; (try dsimp only at hSw); go_simp; (try with_reducible rfl))
  (try simp only [Act.put, List.getElem_toArray, List.getElem_cons_succ, List.getElem_cons_zero, List.setIfInBounds_toArray, List.set_cons_zero, List.set_cons_succ])
  refine wpAnyH_take (i := 11) (v := ?_) rfl (by kernel_rfl) (by kernel_rfl) (by kernel_rfl) (fun _ _ _ h => h) (Or.inl ⟨by rfl, ?_⟩) (by assumption) ?_
  case refine_2 => (intro w hSw; (try dsimp only at hSw); go_simp; (try with_reducible rfl))
  (try simp only [Act.put, List.getElem_toArray, List.getElem_cons_succ, List.getElem_cons_zero, List.setIfInBounds_toArray, List.set_cons_zero, List.set_cons_succ])
  refine wpAnyH_take (i := 12) (v := ?_) rfl (by kernel_rfl) (by kernel_rfl) (by kernel_rfl) (fun _ _ _ h => h) (Or.inl ⟨by rfl, ?_⟩) (by assumption) ?_
  case refine_2 => (intro w hSw; (try dsimp only at hSw); go_simp; (try with_reducible rfl))
  (try simp only [Act.put, List.getElem_toArray, List.getElem_cons_succ, List.getElem_cons_zero, List.setIfInBounds_toArray, List.set_cons_zero, List.set_cons_succ])
  refine wpAnyH_take (i := 13) (v := ?_) rfl (by kernel_rfl) (by kernel_rfl) (by kernel_rfl) (fun _ _ _ h => h) (Or.inl ⟨by rfl, ?_⟩) (by assumption) ?_
  case refine_2 => (intro w hSw; (try dsimp only at hSw); go_simp; (try with_reducible rfl))
  (try simp only [Act.put, List.getElem_toArray, List.getElem_cons_succ, List.getElem_cons_zero, List.setIfInBounds_toArray, List.set_cons_zero, List.set_cons_succ])
  refine wpAnyH_take (i := 14) (v := ?_) rfl (by kernel_rfl) (by kernel_rfl) (by kernel_rfl) (fun _ _ _ h => h) (Or.inl ⟨by rfl, ?_⟩) (by assumption) ?_
  case refine_2 => (intro w hSw; (try dsimp only at hSw); go_simp; (try with_reducible rfl))
  (try simp only [Act.put, List.getElem_toArray, List.getElem_cons_succ, List.getElem_cons_zero, List.setIfInBounds_toArray, List.set_cons_zero, List.set_cons_succ])
  refine wpAnyH_take (i := 15) (v := ?_) rfl (by kernel_rfl) (by kernel_rfl) (by kernel_rfl) (fun _ _ _ h => h) (Or.inl ⟨by rfl, ?_⟩) (by assumption) ?_
  case refine_2 => (intro w hSw; (try dsimp only at hSw); go_simp; (try with_reducible rfl))
  (try simp only [Act.put, List.getElem_toArray, List.getElem_cons_succ, List.getElem_cons_zero, List.setIfInBounds_toArray, List.set_cons_zero, List.set_cons_succ])
  refine wpAnyH_take (i := 16) (v := ?_) rfl (by kernel_rfl) (by kernel_rfl) (by kernel_rfl) (fun _ _ _ h => h) (Or.inl ⟨by rfl, ?_⟩) (by assumption) ?_
  case refine_2 => (intro w hSw; (try dsimp only at hSw); go_simp; (try with_reducible rfl))
  (try simp only [Act.put, List.getElem_toArray, List.getElem_cons_succ, List.getElem_cons_zero, List.setIfInBounds_toArray, List.set_cons_zero, List.set_cons_succ])
  refine wpAnyH_take (i := 17) (v := ?_) rfl (by kernel_rfl) (by kernel_rfl) (by kernel_rfl) (fun _ _ _ h => h) (Or.inl ⟨by rfl, ?_⟩) (by assumption) ?_
  case refine_2 => (intro w hSw; (try dsimp only at hSw); go_simp; (try with_reducible rfl))
  (try simp only [Act.put, List.getElem_toArray, List.getElem_cons_succ, List.getElem_cons_zero, List.setIfInBounds_toArray, List.set_cons_zero, List.set_cons_succ])
  refine wpAnyH_ready (rs := [4]) (by kernel_rfl) (by simp) ?_
  refine AllReadyH.cons rfl (fun K hK => ?_) AllReadyH.nil
  go_simp
  refine (hT _ _).mono ?_
  rintro e w1 ⟨rfl, h1⟩
  replace h1 := h1.symm
  subst h1
  refine hK.out _ _ ⟨c0, c1, c2, c3, c4, c5, c6, c7⟩ (fun hHeld => ?_)
  clear hK K
  refine wpAnyH_ready (rs := [7]) (by kernel_rfl) (by simp) ?_
  refine AllReadyH.cons rfl (fun K hK => ?_) AllReadyH.nil
  go_simp
  refine (hT _ _).mono ?_
  rintro e w1 ⟨rfl, h1⟩
  replace h1 := h1.symm
  subst h1
  refine hK.out _ _ ⟨c0, c1, c2, c3, c4, c5, c6, c7⟩ (fun hHeld => ?_)
  clear hK K
  refine wpAnyH_ready (rs := [18]) (by kernel_rfl) (by simp) ?_
  refine AllReadyH.cons rfl (fun K hK => ?_) AllReadyH.nil
  go_simp
  have bN := al w0 (.cells #[.int .i64 i0, .int .i64 (bitI i1), .int .i64 (bitI i2), .int .i64 i3, .int .i64 i4, .int .i64 i5, .int .i64 i6, .int .i64 i7] 3)
  refine hK.out _ _ ⟨keep bN c0, keep bN c1, keep bN c2, keep bN c3, keep bN c4, keep bN c5, keep bN c6, keep bN c7⟩ (fun hHeld => ?_)
  clear hK K
  refine wpAnyH_take (i := 19) (v := ?_) rfl (by kernel_rfl) (by kernel_rfl) (by kernel_rfl) (fun _ _ _ h => h) (Or.inl ⟨by rfl, ?_⟩) (by assumption) ?_
  case refine_2 => (intro w hSw; (try dsimp only at hSw); go_simp; (try with_reducible rfl))
  (try simp only [Act.put, List.getElem_toArray, List.getElem_cons_succ, List.getElem_cons_zero, List.setIfInBounds_toArray, List.set_cons_zero, List.set_cons_succ])
  refine wpAnyH_done (by kernel_rfl) ?_ _
  clear hHeld
  go_wp2_with fail
  go_ret
  exact ⟨_, rfl, on b0 bN, heap_alloc_new _ _, b0.size⟩

theorem parts_ok {o : Osd} (h : osdB o = true) : ∀ v ∈ partsP o, 0 ≤ v ∧ v ≤ 2147483647 := by
  obtain ⟨p1, p2, p3, p4, p5, p6⟩ := osd_parts h
  have hl : 0 ≤ least o.up := by unfold least; split <;> omega
  have hb : ∀ b, 0 ≤ bitI b ∧ bitI b ≤ 1 := fun b => by unfold bitI; split <;> omega
  have h1 := hb o.up
  have h2 := hb o.inn
  intro v hv
  simp only [partsP, List.mem_cons, List.not_mem_nil, or_false] at hv
  rcases hv with rfl | rfl | rfl | rfl | rfl | rfl | rfl | rfl <;> omega

theorem pool_parts {p : Pool} (h : poolB p = true) : (1 ≤ p.k ∧ p.k ≤ 31) ∧ (1 ≤ p.m ∧ p.m ≤ 31) ∧ (1 ≤ p.pgs ∧ p.pgs ≤ 32) ∧ (0 ≤ p.dom ∧ p.dom ≤ 2) := by
  unfold poolB at h
  simp only [Bool.and_eq_true, wi_iff, decide_eq_true_eq] at h
  omega

theorem head_ok {m : Mp} (h : mayM m = true) : ∀ v ∈ headP m, 0 ≤ v ∧ v ≤ 2147483647 := by
  obtain ⟨p1, p2, p3, p4⟩ := may_parts h
  obtain ⟨q1, q2, q3, q4⟩ := pool_parts p2
  intro v hv
  simp only [headP, List.mem_cons, List.not_mem_nil, or_false] at hv
  rcases hv with rfl | rfl | rfl | rfl | rfl | rfl <;> omega

theorem nums_ok {m : Mp} (h : mayM m = true) (q : Nat) : ∀ v ∈ headP m ++ (m.osds.take q).flatMap partsP, 0 ≤ v ∧ v ≤ 2147483647 := by
  intro v hv
  rw [List.mem_append] at hv
  rcases hv with hv | hv
  · exact head_ok h v hv
  · rw [List.mem_flatMap] at hv
    obtain ⟨o, ho, hv⟩ := hv
    obtain ⟨k, hk⟩ := List.mem_iff_getElem?.1 (List.mem_of_mem_take ho)
    exact parts_ok ((may_parts h).2.2.2 k o hk).1 v hv

theorem flat_parts_len (L : List Osd) : (L.flatMap partsP).length = 8 * L.length := by
  induction L with
  | nil => rfl
  | cons a L ih =>
    rw [List.flatMap_cons, List.length_append, ih, List.length_cons]
    show 8 + _ = _
    omega

end Go.Proofs.YtdlajpjigddbhaaGreat.At

/-
  Package atlas: EncodeChange.
  Conditions: none.
-/
namespace Go.Proofs.YtdlajpjigddbhaaGreat.At
open Go.RowKit By Fl Wi
set_option linter.unusedVariables false
set_option linter.unusedSimpArgs false
set_option maxRecDepth 100000

theorem osd_of_kind {c : Ch} (h : mayC c = true) : (1 ≤ c.kind ∧ c.kind ≤ 6) ∧ ∀ v ∈ partsP c.osd, 0 ≤ v ∧ v ≤ 2147483647 := by
  unfold mayC at h
  simp only [Bool.and_eq_true, wi_iff] at h
  refine ⟨h.1, ?_⟩
  have hm := h.2
  unfold mayK at hm
  have hb : ∀ b, 0 ≤ bitI b ∧ bitI b ≤ 1 := fun b => by unfold bitI; split <;> omega
  split at hm
  · exact parts_ok hm
  · split at hm
    · unfold upB at hm
      simp only [Bool.and_eq_true, wi_iff, eqO_iff] at hm
      obtain ⟨e, h2⟩ := hm
      intro v hv
      rw [e] at hv
      simp only [partsP, List.mem_cons, List.not_mem_nil, or_false] at hv
      have h3 := hb false
      rcases hv with rfl | rfl | rfl | rfl | rfl | rfl | rfl | rfl <;> omega
    · split at hm
      · unfold wtB at hm
        simp only [Bool.and_eq_true, wi_iff, eqO_iff] at hm
        obtain ⟨e, h2⟩ := hm
        intro v hv
        rw [e] at hv
        simp only [partsP, List.mem_cons, List.not_mem_nil, or_false] at hv
        have h3 := hb false
        rcases hv with rfl | rfl | rfl | rfl | rfl | rfl | rfl | rfl <;> omega
      · unfold idB noO at hm
        simp only [Bool.and_eq_true, wi_iff, eqO_iff] at hm
        obtain ⟨e, h2⟩ := hm
        intro v hv
        rw [e] at hv
        simp only [partsP, List.mem_cons, List.not_mem_nil, or_false] at hv
        have h3 := hb false
        rcases hv with rfl | rfl | rfl | rfl | rfl | rfl | rfl | rfl <;> omega

theorem ns_one (w : World) (k : Int) : Is (w.alloc (.cells #[.int .i64 k] 3)) (some ⟨w.heap.size, 0, none⟩) 1 1 [k] := Ns.is (Ns.new w 3 [k])

set_option maxHeartbeats 3200000 in
theorem encodeChange_any (c : Ch) (w : World) : Calls Tryz.prog 37 #[vC c] w fun e w' => ∃ R, e = .returned (.tuple #[R, .int .i64 (errB (mayC c))]) ∧ Hid (OwnL w' w.heap.size R (if mayC c then wrB (numsC c) else []) ∧ Below w.heap.size w w') := by
  have hC := fun W => checkChange_any c W
  cases hm : mayC c with
  | false =>
    rw [hm] at hC
    obtain ⟨ck, c0, c1, c2, c3, c4, c5, c6, c7⟩ := c
    unfold vC errB at *
    dsimp only at hC ⊢
    go_enter Tryz.func37, Tryz.ntmps37
    go_wp2_with (go_at_call 54; refine (hC _).mono ?_; rintro e w1 ⟨rfl, hb1⟩; clear hC)
    go_ret2
    exact ⟨_, rfl, OwnL.start _ _, on (al _ _) hb1⟩
  | true =>
    rw [hm] at hC
    obtain ⟨hk, hp⟩ := osd_of_kind hm
    have HK := hid (show ∀ v ∈ [c.kind], 0 ≤ v ∧ v ≤ 2147483647 from fun v hv => by simp at hv; omega)
    have HPk := hid hp
    have HNC : Hid (wrB (numsC c) = wrB [c.kind] ++ wrB (partsP c.osd)) := hid (by rw [← wrB_app]; rfl)
    have hPa := fun W => parts_any c.osd W
    have HWl : Hid ((wrB [c.kind]).length ≤ 10 ∧ (wrB (partsP c.osd)).length ≤ 80) := by
      have h1 := wrB_len [c.kind] HK.out
      have h2 := wrB_len (partsP c.osd) HPk.out
      exact ⟨by simpa using h1, by simpa [partsP] using h2⟩
    clear hm hk hp
    generalize wrB (numsC c) = NC at *
    obtain ⟨PP, hPP⟩ : ∃ P, P = partsP c.osd := ⟨_, rfl⟩
    have hPl : PP.length = 8 := by rw [hPP]; rfl
    have HPl := hid hPl
    rw [← hPP] at HPk HNC hPa HWl
    clear hPP hPl
    obtain ⟨ck, c0, c1, c2, c3, c4, c5, c6, c7⟩ := c
    unfold vC errB at *
    unfold vO at hPa
    dsimp only at hC hPa HK HNC HWl ⊢
    have b0 := al w (.cells #[.int .i64 ck, .int .i64 c0, .bool c1, .bool c2, .int .i64 c3, .int .i64 c4, .int .i64 c5, .int .i64 c6, .int .i64 c7] 37)
    have HX := hid (heap_alloc_new w (.cells #[.int .i64 ck, .int .i64 c0, .bool c1, .bool c2, .int .i64 c3, .int .i64 c4, .int .i64 c5, .int .i64 c6, .int .i64 c7] 37))
    go_enter Tryz.func37, Tryz.ntmps37
    go_wp2_with (go_at_call 54; refine (hC _).mono ?_; rintro e w1 ⟨rfl, hb1⟩; clear hC)
    have ek := (hb1.block _ (Array.getElem?_eq_some_iff.1 HX.out).1).trans HX.out
    obtain ⟨wD, hwD⟩ : ∃ wD, wD = w1.drew := ⟨_, rfl⟩
    have ekD : wD.heap[w.heap.size]? = some (.cells #[.int .i64 ck, .int .i64 c0, .bool c1, .bool c2, .int .i64 c3, .int .i64 c4, .int .i64 c5, .int .i64 c6, .int .i64 c7] 37) := by rw [hwD]; exact ek
    have B1 : Below w.heap.size w wD := by rw [hwD]; exact (on b0 hb1).drew
    have k0 : wD.cell? ⟨w.heap.size, 0, none⟩ = some (.int .i64 ck) := cell_heap ekD rfl
    have k1 : wD.cell? ⟨w.heap.size, 1, none⟩ = some (.int .i64 c0) := cell_heap ekD rfl
    have k2 : wD.cell? ⟨w.heap.size, 2, none⟩ = some (.bool c1) := cell_heap ekD rfl
    have k3 : wD.cell? ⟨w.heap.size, 3, none⟩ = some (.bool c2) := cell_heap ekD rfl
    have k4 : wD.cell? ⟨w.heap.size, 4, none⟩ = some (.int .i64 c3) := cell_heap ekD rfl
    have k5 : wD.cell? ⟨w.heap.size, 5, none⟩ = some (.int .i64 c4) := cell_heap ekD rfl
    have k6 : wD.cell? ⟨w.heap.size, 6, none⟩ = some (.int .i64 c5) := cell_heap ekD rfl
    have k7 : wD.cell? ⟨w.heap.size, 7, none⟩ = some (.int .i64 c6) := cell_heap ekD rfl
    have k8 : wD.cell? ⟨w.heap.size, 8, none⟩ = some (.int .i64 c7) := cell_heap ekD rfl
    have HWD := hid hwD
    clear hwD ek ekD hb1 b0
    refine wp_region_held_drew (S := fun v => v.cell? ⟨w.heap.size, 0, none⟩ = some (.int .i64 ck) ∧ v.cell? ⟨w.heap.size, 1, none⟩ = some (.int .i64 c0) ∧ v.cell? ⟨w.heap.size, 2, none⟩ = some (.bool c1) ∧ v.cell? ⟨w.heap.size, 3, none⟩ = some (.bool c2) ∧ v.cell? ⟨w.heap.size, 4, none⟩ = some (.int .i64 c3) ∧ v.cell? ⟨w.heap.size, 5, none⟩ = some (.int .i64 c4) ∧ v.cell? ⟨w.heap.size, 6, none⟩ = some (.int .i64 c5) ∧ v.cell? ⟨w.heap.size, 7, none⟩ = some (.int .i64 c6) ∧ v.cell? ⟨w.heap.size, 8, none⟩ = some (.int .i64 c7)) (by kernel_rfl) (by rw [← HWD.out]; exact ⟨k0, k1, k2, k3, k4, k5, k6, k7, k8⟩) (fun hHeld => ?_)
    rw [← HWD.out] at hHeld ⊢
    refine wpAnyH_take (i := 0) (v := ?_) rfl (by kernel_rfl) (by kernel_rfl) (by kernel_rfl) (fun _ _ _ h => h) (Or.inl ⟨by rfl, ?_⟩) (by assumption) ?_
    case refine_2 => (intro w hSw; (try dsimp only at hSw); go_simp; (try with_reducible rfl))
    (try simp only [Act.put, List.getElem_toArray, List.getElem_cons_succ, List.getElem_cons_zero, List.setIfInBounds_toArray, List.set_cons_zero, List.set_cons_succ])
    refine wpAnyH_take (i := 1) (v := ?_) rfl (by kernel_rfl) (by kernel_rfl) (by kernel_rfl) (fun _ _ _ h => h) (Or.inl ⟨by rfl, ?_⟩) (by assumption) ?_
    case refine_2 => (intro w hSw; (try dsimp only at hSw); go_simp; (try with_reducible rfl))
    (try simp only [Act.put, List.getElem_toArray, List.getElem_cons_succ, List.getElem_cons_zero, List.setIfInBounds_toArray, List.set_cons_zero, List.set_cons_succ])
    refine wpAnyH_take (i := 4) (v := ?_) rfl (by kernel_rfl) (by kernel_rfl) (by kernel_rfl) (fun _ _ _ h => h) (Or.inl ⟨by rfl, ?_⟩) (by assumption) ?_
    case refine_2 => (intro w hSw; (try dsimp only at hSw); go_simp; (try with_reducible rfl))
    (try simp only [Act.put, List.getElem_toArray, List.getElem_cons_succ, List.getElem_cons_zero, List.setIfInBounds_toArray, List.set_cons_zero, List.set_cons_succ])
    refine wpAnyH_take (i := 5) (v := ?_) rfl (by kernel_rfl) (by kernel_rfl) (by kernel_rfl) (fun _ _ _ h => h) (Or.inl ⟨by rfl, ?_⟩) (by assumption) ?_
    case refine_2 => (intro w hSw; (try dsimp only at hSw); go_simp; (try with_reducible rfl))
    (try simp only [Act.put, List.getElem_toArray, List.getElem_cons_succ, List.getElem_cons_zero, List.setIfInBounds_toArray, List.set_cons_zero, List.set_cons_succ])
    refine wpAnyH_ready (rs := [2]) (by kernel_rfl) (by simp) ?_
    refine AllReadyH.cons rfl (fun K hK => ?_) AllReadyH.nil
    go_simp
    have bN := al wD (.cells #[.int .i64 ck] 3)
    refine hK.out _ _ ⟨keep bN k0, keep bN k1, keep bN k2, keep bN k3, keep bN k4, keep bN k5, keep bN k6, keep bN k7, keep bN k8⟩ (fun hHeld => ?_)
    clear hK K
    refine wpAnyH_ready (rs := [3]) (by kernel_rfl) (by simp) ?_
    refine AllReadyH.cons rfl (fun K hK => ?_) AllReadyH.nil
    go_simp
    refine (write_any (ns_one wD ck) HK.out (by omega)).mono ?_
    rintro e w2 ⟨R2, rfl, H2⟩
    have b2 := on bN H2.out.2
    refine hK.out _ _ ⟨keep b2 k0, keep b2 k1, keep b2 k2, keep b2 k3, keep b2 k4, keep b2 k5, keep b2 k6, keep b2 k7, keep b2 k8⟩ (fun hHeld => ?_)
    clear hK K
    refine wpAnyH_ready (rs := [6]) (by kernel_rfl) (by simp) ?_
    refine AllReadyH.cons rfl (fun K hK => ?_) AllReadyH.nil
    go_simp
    refine (hPa w2).mono ?_
    rintro e w3 ⟨g3, rfl, H3⟩
    have b3 := on b2 H3.out.1
    have hI3 := H3.out.2.1.is
    rw [HPl.out] at hI3
    refine hK.out _ _ ⟨keep b3 k0, keep b3 k1, keep b3 k2, keep b3 k3, keep b3 k4, keep b3 k5, keep b3 k6, keep b3 k7, keep b3 k8⟩ (fun hHeld => ?_)
    clear hK K
    refine wpAnyH_ready (rs := [7]) (by kernel_rfl) (by simp) ?_
    refine AllReadyH.cons rfl (fun K hK => ?_) AllReadyH.nil
    go_simp
    refine (write_any hI3 HPk.out (by omega)).mono ?_
    rintro e w4 ⟨R4, rfl, H4⟩
    have b4 := on b3 H4.out.2
    obtain ⟨x4, d4, rfl, hs4, _⟩ := H4.out.1.sl (wrB_lt _)
    have ho4 := (H2.out.1.mono bN.size).below (on H3.out.1 H4.out.2)
    obtain ⟨R5, w5, hr5, ho5, hb5⟩ := push_list w4 wD wD.heap.size R2 _ ho4 b4.size b4 x4 _ d4 _ hs4 (by have := HWl.out; omega)
    refine hK.out _ _ ⟨keep b4 k0, keep b4 k1, keep b4 k2, keep b4 k3, keep b4 k4, keep b4 k5, keep b4 k6, keep b4 k7, keep b4 k8⟩ (fun hHeld => ?_)
    clear hK K
    refine wpAnyH_ready (rs := [8]) (by kernel_rfl) (by simp) ?_
    refine AllReadyH.cons rfl (fun K hK => ?_) AllReadyH.nil
    refine st_append rfl _ _ 73 rfl _ _ rfl rfl hr5 ?_
    (try simp only [Act.put, List.getElem_toArray, List.getElem_cons_succ, List.getElem_cons_zero, List.setIfInBounds_toArray, List.set_cons_zero, List.set_cons_succ])
    refine hK.out _ _ ⟨keep hb5 k0, keep hb5 k1, keep hb5 k2, keep hb5 k3, keep hb5 k4, keep hb5 k5, keep hb5 k6, keep hb5 k7, keep hb5 k8⟩ (fun hHeld => ?_)
    clear hK K
    refine wpAnyH_take (i := 9) (v := ?_) rfl (by kernel_rfl) (by kernel_rfl) (by kernel_rfl) (fun _ _ _ h => h) (Or.inl ⟨by rfl, ?_⟩) (by assumption) ?_
    case refine_2 => (intro w hSw; (try dsimp only at hSw); go_simp; (try with_reducible rfl))
    (try simp only [Act.put, List.getElem_toArray, List.getElem_cons_succ, List.getElem_cons_zero, List.setIfInBounds_toArray, List.set_cons_zero, List.set_cons_succ])
    refine wpAnyH_take (i := 10) (v := ?_) rfl (by kernel_rfl) (by kernel_rfl) (by kernel_rfl) (fun _ _ _ h => h) (Or.inl ⟨by rfl, ?_⟩) (by assumption) ?_
    case refine_2 => (intro w hSw; (try dsimp only at hSw); go_simp; (try with_reducible rfl))
    (try simp only [Act.put, List.getElem_toArray, List.getElem_cons_succ, List.getElem_cons_zero, List.setIfInBounds_toArray, List.set_cons_zero, List.set_cons_succ])
    refine wpAnyH_done (by kernel_rfl) ?_ _
    clear hHeld
    go_wp2_with fail
    go_ret2
    exact ⟨_, rfl, by rw [HNC.out]; exact ho5.mono B1.size, on B1 hb5⟩

end Go.Proofs.YtdlajpjigddbhaaGreat.At

/-
  Package atlas: New, Find; the document's Find.
  Conditions: lists lie in memory.
-/
namespace Go.Proofs.YtdlajpjigddbhaaGreat.At
open Go.RowKit By Fl
set_option linter.unusedVariables false
set_option linter.unusedSimpArgs false
set_option maxRecDepth 100000

theorem results_cell2 {fn : Func} {p q : Tmp} {ty : TypeId} (h : fn.results = #[.cell p ty, .tmp q]) (tmps : Array Value) (P : Program) (w : World) :
    (results fn tmps).run P w = ((asAddr (tmps.getD p undef)).run P w).andThen fun a w₁ => ((loadVar ty a).run P w₁).andThen fun v w₂ => .ok (.tuple #[v, tmps.getD q undef]) w₂ := by
  simp only [results, h]
  simp [Sem.run_bind, Result.andThen]

theorem new_no (p : Pool) (w : World) (hk : p.k ≤ 9223372036854775807) (hno : poolB p = false) : Calls Tryz.prog 34 #[vP p] w fun e w' => e = .returned (.tuple #[vM 0 noP none 0 0, .int .i64 1]) ∧ Below w.heap.size w w' := by
  have hP := fun W => poolMay_any p W hk
  rw [hno] at hP
  clear hno hk
  obtain ⟨k, m, g, d⟩ := p
  unfold vP at *
  dsimp only at hP ⊢
  have b0 : Below w.heap.size w ((w.alloc (.cells #[.int .i64 k, .int .i64 m, .int .i64 g, .int .i64 d] 49)).alloc (.cells #[.int .i64 0, .int .i64 0, .int .i64 0, .int .i64 0, .int .i64 0, .slice none 0 0] 56)) := on (al _ _) (al _ _)
  go_enter Tryz.func34, Tryz.ntmps34
  go_wp2_with (first
    | (
       go_at_call 51; refine (hP _).mono ?_; rintro e w1 ⟨rfl, hb1⟩; clear hP
       have k0 := keep hb1 (b := w.heap.size + 1) (o := 0) (x := .int .i64 0) (by first | assumption | go_simp)
       have k1 := keep hb1 (b := w.heap.size + 1) (o := 1) (x := .int .i64 0) (by first | assumption | go_simp)
       have k2 := keep hb1 (b := w.heap.size + 1) (o := 2) (x := .int .i64 0) (by first | assumption | go_simp)
       have k3 := keep hb1 (b := w.heap.size + 1) (o := 3) (x := .int .i64 0) (by first | assumption | go_simp)
       have k4 := keep hb1 (b := w.heap.size + 1) (o := 4) (x := .int .i64 0) (by first | assumption | go_simp)
       have k5 := keep hb1 (b := w.heap.size + 1) (o := 5) (x := .slice none 0 0) (by first | assumption | go_simp)
       have f0 := keepf hb1 (b := w.heap.size + 1) (o := 0) (by first | (simp <;> omega) | exact cell_lt' (a := ⟨w.heap.size + 1, 0, none⟩) (by assumption) | (simp; exact cell_lt' (a := ⟨w.heap.size + 1, 0, none⟩) (by assumption))) (by first | assumption | go_simp)
       have f1 := keepf hb1 (b := w.heap.size + 1) (o := 1) (by first | (simp <;> omega) | exact cell_lt' (a := ⟨w.heap.size + 1, 1, none⟩) (by assumption) | (simp; exact cell_lt' (a := ⟨w.heap.size + 1, 1, none⟩) (by assumption))) (by first | assumption | go_simp)
       have f2 := keepf hb1 (b := w.heap.size + 1) (o := 2) (by first | (simp <;> omega) | exact cell_lt' (a := ⟨w.heap.size + 1, 2, none⟩) (by assumption) | (simp; exact cell_lt' (a := ⟨w.heap.size + 1, 2, none⟩) (by assumption))) (by first | assumption | go_simp)
       have f3 := keepf hb1 (b := w.heap.size + 1) (o := 3) (by first | (simp <;> omega) | exact cell_lt' (a := ⟨w.heap.size + 1, 3, none⟩) (by assumption) | (simp; exact cell_lt' (a := ⟨w.heap.size + 1, 3, none⟩) (by assumption))) (by first | assumption | go_simp)
       have f4 := keepf hb1 (b := w.heap.size + 1) (o := 4) (by first | (simp <;> omega) | exact cell_lt' (a := ⟨w.heap.size + 1, 4, none⟩) (by assumption) | (simp; exact cell_lt' (a := ⟨w.heap.size + 1, 4, none⟩) (by assumption))) (by first | assumption | go_simp)
       have f5 := keepf hb1 (b := w.heap.size + 1) (o := 5) (by first | (simp <;> omega) | exact cell_lt' (a := ⟨w.heap.size + 1, 5, none⟩) (by assumption) | (simp; exact cell_lt' (a := ⟨w.heap.size + 1, 5, none⟩) (by assumption))) (by first | assumption | go_simp)
       have B1 := on b0 hb1; clear hb1))
  refine bodyPost_ret (v := .tuple #[vM 0 noP none 0 0, .int .i64 1]) ?_ rfl ?_
  · rw [results_cell2 rfl]
    unfold vM noP
    go_simp
  · refine ⟨rfl, ?_⟩
    repeat (first | with_reducible exact B1 | (with_reducible refine Below.setCell ?_ (by first | (simp; done) | (simp; omega) | omega) _) | (with_reducible refine Below.alloc ?_ (by first | (simp; done) | (simp; omega) | omega) _))

theorem new_yes (p : Pool) (w : World) (hk : p.k ≤ 9223372036854775807) (hyes : poolB p = true) : Calls Tryz.prog 34 #[vP p] w fun e w' => e = .returned (.tuple #[vM 0 p none 0 0, .int .i64 0]) ∧ Below w.heap.size w w' := by
  have hP := fun W => poolMay_any p W hk
  rw [hyes] at hP
  clear hyes hk
  obtain ⟨k, m, g, d⟩ := p
  unfold vP at *
  dsimp only at hP ⊢
  have b0 : Below w.heap.size w ((w.alloc (.cells #[.int .i64 k, .int .i64 m, .int .i64 g, .int .i64 d] 49)).alloc (.cells #[.int .i64 0, .int .i64 0, .int .i64 0, .int .i64 0, .int .i64 0, .slice none 0 0] 56)) := on (al _ _) (al _ _)
  go_enter Tryz.func34, Tryz.ntmps34
  go_wp2_with (first
    | (
       go_at_call 51; refine (hP _).mono ?_; rintro e w1 ⟨rfl, hb1⟩; clear hP
       have k0 := keep hb1 (b := w.heap.size + 1) (o := 0) (x := .int .i64 0) (by first | assumption | go_simp)
       have k1 := keep hb1 (b := w.heap.size + 1) (o := 1) (x := .int .i64 0) (by first | assumption | go_simp)
       have k2 := keep hb1 (b := w.heap.size + 1) (o := 2) (x := .int .i64 0) (by first | assumption | go_simp)
       have k3 := keep hb1 (b := w.heap.size + 1) (o := 3) (x := .int .i64 0) (by first | assumption | go_simp)
       have k4 := keep hb1 (b := w.heap.size + 1) (o := 4) (x := .int .i64 0) (by first | assumption | go_simp)
       have k5 := keep hb1 (b := w.heap.size + 1) (o := 5) (x := .slice none 0 0) (by first | assumption | go_simp)
       have f0 := keepf hb1 (b := w.heap.size + 1) (o := 0) (by first | (simp <;> omega) | exact cell_lt' (a := ⟨w.heap.size + 1, 0, none⟩) (by assumption) | (simp; exact cell_lt' (a := ⟨w.heap.size + 1, 0, none⟩) (by assumption))) (by first | assumption | go_simp)
       have f1 := keepf hb1 (b := w.heap.size + 1) (o := 1) (by first | (simp <;> omega) | exact cell_lt' (a := ⟨w.heap.size + 1, 1, none⟩) (by assumption) | (simp; exact cell_lt' (a := ⟨w.heap.size + 1, 1, none⟩) (by assumption))) (by first | assumption | go_simp)
       have f2 := keepf hb1 (b := w.heap.size + 1) (o := 2) (by first | (simp <;> omega) | exact cell_lt' (a := ⟨w.heap.size + 1, 2, none⟩) (by assumption) | (simp; exact cell_lt' (a := ⟨w.heap.size + 1, 2, none⟩) (by assumption))) (by first | assumption | go_simp)
       have f3 := keepf hb1 (b := w.heap.size + 1) (o := 3) (by first | (simp <;> omega) | exact cell_lt' (a := ⟨w.heap.size + 1, 3, none⟩) (by assumption) | (simp; exact cell_lt' (a := ⟨w.heap.size + 1, 3, none⟩) (by assumption))) (by first | assumption | go_simp)
       have f4 := keepf hb1 (b := w.heap.size + 1) (o := 4) (by first | (simp <;> omega) | exact cell_lt' (a := ⟨w.heap.size + 1, 4, none⟩) (by assumption) | (simp; exact cell_lt' (a := ⟨w.heap.size + 1, 4, none⟩) (by assumption))) (by first | assumption | go_simp)
       have f5 := keepf hb1 (b := w.heap.size + 1) (o := 5) (by first | (simp <;> omega) | exact cell_lt' (a := ⟨w.heap.size + 1, 5, none⟩) (by assumption) | (simp; exact cell_lt' (a := ⟨w.heap.size + 1, 5, none⟩) (by assumption))) (by first | assumption | go_simp)
       have j0 := keep hb1 (b := w.heap.size) (o := 0) (x := .int .i64 k) (by first | assumption | go_simp)
       have j1 := keep hb1 (b := w.heap.size) (o := 1) (x := .int .i64 m) (by first | assumption | go_simp)
       have j2 := keep hb1 (b := w.heap.size) (o := 2) (x := .int .i64 g) (by first | assumption | go_simp)
       have j3 := keep hb1 (b := w.heap.size) (o := 3) (x := .int .i64 d) (by first | assumption | go_simp)
       have B1 := on b0 hb1; clear hb1))
  refine bodyPost_ret (v := .tuple #[vM 0 ⟨k, m, g, d⟩ none 0 0, .int .i64 0]) ?_ rfl ?_
  · rw [results_cell2 rfl]
    unfold vM
    go_simp
  · refine ⟨rfl, ?_⟩
    repeat (first | with_reducible exact B1 | (with_reducible refine Below.setCell ?_ (by first | (simp; done) | (simp; omega) | omega) _) | (with_reducible refine Below.alloc ?_ (by first | (simp; done) | (simp; omega) | omega) _))

def findP (L : List Osd) (id : Int) : Osd × Bool := match L.findIdx? (isId id) with | some k => (L.getD k (noO 0), true) | none => (noO 0, false)

end Go.Proofs.YtdlajpjigddbhaaGreat.At

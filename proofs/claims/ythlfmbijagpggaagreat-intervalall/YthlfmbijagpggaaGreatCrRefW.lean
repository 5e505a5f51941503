/-
  The document's list of a level's numbers with their weights.
  Conditions: the list lies in memory, and is one of a map that may be.
-/
import Derived.Test.YthlfmbijagpggaaGreatByHk
import Derived.Test.YthlfmbijagpggaaGreatCrGrow
import Derived.Test.YthlfmbijagpggaaGreatByHk
import Derived.Laws.AppendOwnNone
namespace Go.Proofs.YthlfmbijagpggaaGreat.Cr
open Go.RowKit By Fl At
open Sr (Wd Ws enW copy_big own_turn)
set_option linter.unusedVariables false
set_option linter.unusedSimpArgs false
set_option maxRecDepth 100000

/- Where a number stands, or is to stand. -/
theorem ins_new {k z : Int} : ∀ (W : List Wd) (q : Nat), q ≤ W.length → (∀ (j : Nat) (a : Wd), j < q → W[j]? = some a → a.id < k) → (∀ a, W[q]? = some a → k < a.id) → insW k z W = W.take q ++ [⟨k, z⟩] ++ W.drop q
  | [], q, hq, h1, h2 => by
    have : q = 0 := by simpa using hq
    subst this
    rfl
  | b :: W, 0, hq, h1, h2 => by
    have := h2 b rfl
    have e1 : ¬ b.id < k := by omega
    have e2 : ¬ b.id = k := by omega
    simp [insW, e1, e2]
  | b :: W, q + 1, hq, h1, h2 => by
    have e1 := h1 0 b (by omega) rfl
    simp only [insW, e1, if_true, List.take_succ_cons, List.drop_succ_cons, List.cons_append]
    rw [ins_new W q (by simpa using hq) (fun j a hj ha => h1 (j + 1) a (by omega) (by simpa using ha)) (fun a ha => h2 a (by simpa using ha))]
theorem ins_old {k z : Int} : ∀ (W : List Wd) (q : Nat) (a : Wd), (∀ (j : Nat) (b : Wd), j < q → W[j]? = some b → b.id < k) → W[q]? = some a → a.id = k → insW k z W = W.set q ⟨k, a.wt + z⟩
  | [], q, a, h1, h2, h3 => by simp at h2
  | b :: W, 0, a, h1, h2, h3 => by
    have : b = a := by simpa using h2
    subst this
    have e1 : ¬ b.id < k := by omega
    simp only [insW, List.set_cons_zero]
    rw [if_neg e1, if_pos h3]
  | b :: W, q + 1, a, h1, h2, h3 => by
    have e1 := h1 0 b (by omega) rfl
    simp only [insW, e1, if_true, List.set_cons_succ]
    rw [ins_old W q a (fun j c hj hc => h1 (j + 1) c (by omega) (by simpa using hc)) (by simpa using h2) h3]

theorem set_same (W : List Wd) (q : Nat) (a : Wd) (h : W[q]? = some a) : W.set q a = W := by
  obtain ⟨h1, h2⟩ := List.getElem?_eq_some_iff.1 h
  rw [← h2, List.set_getElem_self]
theorem set_mid (W : List Wd) (q : Nat) (a c : Wd) (h : q ≤ W.length) : (W.take q ++ [a] ++ W.drop q).set q c = W.take q ++ [c] ++ W.drop q := by
  have hl : (W.take q).length = q := by rw [List.length_take]; omega
  rw [List.append_assoc, List.set_append_right _ _ (by omega), hl, Nat.sub_self, List.append_assoc]
  rfl

/- append(l, k...). -/
theorem push_ws {w : World} {B : Nat} {R : Value} {L : List Wd} {x : Option Addr} {n c : Nat} {K : List Wd} (h : Own w B 101 2 enW R L) (hk : Ws w x n c K) (hl : L.length + n ≤ 1000) (hB : B ≤ w.heap.size) :
    ∃ x' c' w', (Builtin.append_ #[97, 97] 97 #[R, .slice x n c]).run Tryz.prog w = .ok (.slice x' (L.length + n) c') w' ∧
      Hid (Own w' B 101 2 enW (.slice x' (L.length + n) c') (L ++ K) ∧ Turns (fun j => R.ownBlock = some j) w w') := by
  have hi : (Tryz.prog.info? 101).map (fun i => (i.zero, i.size, i.bytes)) = some (some (.agg #[.int .i64 0, .int .i64 0]), 2, 16) := by kernel_rfl
  obtain ⟨i0, i1, i2, i3, i4⟩ := info_parts hi
  cases x with
  | none =>
    obtain ⟨h1, h2⟩ := hk.nil rfl
    subst h1 h2
    have hL : K = [] := List.eq_nil_of_length_eq_zero hk.len
    subst hL
    obtain ⟨x', c', e, _⟩ := h.form
    have hr := run_append_owned_none (P := Tryz.prog) w B 97 97 101 i0 2 Tryz.underlying97 i1 _ L.length _ h
    rw [e] at hr h
    rw [e]
    refine ⟨x', c', w, hr, ?_, Turns.refl _ _⟩
    rw [List.append_nil]
    exact h
  | some ad =>
    obtain ⟨x', c', w3, hap, HO⟩ := h.push Sr.wrow hB ad n c K hk.len (fun j u hj => by
      have hjl := (List.getElem?_eq_some_iff.1 hj).1
      rw [flat_len Sr.wrow.len, hk.len] at hjl
      rcases hk.row with q | ⟨b, o, e, hb, hc⟩
      · omega
      · injection e with e
        subst e
        rw [add_at]
        have hl2 := hk.len
        obtain ⟨a, ha⟩ : ∃ a, K[j / 2]? = some a := ⟨K[j / 2]'(by omega), List.getElem?_eq_getElem (by omega)⟩
        have hjj : j / 2 * 2 + j % 2 = j := by omega
        have := flat_get (enc := enW) (sz := 2) Sr.wrow.len K (j / 2) a ha (j % 2) (by omega)
        rw [hjj] at this
        have hu := this.symm.trans hj
        obtain ⟨q0, q1⟩ := hc (j / 2) a ha
        rcases (show j % 2 = 0 ∨ j % 2 = 1 by omega) with e | e
        · rw [e] at hu
          cases hu
          rw [show o + j = o + j / 2 * 2 by omega]
          exact q0
        · rw [e] at hu
          cases hu
          rw [show o + j = o + j / 2 * 2 + 1 by omega]
          exact q1) (by omega)
    exact ⟨x', c', w3, hap, HO.out.1, HO.out.2.1⟩

/- append(append(append([]Weighed{}, out[:q]...), Weighed{Id: k}), out[q:]...). -/
theorem ins_mem {w : World} {xo : Option Addr} {no co q : Nat} {W : List Wd} (h : Ws w xo no co W) (hq : q ≤ no) (hn : no ≤ 64) (k : Int) :
    ∃ x1 c1 w1, (Builtin.append_ #[97, 97] 97 #[.slice (some ⟨w.heap.size, 0, none⟩) 0 0, .slice xo q co]).run Tryz.prog (w.alloc (.cells #[] 101)) = .ok (.slice x1 q c1) w1 ∧ Below w.heap.size w w1 ∧
      Hid (∀ w2, Below w1.heap.size w1 w2 → ∃ x3 c3 w3, (Builtin.append_ #[97, 97] 97 #[.slice x1 q c1, .slice (some ⟨w2.heap.size, 0, none⟩) 1 1]).run Tryz.prog (w2.alloc (.cells #[.int .i64 k, .int .i64 0] 101)) = .ok (.slice x3 (q + 1) c3) w3 ∧ Below w.heap.size w (w2.alloc (.cells #[.int .i64 k, .int .i64 0] 101)) ∧ Below w.heap.size w w3 ∧
        ∃ x4 c4 w4, (Builtin.append_ #[97, 97] 97 #[.slice x3 (q + 1) c3, .slice (cutO 2 xo co q) (no - q) (co - q)]).run Tryz.prog w3 = .ok (.slice x4 (q + 1 + (no - q)) c4) w4 ∧ Below w.heap.size w w4 ∧ Hid (Own w4 w.heap.size 101 2 enW (.slice x4 (q + 1 + (no - q)) c4) (W.take q ++ [⟨k, 0⟩] ++ W.drop q) ∧ w.heap.size ≤ w4.heap.size)) := by
  have hl := h.len
  have hlt : (W.take q).length = q := by rw [List.length_take]; omega
  obtain ⟨x1, c1, w1, hap1, H1⟩ := copy_big (ws_take h hq)
  obtain ⟨o1, b1⟩ := H1.out
  refine ⟨x1, c1, w1, hap1, b1, fun w2 hb2 => ?_⟩
  have b2a := al w2 (.cells #[.int .i64 k, .int .i64 0] 101)
  have hs1 : Ws (w2.alloc (.cells #[.int .i64 k, .int .i64 0] 101)) (some ⟨w2.heap.size, 0, none⟩) 1 1 [⟨k, 0⟩] := by
    refine ⟨rfl, Nat.le_refl _, by omega, (fun e => by cases e), .inr ⟨_, _, rfl, (by simp), fun j a hj => ?_⟩⟩
    match j, hj with
    | 0, hj =>
      injection hj with hj
      subst hj
      exact ⟨by go_simp, by go_simp⟩
    | j + 1, hj => simp at hj
  have o2 := (o1.below hb2).below b2a
  have z1 := b1.size
  have z2 := hb2.size
  have z3 : (w2.alloc (.cells #[.int .i64 k, .int .i64 0] 101)).heap.size = w2.heap.size + 1 := by simp
  obtain ⟨x3, c3, w3, hap2, H3⟩ := push_ws o2 hs1 (by omega) (by omega)
  rw [hlt] at hap2 H3
  obtain ⟨o3, t3⟩ := H3.out
  have bA : Below w.heap.size w (w2.alloc (.cells #[.int .i64 k, .int .i64 0] 101)) := on (on b1 hb2) b2a
  have b3 : Below w.heap.size w w3 := bA.trans (t3.below (fun j e => by have := (o2.tb e).1; omega) (by omega))
  have hs2 := ws_from (h.below b3) q hq
  have z4 := t3.size
  obtain ⟨x4, c4, w4, hap3, H4⟩ := push_ws o3 hs2 (by rw [List.length_append, hlt]; simp; omega) (by omega)
  have e5 : (W.take q ++ [(⟨k, 0⟩ : Wd)]).length = q + 1 := by rw [List.length_append, hlt]; rfl
  rw [e5] at hap3 H4
  obtain ⟨o4, t4⟩ := H4.out
  exact ⟨x3, c3, w3, hap2, bA, b3, x4, c4, w4, hap3, b3.trans (t4.below (fun j e => by have := (o3.tb e).1; omega) (by omega)), o4, by have := t4.size; omega⟩

def Wi (w wr : World) (d : Nat) (L : List Osd) (k : Nat) (xo : Option Addr) (no co : Nat) : Prop := Below w.heap.size w wr ∧ ∃ B, w.heap.size ≤ B ∧ B ≤ wr.heap.size ∧ Own wr B 101 2 enW (.slice xo no co) (wg d (L.take k))

theorem wg_take {d : Nat} {L : List Osd} {k : Nat} {o : Osd} (h : L[k]? = some o) : wg d (L.take (k + 1)) = insW (kO d o) (wO o) (wg d (L.take k)) := by
  rw [List.take_add_one, h]
  exact wg_snoc d _ o

theorem wt_le {d : Nat} {L : List Osd} {a : Wd} (hB : WB L) (hl : L.length ≤ 64) (h : a ∈ wg d L) : 0 ≤ a.wt ∧ a.wt ≤ 1073741824 := by
  rw [wg_wt h]
  have h1 := sum_le (L := sub L d a.id) (fun o ho => hB o (mem_sub.1 ho).1)
  have h2 : (sub L d a.id).length ≤ L.length := List.length_filter_le _ _
  omega

set_option maxHeartbeats 6400000 in
theorem weighed_any {w : World} {x : Option Addr} {n c : Nat} {L : List Osd} (h : At.Os w x n c L) (hn : n ≤ 64) (hB : WB L) (lev : Int) :
    Calls Tryz.prog 59 #[.slice x n c, .int .i64 lev] w fun e w' => ∃ (x' : Option Addr) (n' c' : Nat), e = .returned (.slice x' n' c') ∧ Hid (Ws w' x' n' c' (wg (4 - lev).toNat L) ∧ Below w.heap.size w w') := by
  obtain ⟨d, hd⟩ : ∃ d, d = (4 - lev).toNat := ⟨_, rfl⟩
  have cK0 := fun o V => key_any o lev V
  rw [← hd] at cK0
  have CK := hid cK0
  rw [← hd]
  have HO := hid h
  have HL := hid h.len
  have HW := hid hB
  clear h hB cK0 hd
  go_enter Tryz.func59, Tryz.ntmps59
  go_wp2_with fail
  go_loopw [6, 5] (fun i s wr => ∃ (k : Nat) (xo : Option Addr) (no co : Nat), k ≤ n ∧ i = .int .i64 k ∧ s = .slice xo no co ∧ no ≤ k ∧ Hid (Wi w wr d L k xo no co)) (fun i _ _ => n - (intOf i).toNat)
  case atStart => exact ⟨0, _, 0, 0, by omega, rfl, rfl, by omega, al _ _, w.heap.size, Nat.le_refl _, (by simp), Own.empty w (Nat.le_refl _) _ _ _⟩
  case round =>
    obtain ⟨k, xo, no, co, hk, rfl, rfl, hno, HR⟩ := hrel
    by_cases hlt : k < n
    · have hkn : (k : Int) < (n : Int) := by omega
      obtain ⟨m, hLm⟩ : ∃ m, L[k]? = some m := ⟨L[k]'(by have := HL.out; omega), List.getElem?_eq_getElem (by have := HL.out; omega)⟩
      rcases HO.out.row with h0 | ⟨b, o, rfl, hbl, hcell⟩
      · omega
      have hat := At.Os.at (n := n) (c := c) hcell hLm
      have cK := fun V => CK.out m V
      obtain ⟨bW, B, hB1, hB2, hOw⟩ := HR.out
      obtain ⟨W, hW⟩ : ∃ W, W = wg d (L.take k) := ⟨_, rfl⟩
      have hnext := wg_take (d := d) hLm
      rw [← hW] at hOw hnext
      have hlen := form_slice hOw
      have hWb : ∀ a ∈ W, 0 ≤ a.wt ∧ a.wt ≤ 1073741824 := fun a ha => by
        rw [hW] at ha
        exact wt_le (HW.out.take k) (by rw [List.length_take]; omega) ha
      have hmw := HW.out m (List.mem_of_getElem? hLm)
      obtain ⟨KY, hKY⟩ : ∃ KY, KY = kO d m := ⟨_, rfl⟩
      rw [← hKY] at cK hnext
      have HN := hid (And.intro hnext (And.intro hWb (And.intro hlen hmw)))
      have HWO := hid (And.intro bW (And.intro hB1 (And.intro hB2 hOw)))
      have hco : no ≤ co := by
        obtain ⟨x', c', e, h1, _⟩ := hOw.form
        injection e with e1 e2 e3
        omega
      have HXO : Hid (0 < no → ∃ g, xo = some ⟨g, 0, none⟩ ∧ g < wr.heap.size) := fun h0 => by
        obtain ⟨g, c', e, _, _, _, hg⟩ := hOw.there (fun e => by rw [e] at hlen; simp at hlen; omega)
        injection e with e1 e2 e3
        exact ⟨g, e1, hg⟩
      clear HR hOw bW hcell hLm hnext hWb hlen hKY hW hmw
      obtain ⟨m0, m1, m2, m3, m4, m5, m6, m7⟩ := m
      unfold vO at cK
      dsimp only at hat cK HN
      have HA := hid hat
      clear hat
      obtain ⟨wo, hwo⟩ : ∃ wo, wo = wr := ⟨_, rfl⟩
      subst hwo
      go_wp2_with fail
      go_loopw [7] (fun a wr => ∃ q : Nat, q ≤ no ∧ a = .int .i64 q ∧ Hid (Below wo.heap.size wo wr ∧ ∀ (j : Nat) (a : Wd), j < q → W[j]? = some a → a.id < KY)) (fun a _ => no - (intOf a).toNat)
      case atStart => exact ⟨0, by omega, rfl, Below.refl _ _, fun j a hj => by omega⟩
      case round =>
        obtain ⟨q, hq, rfl, HQ⟩ := hrel
        haveI := After.ne wr
        obtain ⟨a0, a1, a2, a3, a4, a5, a6, a7⟩ := HA.out
        have BQ := on HWO.out.1 HQ.out.1
        have e0 := After.cell (keep BQ a0)
        have e1 := After.cell (keep BQ a1)
        have e2 := After.cell (keep BQ a2)
        have e3 := After.cell (keep BQ a3)
        have e4 := After.cell (keep BQ a4)
        have e5 := After.cell (keep BQ a5)
        have e6 := After.cell (keep BQ a6)
        have e7 := After.cell (keep BQ a7)
        clear a0 a1 a2 a3 a4 a5 a6 a7
        have HBQ := hid BQ
        clear BQ
        by_cases hqn : q < no
        · have hqn2 : (q : Int) < (no : Int) := by omega
          have hqe : ((q : Int) == (no : Int)) = false := by simp; omega
          obtain ⟨g, rfl, hgl⟩ := HXO.out (by omega)
          obtain ⟨a, ha⟩ : ∃ a, W[q]? = some a := ⟨W[q]'(by have := HN.out.2.2.1; omega), List.getElem?_eq_getElem (by have := HN.out.2.2.1; omega)⟩
          have hOr := HWO.out.2.2.2.below HQ.out.1
          have f0 : wr.cell? ⟨g, q * 2, none⟩ = some (.int .i64 a.id) := hOr.cell Sr.wrow.len ha (j := 0) rfl
          have f1 : wr.cell? ⟨g, q * 2 + 1, none⟩ = some (.int .i64 a.wt) := hOr.cell Sr.wrow.len ha (j := 1) rfl
          have p0 := After.cell f0
          have HE := hid (And.intro ha f1)
          have hb0 := HN.out.2.1 a (List.mem_of_getElem? ha)
          clear ha hOr f0 f1
          obtain ⟨aid, awt⟩ := a
          dsimp only at p0 HE hb0
          by_cases hless : aid < KY
          · go_wp2_with fail
            refine wp_region_after (by kernel_rfl) (by kernel_rfl) ?_
            repeat (go_big_quiet_step ((go_at_call 50; with_reducible refine Calls.after_of (cK _))))
            refine wpQuiet_nil ?_
            rintro _ ⟨P, rfl⟩
            go_wp2_with fail
            go_roundw
            case rel =>
              refine ⟨q + 1, by omega, by go_num, on HQ.out.1 P.h, fun j c hj hc => ?_⟩
              by_cases ej : j = q
              · subst ej
                have := Option.some.inj (HE.out.1.symm.trans hc)
                rw [← this]
                exact hless
              · exact HQ.out.2 j c (by omega) hc
            case measure => simp [intOf]; omega
          · by_cases hsame : aid = KY
            · have hneq : (aid != KY) = false := by simp [hsame]
              go_wp2_with fail
              refine wp_region_after (by kernel_rfl) (by kernel_rfl) ?_
              repeat (go_big_quiet_step ((go_at_call 50; with_reducible refine Calls.after_of (cK _))))
              refine wpQuiet_nil ?_
              rintro _ ⟨P, rfl⟩
              have e0 := After.cell (e0 P)
              have e1 := After.cell (e1 P)
              have e2 := After.cell (e2 P)
              have e3 := After.cell (e3 P)
              have e4 := After.cell (e4 P)
              have e5 := After.cell (e5 P)
              have e6 := After.cell (e6 P)
              have e7 := After.cell (e7 P)
              have p0 := After.cell (p0 P)
              haveI := After.ne P.W
              go_wp2_with fail
              refine wp_region_after (by kernel_rfl) (by kernel_rfl) ?_
              repeat (go_big_quiet_step ((go_at_call 50; with_reducible refine Calls.after_of (cK _))))
              refine wpQuiet_nil ?_
              rintro _ ⟨Q, rfl⟩
              have BQ := on HBQ.out (on P.h Q.h)
              have BO := on HQ.out.1 (on P.h Q.h)
              have t0 := e0 Q
              have t1 := e1 Q
              have t2 := e2 Q
              have t3 := e3 Q
              have t4 := e4 Q
              have t5 := e5 Q
              have t6 := e6 Q
              have t7 := e7 Q
              clear e0 e1 e2 e3 e4 e5 e6 e7 p0
              have oQ := HWO.out.2.2.2.below BO
              have hge := (oQ.tb (g := g) rfl).1
              have f1 := keep (on P.h Q.h) HE.out.2
              have ff := oQ.frozen (k := q * 2 + 1)
              have HOQ := hid oQ
              clear oQ
              cases m2 with
              | false =>
                go_wp2_with fail
                go_roundw
                case rel =>
                  refine ⟨k + 1, _, no, co, by omega, by go_num, rfl, by omega, BQ, B, HWO.out.2.1, Nat.le_trans HWO.out.2.2.1 BO.size, ?_⟩
                  have e9 := ins_old (z := 0) W q _ HQ.out.2 HE.out.1 hsame
                  rw [HN.out.1]
                  show Own Q.W B 101 2 enW _ (insW KY 0 W)
                  rw [e9, Int.add_zero, ← hsame]
                  rw [show W.set q ⟨aid, awt⟩ = W from set_same W q _ HE.out.1]
                  exact HOQ.out
                case measure => simp [intOf]; omega
              | true =>
                have hmw : 0 ≤ m3 ∧ m3 ≤ 16777216 := HN.out.2.2.2
                have hsum : IntKind.i64.wrap (awt + m3) = awt + m3 := by rw [IntKind.wrap_i64]; omega
                have bD : Below Q.W.heap.size Q.W Q.W.drew := (Below.refl _ _).drew
                have s1 := keep bD f1
                have s3 := keep bD t3
                have sf := keepf bD (cell_lt' f1) ff
                have HOD := hid (HOQ.out.below bD)
                have HB4 := hid (on BQ bD)
                have hz9 : B ≤ Q.W.drew.heap.size := Nat.le_trans HWO.out.2.2.1 (Nat.le_trans BO.size bD.size)
                go_wp2_with fail
                refine wp_region_last (fun v => v.cell? ⟨g, q * 2 + 1, none⟩ = some (.int .i64 awt) ∧ v.cell? ⟨b, o + k * 8 + 3, none⟩ = some (.int .i64 m3)) 15 (by kernel_rfl) ⟨s1, s3⟩ (fun hS => ?_)
                generalize Q.W.drew = wD at *
                refine By.lk 0 ?_
                refine By.lk 1 ?_
                refine By.lk 2 ?_
                refine By.lk 3 ?_
                refine By.lk 4 ?_
                refine By.lk 5 ?_
                refine By.lk 6 ?_
                refine By.lk 7 ?_
                refine By.lk 8 ?_
                refine By.lk 9 ?_
                refine By.lk 10 ?_
                refine By.lk 11 ?_
                refine By.lk 12 ?_
                refine wpAnyL_one (i := 13) (by kernel_rfl) rfl (fun K hK => ?_)
                go_simp
                refine hK.out _ _ (fun _ => hS) ?_
                clear hK K
                refine wpAnyL_one (i := 14) (by kernel_rfl) rfl (fun K hK => ?_)
                go_simp
                refine hK.out _ _ (fun _ => hS) ?_
                clear hK K
                refine wpAnyL_one (i := 15) (by kernel_rfl) rfl (fun K hK => ?_)
                go_simp
                refine hK.out _ _ (fun h => absurd rfl h) ?_
                clear hK K
                refine wpAnyL_done (by kernel_rfl) ?_ _
                clear hS s1 s3 sf t0 t1 t2 t3 t4 t5 t6 t7 f1 ff
                go_wp2_with fail
                go_roundw
                case rel =>
                  refine ⟨k + 1, _, no, co, by omega, by go_num, rfl, by omega, ?_, B, HWO.out.2.1, (by simpa using hz9), ?_⟩
                  · exact HB4.out.setCell (by have := HWO.out.2.1; show w.heap.size ≤ g; omega) _
                  · have e9 := ins_old (z := m3) W q _ HQ.out.2 HE.out.1 hsame
                    rw [HN.out.1]
                    show Own _ B 101 2 enW _ (insW KY m3 W)
                    rw [e9]
                    have q9 := own_turn HOD.out HE.out.1 (awt + m3)
                    rw [show (⟨aid, awt⟩ : Wd).id = KY from hsame] at q9
                    exact q9
                case measure => simp [intOf]; omega
            · have hneq : (aid != KY) = true := by simp [hsame]
              go_wp2_with fail
              refine wp_region_after (by kernel_rfl) (by kernel_rfl) ?_
              repeat (go_big_quiet_step ((go_at_call 50; with_reducible refine Calls.after_of (cK _))))
              refine wpQuiet_nil ?_
              rintro _ ⟨P, rfl⟩
              have e0 := After.cell (e0 P)
              have e1 := After.cell (e1 P)
              have e2 := After.cell (e2 P)
              have e3 := After.cell (e3 P)
              have e4 := After.cell (e4 P)
              have e5 := After.cell (e5 P)
              have e6 := After.cell (e6 P)
              have e7 := After.cell (e7 P)
              have p0 := After.cell (p0 P)
              haveI := After.ne P.W
              go_wp2_with fail
              refine wp_region_after (by kernel_rfl) (by kernel_rfl) ?_
              repeat (go_big_quiet_step ((go_at_call 50; with_reducible refine Calls.after_of (cK _))))
              refine wpQuiet_nil ?_
              rintro _ ⟨Q, rfl⟩
              have BQ := on HBQ.out (on P.h Q.h)
              have BO := on HQ.out.1 (on P.h Q.h)
              have t0 := e0 Q
              have t1 := e1 Q
              have t2 := e2 Q
              have t3 := e3 Q
              have t4 := e4 Q
              have t5 := e5 Q
              have t6 := e6 Q
              have t7 := e7 Q
              clear e0 e1 e2 e3 e4 e5 e6 e7 p0
              have hnew : ∀ a, W[q]? = some a → KY < a.id := fun a ha => by
                have := Option.some.inj (HE.out.1.symm.trans ha)
                rw [← this]
                show KY < aid
                omega
              have bD : Below Q.W.heap.size Q.W Q.W.drew := (Below.refl _ _).drew
              have hwsD := Sr.own_ws ((HWO.out.2.2.2.below BO).below bD) (by have := HN.out.2.2.1; omega)
              obtain ⟨x1, c1, w1, hap1, b1, HM⟩ := ins_mem hwsD hq (by omega) KY
              have hcut1 := fun V => cutw_head (some ⟨g, 0, none⟩) no co q V (by omega)
              have hcut2 := fun V => cutw_from (some ⟨g, 0, none⟩) no co q V hq
              have HV : Hid (∀ V, Below Q.W.drew.heap.size Q.W.drew V → V.cell? ⟨b, o + k * 8, none⟩ = some (.int .i64 m0) ∧ V.cell? ⟨b, o + k * 8 + 1, none⟩ = some (.bool m1) ∧ V.cell? ⟨b, o + k * 8 + 2, none⟩ = some (.bool m2) ∧ V.cell? ⟨b, o + k * 8 + 3, none⟩ = some (.int .i64 m3) ∧ V.cell? ⟨b, o + k * 8 + 4, none⟩ = some (.int .i64 m4) ∧ V.cell? ⟨b, o + k * 8 + 5, none⟩ = some (.int .i64 m5) ∧ V.cell? ⟨b, o + k * 8 + 6, none⟩ = some (.int .i64 m6) ∧ V.cell? ⟨b, o + k * 8 + 7, none⟩ = some (.int .i64 m7)) := fun V hb => ⟨keep (on bD hb) t0, keep (on bD hb) t1, keep (on bD hb) t2, keep (on bD hb) t3, keep (on bD hb) t4, keep (on bD hb) t5, keep (on bD hb) t6, keep (on bD hb) t7⟩
              have HBD := hid (on BQ bD)
              have v0 := HV.out _ (Below.refl _ _)
              have v1 := HV.out _ (al Q.W.drew (.cells #[] 101))
              have v2 := HV.out _ b1
              have HP9 := hid hnew
              clear t0 t1 t2 t3 t4 t5 t6 t7 hwsD hnew
              go_wp2_with fail
              refine wp_region_held_drew (S := fun v => v.cell? ⟨b, o + k * 8, none⟩ = some (.int .i64 m0) ∧ v.cell? ⟨b, o + k * 8 + 1, none⟩ = some (.bool m1) ∧ v.cell? ⟨b, o + k * 8 + 2, none⟩ = some (.bool m2) ∧ v.cell? ⟨b, o + k * 8 + 3, none⟩ = some (.int .i64 m3) ∧ v.cell? ⟨b, o + k * 8 + 4, none⟩ = some (.int .i64 m4) ∧ v.cell? ⟨b, o + k * 8 + 5, none⟩ = some (.int .i64 m5) ∧ v.cell? ⟨b, o + k * 8 + 6, none⟩ = some (.int .i64 m6) ∧ v.cell? ⟨b, o + k * 8 + 7, none⟩ = some (.int .i64 m7)) (by kernel_rfl) v0 (fun hHeld => ?_)
              generalize Q.W.drew = wD at *
              refine By.hk 1 ?_
              refine By.hk 2 ?_
              refine By.hk 3 ?_
              refine By.hk 5 ?_
              refine By.hk 6 ?_
              refine By.hk 7 ?_
              refine By.hk 8 ?_
              refine By.hk 9 ?_
              refine By.hk 14 ?_
              refine By.hk 15 ?_
              refine By.hk 16 ?_
              refine wpAnyH_ready (rs := [0]) (by kernel_rfl) (by simp) ?_
              refine AllReadyH.cons rfl (fun K hK => ?_) AllReadyH.nil
              go_simp
              refine hK.out _ _ v1 (fun hHeld => ?_)
              clear hK K
              refine wpAnyH_ready (rs := [4]) (by kernel_rfl) (by simp) ?_
              refine AllReadyH.cons rfl (fun K hK => ?_) AllReadyH.nil
              refine st_append rfl _ _ 97 rfl _ _ rfl rfl hap1 ?_
              (try simp only [Act.put, List.getElem_toArray, List.getElem_cons_succ, List.getElem_cons_zero, List.setIfInBounds_toArray, List.set_cons_zero, List.set_cons_succ])
              refine hK.out _ _ v2 (fun hHeld => ?_)
              clear hK K
              refine wpAnyH_ready (rs := [10]) (by kernel_rfl) (by simp) ?_
              refine AllReadyH.cons rfl (fun K hK => ?_) AllReadyH.nil
              go_simp
              refine (cK _).mono ?_
              rintro e w2 ⟨rfl, hb2⟩
              obtain ⟨x3, c3, w3, hap2, r1, r2, x4, c4, w4, hap3, r3, H4⟩ := HM.out w2 hb2
              have v3 := HV.out _ (on b1 hb2)
              have v4 := HV.out _ r1
              have v5 := HV.out _ r2
              have v6 := HV.out _ r3
              clear HM hap1
              refine hK.out _ _ v3 (fun hHeld => ?_)
              clear hK K
              refine By.hk 11 ?_
              refine wpAnyH_ready (rs := [12]) (by kernel_rfl) (by simp) ?_
              refine AllReadyH.cons rfl (fun K hK => ?_) AllReadyH.nil
              go_simp
              refine hK.out _ _ v4 (fun hHeld => ?_)
              clear hK K
              refine wpAnyH_ready (rs := [13]) (by kernel_rfl) (by simp) ?_
              refine AllReadyH.cons rfl (fun K hK => ?_) AllReadyH.nil
              refine st_append rfl _ _ 97 rfl _ _ rfl rfl hap2 ?_
              (try simp only [Act.put, List.getElem_toArray, List.getElem_cons_succ, List.getElem_cons_zero, List.setIfInBounds_toArray, List.set_cons_zero, List.set_cons_succ])
              refine hK.out _ _ v5 (fun hHeld => ?_)
              clear hK K
              refine wpAnyH_ready (rs := [17]) (by kernel_rfl) (by simp) ?_
              refine AllReadyH.cons rfl (fun K hK => ?_) AllReadyH.nil
              refine st_append rfl _ _ 97 rfl _ _ rfl rfl hap3 ?_
              (try simp only [Act.put, List.getElem_toArray, List.getElem_cons_succ, List.getElem_cons_zero, List.setIfInBounds_toArray, List.set_cons_zero, List.set_cons_succ])
              refine hK.out _ _ v6 (fun hHeld => ?_)
              clear hK K
              refine By.hk 18 ?_
              refine wpAnyH_done (by kernel_rfl) ?_ _
              have y2 := v6.2.2.1
              have y3 := v6.2.2.2.1
              obtain ⟨n4, hn4⟩ : ∃ n4, n4 = q + 1 + (no - q) := ⟨_, rfl⟩
              rw [← hn4] at H4 ⊢
              have hn5 := hid (show n4 = no + 1 by omega)
              have hqn4 : (q : Int) < (n4 : Int) := by have := hn5.out; omega
              have hlq : (W.take q).length = q := by rw [List.length_take]; have := HN.out.2.2.1; omega
              have hget : (W.take q ++ [⟨KY, 0⟩] ++ W.drop q)[q]? = some (⟨KY, 0⟩ : Wd) := by
                rw [List.append_assoc, List.getElem?_append_right (by omega), hlq, Nat.sub_self]
                rfl
              obtain ⟨g4, c5, e5, _, _, hg4, hg5⟩ := H4.out.1.there (fun e => by have := congrArg List.length e; simp at this)
              injection e5 with e51 e52 e53
              subst e51
              have f1 : w4.cell? ⟨g4, q * 2 + 1, none⟩ = some (.int .i64 0) := H4.out.1.cell Sr.wrow.len hget (j := 1) rfl
              have ff := H4.out.1.frozen (k := q * 2 + 1)
              have HG9 := hid hget
              have HBR := hid r3
              clear v0 v1 v2 v3 v4 v5 v6 hHeld hap2 hap3 r1 r2 r3 hb2 b1 e52 e53 hn4 hget hlq HV bD
              cases m2 with
              | false =>
                go_wp2_with fail
                go_roundw
                case rel =>
                  refine ⟨k + 1, _, n4, c4, by omega, by go_num, rfl, by have := hn5.out; omega, on HBD.out HBR.out, wD.heap.size, HBD.out.size, H4.out.2, ?_⟩
                  have e9 := ins_new (z := 0) W q (by have := HN.out.2.2.1; omega) HQ.out.2 HP9.out
                  rw [HN.out.1]
                  show Own w4 _ 101 2 enW _ (insW KY 0 W)
                  rw [e9]
                  exact H4.out.1
                case measure => simp [intOf]; omega
              | true =>
                have hmw : 0 ≤ m3 ∧ m3 ≤ 16777216 := HN.out.2.2.2
                have hsum : IntKind.i64.wrap m3 = m3 := by rw [IntKind.wrap_i64]; omega
                have bE : Below w4.heap.size w4 w4.drew := (Below.refl _ _).drew
                have s1 := keep bE f1
                have s3 := keep bE y3
                have sf := keepf bE (cell_lt' f1) ff
                have HOD := hid (H4.out.1.below bE)
                have HB4 := hid (on (on HBD.out HBR.out) bE)
                have hz9 : wD.heap.size ≤ w4.drew.heap.size := Nat.le_trans H4.out.2 bE.size
                have hz8 : w.heap.size ≤ g4 := Nat.le_trans HBD.out.size hg4
                have hz7 := HBD.out.size
                go_wp2_with fail
                refine wp_region_last (fun v => v.cell? ⟨g4, q * 2 + 1, none⟩ = some (.int .i64 0) ∧ v.cell? ⟨b, o + k * 8 + 3, none⟩ = some (.int .i64 m3)) 15 (by kernel_rfl) ⟨s1, s3⟩ (fun hS => ?_)
                generalize w4.drew = wE at *
                refine By.lk 0 ?_
                refine By.lk 1 ?_
                refine By.lk 2 ?_
                refine By.lk 3 ?_
                refine By.lk 4 ?_
                refine By.lk 5 ?_
                refine By.lk 6 ?_
                refine By.lk 7 ?_
                refine By.lk 8 ?_
                refine By.lk 9 ?_
                refine By.lk 10 ?_
                refine By.lk 11 ?_
                refine By.lk 12 ?_
                refine wpAnyL_one (i := 13) (by kernel_rfl) rfl (fun K hK => ?_)
                go_simp
                refine hK.out _ _ (fun _ => hS) ?_
                clear hK K
                refine wpAnyL_one (i := 14) (by kernel_rfl) rfl (fun K hK => ?_)
                go_simp
                refine hK.out _ _ (fun _ => hS) ?_
                clear hK K
                refine wpAnyL_one (i := 15) (by kernel_rfl) rfl (fun K hK => ?_)
                go_simp
                refine hK.out _ _ (fun h => absurd rfl h) ?_
                clear hK K
                refine wpAnyL_done (by kernel_rfl) ?_ _
                clear hS s1 s3 sf f1 ff y2 y3
                go_wp2_with fail
                go_roundw
                case rel =>
                  refine ⟨k + 1, _, n4, c4, by omega, by go_num, rfl, by have := hn5.out; omega, ?_, wD.heap.size, hz7, (by simpa using hz9), ?_⟩
                  · exact HB4.out.setCell hz8 _
                  · have e9 := ins_new (z := m3) W q (by have := HN.out.2.2.1; omega) HQ.out.2 HP9.out
                    rw [HN.out.1]
                    show Own _ _ 101 2 enW _ (insW KY m3 W)
                    rw [e9]
                    have q9 := own_turn HOD.out HG9.out m3
                    rw [set_mid W q _ _ (by have := HN.out.2.2.1; omega)] at q9
                    exact q9
                case measure => simp [intOf]; omega
        · have hqe : ((q : Int) == (no : Int)) = true := by simp; omega
          have hqn2 : ¬ (q : Int) < (no : Int) := by omega
          go_wp2_with fail
          refine wp_region_after (by kernel_rfl) (by kernel_rfl) ?_
          repeat (go_big_quiet_step ((go_at_call 50; with_reducible refine Calls.after_of (cK _))))
          refine wpQuiet_nil ?_
          rintro _ ⟨P, rfl⟩
          have e0 := After.cell (e0 P)
          have e1 := After.cell (e1 P)
          have e2 := After.cell (e2 P)
          have e3 := After.cell (e3 P)
          have e4 := After.cell (e4 P)
          have e5 := After.cell (e5 P)
          have e6 := After.cell (e6 P)
          have e7 := After.cell (e7 P)
          haveI := After.ne P.W
          go_wp2_with fail
          refine wp_region_after (by kernel_rfl) (by kernel_rfl) ?_
          repeat (go_big_quiet_step ((go_at_call 50; with_reducible refine Calls.after_of (cK _))))
          refine wpQuiet_nil ?_
          rintro _ ⟨Q, rfl⟩
          have BQ := on HBQ.out (on P.h Q.h)
          have BO := on HQ.out.1 (on P.h Q.h)
          have t0 := e0 Q
          have t1 := e1 Q
          have t2 := e2 Q
          have t3 := e3 Q
          have t4 := e4 Q
          have t5 := e5 Q
          have t6 := e6 Q
          have t7 := e7 Q
          clear e0 e1 e2 e3 e4 e5 e6 e7
          have hnew : ∀ a, W[q]? = some a → KY < a.id := fun a ha => by
            have := (List.getElem?_eq_some_iff.1 ha).1
            have := HN.out.2.2.1
            omega
          have bD : Below Q.W.heap.size Q.W Q.W.drew := (Below.refl _ _).drew
          have hwsD := Sr.own_ws ((HWO.out.2.2.2.below BO).below bD) (by have := HN.out.2.2.1; omega)
          obtain ⟨x1, c1, w1, hap1, b1, HM⟩ := ins_mem hwsD hq (by omega) KY
          have hcut1 := fun V => cutw_head xo no co q V (by omega)
          have hcut2 := fun V => cutw_from xo no co q V hq
          have HV : Hid (∀ V, Below Q.W.drew.heap.size Q.W.drew V → V.cell? ⟨b, o + k * 8, none⟩ = some (.int .i64 m0) ∧ V.cell? ⟨b, o + k * 8 + 1, none⟩ = some (.bool m1) ∧ V.cell? ⟨b, o + k * 8 + 2, none⟩ = some (.bool m2) ∧ V.cell? ⟨b, o + k * 8 + 3, none⟩ = some (.int .i64 m3) ∧ V.cell? ⟨b, o + k * 8 + 4, none⟩ = some (.int .i64 m4) ∧ V.cell? ⟨b, o + k * 8 + 5, none⟩ = some (.int .i64 m5) ∧ V.cell? ⟨b, o + k * 8 + 6, none⟩ = some (.int .i64 m6) ∧ V.cell? ⟨b, o + k * 8 + 7, none⟩ = some (.int .i64 m7)) := fun V hb => ⟨keep (on bD hb) t0, keep (on bD hb) t1, keep (on bD hb) t2, keep (on bD hb) t3, keep (on bD hb) t4, keep (on bD hb) t5, keep (on bD hb) t6, keep (on bD hb) t7⟩
          have HBD := hid (on BQ bD)
          have v0 := HV.out _ (Below.refl _ _)
          have v1 := HV.out _ (al Q.W.drew (.cells #[] 101))
          have v2 := HV.out _ b1
          have HP9 := hid hnew
          clear t0 t1 t2 t3 t4 t5 t6 t7 hwsD hnew
          go_wp2_with fail
          refine wp_region_held_drew (S := fun v => v.cell? ⟨b, o + k * 8, none⟩ = some (.int .i64 m0) ∧ v.cell? ⟨b, o + k * 8 + 1, none⟩ = some (.bool m1) ∧ v.cell? ⟨b, o + k * 8 + 2, none⟩ = some (.bool m2) ∧ v.cell? ⟨b, o + k * 8 + 3, none⟩ = some (.int .i64 m3) ∧ v.cell? ⟨b, o + k * 8 + 4, none⟩ = some (.int .i64 m4) ∧ v.cell? ⟨b, o + k * 8 + 5, none⟩ = some (.int .i64 m5) ∧ v.cell? ⟨b, o + k * 8 + 6, none⟩ = some (.int .i64 m6) ∧ v.cell? ⟨b, o + k * 8 + 7, none⟩ = some (.int .i64 m7)) (by kernel_rfl) v0 (fun hHeld => ?_)
          generalize Q.W.drew = wD at *
          refine By.hk 1 ?_
          refine By.hk 2 ?_
          refine By.hk 3 ?_
          refine By.hk 5 ?_
          refine By.hk 6 ?_
          refine By.hk 7 ?_
          refine By.hk 8 ?_
          refine By.hk 9 ?_
          refine By.hk 14 ?_
          refine By.hk 15 ?_
          refine By.hk 16 ?_
          refine wpAnyH_ready (rs := [0]) (by kernel_rfl) (by simp) ?_
          refine AllReadyH.cons rfl (fun K hK => ?_) AllReadyH.nil
          go_simp
          refine hK.out _ _ v1 (fun hHeld => ?_)
          clear hK K
          refine wpAnyH_ready (rs := [4]) (by kernel_rfl) (by simp) ?_
          refine AllReadyH.cons rfl (fun K hK => ?_) AllReadyH.nil
          refine st_append rfl _ _ 97 rfl _ _ rfl rfl hap1 ?_
          (try simp only [Act.put, List.getElem_toArray, List.getElem_cons_succ, List.getElem_cons_zero, List.setIfInBounds_toArray, List.set_cons_zero, List.set_cons_succ])
          refine hK.out _ _ v2 (fun hHeld => ?_)
          clear hK K
          refine wpAnyH_ready (rs := [10]) (by kernel_rfl) (by simp) ?_
          refine AllReadyH.cons rfl (fun K hK => ?_) AllReadyH.nil
          go_simp
          refine (cK _).mono ?_
          rintro e w2 ⟨rfl, hb2⟩
          obtain ⟨x3, c3, w3, hap2, r1, r2, x4, c4, w4, hap3, r3, H4⟩ := HM.out w2 hb2
          have v3 := HV.out _ (on b1 hb2)
          have v4 := HV.out _ r1
          have v5 := HV.out _ r2
          have v6 := HV.out _ r3
          clear HM hap1
          refine hK.out _ _ v3 (fun hHeld => ?_)
          clear hK K
          refine By.hk 11 ?_
          refine wpAnyH_ready (rs := [12]) (by kernel_rfl) (by simp) ?_
          refine AllReadyH.cons rfl (fun K hK => ?_) AllReadyH.nil
          go_simp
          refine hK.out _ _ v4 (fun hHeld => ?_)
          clear hK K
          refine wpAnyH_ready (rs := [13]) (by kernel_rfl) (by simp) ?_
          refine AllReadyH.cons rfl (fun K hK => ?_) AllReadyH.nil
          refine st_append rfl _ _ 97 rfl _ _ rfl rfl hap2 ?_
          (try simp only [Act.put, List.getElem_toArray, List.getElem_cons_succ, List.getElem_cons_zero, List.setIfInBounds_toArray, List.set_cons_zero, List.set_cons_succ])
          refine hK.out _ _ v5 (fun hHeld => ?_)
          clear hK K
          refine wpAnyH_ready (rs := [17]) (by kernel_rfl) (by simp) ?_
          refine AllReadyH.cons rfl (fun K hK => ?_) AllReadyH.nil
          refine st_append rfl _ _ 97 rfl _ _ rfl rfl hap3 ?_
          (try simp only [Act.put, List.getElem_toArray, List.getElem_cons_succ, List.getElem_cons_zero, List.setIfInBounds_toArray, List.set_cons_zero, List.set_cons_succ])
          refine hK.out _ _ v6 (fun hHeld => ?_)
          clear hK K
          refine By.hk 18 ?_
          refine wpAnyH_done (by kernel_rfl) ?_ _
          have y2 := v6.2.2.1
          have y3 := v6.2.2.2.1
          obtain ⟨n4, hn4⟩ : ∃ n4, n4 = q + 1 + (no - q) := ⟨_, rfl⟩
          rw [← hn4] at H4 ⊢
          have hn5 := hid (show n4 = no + 1 by omega)
          have hqn4 : (q : Int) < (n4 : Int) := by have := hn5.out; omega
          have hlq : (W.take q).length = q := by rw [List.length_take]; have := HN.out.2.2.1; omega
          have hget : (W.take q ++ [⟨KY, 0⟩] ++ W.drop q)[q]? = some (⟨KY, 0⟩ : Wd) := by
            rw [List.append_assoc, List.getElem?_append_right (by omega), hlq, Nat.sub_self]
            rfl
          obtain ⟨g4, c5, e5, _, _, hg4, hg5⟩ := H4.out.1.there (fun e => by have := congrArg List.length e; simp at this)
          injection e5 with e51 e52 e53
          subst e51
          have f1 : w4.cell? ⟨g4, q * 2 + 1, none⟩ = some (.int .i64 0) := H4.out.1.cell Sr.wrow.len hget (j := 1) rfl
          have ff := H4.out.1.frozen (k := q * 2 + 1)
          have HG9 := hid hget
          have HBR := hid r3
          clear v0 v1 v2 v3 v4 v5 v6 hHeld hap2 hap3 r1 r2 r3 hb2 b1 e52 e53 hn4 hget hlq HV bD
          cases m2 with
          | false =>
            go_wp2_with fail
            go_roundw
            case rel =>
              refine ⟨k + 1, _, n4, c4, by omega, by go_num, rfl, by have := hn5.out; omega, on HBD.out HBR.out, wD.heap.size, HBD.out.size, H4.out.2, ?_⟩
              have e9 := ins_new (z := 0) W q (by have := HN.out.2.2.1; omega) HQ.out.2 HP9.out
              rw [HN.out.1]
              show Own w4 _ 101 2 enW _ (insW KY 0 W)
              rw [e9]
              exact H4.out.1
            case measure => simp [intOf]; omega
          | true =>
            have hmw : 0 ≤ m3 ∧ m3 ≤ 16777216 := HN.out.2.2.2
            have hsum : IntKind.i64.wrap m3 = m3 := by rw [IntKind.wrap_i64]; omega
            have bE : Below w4.heap.size w4 w4.drew := (Below.refl _ _).drew
            have s1 := keep bE f1
            have s3 := keep bE y3
            have sf := keepf bE (cell_lt' f1) ff
            have HOD := hid (H4.out.1.below bE)
            have HB4 := hid (on (on HBD.out HBR.out) bE)
            have hz9 : wD.heap.size ≤ w4.drew.heap.size := Nat.le_trans H4.out.2 bE.size
            have hz8 : w.heap.size ≤ g4 := Nat.le_trans HBD.out.size hg4
            have hz7 := HBD.out.size
            go_wp2_with fail
            refine wp_region_last (fun v => v.cell? ⟨g4, q * 2 + 1, none⟩ = some (.int .i64 0) ∧ v.cell? ⟨b, o + k * 8 + 3, none⟩ = some (.int .i64 m3)) 15 (by kernel_rfl) ⟨s1, s3⟩ (fun hS => ?_)
            generalize w4.drew = wE at *
            refine By.lk 0 ?_
            refine By.lk 1 ?_
            refine By.lk 2 ?_
            refine By.lk 3 ?_
            refine By.lk 4 ?_
            refine By.lk 5 ?_
            refine By.lk 6 ?_
            refine By.lk 7 ?_
            refine By.lk 8 ?_
            refine By.lk 9 ?_
            refine By.lk 10 ?_
            refine By.lk 11 ?_
            refine By.lk 12 ?_
            refine wpAnyL_one (i := 13) (by kernel_rfl) rfl (fun K hK => ?_)
            go_simp
            refine hK.out _ _ (fun _ => hS) ?_
            clear hK K
            refine wpAnyL_one (i := 14) (by kernel_rfl) rfl (fun K hK => ?_)
            go_simp
            refine hK.out _ _ (fun _ => hS) ?_
            clear hK K
            refine wpAnyL_one (i := 15) (by kernel_rfl) rfl (fun K hK => ?_)
            go_simp
            refine hK.out _ _ (fun h => absurd rfl h) ?_
            clear hK K
            refine wpAnyL_done (by kernel_rfl) ?_ _
            clear hS s1 s3 sf f1 ff y2 y3
            go_wp2_with fail
            go_roundw
            case rel =>
              refine ⟨k + 1, _, n4, c4, by omega, by go_num, rfl, by have := hn5.out; omega, ?_, wD.heap.size, hz7, (by simpa using hz9), ?_⟩
              · exact HB4.out.setCell hz8 _
              · have e9 := ins_new (z := m3) W q (by have := HN.out.2.2.1; omega) HQ.out.2 HP9.out
                rw [HN.out.1]
                show Own _ _ 101 2 enW _ (insW KY m3 W)
                rw [e9]
                have q9 := own_turn HOD.out HG9.out m3
                rw [set_mid W q _ _ (by have := HN.out.2.2.1; omega)] at q9
                exact q9
            case measure => simp [intOf]; omega
    · have hk2 : k = n := by omega
      subst hk2
      go_wp2_with fail
      go_ret
      obtain ⟨b1, B, h1, h2, h3⟩ := HR.out
      rw [← HL.out, List.take_length] at h3
      exact ⟨_, _, _, rfl, Sr.own_ws h3 (by rw [form_slice h3]; omega), b1⟩

end Go.Proofs.YthlfmbijagpggaaGreat.Cr

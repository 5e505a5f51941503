/-
  5 texts of this proof, one behind the other: AtFold, AtRd, AtRdOsd, AtSame, AtSame2.
-/
import Derived.Test.YtdlajpjigddbhaaGreatJ19
import Derived.Test.YtdlajpjigddbhaaGreatJ08
import Derived.Test.YtdlajpjigddbhaaGreatJ20
import Derived.Test.YtdlajpjigddbhaaGreatJ21
import Derived.Test.YtdlajpjigddbhaaGreatJ07
/-
  Package atlas: Fold.
  Conditions: no more than 300 changes, that lie in memory.
-/
namespace Go.Proofs.YtdlajpjigddbhaaGreat.At
open Go.RowKit By Fl
set_option linter.unusedVariables false
set_option linter.unusedSimpArgs false
set_option maxRecDepth 100000

theorem results_cell3 {fn : Func} {p q r : Tmp} {ty : TypeId} (h : fn.results = #[.cell p ty, .tmp q, .tmp r]) (tmps : Array Value) (P : Program) (w : World) :
    (results fn tmps).run P w = ((asAddr (tmps.getD p undef)).run P w).andThen fun a w₁ => ((loadVar ty a).run P w₁).andThen fun v w₂ => .ok (.tuple #[v, tmps.getD q undef, tmps.getD r undef]) w₂ := by
  simp only [results, h]
  simp [Sem.run_bind, Result.andThen]

theorem fold_no {w : World} {x : Option Addr} {n c : Nat} (p : Pool) (hk : p.k ≤ 9223372036854775807) (hp : poolB p = false) :
    Calls Tryz.prog 52 #[vP p, .slice x n c] w fun e w' => e = .returned (.tuple #[vM 0 noP none 0 0, .slice none 0 0, .int .i64 1]) ∧ Below w.heap.size w w' := by
  have hN := fun W => new_no p W hk hp
  clear hk hp
  obtain ⟨k, m, g, d⟩ := p
  unfold vP vM noP at *
  dsimp only at hN ⊢
  have b0 : Below w.heap.size w ((w.alloc (.cells #[.int .i64 k, .int .i64 m, .int .i64 g, .int .i64 d] 49)).alloc (.cells #[.int .i64 0, .int .i64 0, .int .i64 0, .int .i64 0, .int .i64 0, .slice none 0 0] 56)) := on (al _ _) (al _ _)
  go_enter Tryz.func52, Tryz.ntmps52
  go_wp2_with (first
    | (
       go_at_call 34; refine (hN _).mono ?_; rintro e w1 ⟨rfl, hb1⟩; clear hN
       have k0 := keep hb1 (b := w.heap.size + 1) (o := 0) (x := .int .i64 0) (by first | assumption | go_simp)
       have k1 := keep hb1 (b := w.heap.size + 1) (o := 1) (x := .int .i64 0) (by first | assumption | go_simp)
       have k2 := keep hb1 (b := w.heap.size + 1) (o := 2) (x := .int .i64 0) (by first | assumption | go_simp)
       have k3 := keep hb1 (b := w.heap.size + 1) (o := 3) (x := .int .i64 0) (by first | assumption | go_simp)
       have k4 := keep hb1 (b := w.heap.size + 1) (o := 4) (x := .int .i64 0) (by first | assumption | go_simp)
       have k5 := keep hb1 (b := w.heap.size + 1) (o := 5) (x := .slice none 0 0) (by first | assumption | go_simp)
       have f0 := keepf hb1 (b := w.heap.size + 1) (o := 0) (by first | (simp <;> omega) | exact cell_lt' (a := ⟨w.heap.size + 1, 0, none⟩) (by assumption) | (simp; exact cell_lt' (a := ⟨w.heap.size + 1, 0, none⟩) (by assumption))) (by first | assumption | go_simp)
       have f1 := keepf hb1 (b := w.heap.size + 1) (o := 1) (by first | (simp <;> omega) | exact cell_lt' (a := ⟨w.heap.size + 1, 1, none⟩) (by assumption) | (simp; exact cell_lt' (a := ⟨w.heap.size + 1, 1, none⟩) (by assumption))) (by first | assumption | go_simp)
       have f2 := keepf hb1 (b := w.heap.size + 1) (o := 2) (by first | (simp <;> omega) | exact cell_lt' (a := ⟨w.heap.size + 1, 2, none⟩) (by assumption) | (simp; exact cell_lt' (a := ⟨w.heap.size + 1, 2, none⟩) (by assumption))) (by first | assumption | go_simp)
       have f3 := keepf hb1 (b := w.heap.size + 1) (o := 3) (by first | (simp <;> omega) | exact cell_lt' (a := ⟨w.heap.size + 1, 3, none⟩) (by assumption) | (simp; exact cell_lt' (a := ⟨w.heap.size + 1, 3, none⟩) (by assumption))) (by first | assumption | go_simp)
       have f4 := keepf hb1 (b := w.heap.size + 1) (o := 4) (by first | (simp <;> omega) | exact cell_lt' (a := ⟨w.heap.size + 1, 4, none⟩) (by assumption) | (simp; exact cell_lt' (a := ⟨w.heap.size + 1, 4, none⟩) (by assumption))) (by first | assumption | go_simp)
       have f5 := keepf hb1 (b := w.heap.size + 1) (o := 5) (by first | (simp <;> omega) | exact cell_lt' (a := ⟨w.heap.size + 1, 5, none⟩) (by assumption) | (simp; exact cell_lt' (a := ⟨w.heap.size + 1, 5, none⟩) (by assumption))) (by first | assumption | go_simp)
       have lt1 : w.heap.size + 1 < w1.heap.size := cell_lt' k0
       have B1 := on b0 hb1; clear hb1))
  refine bodyPost_ret (v := .tuple #[.agg #[.int .i64 0, .int .i64 0, .int .i64 0, .int .i64 0, .int .i64 0, .slice none 0 0], .slice none 0 0, .int .i64 1]) ?_ rfl ?_
  · rw [results_cell3 rfl]
    go_simp
  · refine ⟨rfl, ?_⟩
    repeat (first | with_reducible exact B1 | (with_reducible refine Below.setCell ?_ (by first | (simp; done) | (simp; omega) | omega) _) | (with_reducible refine Below.alloc ?_ (by first | (simp; done) | (simp; omega) | omega) _))

structure FoldAt (w W2 wr : World) (pm gt n k : Nat) (m0 : Mp) (l : List Ch) (R : Value) : Prop where
  map : MapAt wr w.heap.size pm (foldP m0 (l.take k)).2 R
  turns : Turns (fun j => j = pm ∨ j = gt) W2 wr
  new : ∀ g, R.ownBlock = some g → W2.heap.size ≤ g
  told : Ns wr gt 50 ((foldP m0 (l.take k)).1 ++ List.replicate (n - k) 0)
  lt : gt < W2.heap.size
  ne : pm ≠ gt
  big : w.heap.size ≤ W2.heap.size

theorem FoldAt.below {w W2 wr wr' : World} {pm gt n k : Nat} {m0 : Mp} {l : List Ch} {R : Value} (h : FoldAt w W2 wr pm gt n k m0 l R) (b : Below wr.heap.size wr wr') : FoldAt w W2 wr' pm gt n k m0 l R :=
  ⟨h.map.below b, h.turns.more (Turns.of_below (F := fun _ => False) b) (fun _ h => h.elim), h.new, h.told.below b, h.lt, h.ne, h.big⟩

theorem FoldAt.toldM {w W2 wr w3 : World} {pm gt n k : Nat} {m0 m' : Mp} {l : List Ch} {R : Value} (h : FoldAt w W2 wr pm gt n k m0 l R) (hm : Moved wr w3 w.heap.size pm R m') : Ns w3 gt 50 ((foldP m0 (l.take k)).1 ++ List.replicate (n - k) 0) := by
  obtain ⟨R', h1, h2, h3⟩ := hm
  exact h.told.turns h2 (fun e => by
    rcases e with e | e
    · exact h.ne e.symm
    · have := h.new _ e; have := h.lt; omega)

theorem rep_set {T : List Int} {k n : Nat} (hT : T.length = k) (hk : k < n) (v : Int) : (T ++ List.replicate (n - k) 0).set k v = T ++ [v] ++ List.replicate (n - (k + 1)) 0 := by
  obtain ⟨q, hq⟩ : ∃ q, n - k = q + 1 := ⟨n - k - 1, by omega⟩
  rw [hq, show n - (k + 1) = q by omega, List.replicate_succ, List.set_append_right _ _ (by omega), hT, Nat.sub_self, List.set_cons_zero]
  simp

theorem FoldAt.step {w W2 wr w3 : World} {pm gt n k : Nat} {m0 : Mp} {l : List Ch} {c : Ch} {R : Value} (h : FoldAt w W2 wr pm gt n k m0 l R) (hc : l[k]? = some c) (hl : l.length = n) (hm : Moved wr w3 w.heap.size pm R (advP (foldP m0 (l.take k)).2 c).2) :
    ∃ R', FoldAt w W2 (w3.setCell ⟨gt, k, none⟩ (.int .i64 (advP (foldP m0 (l.take k)).2 c).1)) pm gt n (k + 1) m0 l R' := by
  have hT := h.toldM hm
  have hkn : k < n := by rw [← hl]; exact (List.getElem?_eq_some_iff.1 hc).1
  obtain ⟨R', h1, h2, h3⟩ := hm
  have e := fold_take m0 hc
  have hlt := h.lt
  have hsz := h.turns.size
  have hnb : ∀ g, R'.ownBlock = some g → W2.heap.size ≤ g := fun g hg => by
    rcases h3 g hg with q | q
    · exact h.new g q
    · omega
  refine ⟨R', ?_, ?_, hnb, ?_, h.lt, h.ne, h.big⟩
  · rw [e]
    exact h1.turns (turns_put (Turns.refl _ _) _ _) (fun e => h.ne e) (fun g hg e => by have := hnb g hg; omega)
  · refine Turns.setCell (p := ⟨gt, k, none⟩) ?_ (.inl (.inr rfl)) _
    exact h.turns.more h2 (fun i hi => by
      rcases hi with q | q
      · exact .inl (.inl q)
      · exact .inr (h.new i q))
  · rw [e]
    have := hT.set k (advP (foldP m0 (l.take k)).2 c).1
    rw [rep_set (by rw [foldP_len, List.length_take]; omega) hkn] at this
    exact this

set_option maxHeartbeats 1600000 in
theorem fold_yes {w : World} {x : Option Addr} {n c : Nat} {l : List Ch} (p : Pool) (hk : p.k ≤ 9223372036854775807) (hp : poolB p = true) (h : Cs w x n c l) (hn : n ≤ 300) :
    Calls Tryz.prog 52 #[vP p, .slice x n c] w fun e w' => ∃ y yn yc gt, e = .returned (.tuple #[vM (foldP ⟨0, p, []⟩ l).2.ep (foldP ⟨0, p, []⟩ l).2.pool y yn yc, .slice (some ⟨gt, 0, none⟩) n n, .int .i64 0]) ∧
      Hid (Below w.heap.size w w' ∧ Own w' w.heap.size 35 8 enO (.slice y yn yc) (foldP ⟨0, p, []⟩ l).2.osds ∧ Ns w' gt 50 (foldP ⟨0, p, []⟩ l).1 ∧ w.heap.size ≤ gt ∧ (foldP ⟨0, p, []⟩ l).2.osds.length ≤ 64) := by
  have hN := fun W => new_yes p W hk hp
  have HC := hid h
  have HL := hid h.len
  have hmk := fun W => run_make_ns W 102 50 (by kernel_rfl) (by kernel_rfl) n (by omega)
  obtain ⟨m0, hm0⟩ : ∃ m0, m0 = (⟨0, p, []⟩ : Mp) := ⟨_, rfl⟩
  rw [← hm0]
  have HM0 := hid hm0
  have HEP : Hid (∀ k, 0 ≤ (foldP m0 (l.take k)).2.ep ∧ (foldP m0 (l.take k)).2.ep ≤ 1048576) := fun k => fold_ep _ _ (by rw [HM0.out]; exact Int.le_refl _) (by rw [HM0.out]; show (0 : Int) ≤ 1048576; omega)
  clear hk hp h hm0
  obtain ⟨k, m, g, d⟩ := p
  unfold vP vM at *
  dsimp only at hN ⊢
  have b0 : Below w.heap.size w ((w.alloc (.cells #[.int .i64 k, .int .i64 m, .int .i64 g, .int .i64 d] 49)).alloc (.cells #[.int .i64 0, .int .i64 0, .int .i64 0, .int .i64 0, .int .i64 0, .slice none 0 0] 56)) := on (al _ _) (al _ _)
  obtain ⟨rz, hrz⟩ : ∃ r : Array Value, r = ((List.replicate n (0 : Int)).map fun v => Value.int .i64 v).toArray := ⟨_, rfl⟩
  rw [← hrz] at hmk
  have HRZ := hid hrz
  have hbk : (((w.alloc (.cells #[.int .i64 k, .int .i64 m, .int .i64 g, .int .i64 d] 49)).alloc (.cells #[.int .i64 0, .int .i64 0, .int .i64 0, .int .i64 0, .int .i64 0, .slice none 0 0] 56))).heap[w.heap.size + 1]? = some (.cells #[.int .i64 0, .int .i64 0, .int .i64 0, .int .i64 0, .int .i64 0, .slice none 0 0] 56 (0, 0)) := by
    have := heap_alloc_new (w.alloc (.cells #[.int .i64 k, .int .i64 m, .int .i64 g, .int .i64 d] 49)) (.cells #[.int .i64 0, .int .i64 0, .int .i64 0, .int .i64 0, .int .i64 0, .slice none 0 0] 56)
    simpa using this
  have HBK := hid hbk
  have HB0 := hid b0
  clear hrz hbk b0
  go_enter Tryz.func52, Tryz.ntmps52
  go_wp2_with (first
    | (
       go_at_call 34; refine (hN _).mono ?_; rintro e w1 ⟨rfl, hb1⟩; clear hN
       have B1 := hid (on HB0.out hb1)
       have BK1 : Hid (w1.heap[w.heap.size + 1]? = some (.cells #[.int .i64 0, .int .i64 0, .int .i64 0, .int .i64 0, .int .i64 0, .slice none 0 0] 56 (0, 0))) := (hb1.block _ (by simp)).trans HBK.out
       clear hb1))
  obtain ⟨W2, hW2⟩ : ∃ W2, W2 = (w1.alloc (.cells #[.int .i64 0, .int .i64 k, .int .i64 m, .int .i64 g, .int .i64 d, .slice none 0 0] 56)).alloc (.cells rz 50) := ⟨_, rfl⟩
  have bW : Below w1.heap.size w1 W2 := by rw [hW2]; exact on (al _ _) (al _ _)
  have hsz : W2.heap.size = w1.heap.size + 1 + 1 := by rw [hW2]; simp
  have hF0 : FoldAt w W2 W2 w1.heap.size (w1.heap.size + 1) n 0 m0 l (.slice none 0 0) := by
    refine ⟨⟨?_, ?_, ?_⟩, Turns.refl _ _, fun g hg => (by cases hg), ?_, by omega, by omega, by have := B1.out.size; omega⟩
    · rw [HM0.out, hW2]
      have h1 := heap_alloc_new w1 (.cells #[.int .i64 0, .int .i64 k, .int .i64 m, .int .i64 g, .int .i64 d, .slice none 0 0] 56)
      exact ((al (w1.alloc (.cells #[.int .i64 0, .int .i64 k, .int .i64 m, .int .i64 g, .int .i64 d, .slice none 0 0] 56)) (.cells rz 50)).block _ (by simp)).trans h1
    · rw [HM0.out]
      exact Own.nil _ _ _ _ _
    · rw [HM0.out]
      exact Nat.zero_le _
    · show Ns W2 _ _ (List.replicate (n - 0) 0)
      rw [Nat.sub_zero, hW2, HRZ.out]
      have := Ns.new (w1.alloc (.cells #[.int .i64 0, .int .i64 k, .int .i64 m, .int .i64 g, .int .i64 d, .slice none 0 0] 56)) 50 (List.replicate n 0)
      simpa using this
  have HF0 := hid hF0
  have HW2 := hid hW2
  have HBW := hid bW
  have HSZ := hid hsz
  have lt1 : w.heap.size + 1 < w1.heap.size := (Array.getElem?_eq_some_iff.1 BK1.out).1
  rw [← hW2]
  clear hF0 hW2 bW hsz hmk
  go_loopw [26, 10, 11] (fun i _ _ wr => ∃ q : Nat, q ≤ n ∧ i = .int .i64 q ∧ Hid (∃ R, FoldAt w W2 wr w1.heap.size (w1.heap.size + 1) n q m0 l R)) (fun i _ _ _ => n - (intOf i).toNat)
  case atStart => exact ⟨0, by omega, rfl, _, HF0.out⟩
  case round =>
    obtain ⟨q, hq, rfl, HR⟩ := hrel
    by_cases hlt : q < n
    · have hqn : (q : Int) < (n : Int) := by omega
      obtain ⟨cc, hcc⟩ : ∃ a, l[q]? = some a := ⟨l[q]'(by have := HL.out; omega), List.getElem?_eq_getElem (by have := HL.out; omega)⟩
      obtain ⟨R, hR⟩ := HR.out
      have hBr : Below w.heap.size w wr := on B1.out (HBW.out.trans (hR.turns.below (B := w1.heap.size) (fun k hk => by omega) (by have := HSZ.out; omega)))
      have hc0 := HC.out.below hBr
      rcases hc0.row with h0 | ⟨b, o, rfl, hbl, hcell⟩
      · omega
      obtain ⟨k0, k1, k2, k3, k4, k5, k6, k7, k8⟩ := Cs.at hcell hcc
      have HCC := hid hcc
      have bx := al wr (.cells #[.int .i64 cc.kind, .int .i64 cc.osd.id, .bool cc.osd.up, .bool cc.osd.inn, .int .i64 cc.osd.wt, .int .i64 cc.osd.life, .int .i64 cc.osd.boot, .int .i64 cc.osd.host, .int .i64 cc.osd.rack] 37)
      have hR1 := hR.below bx
      have hA := advance_any cc hR1.map (by have := hR1.big; have := hR1.turns.size; omega) (HEP.out q).1 (HEP.out q).2
      have HR1 := hid hR1
      obtain ⟨r, hr⟩ : ∃ r, r = advP (foldP m0 (l.take q)).2 cc := ⟨_, rfl⟩
      rw [← hr] at hA
      have HRr := hid hr
      obtain ⟨r1, r2⟩ := r
      clear hc0 hcell hcc hR hR1 hr
      obtain ⟨ck, i0, i1, i2, i3, i4, i5, i6, i7⟩ := cc
      unfold vC at hA
      dsimp only at k0 k1 k2 k3 k4 k5 k6 k7 k8 hA bx
      go_wp2_with (first
        | (
           go_at_call 69; refine hA.mono ?_; rintro e w3 ⟨rfl, H3⟩; clear hA
           have hT := HR1.out.toldM H3.out
           obtain ⟨t0, ht0⟩ : ∃ v, ((foldP m0 (l.take q)).1 ++ List.replicate (n - q) 0)[q]? = some v := ⟨_, List.getElem?_eq_getElem (by rw [List.length_append, foldP_len, List.length_take, List.length_replicate]; have := HL.out; omega)⟩
           have u0 := hT.cell ht0
           have f0 := hT.fr q
           clear hT ht0))
      go_roundw
      case rel => 
        refine ⟨q + 1, by omega, by go_num, ?_⟩
        have := HR1.out.step HCC.out HL.out (by rw [← HRr.out]; exact H3.out)
        rw [← HRr.out] at this
        exact this
      case measure => simp [intOf]; omega
    · have hq2 : q = n := by omega
      subst hq2
      obtain ⟨R, hR⟩ := HR.out
      have htk : l.take q = l := by rw [← HL.out]; exact List.take_length
      have hM := hR.map
      have hTd := hR.told
      rw [htk] at hM hTd
      rw [Nat.sub_self, List.replicate_zero, List.append_nil] at hTd
      have hBr : Below w.heap.size w wr := on B1.out (HBW.out.trans (hR.turns.below (B := w1.heap.size) (fun k hk => by omega) (by have := HSZ.out; omega)))
      have hbk : wr.heap[w.heap.size + 1]? = some (.cells #[.int .i64 0, .int .i64 0, .int .i64 0, .int .i64 0, .int .i64 0, .slice none 0 0] 56 (0, 0)) :=
        ((hR.turns.block _ (by have := HSZ.out; omega) (by omega)).trans (HBW.out.block _ lt1)).trans BK1.out
      obtain ⟨y, yc, hRe, _⟩ := hM.own.form
      obtain ⟨m', hm'⟩ : ∃ m', m' = (foldP m0 l).2 := ⟨_, rfl⟩
      rw [← hm'] at hM hRe
      have HMm := hid hm'
      obtain ⟨yn, hyn⟩ : ∃ yn, yn = m'.osds.length := ⟨_, rfl⟩
      rw [← hyn] at hRe
      subst hRe
      have e0 : wr.cell? ⟨w1.heap.size, 0, none⟩ = some (.int .i64 m'.ep) := cell_heap hM.blk rfl
      have e1 : wr.cell? ⟨w1.heap.size, 1, none⟩ = some (.int .i64 m'.pool.k) := cell_heap hM.blk rfl
      have e2 : wr.cell? ⟨w1.heap.size, 2, none⟩ = some (.int .i64 m'.pool.m) := cell_heap hM.blk rfl
      have e3 : wr.cell? ⟨w1.heap.size, 3, none⟩ = some (.int .i64 m'.pool.pgs) := cell_heap hM.blk rfl
      have e4 : wr.cell? ⟨w1.heap.size, 4, none⟩ = some (.int .i64 m'.pool.dom) := cell_heap hM.blk rfl
      have e5 : wr.cell? ⟨w1.heap.size, 5, none⟩ = some (.slice y yn yc) := cell_heap hM.blk rfl
      have d0 : wr.cell? ⟨w.heap.size + 1, 0, none⟩ = some (.int .i64 0) := cell_heap hbk rfl
      have d1 : wr.cell? ⟨w.heap.size + 1, 1, none⟩ = some (.int .i64 0) := cell_heap hbk rfl
      have d2 : wr.cell? ⟨w.heap.size + 1, 2, none⟩ = some (.int .i64 0) := cell_heap hbk rfl
      have d3 : wr.cell? ⟨w.heap.size + 1, 3, none⟩ = some (.int .i64 0) := cell_heap hbk rfl
      have d4 : wr.cell? ⟨w.heap.size + 1, 4, none⟩ = some (.int .i64 0) := cell_heap hbk rfl
      have d5 : wr.cell? ⟨w.heap.size + 1, 5, none⟩ = some (.slice none 0 0) := cell_heap hbk rfl
      have f0 := fr_heap hbk 0
      have f1 := fr_heap hbk 1
      have f2 := fr_heap hbk 2
      have f3 := fr_heap hbk 3
      have f4 := fr_heap hbk 4
      have f5 := fr_heap hbk 5
      have HMa := hid hM
      have HTd := hid hTd
      have HBr := hid hBr
      have HLN := hid hlt
      have HRn : Hid (∀ g, (Value.slice y yn yc).ownBlock = some g → W2.heap.size ≤ g) := hR.new
      obtain ⟨ep, ⟨pk, pm, pg, pd⟩, os⟩ := m'
      dsimp only at e0 e1 e2 e3 e4 e5
      have hnes : w1.heap.size ≠ w.heap.size + 1 := by omega
      have hlt1 : w.heap.size + 1 < wr.heap.size := cell_lt' d0
      clear hM hTd hbk hBr hR hyn hlt htk hm'
      go_wp2_with fail
      refine bodyPost_ret (v := .tuple #[.agg #[.int .i64 ep, .int .i64 pk, .int .i64 pm, .int .i64 pg, .int .i64 pd, .slice y yn yc], .slice (some ⟨w1.heap.size + 1, 0, none⟩) q q, .int .i64 0]) ?_ rfl ?_
      · rw [results_cell3 rfl]
        go_simp
      · rw [← HMm.out]
        refine ⟨y, yn, yc, w1.heap.size + 1, rfl, ?_, ?_, ?_, by have := B1.out.size; omega, HMa.out.small⟩
        · repeat (first | with_reducible exact HBr.out | (with_reducible refine Below.setCell ?_ (by first | (simp; done) | (simp; omega) | omega) _) | (with_reducible refine Below.alloc ?_ (by first | (simp; done) | (simp; omega) | omega) _))
        · refine HMa.out.own.turns (G := fun k => k = w.heap.size + 1) ?_ (fun g hg e => by have := HRn.out g hg; have := HSZ.out; omega)
          exact turns_put (turns_put (turns_put (turns_put (turns_put (turns_put (Turns.refl _ _) _ _) _ _) _ _) _ _) _ _) _ _
        · refine HTd.out.turns (G := fun k => k = w.heap.size + 1) ?_ (fun e => by have e2 : w1.heap.size + 1 = w.heap.size + 1 := e; omega)
          exact turns_put (turns_put (turns_put (turns_put (turns_put (turns_put (Turns.refl _ _) _ _) _ _) _ _) _ _) _ _) _ _

end Go.Proofs.YtdlajpjigddbhaaGreat.At

/-
  Package atlas: numbers that are read: read.
  Conditions: the reader's own bytes lie in memory, apart from the list of what is asked.
-/
namespace Go.Proofs.YtdlajpjigddbhaaGreat.At
open Go.RowKit By Fl Wi
set_option linter.unusedVariables false
set_option linter.unusedSimpArgs false
set_option maxRecDepth 100000

theorem keept {G : Nat → Prop} {w v : World} {b o : Nat} {x : Value} (t : Turns G w v) (hb : ¬ G b) (h : w.cell? ⟨b, o, none⟩ = some x) : v.cell? ⟨b, o, none⟩ = some x :=
  (World.cell?_of_block (a := ⟨b, o, none⟩) (t.block b (cell_lt' h) hb)).trans h

theorem keeptf {G : Nat → Prop} {w v : World} {b o : Nat} (t : Turns G w v) (hb : ¬ G b) (hlt : b < w.heap.size) (h : w.frozen? ⟨b, o, none⟩ = false) : v.frozen? ⟨b, o, none⟩ = false := by
  unfold World.frozen? at *
  rw [t.block b hlt hb]
  exact h

def atP (g : Nat) : Nat → Prop := fun k => k = g

def Rdr (w : World) (p N : Nat) (l : List Nat) (e : Nat) : Prop := ∃ x n c, PRd w p x n c l e ∧ ∀ a, x = some a → a.block < N

theorem Rdr.lt {w : World} {p N : Nat} {l : List Nat} {e : Nat} (h : Rdr w p N l e) : p < w.heap.size := by
  obtain ⟨x, n, c, h1, _⟩ := h
  exact h1.lt

theorem Rdr.turns {G : Nat → Prop} {w w' : World} {p N : Nat} {l : List Nat} {e : Nat} (h : Rdr w p N l e) (t : Turns G w w') (hp : ¬ G p) (hN : ∀ k, G k → N ≤ k) : Rdr w' p N l e := by
  obtain ⟨x, n, c, h1, h2⟩ := h
  refine ⟨x, n, c, ⟨keept t hp h1.rest, keept t hp h1.wrong, fun j => keeptf t hp h1.lt (h1.fr j), ⟨h1.sl.len, h1.sl.le, h1.sl.nil, ?_, h1.sl.lt⟩, h1.ap, h1.small⟩, h2⟩
  by_cases h0 : n = 0
  · exact .inl h0
  · exact t.row h1.sl.row (fun a ha hg => by
      have := h2 a ha
      have := hN _ hg
      omega)

theorem Rdr.below {w w' : World} {p N : Nat} {l : List Nat} {e : Nat} (h : Rdr w p N l e) (b : Below w.heap.size w w') : Rdr w' p N l e :=
  h.turns (Turns.of_below (F := fun _ => False) b) (fun h => h) (fun _ h => h.elim)

theorem turn_turns {g : Nat} {w w' : World} (t : Turn g w w') : Turns (atP g) w w' := ⟨t.os, t.tape, t.output, t.size, fun k hk hn => t.block k hk hn⟩

theorem PGo.rdr {w w' : World} {p N : Nat} {x : Option Addr} {l' : List Nat} {e' : Nat} (h : PGo w w' p x l' e') (hx : ∀ a, x = some a → a.block < N) : Turns (atP p) w w' ∧ Rdr w' p N l' e' := by
  obtain ⟨h1, x', n', c', h2, h3⟩ := h
  exact ⟨turn_turns h1, x', n', c', h2, fun a ha => by obtain ⟨b, hb, e⟩ := h3 a ha; rw [← e]; exact hx b hb⟩

theorem numR {p N : Nat} {l : List Nat} {e : Nat} {w : World} (t : Int) (h : Rdr w p N l e) (ht1 : -9223372036854775808 ≤ t) (ht2 : t ≤ 9223372036854775807) :
    Calls Tryz.prog 75 #[.pointer (some ⟨p, 0, none⟩), .int .i64 t] w fun ed w' => ed = .returned (.int .i64 ((rNum t l e).1 : Int)) ∧ Hid (Turns (atP p) w w' ∧ Rdr w' p N (rNum t l e).2.1 (rNum t l e).2.2) := by
  obtain ⟨x, n, c, h1, h2⟩ := h
  exact (pnum_any p n c e t x l w h1 ht1 ht2).mono fun ed w' ⟨h3, h4⟩ => ⟨h3, PGo.rdr h4 h2⟩

theorem readR (x : Option Addr) (n c : Nat) (l : List Nat) (w : World) (hl : Go.Proofs.YtdlajpjigddbhaaGreat.Sl w x n c l) (hn : n ≤ 140737488355328) :
    Calls Tryz.prog 74 #[.slice x n c] w fun e w' => ∃ p, e = .returned (.pointer (some ⟨p, 0, none⟩)) ∧ Hid (w.heap.size ≤ p ∧ Below w.heap.size w w' ∧ Rdr w' p w'.heap.size l 0) :=
  (read_any x n c l w hl hn).mono fun e w' ⟨p, y, cy, h1, h2, h3, h4, h5⟩ => ⟨p, h1, h2, h3, y, n, cy, h4, fun a ha => (h5 a ha).2⟩

theorem doneR {p N : Nat} {l : List Nat} {e : Nat} {w : World} (h : Rdr w p N l e) : Calls Tryz.prog 80 #[.pointer (some ⟨p, 0, none⟩)] w fun ed w' => ed = .returned (.int .i64 (rDone l e : Int)) ∧ w' = w := by
  obtain ⟨x, n, c, h1, h2⟩ := h
  exact pdone_any p n c e x l w h1

/- Numbers, one behind the other, each at most as great as is said. -/
def numsR : List Int → List Nat → Nat → List Int × List Nat × Nat
  | [], l, e => ([], l, e)
  | t :: ts, l, e => (((rNum t l e).1 : Int) :: (numsR ts (rNum t l e).2.1 (rNum t l e).2.2).1, (numsR ts (rNum t l e).2.1 (rNum t l e).2.2).2)

theorem numsR_app : ∀ (a b : List Int) (l : List Nat) (e : Nat), numsR (a ++ b) l e = ((numsR a l e).1 ++ (numsR b (numsR a l e).2.1 (numsR a l e).2.2).1, (numsR b (numsR a l e).2.1 (numsR a l e).2.2).2)
  | [], b, l, e => by simp [numsR]
  | t :: a, b, l, e => by simp [numsR, numsR_app a b]

theorem numsR_len : ∀ (a : List Int) (l : List Nat) (e : Nat), (numsR a l e).1.length = a.length
  | [], l, e => rfl
  | t :: a, l, e => by simp [numsR, numsR_len a]

theorem numsR_take {ts : List Int} {q : Nat} {t : Int} (l : List Nat) (e : Nat) (h : ts[q]? = some t) :
    numsR (ts.take (q + 1)) l e = ((numsR (ts.take q) l e).1 ++ [((rNum t (numsR (ts.take q) l e).2.1 (numsR (ts.take q) l e).2.2).1 : Int)], (rNum t (numsR (ts.take q) l e).2.1 (numsR (ts.take q) l e).2.2).2) := by
  rw [List.take_add_one, h, numsR_app]
  simp [numsR]

structure ReadAt (w wr : World) (p N g n q : Nat) (ts : List Int) (l : List Nat) (e : Nat) : Prop where
  rd : Rdr wr p N (numsR (ts.take q) l e).2.1 (numsR (ts.take q) l e).2.2
  turns : Turns (atP p) w wr
  ns : Ns wr g 3 ((numsR (ts.take q) l e).1 ++ List.replicate (n - q) 0)

theorem ReadAt.step {w wr w1 : World} {p N g n q : Nat} {ts : List Int} {l : List Nat} {e : Nat} {t : Int} (h : ReadAt w wr p N g n q ts l e) (hq : ts[q]? = some t) (hl : ts.length = n) (hg : w.heap.size ≤ g) (hpw : p < w.heap.size) (hN : N ≤ w.heap.size)
    (t1 : Turns (atP p) wr w1) (r1 : Rdr w1 p N (rNum t (numsR (ts.take q) l e).2.1 (numsR (ts.take q) l e).2.2).2.1 (rNum t (numsR (ts.take q) l e).2.1 (numsR (ts.take q) l e).2.2).2.2) :
    ReadAt w (w1.setCell ⟨g, q, none⟩ (.int .i64 ((rNum t (numsR (ts.take q) l e).2.1 (numsR (ts.take q) l e).2.2).1 : Int))) p N g n (q + 1) ts l e := by
  have hqn : q < n := by rw [← hl]; exact (List.getElem?_eq_some_iff.1 hq).1
  have e1 := numsR_take l e hq
  refine ⟨?_, ?_, ?_⟩
  · rw [e1]
    exact r1.turns (turns_put (Turns.refl _ _) _ _) (fun e2 => by have e3 : p = g := e2; omega) (fun k hk => by have e3 : k = g := hk; omega)
  · exact (h.turns.trans t1).setCell (p := ⟨g, q, none⟩) (.inr hg) _
  · rw [e1]
    have := (h.ns.turns t1 (fun e2 => by have e3 : g = p := e2; omega)).set q ((rNum t (numsR (ts.take q) l e).2.1 (numsR (ts.take q) l e).2.2).1 : Int)
    rw [rep_set (by rw [numsR_len, List.length_take]; omega) hqn] at this
    exact this

set_option maxHeartbeats 1600000 in
theorem readL_any {w : World} {p N : Nat} {x : Option Addr} {n c : Nat} {ts : List Int} {l : List Nat} {e : Nat} (hr : Rdr w p N l e) (hN : N ≤ w.heap.size) (h : Is w x n c ts) (hx : ∀ a, x = some a → a.block ≠ p) (ht : ∀ t ∈ ts, 0 ≤ t ∧ t ≤ 9223372036854775807) (hn : n ≤ 1000) :
    Calls Tryz.prog 89 #[.pointer (some ⟨p, 0, none⟩), .slice x n c] w fun ed w' => ∃ g, ed = .returned (.slice (some ⟨g, 0, none⟩) n n) ∧ Hid (Turns (atP p) w w' ∧ Rdr w' p N (numsR ts l e).2.1 (numsR ts l e).2.2 ∧ Ns w' g 3 (numsR ts l e).1 ∧ w.heap.size ≤ g) := by
  have HI := hid h
  have HL := hid h.len
  have HT := hid ht
  have HX := hid hx
  have HRd := hid hr
  have hpl := hr.lt
  have hmk := fun W => run_make_ns W 27 3 (by kernel_rfl) (by kernel_rfl) n hn
  obtain ⟨rz, hrz⟩ : ∃ r : Array Value, r = ((List.replicate n (0 : Int)).map fun v => Value.int .i64 v).toArray := ⟨_, rfl⟩
  rw [← hrz] at hmk
  have HRZ := hid hrz
  clear h ht hx hr hrz
  go_enter Tryz.func89, Tryz.ntmps89
  go_wp2_with fail
  obtain ⟨W0, hW0⟩ : ∃ W0, W0 = w.alloc (.cells rz 3) := ⟨_, rfl⟩
  have b0 : Below w.heap.size w W0 := by rw [hW0]; exact al _ _
  have H0 : Hid (ReadAt w W0 p N w.heap.size n 0 ts l e) := by
    refine ⟨HRd.out.below b0, Turns.of_below b0, ?_⟩
    show Ns W0 _ _ (List.replicate (n - 0) 0)
    rw [Nat.sub_zero, hW0, HRZ.out]
    exact Ns.new w 3 (List.replicate n 0)
  rw [← hW0]
  clear hW0 b0 hmk
  go_loopw [13, 6, 7] (fun i _ _ wr => ∃ q : Nat, q ≤ n ∧ i = .int .i64 q ∧ Hid (ReadAt w wr p N w.heap.size n q ts l e)) (fun i _ _ _ => n - (intOf i).toNat)
  case atStart => exact ⟨0, by omega, rfl, H0.out⟩
  case round =>
    obtain ⟨q, hq, rfl, HR⟩ := hrel
    by_cases hlt : q < n
    · have hqn : (q : Int) < (n : Int) := by omega
      obtain ⟨t, htq⟩ : ∃ a, ts[q]? = some a := ⟨ts[q]'(by have := HL.out; omega), List.getElem?_eq_getElem (by have := HL.out; omega)⟩
      obtain ⟨t0, t1⟩ := HT.out t (List.mem_of_getElem? htq)
      rcases (HI.out.turns HR.out.turns (fun a ha e => HX.out a ha e)).row with h0 | ⟨b, o, rfl, hbl, hcell⟩
      · omega
      have c0 := hcell q t htq
      have HTQ := hid htq
      have hNm := numR t HR.out.rd (by omega) t1
      obtain ⟨v, hv⟩ : ∃ v : Int, v = ((rNum t (numsR (ts.take q) l e).2.1 (numsR (ts.take q) l e).2.2).1 : Int) := ⟨_, rfl⟩
      rw [← hv] at hNm
      have HV := hid hv
      have HPL := hid hpl
      clear hcell htq hv t0 t1 hpl
      go_wp2_with (
           go_at_call 75; refine hNm.mono ?_; rintro ed w3 ⟨rfl, H3⟩; clear hNm
           have hT := HR.out.ns.turns H3.out.1 (fun e2 => by have e3 : w.heap.size = p := e2; have := HPL.out; omega)
           obtain ⟨y0, hy0⟩ : ∃ v, ((numsR (ts.take q) l e).1 ++ List.replicate (n - q) 0)[q]? = some v := ⟨_, List.getElem?_eq_getElem (by rw [List.length_append, numsR_len, List.length_take, List.length_replicate]; have := HL.out; omega)⟩
           have u0 := hT.cell hy0
           have f0 := hT.fr q
           clear hT hy0)
      go_roundw
      case rel =>
        refine ⟨q + 1, by omega, by go_num, ?_⟩
        have := HR.out.step HTQ.out HL.out (Nat.le_refl _) HPL.out hN H3.out.1 H3.out.2
        rw [← HV.out] at this
        exact this
      case measure => simp [intOf]; omega
    · obtain rfl : q = n := by omega
      have htk : ts.take q = ts := by rw [← HL.out]; exact List.take_length
      have hR := HR.out
      have h1 := hR.rd
      have h2 := hR.ns
      rw [htk] at h1 h2
      rw [Nat.sub_self, List.replicate_zero, List.append_nil] at h2
      have HF := hid (And.intro hR.turns (And.intro h1 h2))
      clear h1 h2 hR
      go_wp2_with fail
      go_ret
      exact ⟨_, rfl, HF.out.1, HF.out.2.1, HF.out.2.2, Nat.le_refl _⟩

end Go.Proofs.YtdlajpjigddbhaaGreat.At

/-
  Package atlas: readOsd.
  Conditions: the reader lies in memory.
-/
namespace Go.Proofs.YtdlajpjigddbhaaGreat.At
open Go.RowKit By Fl Wi
set_option linter.unusedVariables false
set_option linter.unusedSimpArgs false
set_option maxRecDepth 100000

def osdT : List Int := [999, 1, 1, 16777216, 2147483647, 2147483647, 999, 999]
def osdN (T : List Int) : Osd := ⟨T.getD 0 0, T.getD 1 0 == 1, T.getD 2 0 == 1, T.getD 3 0, T.getD 4 0, T.getD 5 0, T.getD 6 0, T.getD 7 0⟩

theorem osdT_ok : ∀ t ∈ osdT, 0 ≤ t ∧ t ≤ 9223372036854775807 := by
  intro t ht
  simp only [osdT, List.mem_cons, List.not_mem_nil, or_false] at ht
  omega

set_option maxHeartbeats 3200000 in
theorem readOsd_any {w : World} {p N : Nat} {l : List Nat} {e : Nat} (hr : Rdr w p N l e) (hN : N ≤ w.heap.size) :
    Calls Tryz.prog 90 #[.pointer (some ⟨p, 0, none⟩)] w fun ed w' => ed = .returned (vO (osdN (numsR osdT l e).1)) ∧ Hid (Turns (atP p) w w' ∧ Rdr w' p N (numsR osdT l e).2.1 (numsR osdT l e).2.2) := by
  have hpl := hr.lt
  obtain ⟨wB, hwB⟩ : ∃ wB, wB = w.alloc (.cells #[.int .i64 0, .bool false, .bool false, .int .i64 0, .int .i64 0, .int .i64 0, .int .i64 0, .int .i64 0] 35) := ⟨_, rfl⟩
  have b1 : Below w.heap.size w wB := by rw [hwB]; exact al _ _
  have hbx : wB.heap[w.heap.size]? = some (.cells #[.int .i64 0, .bool false, .bool false, .int .i64 0, .int .i64 0, .int .i64 0, .int .i64 0, .int .i64 0] 35 (0, 0)) := by rw [hwB]; exact heap_alloc_new _ _
  have hsB : wB.heap.size = w.heap.size + 1 := by rw [hwB]; simp
  obtain ⟨wI, hwI⟩ : ∃ wI, wI = wB.alloc (.cells #[.int .i64 999, .int .i64 1, .int .i64 1, .int .i64 16777216, .int .i64 2147483647, .int .i64 2147483647, .int .i64 999, .int .i64 999] 3) := ⟨_, rfl⟩
  have b2 : Below wB.heap.size wB wI := by rw [hwI]; exact al _ _
  have hIs : Is wI (some ⟨wB.heap.size, 0, none⟩) 8 8 osdT := by rw [hwI]; exact (Ns.new wB 3 osdT).is
  have hbx2 := (b2.block _ (Array.getElem?_eq_some_iff.1 hbx).1).trans hbx
  have hsI : wI.heap.size = wB.heap.size + 1 := by rw [hwI]; simp
  have hL := readL_any (hr.below (on b1 b2)) (by omega) hIs (fun a ha e => by injection ha with ha; subst ha; have e2 : wB.heap.size = p := e; omega) osdT_ok (by omega)
  have hlen := numsR_len osdT l e
  obtain ⟨T, hT⟩ : ∃ T, T = (numsR osdT l e).1 := ⟨_, rfl⟩
  obtain ⟨M, hM⟩ : ∃ M, M = (numsR osdT l e).2 := ⟨_, rfl⟩
  rw [← hT, ← hM] at hL
  rw [← hT, ← hM]
  rw [← hT] at hlen
  obtain ⟨t0, t1, t2, t3, t4, t5, t6, t7, rfl⟩ : ∃ t0 t1 t2 t3 t4 t5 t6 t7, T = [t0, t1, t2, t3, t4, t5, t6, t7] := by
    match T, hlen with
    | [t0, t1, t2, t3, t4, t5, t6, t7], _ => exact ⟨t0, t1, t2, t3, t4, t5, t6, t7, rfl⟩
  have HPL := hid hpl
  have HB := hid (on b1 b2)
  have HX := hid hbx2
  have HSz := hid (And.intro hsB hsI)
  rw [hsB] at hL
  clear hr hpl hbx hbx2 hIs b1 b2 hT hM hlen hsB hsI
  subst hwI hwB
  unfold vO osdN
  simp only [List.getD_cons_zero, List.getD_cons_succ]
  go_enter Tryz.func90, Tryz.ntmps90
  go_wp2_with (go_at_call 89; refine hL.mono ?_; rintro ed w2 ⟨g, rfl, H2⟩; clear hL)
  obtain ⟨wD, hwD⟩ : ∃ wD, wD = w2.drew := ⟨_, rfl⟩
  have hNs : Ns wD g 3 [t0, t1, t2, t3, t4, t5, t6, t7] := by rw [hwD]; exact H2.out.2.2.1
  have hbx : wD.heap[w.heap.size]? = some (.cells #[.int .i64 0, .bool false, .bool false, .int .i64 0, .int .i64 0, .int .i64 0, .int .i64 0, .int .i64 0] 35 (0, 0)) := by
    rw [hwD]
    exact (H2.out.1.block _ (Array.getElem?_eq_some_iff.1 HX.out).1 (fun e => by have e2 : w.heap.size = p := e; have := HPL.out; omega)).trans HX.out
  have c0 : wD.cell? ⟨g, 0, none⟩ = some (.int .i64 t0) := hNs.cell rfl
  have c1 : wD.cell? ⟨g, 1, none⟩ = some (.int .i64 t1) := hNs.cell rfl
  have c2 : wD.cell? ⟨g, 2, none⟩ = some (.int .i64 t2) := hNs.cell rfl
  have c3 : wD.cell? ⟨g, 3, none⟩ = some (.int .i64 t3) := hNs.cell rfl
  have c4 : wD.cell? ⟨g, 4, none⟩ = some (.int .i64 t4) := hNs.cell rfl
  have c5 : wD.cell? ⟨g, 5, none⟩ = some (.int .i64 t5) := hNs.cell rfl
  have c6 : wD.cell? ⟨g, 6, none⟩ = some (.int .i64 t6) := hNs.cell rfl
  have c7 : wD.cell? ⟨g, 7, none⟩ = some (.int .i64 t7) := hNs.cell rfl
  have d0 : wD.cell? ⟨w.heap.size, 0, none⟩ = some (.int .i64 0) := cell_heap hbx rfl
  have d1 : wD.cell? ⟨w.heap.size, 1, none⟩ = some (.bool false) := cell_heap hbx rfl
  have d2 : wD.cell? ⟨w.heap.size, 2, none⟩ = some (.bool false) := cell_heap hbx rfl
  have d3 : wD.cell? ⟨w.heap.size, 3, none⟩ = some (.int .i64 0) := cell_heap hbx rfl
  have d4 : wD.cell? ⟨w.heap.size, 4, none⟩ = some (.int .i64 0) := cell_heap hbx rfl
  have d5 : wD.cell? ⟨w.heap.size, 5, none⟩ = some (.int .i64 0) := cell_heap hbx rfl
  have d6 : wD.cell? ⟨w.heap.size, 6, none⟩ = some (.int .i64 0) := cell_heap hbx rfl
  have d7 : wD.cell? ⟨w.heap.size, 7, none⟩ = some (.int .i64 0) := cell_heap hbx rfl
  have f0 := fr_heap hbx 0
  have f1 := fr_heap hbx 1
  have f2 := fr_heap hbx 2
  have f3 := fr_heap hbx 3
  have f4 := fr_heap hbx 4
  have f5 := fr_heap hbx 5
  have f6 := fr_heap hbx 6
  have f7 := fr_heap hbx 7
  have HWD := hid hwD.symm
  clear hNs hbx hwD
  refine wp_region_last (fun v => v.cell? ⟨g, 0, none⟩ = some (.int .i64 t0) ∧ v.cell? ⟨g, 1, none⟩ = some (.int .i64 t1) ∧ v.cell? ⟨g, 2, none⟩ = some (.int .i64 t2) ∧ v.cell? ⟨g, 3, none⟩ = some (.int .i64 t3) ∧ v.cell? ⟨g, 4, none⟩ = some (.int .i64 t4) ∧ v.cell? ⟨g, 5, none⟩ = some (.int .i64 t5) ∧ v.cell? ⟨g, 6, none⟩ = some (.int .i64 t6) ∧ v.cell? ⟨g, 7, none⟩ = some (.int .i64 t7) ∧ v.cell? ⟨w.heap.size, 0, none⟩ = some (.int .i64 0) ∧ v.cell? ⟨w.heap.size, 1, none⟩ = some (.bool false) ∧ v.cell? ⟨w.heap.size, 2, none⟩ = some (.bool false) ∧ v.cell? ⟨w.heap.size, 3, none⟩ = some (.int .i64 0) ∧ v.cell? ⟨w.heap.size, 4, none⟩ = some (.int .i64 0) ∧ v.cell? ⟨w.heap.size, 5, none⟩ = some (.int .i64 0) ∧ v.cell? ⟨w.heap.size, 6, none⟩ = some (.int .i64 0) ∧ v.cell? ⟨w.heap.size, 7, none⟩ = some (.int .i64 0)) 27 (by kernel_rfl) (by rw [HWD.out]; exact ⟨c0, c1, c2, c3, c4, c5, c6, c7, d0, d1, d2, d3, d4, d5, d6, d7⟩) (fun hS => ?_)
  rw [HWD.out] at hS ⊢
  refine wpAnyL_take (i := 0) (v := ?_) rfl (by kernel_rfl) (by kernel_rfl) (by kernel_rfl) (by kernel_rfl) (fun _ _ _ h => h) hS (Or.inl ⟨by rfl, ?_⟩) ?_
  case refine_2 => (intro w hSw; (try dsimp only at hSw); go_simp; (try with_reducible rfl))
  (try simp only [Act.put, List.setIfInBounds_toArray, List.set_cons_zero, List.set_cons_succ])
  refine wpAnyL_take (i := 1) (v := ?_) rfl (by kernel_rfl) (by kernel_rfl) (by kernel_rfl) (by kernel_rfl) (fun _ _ _ h => h) hS (Or.inl ⟨by rfl, ?_⟩) ?_
  case refine_2 => (intro w hSw; (try dsimp only at hSw); go_simp; (try with_reducible rfl))
  (try simp only [Act.put, List.setIfInBounds_toArray, List.set_cons_zero, List.set_cons_succ])
  refine wpAnyL_take (i := 2) (v := ?_) rfl (by kernel_rfl) (by kernel_rfl) (by kernel_rfl) (by kernel_rfl) (fun _ _ _ h => h) hS (Or.inl ⟨by rfl, ?_⟩) ?_
  case refine_2 => (intro w hSw; (try dsimp only at hSw); go_simp; (try with_reducible rfl))
  (try simp only [Act.put, List.setIfInBounds_toArray, List.set_cons_zero, List.set_cons_succ])
  refine wpAnyL_take (i := 3) (v := ?_) rfl (by kernel_rfl) (by kernel_rfl) (by kernel_rfl) (by kernel_rfl) (fun _ _ _ h => h) hS (Or.inl ⟨by rfl, ?_⟩) ?_
  case refine_2 => (intro w hSw; (try dsimp only at hSw); go_simp; (try with_reducible rfl))
  (try simp only [Act.put, List.setIfInBounds_toArray, List.set_cons_zero, List.set_cons_succ])
  refine wpAnyL_take (i := 4) (v := ?_) rfl (by kernel_rfl) (by kernel_rfl) (by kernel_rfl) (by kernel_rfl) (fun _ _ _ h => h) hS (Or.inl ⟨by rfl, ?_⟩) ?_
  case refine_2 => (intro w hSw; (try dsimp only at hSw); go_simp; (try with_reducible rfl))
  (try simp only [Act.put, List.setIfInBounds_toArray, List.set_cons_zero, List.set_cons_succ])
  refine wpAnyL_take (i := 5) (v := ?_) rfl (by kernel_rfl) (by kernel_rfl) (by kernel_rfl) (by kernel_rfl) (fun _ _ _ h => h) hS (Or.inl ⟨by rfl, ?_⟩) ?_
  case refine_2 => (intro w hSw; (try dsimp only at hSw); go_simp; (try with_reducible rfl))
  (try simp only [Act.put, List.setIfInBounds_toArray, List.set_cons_zero, List.set_cons_succ])
  refine wpAnyL_take (i := 6) (v := ?_) rfl (by kernel_rfl) (by kernel_rfl) (by kernel_rfl) (by kernel_rfl) (fun _ _ _ h => h) hS (Or.inl ⟨by rfl, ?_⟩) ?_
  case refine_2 => (intro w hSw; (try dsimp only at hSw); go_simp; (try with_reducible rfl))
  (try simp only [Act.put, List.setIfInBounds_toArray, List.set_cons_zero, List.set_cons_succ])
  refine wpAnyL_take (i := 7) (v := ?_) rfl (by kernel_rfl) (by kernel_rfl) (by kernel_rfl) (by kernel_rfl) (fun _ _ _ h => h) hS (Or.inl ⟨by rfl, ?_⟩) ?_
  case refine_2 => (intro w hSw; (try dsimp only at hSw); go_simp; (try with_reducible rfl))
  (try simp only [Act.put, List.setIfInBounds_toArray, List.set_cons_zero, List.set_cons_succ])
  refine wpAnyL_take (i := 8) (v := ?_) rfl (by kernel_rfl) (by kernel_rfl) (by kernel_rfl) (by kernel_rfl) (fun _ _ _ h => h) hS (Or.inl ⟨by rfl, ?_⟩) ?_
  case refine_2 => (intro w hSw; (try dsimp only at hSw); go_simp; (try with_reducible rfl))
  (try simp only [Act.put, List.setIfInBounds_toArray, List.set_cons_zero, List.set_cons_succ])
  refine wpAnyL_take (i := 9) (v := ?_) rfl (by kernel_rfl) (by kernel_rfl) (by kernel_rfl) (by kernel_rfl) (fun _ _ _ h => h) hS (Or.inl ⟨by rfl, ?_⟩) ?_
  case refine_2 => (intro w hSw; (try dsimp only at hSw); go_simp; (try with_reducible rfl))
  (try simp only [Act.put, List.setIfInBounds_toArray, List.set_cons_zero, List.set_cons_succ])
  refine wpAnyL_take (i := 10) (v := ?_) rfl (by kernel_rfl) (by kernel_rfl) (by kernel_rfl) (by kernel_rfl) (fun _ _ _ h => h) hS (Or.inl ⟨by rfl, ?_⟩) ?_
  case refine_2 => (intro w hSw; (try dsimp only at hSw); go_simp; (try with_reducible rfl))
  (try simp only [Act.put, List.setIfInBounds_toArray, List.set_cons_zero, List.set_cons_succ])
  refine wpAnyL_take (i := 11) (v := ?_) rfl (by kernel_rfl) (by kernel_rfl) (by kernel_rfl) (by kernel_rfl) (fun _ _ _ h => h) hS (Or.inl ⟨by rfl, ?_⟩) ?_
  case refine_2 => (intro w hSw; (try dsimp only at hSw); go_simp; (try with_reducible rfl))
  (try simp only [Act.put, List.setIfInBounds_toArray, List.set_cons_zero, List.set_cons_succ])
  refine wpAnyL_take (i := 12) (v := ?_) rfl (by kernel_rfl) (by kernel_rfl) (by kernel_rfl) (by kernel_rfl) (fun _ _ _ h => h) hS (Or.inl ⟨by rfl, ?_⟩) ?_
  case refine_2 => (intro w hSw; (try dsimp only at hSw); go_simp; (try with_reducible rfl))
  (try simp only [Act.put, List.setIfInBounds_toArray, List.set_cons_zero, List.set_cons_succ])
  refine wpAnyL_take (i := 13) (v := ?_) rfl (by kernel_rfl) (by kernel_rfl) (by kernel_rfl) (by kernel_rfl) (fun _ _ _ h => h) hS (Or.inl ⟨by rfl, ?_⟩) ?_
  case refine_2 => (intro w hSw; (try dsimp only at hSw); go_simp; (try with_reducible rfl))
  (try simp only [Act.put, List.setIfInBounds_toArray, List.set_cons_zero, List.set_cons_succ])
  refine wpAnyL_take (i := 14) (v := ?_) rfl (by kernel_rfl) (by kernel_rfl) (by kernel_rfl) (by kernel_rfl) (fun _ _ _ h => h) hS (Or.inl ⟨by rfl, ?_⟩) ?_
  case refine_2 => (intro w hSw; (try dsimp only at hSw); go_simp; (try with_reducible rfl))
  (try simp only [Act.put, List.setIfInBounds_toArray, List.set_cons_zero, List.set_cons_succ])
  refine wpAnyL_take (i := 15) (v := ?_) rfl (by kernel_rfl) (by kernel_rfl) (by kernel_rfl) (by kernel_rfl) (fun _ _ _ h => h) hS (Or.inl ⟨by rfl, ?_⟩) ?_
  case refine_2 => (intro w hSw; (try dsimp only at hSw); go_simp; (try with_reducible rfl))
  (try simp only [Act.put, List.setIfInBounds_toArray, List.set_cons_zero, List.set_cons_succ])
  refine wpAnyL_take (i := 16) (v := ?_) rfl (by kernel_rfl) (by kernel_rfl) (by kernel_rfl) (by kernel_rfl) (fun _ _ _ h => h) hS (Or.inl ⟨by rfl, ?_⟩) ?_
  case refine_2 => (intro w hSw; (try dsimp only at hSw); go_simp; (try with_reducible rfl))
  (try simp only [Act.put, List.setIfInBounds_toArray, List.set_cons_zero, List.set_cons_succ])
  refine wpAnyL_take (i := 17) (v := ?_) rfl (by kernel_rfl) (by kernel_rfl) (by kernel_rfl) (by kernel_rfl) (fun _ _ _ h => h) hS (Or.inl ⟨by rfl, ?_⟩) ?_
  case refine_2 => (intro w hSw; (try dsimp only at hSw); go_simp; (try with_reducible rfl))
  (try simp only [Act.put, List.setIfInBounds_toArray, List.set_cons_zero, List.set_cons_succ])
  refine wpAnyL_take (i := 18) (v := ?_) rfl (by kernel_rfl) (by kernel_rfl) (by kernel_rfl) (by kernel_rfl) (fun _ _ _ h => h) hS (Or.inl ⟨by rfl, ?_⟩) ?_
  case refine_2 => (intro w hSw; (try dsimp only at hSw); go_simp; (try with_reducible rfl))
  (try simp only [Act.put, List.setIfInBounds_toArray, List.set_cons_zero, List.set_cons_succ])
  refine wpAnyL_take (i := 19) (v := ?_) rfl (by kernel_rfl) (by kernel_rfl) (by kernel_rfl) (by kernel_rfl) (fun _ _ _ h => h) hS (Or.inl ⟨by rfl, ?_⟩) ?_
  case refine_2 => (intro w hSw; (try dsimp only at hSw); go_simp; (try with_reducible rfl))
  (try simp only [Act.put, List.setIfInBounds_toArray, List.set_cons_zero, List.set_cons_succ])
  refine wpAnyL_take (i := 20) (v := ?_) rfl (by kernel_rfl) (by kernel_rfl) (by kernel_rfl) (by kernel_rfl) (fun _ _ _ h => h) hS (Or.inl ⟨by rfl, ?_⟩) ?_
  case refine_2 => (intro w hSw; (try dsimp only at hSw); go_simp; (try with_reducible rfl))
  (try simp only [Act.put, List.setIfInBounds_toArray, List.set_cons_zero, List.set_cons_succ])
  refine wpAnyL_take (i := 21) (v := ?_) rfl (by kernel_rfl) (by kernel_rfl) (by kernel_rfl) (by kernel_rfl) (fun _ _ _ h => h) hS (Or.inl ⟨by rfl, ?_⟩) ?_
  case refine_2 => (intro w hSw; (try dsimp only at hSw); go_simp; (try with_reducible rfl))
  (try simp only [Act.put, List.setIfInBounds_toArray, List.set_cons_zero, List.set_cons_succ])
  refine wpAnyL_take (i := 22) (v := ?_) rfl (by kernel_rfl) (by kernel_rfl) (by kernel_rfl) (by kernel_rfl) (fun _ _ _ h => h) hS (Or.inl ⟨by rfl, ?_⟩) ?_
  case refine_2 => (intro w hSw; (try dsimp only at hSw); go_simp; (try with_reducible rfl))
  (try simp only [Act.put, List.setIfInBounds_toArray, List.set_cons_zero, List.set_cons_succ])
  refine wpAnyL_take (i := 23) (v := ?_) rfl (by kernel_rfl) (by kernel_rfl) (by kernel_rfl) (by kernel_rfl) (fun _ _ _ h => h) hS (Or.inl ⟨by rfl, ?_⟩) ?_
  case refine_2 => (intro w hSw; (try dsimp only at hSw); go_simp; (try with_reducible rfl))
  (try simp only [Act.put, List.setIfInBounds_toArray, List.set_cons_zero, List.set_cons_succ])
  refine wpAnyL_take (i := 24) (v := ?_) rfl (by kernel_rfl) (by kernel_rfl) (by kernel_rfl) (by kernel_rfl) (fun _ _ _ h => h) hS (Or.inl ⟨by rfl, ?_⟩) ?_
  case refine_2 => (intro w hSw; (try dsimp only at hSw); go_simp; (try with_reducible rfl))
  (try simp only [Act.put, List.setIfInBounds_toArray, List.set_cons_zero, List.set_cons_succ])
  refine wpAnyL_take (i := 25) (v := ?_) rfl (by kernel_rfl) (by kernel_rfl) (by kernel_rfl) (by kernel_rfl) (fun _ _ _ h => h) hS (Or.inl ⟨by rfl, ?_⟩) ?_
  case refine_2 => (intro w hSw; (try dsimp only at hSw); go_simp; (try with_reducible rfl))
  (try simp only [Act.put, List.setIfInBounds_toArray, List.set_cons_zero, List.set_cons_succ])
  refine wpAnyL_take (i := 26) (v := ?_) rfl (by kernel_rfl) (by kernel_rfl) (by kernel_rfl) (by kernel_rfl) (fun _ _ _ h => h) hS (Or.inl ⟨by rfl, ?_⟩) ?_
  case refine_2 => (intro w hSw; (try dsimp only at hSw); go_simp; (try with_reducible rfl))
  (try simp only [Act.put, List.setIfInBounds_toArray, List.set_cons_zero, List.set_cons_succ])
  refine wpAnyL_one (i := 27) (by kernel_rfl) rfl (fun K hK => ?_)
  go_simp
  refine hK.out _ _ (fun h => absurd rfl h) ?_
  clear hK K
  refine wpAnyL_done (by kernel_rfl) ?_ _
  go_wp2_with fail
  have T1 : Turns (atP p) w wD := by rw [← HWD.out]; exact ((Turns.of_below HB.out).trans H2.out.1).drew
  have R1 : Rdr wD p N M.1 M.2 := by
    rw [← HWD.out]
    exact H2.out.2.1.turns (G := fun _ => False) ((Turns.refl _ w2).drew) (fun h => h) (fun _ h => h.elim)
  refine bodyPost_ret (v := .agg #[.int .i64 t0, .bool (t1 == 1), .bool (t2 == 1), .int .i64 t3, .int .i64 t4, .int .i64 t5, .int .i64 t6, .int .i64 t7]) ?_ rfl ?_
  · rw [results_cell1 rfl]
    go_simp
  · refine ⟨rfl, ?_, R1.turns (G := fun k => k = w.heap.size) ?_ (fun e2 => by have e3 : p = w.heap.size := e2; have := HPL.out; omega) (fun k hk => by have e3 : k = w.heap.size := hk; omega)⟩
    · exact T1.more (turns_put (turns_put (turns_put (turns_put (turns_put (turns_put (turns_put (turns_put (Turns.refl _ _) _ _) _ _) _ _) _ _) _ _) _ _) _ _) _ _) (fun i hi => .inr (by have e3 : i = w.heap.size := hi; omega))
    · exact turns_put (turns_put (turns_put (turns_put (turns_put (turns_put (turns_put (turns_put (Turns.refl _ _) _ _) _ _) _ _) _ _) _ _) _ _) _ _) _ _

end Go.Proofs.YtdlajpjigddbhaaGreat.At

/-
  Whether maps are alike: slices.Equal, atlas.Same, the document's Same.
  Conditions: lists lie in memory.
-/
namespace Go.Proofs.YtdlajpjigddbhaaGreat.At
open Go.RowKit By Fl
set_option linter.unusedVariables false
set_option linter.unusedSimpArgs false
set_option maxRecDepth 100000

theorem neq_osd (a b : Osd) (w : World) : (binOp .neq 35 (vO a) (vO b)).run Tryz.prog w = .ok (.bool (!eqO a b)) w := by
  obtain ⟨a0, a1, a2, a3, a4, a5, a6, a7⟩ := a
  obtain ⟨b0, b1, b2, b3, b4, b5, b6, b7⟩ := b
  unfold vO eqO
  dsimp only
  go_simp
  by_cases e0 : a0 = b0 <;> by_cases e1 : a1 = b1 <;> by_cases e2 : a2 = b2 <;> by_cases e3 : a3 = b3 <;> by_cases e4 : a4 = b4 <;> by_cases e5 : a5 = b5 <;> by_cases e6 : a6 = b6 <;> by_cases e7 : a7 = b7 <;> simp [e0, e1, e2, e3, e4, e5, e6, e7]

theorem eq_pool (a b : Pool) (w : World) : (binOp .eql 49 (vP a) (vP b)).run Tryz.prog w = .ok (.bool (eqP a b)) w := by
  obtain ⟨a0, a1, a2, a3⟩ := a
  obtain ⟨b0, b1, b2, b3⟩ := b
  unfold vP eqP
  dsimp only
  go_simp
  by_cases e0 : a0 = b0 <;> by_cases e1 : a1 = b1 <;> by_cases e2 : a2 = b2 <;> by_cases e3 : a3 = b3 <;> simp [e0, e1, e2, e3]

theorem neq_pool (a b : Pool) (w : World) : (binOp .neq 49 (vP a) (vP b)).run Tryz.prog w = .ok (.bool (!eqP a b)) w := by
  obtain ⟨a0, a1, a2, a3⟩ := a
  obtain ⟨b0, b1, b2, b3⟩ := b
  unfold vP eqP
  dsimp only
  go_simp
  by_cases e0 : a0 = b0 <;> by_cases e1 : a1 = b1 <;> by_cases e2 : a2 = b2 <;> by_cases e3 : a3 = b3 <;> simp [e0, e1, e2, e3]

theorem eqL_len {a b : List Osd} (h : a.length ≠ b.length) : eqL a b = false := by
  cases hq : eqL a b with
  | false => rfl
  | true => exact absurd (congrArg List.length ((eqL_iff a b).1 hq)) h

theorem eqL_bad {a b : List Osd} {k : Nat} {u v : Osd} (hu : a[k]? = some u) (hv : b[k]? = some v) (h : eqO u v = false) : eqL a b = false := by
  cases hq : eqL a b with
  | false => rfl
  | true =>
    have := (eqL_iff a b).1 hq
    subst this
    have := Option.some.inj (hu.symm.trans hv)
    subst this
    rw [(eqO_iff u u).2 rfl] at h
    cases h

def SameTo (a b : List Osd) (k : Nat) : Prop := ∀ (j : Nat) (u v : Osd), j < k → a[j]? = some u → b[j]? = some v → eqO u v = true

theorem SameTo.all {a b : List Osd} (h : SameTo a b a.length) (hl : a.length = b.length) : eqL a b = true := by
  rw [eqL_iff]
  apply List.ext_getElem?
  intro i
  by_cases hi : i < a.length
  · rw [List.getElem?_eq_getElem hi, List.getElem?_eq_getElem (by omega)]
    exact congrArg some ((eqO_iff _ _).1 (h i _ _ hi (List.getElem?_eq_getElem hi) (List.getElem?_eq_getElem (by omega))))
  · rw [List.getElem?_eq_none (by omega), List.getElem?_eq_none (by omega)]

theorem SameTo.step {a b : List Osd} {k : Nat} {u v : Osd} (h : SameTo a b k) (hu : a[k]? = some u) (hv : b[k]? = some v) (he : eqO u v = true) : SameTo a b (k + 1) := fun j u' v' hj hu' hv' => by
  by_cases e : j = k
  · subst e
    have h1 := Option.some.inj (hu.symm.trans hu')
    have h2 := Option.some.inj (hv.symm.trans hv')
    subst h1 h2
    exact he
  · exact h j u' v' (by omega) hu' hv'

end Go.Proofs.YtdlajpjigddbhaaGreat.At

/-
  Whether maps are alike: atlas.Same, the document's Same.
  Conditions: lists lie in memory.
-/
namespace Go.Proofs.YtdlajpjigddbhaaGreat.At
open Go.RowKit By Fl
set_option linter.unusedVariables false
set_option linter.unusedSimpArgs false
set_option maxRecDepth 100000

set_option maxHeartbeats 1600000 in
theorem rsame_any {w : World} {x y : Option Addr} {n c n' c' : Nat} (a b : Mp) (h : Os w x n c a.osds) (h' : Os w y n' c' b.osds) :
    Calls Tryz.prog 20 #[vM a.ep a.pool x n c, vM b.ep b.pool y n' c'] w fun e w' => e = .returned (.bool (eqM a b)) ∧ Below w.heap.size w w' := by
  obtain ⟨ea, pa, L⟩ := a
  obtain ⟨eb, pb, M⟩ := b
  have hE := fun W => neq_pool pa pb W
  unfold eqM
  dsimp only at h h' ⊢
  have hm := h.small
  have hm' := h'.small
  have b0 := on (al w (.cells #[.int .i64 ea, .int .i64 pa.k, .int .i64 pa.m, .int .i64 pa.pgs, .int .i64 pa.dom, .slice x n c] 56)) (al _ (.cells #[.int .i64 eb, .int .i64 pb.k, .int .i64 pb.m, .int .i64 pb.pgs, .int .i64 pb.dom, .slice y n' c'] 56))
  have HO := hid (h.below b0)
  have HO' := hid (h'.below b0)
  have HL := hid h.len
  have HM := hid h'.len
  have k5 : ((w.alloc (.cells #[.int .i64 ea, .int .i64 pa.k, .int .i64 pa.m, .int .i64 pa.pgs, .int .i64 pa.dom, .slice x n c] 56)).alloc (.cells #[.int .i64 eb, .int .i64 pb.k, .int .i64 pb.m, .int .i64 pb.pgs, .int .i64 pb.dom, .slice y n' c'] 56)).cell? ⟨w.heap.size, 5, none⟩ = some (.slice x n c) := by go_simp
  have l5 : ((w.alloc (.cells #[.int .i64 ea, .int .i64 pa.k, .int .i64 pa.m, .int .i64 pa.pgs, .int .i64 pa.dom, .slice x n c] 56)).alloc (.cells #[.int .i64 eb, .int .i64 pb.k, .int .i64 pb.m, .int .i64 pb.pgs, .int .i64 pb.dom, .slice y n' c'] 56)).cell? ⟨w.heap.size + 1, 5, none⟩ = some (.slice y n' c') := by go_simp
  have HK := hid (And.intro k5 l5)
  generalize eqP pa pb = t1 at *
  obtain ⟨a1, a2, a3, a4⟩ := pa
  obtain ⟨b1, b2, b3, b4⟩ := pb
  unfold vM
  unfold vP at hE
  have HB := hid b0
  dsimp only at hE HB HK HO HO' ⊢
  clear h h' k5 l5 b0
  by_cases e : ea = eb
  · subst e
    cases t1 with
    | false =>
      go_enter Tryz.func20, Tryz.ntmps20
      go_wp2_with fail
      go_ret
      exact ⟨by simp, HB.out⟩
    | true =>
      by_cases hn : n = n'
      · subst hn
        go_enter Tryz.func20, Tryz.ntmps20
        go_wp2_with fail
        generalize (w.alloc (.cells #[.int .i64 ea, .int .i64 a1, .int .i64 a2, .int .i64 a3, .int .i64 a4, .slice x n c] 56)).alloc (.cells #[.int .i64 ea, .int .i64 b1, .int .i64 b2, .int .i64 b3, .int .i64 b4, .slice y n c'] 56) = w0 at *
        go_loopw [5] (fun i wr => ∃ q : Nat, q ≤ n ∧ i = .int .i64 q ∧ Hid (Below w0.heap.size w0 wr ∧ SameTo L M q)) (fun i _ => n - (intOf i).toNat)
        case atStart => exact ⟨0, by omega, rfl, Below.refl _ _, fun j u v hj => by omega⟩
        case round =>
          obtain ⟨q, hq, rfl, HR⟩ := hrel
          have k5 := keep HR.out.1 HK.out.1
          have j5 := keep HR.out.1 HK.out.2
          by_cases hlt : q < n
          · have hqn : (q : Int) < (n : Int) := by omega
            obtain ⟨u, hu⟩ : ∃ a, L[q]? = some a := ⟨L[q]'(by have := HL.out; omega), List.getElem?_eq_getElem (by have := HL.out; omega)⟩
            obtain ⟨v, hv⟩ : ∃ a, M[q]? = some a := ⟨M[q]'(by have := HM.out; omega), List.getElem?_eq_getElem (by have := HM.out; omega)⟩
            have ho := HO.out.below HR.out.1
            have ho' := HO'.out.below HR.out.1
            rcases ho.row with h0 | ⟨b, o, rfl, hbl, hcell⟩
            · omega
            rcases ho'.row with h0 | ⟨b', o', rfl, hbl', hcell'⟩
            · omega
            obtain ⟨k0, k1, k2, k3, k4, k5', k6, k7⟩ := Os.at (n := n) (c := c) hcell hu
            obtain ⟨l0, l1, l2, l3, l4, l5', l6, l7⟩ := Os.at (n := n) (c := c) hcell' hv
            have hE2 := fun W => neq_osd u v W
            obtain ⟨t, ht⟩ : ∃ t, t = eqO u v := ⟨_, rfl⟩
            rw [← ht] at hE2
            have HA := hid (show L[q]? = some u ∧ M[q]? = some v ∧ t = eqO u v from ⟨hu, hv, ht⟩)
            clear hcell hcell' hu hv ht ho ho' hE
            obtain ⟨u0, u1, u2, u3, u4, u5, u6, u7⟩ := u
            obtain ⟨v0, v1, v2, v3, v4, v5, v6, v7⟩ := v
            unfold vO at hE2
            dsimp only at k0 k1 k2 k3 k4 k5' k6 k7 l0 l1 l2 l3 l4 l5' l6 l7 hE2
            cases t with
            | true =>
              go_wp2_with fail
              go_quiet (fail)
              go_wp2_with fail
              go_roundw
              case rel => exact ⟨q + 1, by omega, by go_num, below_drewN' HR.out.1 _, HR.out.2.step HA.out.1 HA.out.2.1 HA.out.2.2.symm⟩
              case measure => simp [intOf]; omega
            | false =>
              go_wp2_with fail
              go_quiet (fail)
              go_wp2_with fail
              go_ret
              exact ⟨by rw [eqL_bad HA.out.1 HA.out.2.1 HA.out.2.2.symm]; simp, on HB.out (below_drewN' HR.out.1 _)⟩
          · have hq2 : q = n := by omega
            subst hq2
            go_wp2_with fail
            go_ret
            exact ⟨by rw [SameTo.all (by rw [HL.out]; exact HR.out.2) (by rw [HL.out, HM.out])]; simp, on HB.out HR.out.1⟩
      · have hne : (n : Int) ≠ (n' : Int) := by omega
        have HF : Hid (eqL L M = false) := eqL_len (by rw [HL.out, HM.out]; exact hn)
        clear hn
        go_enter Tryz.func20, Tryz.ntmps20
        go_wp2_with fail
        go_ret
        exact ⟨by rw [HF.out]; simp, HB.out⟩
  · have hne : ea ≠ eb := e
    go_enter Tryz.func20, Tryz.ntmps20
    go_wp2_with fail
    go_ret
    exact ⟨by simp [e], HB.out⟩

end Go.Proofs.YtdlajpjigddbhaaGreat.At

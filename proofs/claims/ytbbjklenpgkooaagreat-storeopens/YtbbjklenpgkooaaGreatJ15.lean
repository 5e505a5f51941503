/-
  5 texts of this proof, one behind the other: StDoneM, StDoneC, StDoneR, StClone, StDo.
-/
import Derived.Test.YtbbjklenpgkooaaGreatJ14
import Derived.Maps.AppendAt
import Derived.Shelf.LaysM
import Derived.Shelf.Strconv.Clone
import Derived.Test.YtbbjklenpgkooaaGreatJ11
import Derived.Test.YtbbjklenpgkooaaGreatJ13
/-
  Lists of acts: a part of one, an append behind one that is there.
  Conditions: none.
-/
namespace Go.Proofs.YtbbjklenpgkooaaGreat
open Go.RowKit By Dk Wi St
variable [Inhabited PR] [∀ pre s : ByteArray, Decidable (Beg pre s)]
set_option linter.unusedSectionVars false
set_option linter.unusedVariables false
set_option linter.unusedSimpArgs false
set_option maxRecDepth 100000

def CellsA (w : World) (b o n : Nat) (U : Nat → AV) : Prop := ∀ i, i < n → w.cell? ⟨b, o + i * 3, none⟩ = some (.string (U i).key) ∧ w.cell? ⟨b, o + i * 3 + 1, none⟩ = some (.bool (U i).set) ∧ w.cell? ⟨b, o + i * 3 + 2, none⟩ = some (.slice (U i).x (U i).n (U i).c)

theorem CellsA.turns {G : Nat → Prop} {w w' : World} {b o n : Nat} {U : Nat → AV} (h : CellsA w b o n U) (t : Turns G w w') (hb : b < w.heap.size) (hg : ¬ G b) : CellsA w' b o n U := fun i hi => by
  have hb' := t.block b hb hg
  obtain ⟨q0, q1, q2⟩ := h i hi
  exact ⟨(World.cell?_of_block (a := ⟨b, o + i * 3, none⟩) hb').trans q0, (World.cell?_of_block (a := ⟨b, o + i * 3 + 1, none⟩) hb').trans q1, (World.cell?_of_block (a := ⟨b, o + i * 3 + 2, none⟩) hb').trans q2⟩

theorem CellsA.part {w : World} {b o n : Nat} {U : Nat → AV} (h : CellsA w b o n U) (k m : Nat) (hk : k + m ≤ n) : CellsA w b (o + k * 3) m (fun i => U (k + i)) := fun i hi => by
  have := h (k + i) (by omega)
  rw [show o + (k + i) * 3 = o + k * 3 + i * 3 by omega] at this
  exact this

theorem OwnA.congr {w : World} {R : Value} {k : Nat} {V U : Nat → AV} (h : OwnA w R k V) (e : ∀ i, i < k → V i = U i) : OwnA w R k U := by
  have : rowOf (avV V) (k * 3) = rowOf (avV U) (k * 3) := rowOf_congr fun j hj => by
    unfold avV
    rw [e (j / 3) (by omega)]
  unfold OwnA at *
  rw [← this]
  exact h

theorem OwnA.cells {w : World} {g k c : Nat} {V : Nat → AV} (h : OwnA w (.slice (some ⟨g, 0, none⟩) k c) k V) : g < w.heap.size ∧ k ≤ c ∧ CellsA w g 0 k V := by
  have hl := h.lt g rfl
  obtain ⟨x, c', e1, h2, _, h4⟩ := own_form h
  injection e1 with e1 e2 e3
  refine ⟨hl.2, by omega, fun i hi => ?_⟩
  rcases h4 with h0 | ⟨g', e4, hg, hc⟩
  · omega
  · rw [e4] at e1
    injection e1 with e1
    injection e1 with e1
    subst e1
    have c0 := hc (i * 3) _ (rowOf_get _ _ _ (by omega))
    have c1 := hc (i * 3 + 1) _ (rowOf_get _ _ _ (by omega))
    have c2 := hc (i * 3 + 2) _ (rowOf_get _ _ _ (by omega))
    rw [avV_0] at c0
    rw [avV_1] at c1
    rw [avV_2] at c2
    exact ⟨by rw [Nat.zero_add]; exact c0, by rw [Nat.zero_add]; exact c1, by rw [Nat.zero_add]; exact c2⟩

theorem OwnA.pushS {v : World} {g k c : Nat} {V : Nat → AV} (h : OwnA v (.slice (some ⟨g, 0, none⟩) k c) k V) (b o m cs : Nat) (U : Nat → AV) (hU : CellsA v b o m U) (hs : k + m ≤ 4000000) :
    ∃ g' c' w', (Builtin.append_ #[24, 24] 24 #[.slice (some ⟨g, 0, none⟩) k c, .slice (some ⟨b, o, none⟩) m cs]).run Tryz.prog v = .ok (.slice (some ⟨g', 0, none⟩) (k + m) c') w' ∧
      Hid (OwnA w' (.slice (some ⟨g', 0, none⟩) (k + m) c') (k + m) (catA V k U) ∧ Turns (fun j => j = g) v w' ∧ (g' = g ∨ g' = v.heap.size)) := by
  obtain ⟨i0, hi, hz0, hz1, hz2⟩ := info_parts info_act
  obtain ⟨R', w4, hap, ho, hgr, hnil, hR'⟩ := run_append_own_at (P := Tryz.prog) v 0 24 24 54 i0 _ 3 48 Tryz.underlying24 hi hz0 hz1 hz2 rfl (by decide) _ k _ h
    ⟨b, o, none⟩ m cs (rowOf (avV U) (m * 3)) (by rw [rowOf_len]) (fun j u hj => by
      rw [add_at]
      have hjm : j < m * 3 := by
        rcases Nat.lt_or_ge j (m * 3) with h1 | h1
        · exact h1
        · rw [List.getElem?_eq_none (by rw [rowOf_len]; exact h1)] at hj; cases hj
      rw [rowOf_get _ _ _ hjm] at hj
      injection hj with hj
      subst hj
      obtain ⟨q0, q1, q2⟩ := hU (j / 3) (by omega)
      have h3 : j % 3 = 0 ∨ j % 3 = 1 ∨ j % 3 = 2 := by omega
      unfold avV
      rcases h3 with e | e | e
      · rw [if_pos e, ← q0, show o + j / 3 * 3 = o + j by omega]
      · rw [if_neg (by omega), if_pos e, ← q1, show o + j / 3 * 3 + 1 = o + j by omega]
      · rw [if_neg (by omega), if_neg (by omega), ← q2, show o + j / 3 * 3 + 2 = o + j by omega]) (rowOf_one _ _ (avV_one U)) (by unfold maxLen; omega) (by omega) (Nat.zero_le _)
  rw [rowOf_cat] at ho
  rcases ho.2 with ⟨he, _⟩ | ⟨g', cap, cur, he, _⟩
  · have := (hnil.1 he).1
    injection this with this
    cases this
  · subst he
    refine ⟨g', cap, w4, hap, ho, (Turns.refl _ v).grown hgr (fun j hj => .inl (by simp [Value.ownBlock] at hj; exact hj.symm)), ?_⟩
    simp [Value.ownBlock] at hR'
    exact hR'

def offQ (o c k : Nat) : Nat := if c = k then o else o + k * 3

theorem cut_tail (b o n c k : Nat) (w : World) (h : k ≤ n) :
    (Instr.slice 24 (.slice (some ⟨b, o, none⟩) n c) (some (.int .i64 (k : Int))) none none).run Tryz.prog w = .ok (.slice (some ⟨b, offQ o c k, none⟩) (n - k) (c - k)) w := by
  rw [run_slice_l w 24 _ _ _ aelem_row .i64 (k : Int) (by omega) (by omega), aelem_is, asize_act]
  simp only [Result.andThen, sliced, Int.toNat_natCast]
  have : (if c = k then some (⟨b, o, none⟩ : Addr) else (some (⟨b, o, none⟩ : Addr)).map (·.add (k * 3))) = some ⟨b, offQ o c k, none⟩ := by
    unfold offQ
    split <;> simp [Addr.add]
  rw [this]

theorem CellsA.tail {w : World} {b o n c : Nat} {U : Nat → AV} (h : CellsA w b o n U) (k : Nat) (hk : k ≤ n) (hc : n ≤ c) : CellsA w b (offQ o c k) (n - k) (fun i => U (k + i)) := fun i hi => by
  have : offQ o c k = o + k * 3 := by
    unfold offQ
    rw [if_neg (by omega)]
  rw [this]
  exact h.part k (n - k) (by omega) i hi

end Go.Proofs.YtbbjklenpgkooaaGreat

/-
  The appends of one act of the document's Done, one behind the other.
  Conditions: none.
-/
namespace Go.Proofs.YtbbjklenpgkooaaGreat
open Go.RowKit By Dk Wi St
variable [Inhabited PR] [∀ pre s : ByteArray, Decidable (Beg pre s)]
set_option linter.unusedSectionVars false
set_option linter.unusedVariables false
set_option linter.unusedSimpArgs false
set_option maxRecDepth 100000

theorem copy_acts (v : World) (b o n cs : Nat) (U : Nat → AV) (hU : CellsA v b o n U) (hb : b < v.heap.size) (hn : n ≤ 4000000) :
    ∃ g' c' w', (Builtin.append_ #[24, 24] 24 #[.slice (some ⟨v.heap.size, 0, none⟩) 0 0, .slice (some ⟨b, o, none⟩) n cs]).run Tryz.prog (v.alloc (.cells #[] 54)) = .ok (.slice (some ⟨g', 0, none⟩) n c') w' ∧
      OwnA w' (.slice (some ⟨g', 0, none⟩) n c') n U ∧ Below v.heap.size v w' ∧ v.heap.size ≤ g' := by
  have b1 : Below v.heap.size v (v.alloc (.cells #[] 54)) := (Below.refl _ _).alloc (Nat.le_refl _) _
  obtain ⟨g', c', w', h1, H⟩ := (OwnA.start v U).pushS b o n cs U (hU.turns (Turns.of_below (F := fun _ => False) b1) hb (fun h => h)) (by omega)
  rw [Nat.zero_add] at h1 H
  obtain ⟨h2, h3, h4⟩ := H.out
  have hz := b1.size
  refine ⟨g', c', w', h1, h2.congr (fun i hi => ?_), b1.trans (h3.below (fun j hj => by omega) b1.size), ?_⟩
  · unfold catA
    rw [if_neg (by omega), Nat.sub_zero]
  · rcases h4 with e | e
    · omega
    · rw [e]; exact hz

/- One act done: what lies there then. -/
structure DI (w wr : World) (Pd : AV → Prop) (M : KV) (L : Nat → AV) (kl k g m c : Nat) (O : Nat → AV) : Prop where
  own : OwnA wr (.slice (some ⟨g, 0, none⟩) m c) m O
  hg : w.heap.size ≤ g
  rise : Rise O m
  km : KM O m (doL M (pas L k))
  can : ∀ i, i < k → (L i).set = false → (doL M (pas L i) (L i).key).isSome = true
  pd : ∀ i, i < m → Pd (O i)
  le : m ≤ kl + k
  bel : Below w.heap.size w wr

section
variable {w wr v : World} {Pd : AV → Prop} {M : KV} {L : Nat → AV} {kl k g m c : Nat} {O : Nat → AV} {P T : Nat}

theorem DI.same (h : DI w wr Pd M L kl k g m c O) (hh : v.heap = wr.heap) (h1 : v.os = wr.os) (h2 : v.tape = wr.tape) (h3 : v.output = wr.output) : DI w v Pd M L kl k g m c O :=
  ⟨ownsRow_same h.own fun j _ => by rw [hh], h.hg, h.rise, h.km, h.can, h.pd, h.le, below_heap h.bel hh h1 h2 h3⟩

/- The list behind a place, and the list ahead of it, are copied; one act goes between them, or none. -/
theorem DI.set_ (h : DI w v Pd M L kl k g m c O) (hs : kl + k + 1 ≤ 4000000) (hp : Place O m (L k).key P T) (hset : (L k).set = true) (hpd : Pd (L k)) (r0 r : Nat) (hr0 : r0 = m - P) (hr : r = m - (P + T)) :
    ∃ g1 c1 w1, (Builtin.append_ #[24, 24] 24 #[.slice (some ⟨v.heap.size, 0, none⟩) 0 0, .slice (some ⟨g, offQ 0 c P, none⟩) r0 (c - P)]).run Tryz.prog (v.alloc (.cells #[] 54)) = .ok (.slice (some ⟨g1, 0, none⟩) r0 c1) w1 ∧ Below w.heap.size w w1 ∧ r0 ≤ c1 ∧
      ∃ g2 c2 w2, (Builtin.append_ #[24, 24] 24 #[.slice (some ⟨w1.heap.size, 0, none⟩) 0 0, .slice (some ⟨g, 0, none⟩) P c]).run Tryz.prog (w1.alloc (.cells #[] 54)) = .ok (.slice (some ⟨g2, 0, none⟩) P c2) w2 ∧ Below w.heap.size w w2 ∧
        ∃ g3 c3 w3, (Builtin.append_ #[24, 24] 24 #[.slice (some ⟨g2, 0, none⟩) P c2, .slice (some ⟨w2.heap.size, 0, none⟩) 1 1]).run Tryz.prog (w2.alloc (.cells #[.string (L k).key, .bool (L k).set, .slice (L k).x (L k).n (L k).c] 54)) = .ok (.slice (some ⟨g3, 0, none⟩) (P + 1) c3) w3 ∧
          ∃ g4 c4 w4, (Builtin.append_ #[24, 24] 24 #[.slice (some ⟨g3, 0, none⟩) (P + 1) c3, .slice (some ⟨g1, if T = 1 then offQ 0 c1 1 else 0, none⟩) r (c1 - T)]).run Tryz.prog w3 = .ok (.slice (some ⟨g4, 0, none⟩) (P + 1 + r) c4) w4 ∧
            Hid (∃ O', DI w w4 Pd M L kl (k + 1) g4 (P + 1 + r) c4 O') := by
  obtain ⟨hgl, hmc, hce⟩ := h.own.cells
  have hle := hp.le
  have hml := h.le
  have hT : T = 0 ∨ T = 1 := by rcases hp.one with h | h <;> omega
  obtain ⟨g1, c1, w1, a1, a2, a3, a4⟩ := copy_acts v g (offQ 0 c P) r0 (c - P) (fun i => O (P + i)) (by rw [hr0]; exact hce.tail P (by omega) hmc) hgl (by omega)
  have hw1 : Below w.heap.size w w1 := h.bel.trans (a3.mono h.bel.size)
  obtain ⟨_, hrc, hce1⟩ := a2.cells
  refine ⟨g1, c1, w1, a1, hw1, hrc, ?_⟩
  have hz1 := a3.size
  have hceO1 : CellsA w1 g 0 P O := fun i hi => (hce.turns (Turns.of_below (F := fun _ => False) a3) hgl (fun h => h)) i (by omega)
  obtain ⟨g2, c2, w2, b1, b2, b3, b4⟩ := copy_acts w1 g 0 P c O hceO1 (by omega) (by omega)
  have hw2 : Below w.heap.size w w2 := hw1.trans (b3.mono hw1.size)
  refine ⟨g2, c2, w2, b1, hw2, ?_⟩
  have hz2 := b3.size
  obtain ⟨hg1l, _, _⟩ := a2.cells
  have hce2 : CellsA w2 g1 0 r0 (fun i => O (P + i)) := hce1.turns (Turns.of_below (F := fun _ => False) b3) hg1l (fun h => h)
  have bb : Below w2.heap.size w2 (w2.alloc (.cells #[.string (L k).key, .bool (L k).set, .slice (L k).x (L k).n (L k).c] 54)) := (Below.refl _ _).alloc (Nat.le_refl _) _
  have t3 := Three.new w2 (.string (L k).key) (.bool (L k).set) (.slice (L k).x (L k).n (L k).c) 54
  obtain ⟨g3, c3, w3, d1, D⟩ := (b2.alloc #[.string (L k).key, .bool (L k).set, .slice (L k).x (L k).n (L k).c] 54).pushS w2.heap.size 0 1 1 (fun _ => L k) (fun i hi => by
    obtain rfl : i = 0 := by omega
    exact ⟨t3.c0, t3.c1, t3.c2⟩) (by omega)
  obtain ⟨d2, d3, d4⟩ := D.out
  refine ⟨g3, c3, w3, d1, ?_⟩
  have hz3 := bb.size
  have hw3 : Below w.heap.size w w3 := (hw2.trans (bb.mono hw2.size)).trans (d3.below (fun j hj => by have := h.bel.size; omega) (by have := hw2.size; omega))
  have hce3 : CellsA w3 g1 0 r0 (fun i => O (P + i)) := (hce2.turns (Turns.of_below (F := fun _ => False) bb) (by omega) (fun h => h)).turns d3 (by omega) (by omega)
  have hfin : CellsA w3 g1 (if T = 1 then offQ 0 c1 1 else 0) r (rest O P T) := by
    rcases hT with e | e
    · subst e
      rw [if_neg (by omega)]
      intro i hi
      have := hce3 i (by omega)
      unfold rest
      rw [Nat.add_zero]
      exact this
    · subst e
      rw [if_pos rfl]
      intro i hi
      have := hce3.tail (c := c1) 1 (by omega) hrc i (by omega)
      unfold rest
      rw [Nat.add_assoc]
      exact this
  obtain ⟨g4, c4, w4, e1, E⟩ := d2.pushS g1 (if T = 1 then offQ 0 c1 1 else 0) r (c1 - T) (rest O P T) hfin (by omega)
  obtain ⟨e2, e3, e4⟩ := E.out
  obtain ⟨i1, i2⟩ := ins_set hp h.rise h.km hset
  rw [← hr] at i1 i2
  have hg3 : w.heap.size ≤ g3 := by
    have := hw2.size
    have := h.bel.size
    rcases d4 with e | e
    · omega
    · rw [e]; omega
  refine ⟨g4, c4, w4, e1, _, e2, ?_, i1, ?_, fun i hi hse => ?_, fun i hi => ?_, by omega, hw3.trans (e3.below (fun j hj => by omega) hw3.size)⟩
  · have := hw3.size
    rcases e4 with e | e
    · omega
    · rw [e]; exact this
  · rw [pas_succ, doL_snoc]
    exact i2
  · by_cases ei : i < k
    · exact h.can i ei hse
    · obtain rfl : i = k := by omega
      rw [hset] at hse
      cases hse
  · rw [cat_set]
    split
    · exact h.pd i (by omega)
    · split
      · exact hpd
      · exact h.pd _ (by omega)

theorem DI.del_ (h : DI w v Pd M L kl k g m c O) (hs : kl + k + 1 ≤ 4000000) (hp : Place O m (L k).key P 1) (hset : (L k).set = false) (r0 r : Nat) (hr0 : r0 = m - P) (hr : r = m - (P + 1)) :
    ∃ g1 c1 w1, (Builtin.append_ #[24, 24] 24 #[.slice (some ⟨v.heap.size, 0, none⟩) 0 0, .slice (some ⟨g, offQ 0 c P, none⟩) r0 (c - P)]).run Tryz.prog (v.alloc (.cells #[] 54)) = .ok (.slice (some ⟨g1, 0, none⟩) r0 c1) w1 ∧ Below w.heap.size w w1 ∧ r0 ≤ c1 ∧
      ∃ g2 c2 w2, (Builtin.append_ #[24, 24] 24 #[.slice (some ⟨w1.heap.size, 0, none⟩) 0 0, .slice (some ⟨g, 0, none⟩) P c]).run Tryz.prog (w1.alloc (.cells #[] 54)) = .ok (.slice (some ⟨g2, 0, none⟩) P c2) w2 ∧ Below w.heap.size w w2 ∧
          ∃ g4 c4 w4, (Builtin.append_ #[24, 24] 24 #[.slice (some ⟨g2, 0, none⟩) P c2, .slice (some ⟨g1, offQ 0 c1 1, none⟩) r (c1 - 1)]).run Tryz.prog w2 = .ok (.slice (some ⟨g4, 0, none⟩) (P + r) c4) w4 ∧
            Hid (∃ O', DI w w4 Pd M L kl (k + 1) g4 (P + r) c4 O') := by
  obtain ⟨hgl, hmc, hce⟩ := h.own.cells
  have hle := hp.le
  have hml := h.le
  obtain ⟨g1, c1, w1, a1, a2, a3, a4⟩ := copy_acts v g (offQ 0 c P) r0 (c - P) (fun i => O (P + i)) (by rw [hr0]; exact hce.tail P (by omega) hmc) hgl (by omega)
  have hw1 : Below w.heap.size w w1 := h.bel.trans (a3.mono h.bel.size)
  obtain ⟨_, hrc, hce1⟩ := a2.cells
  refine ⟨g1, c1, w1, a1, hw1, hrc, ?_⟩
  have hz1 := a3.size
  have hceO1 : CellsA w1 g 0 P O := fun i hi => (hce.turns (Turns.of_below (F := fun _ => False) a3) hgl (fun h => h)) i (by omega)
  obtain ⟨g2, c2, w2, b1, b2, b3, b4⟩ := copy_acts w1 g 0 P c O hceO1 (by omega) (by omega)
  have hw2 : Below w.heap.size w w2 := hw1.trans (b3.mono hw1.size)
  refine ⟨g2, c2, w2, b1, hw2, ?_⟩
  have hz2 := b3.size
  obtain ⟨hg1l, _, _⟩ := a2.cells
  have hce2 : CellsA w2 g1 0 r0 (fun i => O (P + i)) := hce1.turns (Turns.of_below (F := fun _ => False) b3) hg1l (fun h => h)
  have hfin : CellsA w2 g1 (offQ 0 c1 1) r (rest O P 1) := by
    intro i hi
    have := hce2.tail (c := c1) 1 (by omega) hrc i (by omega)
    unfold rest
    rw [Nat.add_assoc]
    exact this
  obtain ⟨g4, c4, w4, e1, E⟩ := b2.pushS g1 (offQ 0 c1 1) r (c1 - 1) (rest O P 1) hfin (by omega)
  obtain ⟨e2, e3, e4⟩ := E.out
  obtain ⟨i1, i2⟩ := ins_del hp h.rise h.km hset
  rw [← hr] at i1 i2
  have hg2 : w.heap.size ≤ g2 := by
    have := hw1.size
    omega
  refine ⟨g4, c4, w4, e1, _, e2, ?_, i1, ?_, fun i hi hse => ?_, fun i hi => ?_, by omega, hw2.trans (e3.below (fun j hj => by omega) hw2.size)⟩
  · have := hw2.size
    rcases e4 with e | e
    · omega
    · rw [e]; exact this
  · rw [pas_succ, doL_snoc]
    exact i2
  · by_cases ei : i < k
    · exact h.can i ei hse
    · obtain rfl : i = k := by omega
      rw [hp.has h.km]
      rfl
  · rw [cat_del]
    split
    · exact h.pd i (by omega)
    · exact h.pd _ (by omega)

end

end Go.Proofs.YtbbjklenpgkooaaGreat

/-
  The document's Done: a list of keys that rise, and acts that are done upon it.
  Conditions: the keys and the acts lie in memory.
-/
namespace Go.Proofs.YtbbjklenpgkooaaGreat
open Go.RowKit By Dk Wi St
variable [Inhabited PR] [∀ pre s : ByteArray, Decidable (Beg pre s)]
set_option linter.unusedSectionVars false
set_option linter.unusedVariables false
set_option linter.unusedSimpArgs false
set_option maxRecDepth 100000

def DoneTold (w w' : World) (Pd : AV → Prop) (M' : KV) (n c : Nat) (g : Nat) (O : Nat → AV) : Prop :=
  CellsA w' g 0 n O ∧ g < w'.heap.size ∧ n ≤ c ∧ w.heap.size ≤ g ∧ (∀ i, i < n → Pd (O i)) ∧ Rise O n ∧ KM O n M' ∧ Below w.heap.size w w'

theorem append_ex {P : Program} {w : World} {ops : Array Oper} {rest : List Oper} {o : Oper} {a : Act} {Q : Exit → Act → World → Prop} (hg : o.guard = none) (s x : Operand) (t : TypeId) (ho : o.op = .call { callee := .builtin .append, args := #[s, x], argTypes := #[t, t] }) (v1 v2 : Value) (hs : a.eval s = v1) (hx : a.eval x = v2)
    {R : Nat → Nat → World → Prop} {n : Nat} (hr : ∃ g c w', (Builtin.append_ #[t, t] o.type #[v1, v2]).run P w = .ok (.slice (some ⟨g, 0, none⟩) n c) w' ∧ R g c w') (h : ∀ g c w', R g c w' → wpList P ops Q rest (a.put o.dst (.slice (some ⟨g, 0, none⟩) n c)) w') : wpList P ops Q (o :: rest) a w := by
  obtain ⟨g, c, w', h1, h2⟩ := hr
  exact wpList_append_run hg s x t ho v1 v2 hs hx h1 (h g c w' h2)

theorem bytes_less (a b : ByteArray) (t : Bool) (h : lessN (nat a) (nat b) = t) : Op.bytesLess a.toList b.toList = t := by rw [less_nat]; exact h

set_option maxHeartbeats 8000000 in
theorem rdones_any (kb ko klen kcap : Nat) (K : Nat → AV) (w : World) (Pd : AV → Prop) (M : KV) (hk : CellsA w kb ko klen K) (hkb : kb < w.heap.size) (hpk : ∀ i, i < klen → Pd (K i)) (hrise : Rise K klen) (hkm : KM K klen M) (la : Option Addr) (llen lcap : Nat) (L : Nat → AV) (hL : ActsAt w la llen L) (hpl : ∀ i, i < llen → Pd (L i)) (hs : klen + llen ≤ 4000000) :
    Calls Tryz.prog 15 #[.slice (some ⟨kb, ko, none⟩) klen kcap, .slice la llen lcap] w fun e w' =>
      (¬ canL M (pas L llen) ∧ e = .returned (.tuple #[.slice (some ⟨kb, ko, none⟩) klen kcap, .bool false]) ∧ Below w.heap.size w w') ∨
      (canL M (pas L llen) ∧ ∃ g n c O, e = .returned (.tuple #[.slice (some ⟨g, 0, none⟩) n c, .bool true]) ∧ n ≤ klen + llen ∧ Hid (DoneTold w w' Pd (doL M (pas L llen)) n c g O)) := by
  obtain ⟨g0, c0, w0, hap0, h01, h02, h03⟩ := copy_acts w kb ko klen kcap K hk hkb (by omega)
  have HD0 : Hid (DI w w0 Pd M L klen 0 g0 klen c0 K) := ⟨h01, h03, hrise, hkm, (fun i hi => by omega), hpk, by omega, h02⟩
  have HL := hid hL
  have HPL := hid hpl
  clear hk hkb hpk hrise hkm h01 h02 h03 hL hpl
  go_enter Tryz.func15, Tryz.ntmps15
  go_wp2_with (at_builtin; refine wpList_append_run rfl _ _ 24 rfl _ _ rfl rfl hap0 ?_; clear hap0)
  go_loopw [6, 7] (fun out i wr => ∃ (k g m c : Nat) (O : Nat → AV), k ≤ llen ∧ out = .slice (some ⟨g, 0, none⟩) m c ∧ i = .int .i64 k ∧ Hid (DI w wr Pd M L klen k g m c O)) (fun _ i _ => llen - (intOf i).toNat)
  case atStart => exact ⟨0, g0, klen, c0, K, by omega, rfl, rfl, HD0.out⟩
  case round =>
    clear HD0
    obtain ⟨k, g, m, c, O, hk, rfl, rfl, HD⟩ := hrel
    by_cases hkl : k < llen
    · have hkl' : (k : Int) < (llen : Int) := by omega
      rcases HL.out.row with h0 | ⟨b, o, rfl, hbl, hc⟩
      · omega
      obtain ⟨f0, f1, f2⟩ := hc k hkl
      have hbw := HD.out.bel
      have k0 := (hbw.cell (p := ⟨b, o + k * 3, none⟩) hbl).trans f0
      have hml := HD.out.le
      obtain ⟨hgl, hmc, hce⟩ := HD.out.own.cells
      have HCE := hid hce
      have HCL : Hid (∀ v, Below w.heap.size w v → v.cell? ⟨b, o + k * 3, none⟩ = some (.string (L k).key) ∧ v.cell? ⟨b, o + k * 3 + 1, none⟩ = some (.bool (L k).set) ∧ v.cell? ⟨b, o + k * 3 + 2, none⟩ = some (.slice (L k).x (L k).n (L k).c)) := fun v hv =>
        ⟨(hv.cell (p := ⟨b, o + k * 3, none⟩) hbl).trans f0, (hv.cell (p := ⟨b, o + k * 3 + 1, none⟩) hbl).trans f1, (hv.cell (p := ⟨b, o + k * 3 + 2, none⟩) hbl).trans f2⟩
      clear hc f0 f1 f2 hbw hgl hce
      go_wp2_with fail
      go_loopw [8] (fun a wr' => ∃ (p q : Nat), p ≤ m ∧ a = .int .i64 p ∧ wr' = wr.drewN q ∧ Hid (∀ j, j < p → lessN (nat (O j).key) (nat (L k).key) = true)) (fun a _ => m - (intOf a).toNat)
      case atStart => exact ⟨0, 0, Nat.zero_le _, rfl, rfl, fun j hj => by omega⟩
      case round =>
        obtain ⟨p, q, hp, rfl, rfl, HLow⟩ := hrel
        go_wp2_with fail
        by_cases hpm : p < m
        · have hpm' : (p : Int) < (m : Int) := by omega
          have e0 := (HCE.out p hpm).1
          rw [Nat.zero_add] at e0
          by_cases hlt : lessN (nat (O p).key) (nat (L k).key) = true
          · have hbl2 := bytes_less _ _ _ hlt
            have HLow2 : Hid (∀ j, j < p + 1 → lessN (nat (O j).key) (nat (L k).key) = true) := fun j hj => by
              by_cases e : j = p
              · rw [e]; exact hlt
              · exact HLow.out j (by omega)
            clear hlt HLow
            go_quiet (fail)
            go_wp2_with fail
            go_roundw
            case rel => exact ⟨p + 1, _, by omega, by go_num, rfl, HLow2.out⟩
            case measure => simp [intOf]; omega
          · have hlt' : lessN (nat (O p).key) (nat (L k).key) = false := by simpa using hlt
            have hbl2 := bytes_less _ _ _ hlt'
            have HPl := hid (Place.of HD.out.rise hp HLow.out (fun _ => hlt'))
            clear hlt hlt' HLow
            by_cases heq : (O p).key = (L k).key
            · have hbe : ((O p).key.toList == (L k).key.toList) = true := by rw [heq]; exact beq_same _
              have HPP : Hid (Place O m (L k).key p 1) := by
                rcases HPl.out with h | h
                · exact h.2.2
                · exact absurd ⟨hpm, heq⟩ h.1
              clear HPl heq
              obtain ⟨r0, hr0⟩ : ∃ r0, r0 = m - p := ⟨_, rfl⟩
              obtain ⟨r, hr⟩ : ∃ r, r = m - (p + 1) := ⟨_, rfl⟩
              have hcut : ∀ v : World, (Instr.slice 24 (.slice (some ⟨g, 0, none⟩) m c) (some (.int .i64 (p : Int))) none none).run Tryz.prog v = .ok (.slice (some ⟨g, offQ 0 c p, none⟩) r0 (c - p)) v := fun v => by rw [hr0]; exact cut_tail g 0 m c p v hp
              have hcut2 : ∀ v : World, (Instr.slice 24 (.slice (some ⟨g, 0, none⟩) m c) none (some (.int .i64 (p : Int))) none).run Tryz.prog v = .ok (.slice (some ⟨g, 0, none⟩) p c) v := fun v => cut_acts _ m c p v (by omega)
              have hcut3 : ∀ (g1 c1 : Nat) (v : World), (Instr.slice 24 (.slice (some ⟨g1, 0, none⟩) r0 c1) (some (.int .i64 1)) none none).run Tryz.prog v = .ok (.slice (some ⟨g1, offQ 0 c1 1, none⟩) r (c1 - 1)) v := fun g1 c1 v => by
                have := cut_tail g1 0 r0 c1 1 v (by omega)
                rw [show r0 - 1 = r by omega] at this
                exact this
              have HDv : Hid (∀ n, DI w (wr.drewN n) Pd M L klen k g m c O) := fun n => HD.out.same rfl rfl rfl rfl
              have hkp := HPL.out k hkl
              by_cases hset : (L k).set = true
              · have HRUN := hid (fun n => (HDv.out n).set_ (by omega) HPP.out hset hkp r0 r hr0 hr)
                have hse : (L k).set = true := hset
                rw [hse] at HRUN
                simp only [if_true] at HRUN
                clear hset hkp hr0 hr HPP HDv HD HCE hp
                rw [hse] at HCL
                generalize (O p).key = Op' at *
                generalize (L k).key = Kk at *
                generalize (L k).x = Kx at *
                generalize (L k).n = Kn at *
                generalize (L k).c = Kc at *
                go_quiet (fail)
                go_wp2_with fail
                go_quiet (fail)
                go_wp2_with (first
                  | (at_builtin; refine append_ex rfl _ _ 24 rfl _ _ rfl rfl (HRUN.out _) ?_; clear HRUN hcut; rintro g1 c1 w1 ⟨hb1, hrc, h2⟩; obtain ⟨s0, s1, s2⟩ := HCL.out w1 hb1; clear hb1 hrc)
                  | (at_builtin; refine append_ex rfl _ _ 24 rfl _ _ rfl rfl h2 ?_; clear h2; rintro g2 c2 w2 ⟨hb2, h3⟩; obtain ⟨u0, u1, u2⟩ := HCL.out w2 hb2; clear hb2)
                  | (at_builtin; refine append_ex rfl _ _ 24 rfl _ _ rfl rfl h3 ?_; clear h3; rintro g3 c3 w3 h4)
                  | (at_builtin; refine append_ex rfl _ _ 24 rfl _ _ rfl rfl h4 ?_; clear h4; rintro g4 c4 w4 HN))
                go_roundw
                case rel => obtain ⟨O', hO'⟩ := HN.out; exact ⟨k + 1, g4, _, c4, O', by omega, rfl, by go_num, hO'⟩
                case measure => simp [intOf]; omega
              · have hse : (L k).set = false := by simpa using hset
                have HRUN := hid (fun n => (HDv.out n).del_ (by omega) HPP.out hse r0 r hr0 hr)
                clear hset hkp hr0 hr HPP HDv HD HCE hp
                rw [hse] at HCL
                generalize (O p).key = Op' at *
                generalize (L k).key = Kk at *
                generalize (L k).x = Kx at *
                generalize (L k).n = Kn at *
                generalize (L k).c = Kc at *
                go_quiet (fail)
                go_wp2_with fail
                go_quiet (fail)
                go_wp2_with (first
                  | (at_builtin; refine append_ex rfl _ _ 24 rfl _ _ rfl rfl (HRUN.out _) ?_; clear HRUN hcut; rintro g1 c1 w1 ⟨hb1, hrc, h2⟩; obtain ⟨s0, s1, s2⟩ := HCL.out w1 hb1; clear hb1 hrc)
                  | (at_builtin; refine append_ex rfl _ _ 24 rfl _ _ rfl rfl h2 ?_; clear h2; rintro g2 c2 w2 ⟨hb2, h3⟩; obtain ⟨u0, u1, u2⟩ := HCL.out w2 hb2; clear hb2)
                  | (at_builtin; refine append_ex rfl _ _ 24 rfl _ _ rfl rfl h3 ?_; clear h3; rintro g4 c4 w4 HN))
                go_roundw
                case rel => obtain ⟨O', hO'⟩ := HN.out; exact ⟨k + 1, g4, _, c4, O', by omega, rfl, by go_num, hO'⟩
                case measure => simp [intOf]; omega
            · have hbe : ((O p).key.toList == (L k).key.toList) = false := beq_diff heq
              have HPP : Hid (Place O m (L k).key p 0) := by
                rcases HPl.out with h | h
                · exact absurd h.2.1 heq
                · exact h.2
              clear HPl heq
              obtain ⟨r0, hr0⟩ : ∃ r0, r0 = m - p := ⟨_, rfl⟩
              obtain ⟨r, hr⟩ : ∃ r, r = m - (p + 0) := ⟨_, rfl⟩
              have hcut : ∀ v : World, (Instr.slice 24 (.slice (some ⟨g, 0, none⟩) m c) (some (.int .i64 (p : Int))) none none).run Tryz.prog v = .ok (.slice (some ⟨g, offQ 0 c p, none⟩) r0 (c - p)) v := fun v => by rw [hr0]; exact cut_tail g 0 m c p v hp
              have hcut2 : ∀ v : World, (Instr.slice 24 (.slice (some ⟨g, 0, none⟩) m c) none (some (.int .i64 (p : Int))) none).run Tryz.prog v = .ok (.slice (some ⟨g, 0, none⟩) p c) v := fun v => cut_acts _ m c p v (by omega)
              have HDv : Hid (∀ n, DI w (wr.drewN n) Pd M L klen k g m c O) := fun n => HD.out.same rfl rfl rfl rfl
              have hkp := HPL.out k hkl
              by_cases hset : (L k).set = true
              · have HRUN := hid (fun n => (HDv.out n).set_ (by omega) HPP.out hset hkp r0 r0 hr0 (by omega))
                have hse : (L k).set = true := hset
                rw [hse] at HRUN
                simp only [show ¬ ((0 : Nat) = 1) from by omega, if_false, Nat.sub_zero] at HRUN
                clear hset hkp hr0 hr HPP HDv HD HCE hp
                rw [hse] at HCL
                generalize (O p).key = Op' at *
                generalize (L k).key = Kk at *
                generalize (L k).x = Kx at *
                generalize (L k).n = Kn at *
                generalize (L k).c = Kc at *
                go_quiet (fail)
                go_wp2_with fail
                go_quiet (fail)
                go_wp2_with (first
                  | (at_builtin; refine append_ex rfl _ _ 24 rfl _ _ rfl rfl (HRUN.out _) ?_; clear HRUN hcut; rintro g1 c1 w1 ⟨hb1, hrc, h2⟩; obtain ⟨s0, s1, s2⟩ := HCL.out w1 hb1; clear hb1 hrc)
                  | (at_builtin; refine append_ex rfl _ _ 24 rfl _ _ rfl rfl h2 ?_; clear h2; rintro g2 c2 w2 ⟨hb2, h3⟩; obtain ⟨u0, u1, u2⟩ := HCL.out w2 hb2; clear hb2)
                  | (at_builtin; refine append_ex rfl _ _ 24 rfl _ _ rfl rfl h3 ?_; clear h3; rintro g3 c3 w3 h4)
                  | (at_builtin; refine append_ex rfl _ _ 24 rfl _ _ rfl rfl h4 ?_; clear h4; rintro g4 c4 w4 HN))
                go_roundw
                case rel => obtain ⟨O', hO'⟩ := HN.out; exact ⟨k + 1, g4, _, c4, O', by omega, rfl, by go_num, hO'⟩
                case measure => simp [intOf]; omega
              · have hse : (L k).set = false := by simpa using hset
                have hno : ¬ canL M (pas L llen) := fun hcan => by
                  have h1 := canL_at hcan hkl hse
                  rw [HPP.out.has (HDv.out 0).km] at h1
                  cases h1
                have HRUN : Hid (∀ n, ∃ g1 c1 w1, (Builtin.append_ #[24, 24] 24 #[.slice (some ⟨wr.heap.size, 0, none⟩) 0 0, .slice (some ⟨g, offQ 0 c p, none⟩) r0 (c - p)]).run Tryz.prog ((wr.drewN n).alloc (.cells #[] 54)) = .ok (.slice (some ⟨g1, 0, none⟩) r0 c1) w1 ∧ Below w.heap.size w w1) := fun n => by
                  obtain ⟨hgl, hmc, hce⟩ := (HDv.out n).own.cells
                  obtain ⟨g1, c1, w1, a1, a2, a3, a4⟩ := copy_acts (wr.drewN n) g (offQ 0 c p) r0 (c - p) (fun i => O (p + i)) (by rw [hr0]; exact hce.tail p (by omega) hmc) hgl (by omega)
                  exact ⟨g1, c1, w1, a1, (HDv.out n).bel.trans (a3.mono (HDv.out n).bel.size)⟩
                clear hset hkp hr0 hr HPP HDv HD HCE hp
                rw [hse] at HCL
                generalize (O p).key = Op' at *
                generalize (L k).key = Kk at *
                generalize (L k).x = Kx at *
                generalize (L k).n = Kn at *
                generalize (L k).c = Kc at *
                go_quiet (fail)
                go_wp2_with fail
                go_quiet (fail)
                go_wp2_with (first
                  | (at_builtin; refine append_ex rfl _ _ 24 rfl _ _ rfl rfl (HRUN.out _) ?_; clear HRUN hcut; rintro g1 c1 w1 hb1; obtain ⟨s0, s1, s2⟩ := HCL.out w1 hb1; have HB1 := hid hb1; clear hb1))
                go_ret2
                exact .inl ⟨hno, rfl, HB1.out⟩
        · have hpm' : ¬ (p : Int) < (m : Int) := by omega
          have HPP : Hid (Place O m (L k).key p 0) := by
            rcases Place.of HD.out.rise hp HLow.out (fun h => absurd h hpm) with h | h
            · exact absurd h.1 hpm
            · exact h.2
          clear HLow
          obtain ⟨r0, hr0⟩ : ∃ r0, r0 = m - p := ⟨_, rfl⟩
          obtain ⟨r, hr⟩ : ∃ r, r = m - (p + 0) := ⟨_, rfl⟩
          have hcut : ∀ v : World, (Instr.slice 24 (.slice (some ⟨g, 0, none⟩) m c) (some (.int .i64 (p : Int))) none none).run Tryz.prog v = .ok (.slice (some ⟨g, offQ 0 c p, none⟩) r0 (c - p)) v := fun v => by rw [hr0]; exact cut_tail g 0 m c p v hp
          have hcut2 : ∀ v : World, (Instr.slice 24 (.slice (some ⟨g, 0, none⟩) m c) none (some (.int .i64 (p : Int))) none).run Tryz.prog v = .ok (.slice (some ⟨g, 0, none⟩) p c) v := fun v => cut_acts _ m c p v (by omega)
          have HDv : Hid (∀ n, DI w (wr.drewN n) Pd M L klen k g m c O) := fun n => HD.out.same rfl rfl rfl rfl
          have hkp := HPL.out k hkl
          by_cases hset : (L k).set = true
          · have HRUN := hid (fun n => (HDv.out n).set_ (by omega) HPP.out hset hkp r0 r0 hr0 (by omega))
            have hse : (L k).set = true := hset
            rw [hse] at HRUN
            simp only [show ¬ ((0 : Nat) = 1) from by omega, if_false, Nat.sub_zero] at HRUN
            clear hset hkp hr0 hr HPP HDv HD HCE hp
            rw [hse] at HCL
            generalize (L k).key = Kk at *
            generalize (L k).x = Kx at *
            generalize (L k).n = Kn at *
            generalize (L k).c = Kc at *
            go_quiet (fail)
            go_wp2_with fail
            go_quiet (fail)
            go_wp2_with (first
              | (at_builtin; refine append_ex rfl _ _ 24 rfl _ _ rfl rfl (HRUN.out _) ?_; clear HRUN hcut; rintro g1 c1 w1 ⟨hb1, hrc, h2⟩; obtain ⟨s0, s1, s2⟩ := HCL.out w1 hb1; clear hb1 hrc)
              | (at_builtin; refine append_ex rfl _ _ 24 rfl _ _ rfl rfl h2 ?_; clear h2; rintro g2 c2 w2 ⟨hb2, h3⟩; obtain ⟨u0, u1, u2⟩ := HCL.out w2 hb2; clear hb2)
              | (at_builtin; refine append_ex rfl _ _ 24 rfl _ _ rfl rfl h3 ?_; clear h3; rintro g3 c3 w3 h4)
              | (at_builtin; refine append_ex rfl _ _ 24 rfl _ _ rfl rfl h4 ?_; clear h4; rintro g4 c4 w4 HN))
            go_roundw
            case rel => obtain ⟨O', hO'⟩ := HN.out; exact ⟨k + 1, g4, _, c4, O', by omega, rfl, by go_num, hO'⟩
            case measure => simp [intOf]; omega
          · have hse : (L k).set = false := by simpa using hset
            have hno : ¬ canL M (pas L llen) := fun hcan => by
              have h1 := canL_at hcan hkl hse
              rw [HPP.out.has (HDv.out 0).km] at h1
              cases h1
            have HRUN : Hid (∀ n, ∃ g1 c1 w1, (Builtin.append_ #[24, 24] 24 #[.slice (some ⟨wr.heap.size, 0, none⟩) 0 0, .slice (some ⟨g, offQ 0 c p, none⟩) r0 (c - p)]).run Tryz.prog ((wr.drewN n).alloc (.cells #[] 54)) = .ok (.slice (some ⟨g1, 0, none⟩) r0 c1) w1 ∧ Below w.heap.size w w1) := fun n => by
              obtain ⟨hgl, hmc, hce⟩ := (HDv.out n).own.cells
              obtain ⟨g1, c1, w1, a1, a2, a3, a4⟩ := copy_acts (wr.drewN n) g (offQ 0 c p) r0 (c - p) (fun i => O (p + i)) (by rw [hr0]; exact hce.tail p (by omega) hmc) hgl (by omega)
              exact ⟨g1, c1, w1, a1, (HDv.out n).bel.trans (a3.mono (HDv.out n).bel.size)⟩
            clear hset hkp hr0 hr HPP HDv HD HCE hp
            rw [hse] at HCL
            generalize (L k).key = Kk at *
            generalize (L k).x = Kx at *
            generalize (L k).n = Kn at *
            generalize (L k).c = Kc at *
            go_quiet (fail)
            go_wp2_with fail
            go_quiet (fail)
            go_wp2_with (first
              | (at_builtin; refine append_ex rfl _ _ 24 rfl _ _ rfl rfl (HRUN.out _) ?_; clear HRUN hcut; rintro g1 c1 w1 hb1; obtain ⟨s0, s1, s2⟩ := HCL.out w1 hb1; have HB1 := hid hb1; clear hb1))
            go_ret2
            exact .inl ⟨hno, rfl, HB1.out⟩
    · obtain rfl : k = llen := by omega
      have hcan : canL M (pas L k) := canL_of HD.out.can
      obtain ⟨hgl, hmc, hce⟩ := HD.out.own.cells
      have HF : Hid (DoneTold w wr Pd (doL M (pas L k)) m c g O ∧ m ≤ klen + k) := ⟨⟨hce, hgl, hmc, HD.out.hg, HD.out.pd, HD.out.rise, HD.out.km, HD.out.bel⟩, HD.out.le⟩
      clear hce hgl hmc HD
      go_wp2_with fail
      go_ret2
      exact .inr ⟨hcan, g, m, c, O, rfl, HF.out.2, HF.out.1⟩

end Go.Proofs.YtbbjklenpgkooaaGreat

/-
  strings.Clone, by the library's contract.
  Conditions: the text is at most 2^48 bytes long.
-/
namespace Go.Proofs.YtbbjklenpgkooaaGreat.St
open Go.RowKit Go.Shelf
variable [Inhabited PR] [∀ pre s : ByteArray, Decidable (Beg pre s)]
set_option linter.unusedSectionVars false
set_option linter.unusedVariables false
set_option linter.unusedSimpArgs false
set_option maxRecDepth 100000

def ren316 : Go.Shelf.Ren := ⟨fun | 316 => 83 | n => n, fun | 0 => 0 | 3 => 3 | 4 => 4 | 5 => 5 | 9 => 9 | 37 => 22 | 127 => 149 | n => n, fun | n => n⟩
theorem lays316 : Go.Proofs.LaysM.n316 Tryz.prog ren316 where
  mixed := by kernel_rfl
  f316 := Tryz.func83.trans (congrArg some (by kernel_rfl))
  t0 := Tryz.underlying0
  a0 := Tryz.isAgg0
  z0 := Tryz.sizeOf0
  v0 := Tryz.zeroValue0
  t3 := Tryz.underlying3
  a3 := Tryz.isAgg3
  z3 := Tryz.sizeOf3
  v3 := Tryz.zeroValue3
  t4 := Tryz.underlying4
  a4 := Tryz.isAgg4
  z4 := Tryz.sizeOf4
  v4 := Tryz.zeroValue4
  t9 := Tryz.underlying9
  a9 := Tryz.isAgg9
  z9 := Tryz.sizeOf9
  v9 := Tryz.zeroValue9
  t37 := Tryz.underlying22
  a37 := Tryz.isAgg22
  z37 := Tryz.sizeOf22
  v37 := Tryz.zeroValue22
  t127 := Tryz.underlying149
  a127 := Tryz.isAgg149
  z127 := Tryz.sizeOf149
  v127 := Tryz.zeroValue149
  t5 := Tryz.underlying5
  a5 := Tryz.isAgg5
  z5 := Tryz.sizeOf5
  v5 := Tryz.zeroValue5
  i0 := by kernel_rfl
  i3 := by kernel_rfl
  i4 := by kernel_rfl
  i5 := by kernel_rfl
  i9 := by kernel_rfl
  i37 := by kernel_rfl
  i127 := by kernel_rfl

theorem clonelite_any (s : ByteArray) (w : World) (h : s.size ≤ 281474976710656) :
    Calls Tryz.prog 83 #[.string s] w fun e w' => e = .returned (.string s) ∧ Below w.heap.size w w' := Any.stringslite_Clone lays316 s w h

theorem sclone_any (s : ByteArray) (w : World) (h : s.size ≤ 281474976710656) :
    Calls Tryz.prog 64 #[.string s] w fun e w' => e = .returned (.string s) ∧ Below w.heap.size w w' := by
  have c := clonelite_any s w h
  clear h
  go_enter Tryz.func64, Tryz.ntmps64
  go_wp2_with (go_at_call 83; refine c.mono ?_; clear c; rintro e w' ⟨rfl, hb⟩)
  go_ret
  exact ⟨rfl, hb⟩

end Go.Proofs.YtbbjklenpgkooaaGreat.St

/-
  Package store's do: what a batch leaves.
  Conditions: the acts lie in memory, and are a batch.
-/
namespace Go.Proofs.YtbbjklenpgkooaaGreat
open Go.RowKit By Dk Wi St
variable [Inhabited PR] [∀ pre s : ByteArray, Decidable (Beg pre s)]
set_option linter.unusedSectionVars false
set_option linter.unusedVariables false
set_option linter.unusedSimpArgs false
set_option maxRecDepth 100000

/- A store into a map, and a key taken away, that come up alone in a region that draws its order. -/
theorem st_mapset {P : Program} {w w' : World} {ops : Array Oper} {o : Oper} {a : Act} {K : Act → World → Prop} {Q : Exit → Act → World → Prop} (hg : Region.wanted o (yielded ops a.tmps) = true) (m x v : Operand) (t : TypeId)
    (ho : o.op = .mapUpdate t m x v) (v1 v2 v3 : Value) (hm : a.eval m = v1) (hx : a.eval x = v2) (hv : a.eval v = v3) (hr : (Instr.mapUpdate t v1 v2 v3).run P w = .ok () w')
    (h : K (a.put o.dst undef) w') : if Region.wanted o (yielded ops a.tmps) = true then Oper.wp P o a w K Q else K (a.put o.dst undef) w := by
  rw [if_pos hg]
  unfold Oper.wp
  simp only [execOp, ho, hm, hx, hv, Sem.run_bind, hr, Result.andThen, Sem.run_pure]
  exact h

theorem st_delete {P : Program} {w w' : World} {ops : Array Oper} {o : Oper} {a : Act} {K : Act → World → Prop} {Q : Exit → Act → World → Prop} (hg : Region.wanted o (yielded ops a.tmps) = true) (m x : Operand) (t k : TypeId)
    (ho : o.op = .call { callee := .builtin .delete, args := #[m, x], argTypes := #[t, k] }) (v1 v2 : Value) (hm : a.eval m = v1) (hx : a.eval x = v2) (hr : (Builtin.delete_ #[t, k] o.type #[v1, v2]).run P w = .ok (.tuple #[]) w')
    (h : K (a.put o.dst (.tuple #[])) w') : if Region.wanted o (yielded ops a.tmps) = true then Oper.wp P o a w K Q else K (a.put o.dst undef) w := by
  rw [if_pos hg]
  unfold Oper.wp execOp
  simp only [ho, resolve, invoke, builtin, Sem.run_bind, Sem.run_pure, Result.andThen_ok, List.map_toArray, List.map_cons, List.map_nil, hm, hx, hr]
  exact h

set_option maxHeartbeats 1000000 in
theorem do_any {w : World} {sp jp mb nb : Nat} {D : DataW Value} {M : KV} {U : Nat → Prop} (h : StAt w sp jp mb nb D M U) (hU : ∀ k, U k → k < w.heap.size) (a : Option Addr) (len cap : Nat) (V : Nat → AV) (ha : ActsAt w a len V) (hab : len ≠ 0 → ∀ ad, a = some ad → ad.block ≠ mb) (hxb : ∀ i, i < len → ∀ ad, (V i).x = some ad → ad.block ≠ mb)
    (h256 : len ≤ 256) (hok : okL (pas V len)) (hnb : nb ≤ 10000000) :
    Calls Tryz.prog 34 #[.pointer (some ⟨sp, 0, none⟩), .slice a len cap] w fun e w' => e = .returned (.tuple #[]) ∧ ∃ D' nb', nb' ≤ nb + len ∧ StAt w' sp jp mb nb' D' (doL M (pas V len)) U ∧ Turns (fun k => k = mb) w w' := by
  have HA := hid ha
  have HO := hid hok
  have HS := hid h
  have HAB := hid (And.intro hab hxb)
  clear ha hok h hab hxb
  go_enter Tryz.func34, Tryz.ntmps34
  go_wp2_with fail
  go_loopw [8] (fun i wr => ∃ (k : Nat), k ≤ len ∧ i = .int .i64 k ∧ Hid (∃ D' nb', nb' ≤ nb + k ∧ StAt wr sp jp mb nb' D' (doL M (pas V k)) U ∧ Turns (fun k => k = mb) w wr)) (fun i _ => len - (intOf i).toNat)
  case atStart => exact ⟨0, by omega, rfl, D, nb, by omega, HS.out, Turns.refl _ _⟩
  case round =>
    obtain ⟨k, hk, rfl, HR⟩ := hrel
    by_cases hkl : k < len
    · have hkl' : (k : Int) < (len : Int) := by omega
      obtain ⟨D1, nb1, hnb1, hst, htn⟩ := HR.out
      have hacts : ActsAt wr a len V := HA.out.turns htn HAB.out.1 (fun i hi _ ad hx => HAB.out.2 i hi ad hx)
      rcases hacts.row with h0 | ⟨b, o, rfl, hbl, hc⟩
      · omega
      obtain ⟨k0, k1, k2⟩ := hc k hkl
      have ho := hacts.act k hkl
      have hoka := (okA_pa ho).1 (okL_lt HO.out hkl)
      have hbo : Below wr.heap.size wr (wr.alloc (.cells #[.string (V k).key, .bool (V k).set, .slice (V k).x (V k).n (V k).c] 54)) := (Below.refl _ _).alloc (Nat.le_refl _) _
      have hst1 := hst.below hbo
      have hlt : mb < wr.heap.size := hst.map.lt
      have hslt : sp < wr.heap.size := hst.obj.lt
      have c1 := hst1.c1
      by_cases hset : (V k).set = true
      · have hn4 : (V k).n ≤ 4096 := by have := hoka.2; rw [if_pos hset] at this; exact this
        have hC1 := sclone_any (V k).key (wr.alloc (.cells #[.string (V k).key, .bool (V k).set, .slice (V k).x (V k).n (V k).c] 54)).drew (by have := hoka.1.2; omega)
        have HC2 : Hid (∀ v, Below (wr.heap.size + 1) (wr.alloc (.cells #[.string (V k).key, .bool (V k).set, .slice (V k).x (V k).n (V k).c] 54)).drew v →
            (v.cell? ⟨sp, 1, none⟩ = some (.map (some mb)) ∧ v.cell? ⟨wr.heap.size, 0, none⟩ = some (.string (V k).key) ∧ v.cell? ⟨wr.heap.size, 2, none⟩ = some (.slice (V k).x (V k).n (V k).c)) ∧
            Calls Tryz.prog 47 #[.slice (V k).x (V k).n (V k).c] v fun e v2 => ∃ y n2 c2, e = .returned (.slice y n2 c2) ∧ (v2.cell? ⟨sp, 1, none⟩ = some (.map (some mb)) ∧ v2.cell? ⟨wr.heap.size, 0, none⟩ = some (.string (V k).key) ∧ v2.cell? ⟨wr.heap.size, 2, none⟩ = some (.slice (V k).x (V k).n (V k).c)) ∧
              ∃ v3, (Instr.mapUpdate 77 (.map (some mb)) (.string (V k).key) (.slice y n2 c2)).run Tryz.prog v2 = .ok () v3 ∧ (v3.cell? ⟨sp, 1, none⟩ = some (.map (some mb)) ∧ v3.cell? ⟨wr.heap.size, 0, none⟩ = some (.string (V k).key) ∧ v3.cell? ⟨wr.heap.size, 2, none⟩ = some (.slice (V k).x (V k).n (V k).c)) ∧ Hid (∃ D' nb', nb' ≤ nb + (k + 1) ∧ StAt v3 sp jp mb nb' D' (doL M (pas V (k + 1))) U ∧ Turns (fun k => k = mb) w v3)) := fun v hv => by
          have hsz : (wr.alloc (.cells #[.string (V k).key, .bool (V k).set, .slice (V k).x (V k).n (V k).c] 54)).heap.size = wr.heap.size + 1 := by simp
          have hbd : Below wr.heap.size wr (wr.alloc (.cells #[.string (V k).key, .bool (V k).set, .slice (V k).x (V k).n (V k).c] 54)).drew := hbo.drew
          have hbv : Below wr.heap.size wr v := hbd.trans (hv.mono (Nat.le_succ _))
          have three : ∀ u, Below (wr.heap.size + 1) (wr.alloc (.cells #[.string (V k).key, .bool (V k).set, .slice (V k).x (V k).n (V k).c] 54)).drew u → u.cell? ⟨wr.heap.size, 0, none⟩ = some (.string (V k).key) ∧ u.cell? ⟨wr.heap.size, 2, none⟩ = some (.slice (V k).x (V k).n (V k).c) := fun u hu =>
            ⟨(hu.cell (p := ⟨wr.heap.size, 0, none⟩) (Nat.lt_succ_self _)).trans (by simp), (hu.cell (p := ⟨wr.heap.size, 2, none⟩) (Nat.lt_succ_self _)).trans (by simp)⟩
          have hstv := hst.below hbv
          refine ⟨⟨hstv.c1, three v hv⟩, (clone_sl (V k).x (V k).n (V k).c (V k).d v (ho.sl.below hbv) (by omega)).mono fun e v2 ⟨y, cy, h1, h2, h3, h4⟩ => ?_⟩
          have hv2 : Below (wr.heap.size + 1) (wr.alloc (.cells #[.string (V k).key, .bool (V k).set, .slice (V k).x (V k).n (V k).c] 54)).drew v2 := hv.trans (h2.mono (by have := hv.size; rw [show (wr.alloc (.cells #[.string (V k).key, .bool (V k).set, .slice (V k).x (V k).n (V k).c] 54)).drew.heap.size = wr.heap.size + 1 from hsz] at this; exact this))
          have hst2 := hstv.below h2
          have hUlt : ∀ q, U q → q < v.heap.size := fun q hq => by
            have := hU q hq
            have := htn.size
            have := hbv.size
            omega
          obtain ⟨v3, p1, p2, p3⟩ := hst2.map.put (by omega) (V k).key hoka.1.2 y (V k).n cy (V k).d h3 hn4 (fun ad had => by
            obtain ⟨g1, g2⟩ := h4 ad had
            exact ⟨g2, fun hu => by have := hUlt _ hu; omega, by have := hbv.size; omega⟩)
          have t3 : Turns (fun k => k = mb) w v3 := ((htn.trans (Turns.of_below hbv)).trans (Turns.of_below h2)).trans p3
          refine ⟨y, _, cy, h1, ⟨hst2.c1, three v2 hv2⟩, v3, p1, ?_, _, _, ?_, ⟨p3.blk hst2.obj hst.ne, p2.congr ?_, hst.ne⟩, t3⟩
          · have hsp := p3.blk hst2.obj hst.ne
            obtain ⟨g0, g2⟩ := three v2 hv2
            have hlt2 : wr.heap.size < v2.heap.size := cell_lt' g0
            have hblk : v3.heap[wr.heap.size]? = v2.heap[wr.heap.size]? := p3.block _ hlt2 (by omega)
            exact ⟨hsp.cell (k := 1) (by omega), (World.cell?_of_block (a := ⟨wr.heap.size, 0, none⟩) hblk).trans g0, (World.cell?_of_block (a := ⟨wr.heap.size, 2, none⟩) hblk).trans g2⟩
          · omega
          · rw [doL_succ, doA_set _ _ hset]
        clear hacts hc ho hoka hbo hst hn4 htn hlt hslt HR
        rw [hset] at k1 c1 hC1 HC2 hst1
        clear hst1
        generalize (V k).key = Kk at *
        generalize (V k).x = Kx at *
        generalize (V k).n = Kn at *
        generalize (V k).c = Kc at *
        go_wp2_with fail
        refine wp_region_held_drew (S := fun v => v.cell? ⟨sp, 1, none⟩ = some (.map (some mb)) ∧ v.cell? ⟨wr.heap.size, 0, none⟩ = some (.string Kk) ∧ v.cell? ⟨wr.heap.size, 2, none⟩ = some (.slice Kx Kn Kc)) (by kernel_rfl) ⟨c1, by simp, by simp⟩ (fun hHeld => ?_)
        refine wpAnyH_take (i := 0) (v := ?_) rfl (by kernel_rfl) (by kernel_rfl) (by kernel_rfl) (fun _ _ _ h => h) (Or.inl ⟨by rfl, ?_⟩) (by assumption) ?_
        case refine_2 => (intro w hSw; (try dsimp only at hSw); go_simp; (try with_reducible rfl))
        (try simp only [Act.put, List.getElem_toArray, List.getElem_cons_succ, List.getElem_cons_zero, List.setIfInBounds_toArray, List.set_cons_zero, List.set_cons_succ])
        refine wpAnyH_take (i := 1) (v := ?_) rfl (by kernel_rfl) (by kernel_rfl) (by kernel_rfl) (fun _ _ _ h => h) (Or.inl ⟨by rfl, ?_⟩) (by assumption) ?_
        case refine_2 => (intro w hSw; (try dsimp only at hSw); go_simp; (try with_reducible rfl))
        (try simp only [Act.put, List.getElem_toArray, List.getElem_cons_succ, List.getElem_cons_zero, List.setIfInBounds_toArray, List.set_cons_zero, List.set_cons_succ])
        refine wpAnyH_take (i := 2) (v := ?_) rfl (by kernel_rfl) (by kernel_rfl) (by kernel_rfl) (fun _ _ _ h => h) (Or.inl ⟨by rfl, ?_⟩) (by assumption) ?_
        case refine_2 => (intro w hSw; (try dsimp only at hSw); go_simp; (try with_reducible rfl))
        (try simp only [Act.put, List.getElem_toArray, List.getElem_cons_succ, List.getElem_cons_zero, List.setIfInBounds_toArray, List.set_cons_zero, List.set_cons_succ])
        refine wpAnyH_take (i := 3) (v := ?_) rfl (by kernel_rfl) (by kernel_rfl) (by kernel_rfl) (fun _ _ _ h => h) (Or.inl ⟨by rfl, ?_⟩) (by assumption) ?_
        case refine_2 => (intro w hSw; (try dsimp only at hSw); go_simp; (try with_reducible rfl))
        (try simp only [Act.put, List.getElem_toArray, List.getElem_cons_succ, List.getElem_cons_zero, List.setIfInBounds_toArray, List.set_cons_zero, List.set_cons_succ])
        refine wpAnyH_take (i := 4) (v := ?_) rfl (by kernel_rfl) (by kernel_rfl) (by kernel_rfl) (fun _ _ _ h => h) (Or.inl ⟨by rfl, ?_⟩) (by assumption) ?_
        case refine_2 => (intro w hSw; (try dsimp only at hSw); go_simp; (try with_reducible rfl))
        (try simp only [Act.put, List.getElem_toArray, List.getElem_cons_succ, List.getElem_cons_zero, List.setIfInBounds_toArray, List.set_cons_zero, List.set_cons_succ])
        refine wpAnyH_take (i := 5) (v := ?_) rfl (by kernel_rfl) (by kernel_rfl) (by kernel_rfl) (fun _ _ _ h => h) (Or.inl ⟨by rfl, ?_⟩) (by assumption) ?_
        case refine_2 => (intro w hSw; (try dsimp only at hSw); go_simp; (try with_reducible rfl))
        (try simp only [Act.put, List.getElem_toArray, List.getElem_cons_succ, List.getElem_cons_zero, List.setIfInBounds_toArray, List.set_cons_zero, List.set_cons_succ])
        refine wpAnyH_take (i := 7) (v := ?_) rfl (by kernel_rfl) (by kernel_rfl) (by kernel_rfl) (fun _ _ _ h => h) (Or.inl ⟨by rfl, ?_⟩) (by assumption) ?_
        case refine_2 => (intro w hSw; (try dsimp only at hSw); go_simp; (try with_reducible rfl))
        (try simp only [Act.put, List.getElem_toArray, List.getElem_cons_succ, List.getElem_cons_zero, List.setIfInBounds_toArray, List.set_cons_zero, List.set_cons_succ])
        refine wpAnyH_take (i := 8) (v := ?_) rfl (by kernel_rfl) (by kernel_rfl) (by kernel_rfl) (fun _ _ _ h => h) (Or.inl ⟨by rfl, ?_⟩) (by assumption) ?_
        case refine_2 => (intro w hSw; (try dsimp only at hSw); go_simp; (try with_reducible rfl))
        (try simp only [Act.put, List.getElem_toArray, List.getElem_cons_succ, List.getElem_cons_zero, List.setIfInBounds_toArray, List.set_cons_zero, List.set_cons_succ])
        refine wpAnyH_ready (rs := [6]) (by kernel_rfl) (by simp) ?_
        refine AllReadyH.cons rfl (fun K hK => ?_) AllReadyH.nil
        go_simp
        refine hC1.mono ?_
        rintro e v ⟨rfl, hv⟩
        obtain ⟨s1, hC2⟩ := HC2.out v (by simpa using hv)
        clear HC2 hC1 hv
        refine hK.out _ _ s1 (fun hHeld => ?_)
        clear hK K
        refine wpAnyH_ready (rs := [9]) (by kernel_rfl) (by simp) ?_
        refine AllReadyH.cons rfl (fun K hK => ?_) AllReadyH.nil
        go_simp
        refine hC2.mono ?_
        rintro e v2 ⟨y, n2, c2, rfl, s2, v3, hmu, s3, HN⟩
        clear hC2
        refine hK.out _ _ s2 (fun hHeld => ?_)
        clear hK K
        refine wpAnyH_ready (rs := [10]) (by kernel_rfl) (by simp) ?_
        refine AllReadyH.cons rfl (fun K hK => ?_) AllReadyH.nil
        refine st_mapset rfl _ _ _ 77 rfl _ _ _ rfl rfl rfl hmu ?_
        refine hK.out _ _ s3 (fun hHeld => ?_)
        clear hK K
        refine wpAnyH_done (by kernel_rfl) ?_ _
        go_wp2_with fail
        go_roundw
        case rel => exact ⟨k + 1, by omega, by go_num, HN.out⟩
        case measure => simp [intOf]; omega
      · have hset' : (V k).set = false := by simpa using hset
        have hbd : Below wr.heap.size wr (wr.alloc (.cells #[.string (V k).key, .bool (V k).set, .slice (V k).x (V k).n (V k).c] 54)).drew := hbo.drew
        have hstd := hst.below hbd
        obtain ⟨v3, hde, p2, p3⟩ := hstd.map.del (V k).key (by have := hoka.1.2; omega) 0
        have hobj := p3.blk hstd.obj hst.ne
        have s3 : v3.cell? ⟨sp, 1, none⟩ = some (.map (some mb)) ∧ v3.cell? ⟨wr.heap.size, 0, none⟩ = some (.string (V k).key) := by
          have hsz : (wr.alloc (.cells #[.string (V k).key, .bool (V k).set, .slice (V k).x (V k).n (V k).c] 54)).drew.heap.size = wr.heap.size + 1 := by simp
          exact ⟨hobj.cell (k := 1) (by omega), (World.cell?_of_block (a := ⟨wr.heap.size, 0, none⟩) (p3.block wr.heap.size (by rw [hsz]; omega) (by omega))).trans (by simp)⟩
        have HN : Hid (∃ D' nb', nb' ≤ nb + (k + 1) ∧ StAt v3 sp jp mb nb' D' (doL M (pas V (k + 1))) U ∧ Turns (fun k => k = mb) w v3) :=
          ⟨_, nb1, by omega, ⟨hobj, p2.congr (by rw [doL_succ, doA_del _ _ hset']), hst.ne⟩, (htn.trans (Turns.of_below hbd)).trans p3⟩
        clear hacts hc ho hoka hbo hst htn hlt hslt HR hbd hstd p2 p3 hobj hset
        rw [hset'] at k1 c1 hst1 hde
        clear hst1
        generalize (V k).key = Kk at *
        generalize (V k).x = Kx at *
        generalize (V k).n = Kn at *
        generalize (V k).c = Kc at *
        go_wp2_with fail
        refine wp_region_held_drew (S := fun v => v.cell? ⟨sp, 1, none⟩ = some (.map (some mb)) ∧ v.cell? ⟨wr.heap.size, 0, none⟩ = some (.string Kk)) (by kernel_rfl) ⟨c1, by simp⟩ (fun hHeld => ?_)
        refine wpAnyH_take (i := 0) (v := ?_) rfl (by kernel_rfl) (by kernel_rfl) (by kernel_rfl) (fun _ _ _ h => h) (Or.inl ⟨by rfl, ?_⟩) (by assumption) ?_
        case refine_2 => (intro w hSw; (try dsimp only at hSw); go_simp; (try with_reducible rfl))
        (try simp only [Act.put, List.getElem_toArray, List.getElem_cons_succ, List.getElem_cons_zero, List.setIfInBounds_toArray, List.set_cons_zero, List.set_cons_succ])
        refine wpAnyH_take (i := 1) (v := ?_) rfl (by kernel_rfl) (by kernel_rfl) (by kernel_rfl) (fun _ _ _ h => h) (Or.inl ⟨by rfl, ?_⟩) (by assumption) ?_
        case refine_2 => (intro w hSw; (try dsimp only at hSw); go_simp; (try with_reducible rfl))
        (try simp only [Act.put, List.getElem_toArray, List.getElem_cons_succ, List.getElem_cons_zero, List.setIfInBounds_toArray, List.set_cons_zero, List.set_cons_succ])
        refine wpAnyH_take (i := 2) (v := ?_) rfl (by kernel_rfl) (by kernel_rfl) (by kernel_rfl) (fun _ _ _ h => h) (Or.inl ⟨by rfl, ?_⟩) (by assumption) ?_
        case refine_2 => (intro w hSw; (try dsimp only at hSw); go_simp; (try with_reducible rfl))
        (try simp only [Act.put, List.getElem_toArray, List.getElem_cons_succ, List.getElem_cons_zero, List.setIfInBounds_toArray, List.set_cons_zero, List.set_cons_succ])
        refine wpAnyH_take (i := 3) (v := ?_) rfl (by kernel_rfl) (by kernel_rfl) (by kernel_rfl) (fun _ _ _ h => h) (Or.inl ⟨by rfl, ?_⟩) (by assumption) ?_
        case refine_2 => (intro w hSw; (try dsimp only at hSw); go_simp; (try with_reducible rfl))
        (try simp only [Act.put, List.getElem_toArray, List.getElem_cons_succ, List.getElem_cons_zero, List.setIfInBounds_toArray, List.set_cons_zero, List.set_cons_succ])
        refine wpAnyH_take (i := 4) (v := ?_) rfl (by kernel_rfl) (by kernel_rfl) (by kernel_rfl) (fun _ _ _ h => h) (Or.inl ⟨by rfl, ?_⟩) (by assumption) ?_
        case refine_2 => (intro w hSw; (try dsimp only at hSw); go_simp; (try with_reducible rfl))
        (try simp only [Act.put, List.getElem_toArray, List.getElem_cons_succ, List.getElem_cons_zero, List.setIfInBounds_toArray, List.set_cons_zero, List.set_cons_succ])
        refine wpAnyH_take (i := 5) (v := ?_) rfl (by kernel_rfl) (by kernel_rfl) (by kernel_rfl) (fun _ _ _ h => h) (Or.inl ⟨by rfl, ?_⟩) (by assumption) ?_
        case refine_2 => (intro w hSw; (try dsimp only at hSw); go_simp; (try with_reducible rfl))
        (try simp only [Act.put, List.getElem_toArray, List.getElem_cons_succ, List.getElem_cons_zero, List.setIfInBounds_toArray, List.set_cons_zero, List.set_cons_succ])
        refine wpAnyH_ready (rs := [6]) (by kernel_rfl) (by simp) ?_
        refine AllReadyH.cons rfl (fun K hK => ?_) AllReadyH.nil
        refine st_delete rfl _ _ 77 9 rfl _ _ rfl rfl hde ?_
        refine hK.out _ _ s3 (fun hHeld => ?_)
        clear hK K
        refine wpAnyH_done (by kernel_rfl) ?_ _
        go_wp2_with fail
        go_roundw
        case rel => exact ⟨k + 1, by omega, by go_num, HN.out⟩
        case measure => simp [intOf]; omega
    · obtain rfl : k = len := by omega
      go_wp2_with fail
      go_end0
      exact ⟨rfl, HR.out⟩

end Go.Proofs.YtbbjklenpgkooaaGreat

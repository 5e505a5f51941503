/-
  5 texts of this proof, one behind the other: StIns, StDoneM, StDoneC, StDoneR, StAwake.
-/
import Derived.Test.YtbbjklenpgkooaaGreatJ15
import Derived.Test.YtbbjklenpgkooaaGreatJ13
import Derived.Maps.AppendAt
import Derived.Test.YtbbjklenpgkooaaGreatJ14
/-
  Keys that rise, one put in or taken away: plainly.
  Conditions: none.
-/
namespace Go.Proofs.YtbbjklenpgkooaaGreat
open Go.RowKit By Dk Wi St
variable [Inhabited PR] [∀ pre s : ByteArray, Decidable (Beg pre s)]
set_option linter.unusedSectionVars false
set_option linter.unusedVariables false
set_option linter.unusedSimpArgs false
set_option maxRecDepth 100000

def Rise (O : Nat → AV) (m : Nat) : Prop := ∀ i j, i < j → j < m → lessN (nat (O i).key) (nat (O j).key) = true

theorem less_ne {a b : ByteArray} (h : lessN (nat a) (nat b) = true) : a ≠ b := fun e => by
  rw [e, less_irrefl] at h
  cases h

/- Where a key belongs: P; T: how many of them are that key. -/
structure Place (O : Nat → AV) (m : Nat) (s : ByteArray) (P T : Nat) : Prop where
  low : ∀ j, j < P → lessN (nat (O j).key) (nat s) = true
  high : ∀ j, P + T ≤ j → j < m → lessN (nat s) (nat (O j).key) = true
  le : P + T ≤ m
  one : T = 0 ∨ (T = 1 ∧ (O P).key = s)

theorem Place.of {O : Nat → AV} {m P : Nat} {s : ByteArray} (hr : Rise O m) (hP : P ≤ m) (hl : ∀ j, j < P → lessN (nat (O j).key) (nat s) = true) (hs : P < m → lessN (nat (O P).key) (nat s) = false) :
    (P < m ∧ (O P).key = s ∧ Place O m s P 1) ∨ (¬ (P < m ∧ (O P).key = s) ∧ Place O m s P 0) := by
  by_cases h : P < m ∧ (O P).key = s
  · left
    refine ⟨h.1, h.2, hl, fun j h1 h2 => ?_, by omega, .inr ⟨rfl, h.2⟩⟩
    have := hr P j (by omega) h2
    rwa [h.2] at this
  · right
    refine ⟨h, hl, fun j h1 h2 => ?_, by omega, .inl rfl⟩
    have hPm : P < m := by omega
    have hne : (O P).key ≠ s := fun e => h ⟨hPm, e⟩
    have h3 := less_total (nat (O P).key) (nat s) (fun e => hne (nat_inj e))
    rw [hs hPm] at h3
    have h4 : lessN (nat s) (nat (O P).key) = true := by simpa using h3
    by_cases e : j = P
    · rw [e]; exact h4
    · exact less_trans _ _ _ h4 (hr P j (by omega) h2)

def rest (O : Nat → AV) (P T : Nat) : Nat → AV := fun i => O (P + T + i)

theorem doA_same (M : KV) (a : AV) : doA M (pa a) a.key = if a.set = true then some a.d else none := by
  unfold doA
  rw [str_key, if_pos rfl]
  rfl

theorem doA_other (M : KV) (a : AV) {s : ByteArray} (h : s ≠ a.key) : doA M (pa a) s = M s := by
  unfold doA
  rw [str_key, if_neg h]

section
variable {O : Nat → AV} {m P T : Nat} {M : KV} {a : AV}

theorem cat_set (i : Nat) : catA (catA O P (fun _ => a)) (P + 1) (rest O P T) i = if i < P then O i else if i = P then a else O (P + T + (i - (P + 1))) := by
  unfold catA rest
  by_cases h1 : i < P
  · rw [if_pos (by omega), if_pos h1, if_pos h1]
  · by_cases h2 : i = P
    · rw [if_pos (by omega), if_neg h1, if_neg h1, if_pos h2]
    · rw [if_neg (by omega), if_neg h1, if_neg h2]

theorem cat_del (i : Nat) : catA O P (rest O P T) i = if i < P then O i else O (P + T + (i - P)) := rfl

theorem ins_set (hp : Place O m a.key P T) (hr : Rise O m) (hk : KM O m M) (hset : a.set = true) :
    Rise (catA (catA O P (fun _ => a)) (P + 1) (rest O P T)) (P + 1 + (m - (P + T))) ∧ KM (catA (catA O P (fun _ => a)) (P + 1) (rest O P T)) (P + 1 + (m - (P + T))) (doA M (pa a)) := by
  have hle := hp.le
  have rise : Rise (catA (catA O P (fun _ => a)) (P + 1) (rest O P T)) (P + 1 + (m - (P + T))) := fun i j hij hj => by
    rw [cat_set, cat_set]
    by_cases h1 : j < P
    · rw [if_pos (by omega), if_pos h1]
      exact hr i j hij (by omega)
    · rw [if_neg h1]
      by_cases h2 : j = P
      · rw [if_pos h2, if_pos (by omega)]
        exact hp.low i (by omega)
      · rw [if_neg h2]
        have hh := hp.high (P + T + (j - (P + 1))) (by omega) (by omega)
        by_cases h3 : i < P
        · rw [if_pos h3]
          exact less_trans _ _ _ (hp.low i h3) hh
        · rw [if_neg h3]
          by_cases h4 : i = P
          · rw [if_pos h4]; exact hh
          · rw [if_neg h4]
            exact hr _ _ (by omega) (by omega)
  refine ⟨rise, fun i hi => ?_, fun s hs => ?_, fun i j hij hj => less_ne (rise i j hij hj)⟩
  · rw [cat_set]
    by_cases h1 : i < P
    · rw [if_pos h1, doA_other M a (less_ne (hp.low i h1))]
      exact hk.at_ i (by omega)
    · rw [if_neg h1]
      by_cases h2 : i = P
      · rw [if_pos h2, doA_same, if_pos hset]
      · rw [if_neg h2, doA_other M a (Ne.symm (less_ne (hp.high _ (by omega) (by omega))))]
        exact hk.at_ _ (by omega)
  · by_cases e : s = a.key
    · exact ⟨P, by omega, by rw [cat_set, if_neg (by omega), if_pos rfl, e]⟩
    · rw [doA_other M a e] at hs
      obtain ⟨j, hj, ej⟩ := hk.all s hs
      by_cases h1 : j < P
      · exact ⟨j, by omega, by rw [cat_set, if_pos h1]; exact ej⟩
      · have h2 : P + T ≤ j := by
          rcases hp.one with h | ⟨h, h3⟩
          · omega
          · by_cases h4 : j = P
            · exact absurd (by rw [← ej, h4, h3]) e
            · omega
        exact ⟨P + 1 + (j - (P + T)), by omega, by rw [cat_set, if_neg (by omega), if_neg (by omega), show P + T + (P + 1 + (j - (P + T)) - (P + 1)) = j by omega]; exact ej⟩

theorem ins_del (hp : Place O m a.key P T) (hr : Rise O m) (hk : KM O m M) (hset : a.set = false) :
    Rise (catA O P (rest O P T)) (P + (m - (P + T))) ∧ KM (catA O P (rest O P T)) (P + (m - (P + T))) (doA M (pa a)) := by
  have hle := hp.le
  have rise : Rise (catA O P (rest O P T)) (P + (m - (P + T))) := fun i j hij hj => by
    rw [cat_del, cat_del]
    by_cases h1 : j < P
    · rw [if_pos (by omega), if_pos h1]
      exact hr i j hij (by omega)
    · rw [if_neg h1]
      have hh := hp.high (P + T + (j - P)) (by omega) (by omega)
      by_cases h3 : i < P
      · rw [if_pos h3]
        exact less_trans _ _ _ (hp.low i h3) hh
      · rw [if_neg h3]
        exact hr _ _ (by omega) (by omega)
  refine ⟨rise, fun i hi => ?_, fun s hs => ?_, fun i j hij hj => less_ne (rise i j hij hj)⟩
  · rw [cat_del]
    by_cases h1 : i < P
    · rw [if_pos h1, doA_other M a (less_ne (hp.low i h1))]
      exact hk.at_ i (by omega)
    · rw [if_neg h1, doA_other M a (Ne.symm (less_ne (hp.high _ (by omega) (by omega))))]
      exact hk.at_ _ (by omega)
  · have e : s ≠ a.key := fun e => by
      rw [e, doA_same, if_neg (by simp [hset])] at hs
      cases hs
    rw [doA_other M a e] at hs
    obtain ⟨j, hj, ej⟩ := hk.all s hs
    by_cases h1 : j < P
    · exact ⟨j, by omega, by rw [cat_del, if_pos h1]; exact ej⟩
    · have h2 : P + T ≤ j := by
        rcases hp.one with h | ⟨h, h3⟩
        · omega
        · by_cases h4 : j = P
          · exact absurd (by rw [← ej, h4, h3]) e
          · omega
      exact ⟨P + (j - (P + T)), by omega, by rw [cat_del, if_neg (by omega), show P + T + (P + (j - (P + T)) - P) = j by omega]; exact ej⟩

/- The key is there just where its place holds it. -/
theorem Place.has (hp : Place O m a.key P T) (hk : KM O m M) : (M a.key).isSome = decide (T = 1) := by
  rcases hp.one with h | ⟨h, h3⟩
  · rw [h]
    cases hs : (M a.key).isSome
    · rfl
    · obtain ⟨j, hj, ej⟩ := hk.all _ hs
      by_cases h1 : j < P
      · exact absurd ej (less_ne (hp.low j h1))
      · exact absurd ej (Ne.symm (less_ne (hp.high j (by omega) hj)))
  · have := hk.at_ P (by have := hp.le; omega)
    rw [h3] at this
    rw [this, h]
    rfl

end

end Go.Proofs.YtbbjklenpgkooaaGreat

/-
  Lists of acts: a part of one, an append behind one that is there.
  Conditions: none.
-/
namespace Go.Proofs.YtbbjklenpgkooaaGreat
open Go.RowKit By Dk Wi St
variable [Inhabited PR] [∀ pre s : ByteArray, Decidable (Beg pre s)]
set_option linter.unusedSectionVars false
set_option linter.unusedVariables false
set_option linter.unusedSimpArgs false
set_option maxRecDepth 100000

def CellsA (w : World) (b o n : Nat) (U : Nat → AV) : Prop := ∀ i, i < n → w.cell? ⟨b, o + i * 3, none⟩ = some (.string (U i).key) ∧ w.cell? ⟨b, o + i * 3 + 1, none⟩ = some (.bool (U i).set) ∧ w.cell? ⟨b, o + i * 3 + 2, none⟩ = some (.slice (U i).x (U i).n (U i).c)

theorem CellsA.turns {G : Nat → Prop} {w w' : World} {b o n : Nat} {U : Nat → AV} (h : CellsA w b o n U) (t : Turns G w w') (hb : b < w.heap.size) (hg : ¬ G b) : CellsA w' b o n U := fun i hi => by
  have hb' := t.block b hb hg
  obtain ⟨q0, q1, q2⟩ := h i hi
  exact ⟨(World.cell?_of_block (a := ⟨b, o + i * 3, none⟩) hb').trans q0, (World.cell?_of_block (a := ⟨b, o + i * 3 + 1, none⟩) hb').trans q1, (World.cell?_of_block (a := ⟨b, o + i * 3 + 2, none⟩) hb').trans q2⟩

theorem CellsA.part {w : World} {b o n : Nat} {U : Nat → AV} (h : CellsA w b o n U) (k m : Nat) (hk : k + m ≤ n) : CellsA w b (o + k * 3) m (fun i => U (k + i)) := fun i hi => by
  have := h (k + i) (by omega)
  rw [show o + (k + i) * 3 = o + k * 3 + i * 3 by omega] at this
  exact this

theorem OwnA.congr {w : World} {R : Value} {k : Nat} {V U : Nat → AV} (h : OwnA w R k V) (e : ∀ i, i < k → V i = U i) : OwnA w R k U := by
  have : rowOf (avV V) (k * 3) = rowOf (avV U) (k * 3) := rowOf_congr fun j hj => by
    unfold avV
    rw [e (j / 3) (by omega)]
  unfold OwnA at *
  rw [← this]
  exact h

theorem OwnA.cells {w : World} {g k c : Nat} {V : Nat → AV} (h : OwnA w (.slice (some ⟨g, 0, none⟩) k c) k V) : g < w.heap.size ∧ k ≤ c ∧ CellsA w g 0 k V := by
  have hl := h.lt g rfl
  obtain ⟨x, c', e1, h2, _, h4⟩ := own_form h
  injection e1 with e1 e2 e3
  refine ⟨hl.2, by omega, fun i hi => ?_⟩
  rcases h4 with h0 | ⟨g', e4, hg, hc⟩
  · omega
  · rw [e4] at e1
    injection e1 with e1
    injection e1 with e1
    subst e1
    have c0 := hc (i * 3) _ (rowOf_get _ _ _ (by omega))
    have c1 := hc (i * 3 + 1) _ (rowOf_get _ _ _ (by omega))
    have c2 := hc (i * 3 + 2) _ (rowOf_get _ _ _ (by omega))
    rw [avV_0] at c0
    rw [avV_1] at c1
    rw [avV_2] at c2
    exact ⟨by rw [Nat.zero_add]; exact c0, by rw [Nat.zero_add]; exact c1, by rw [Nat.zero_add]; exact c2⟩

theorem OwnA.pushS {v : World} {g k c : Nat} {V : Nat → AV} (h : OwnA v (.slice (some ⟨g, 0, none⟩) k c) k V) (b o m cs : Nat) (U : Nat → AV) (hU : CellsA v b o m U) (hs : k + m ≤ 4000000) :
    ∃ g' c' w', (Builtin.append_ #[24, 24] 24 #[.slice (some ⟨g, 0, none⟩) k c, .slice (some ⟨b, o, none⟩) m cs]).run Tryz.prog v = .ok (.slice (some ⟨g', 0, none⟩) (k + m) c') w' ∧
      Hid (OwnA w' (.slice (some ⟨g', 0, none⟩) (k + m) c') (k + m) (catA V k U) ∧ Turns (fun j => j = g) v w' ∧ (g' = g ∨ g' = v.heap.size)) := by
  obtain ⟨i0, hi, hz0, hz1, hz2⟩ := info_parts info_act
  obtain ⟨R', w4, hap, ho, hgr, hnil, hR'⟩ := run_append_own_at (P := Tryz.prog) v 0 24 24 54 i0 _ 3 48 Tryz.underlying24 hi hz0 hz1 hz2 rfl (by decide) _ k _ h
    ⟨b, o, none⟩ m cs (rowOf (avV U) (m * 3)) (by rw [rowOf_len]) (fun j u hj => by
      rw [add_at]
      have hjm : j < m * 3 := by
        rcases Nat.lt_or_ge j (m * 3) with h1 | h1
        · exact h1
        · rw [List.getElem?_eq_none (by rw [rowOf_len]; exact h1)] at hj; cases hj
      rw [rowOf_get _ _ _ hjm] at hj
      injection hj with hj
      subst hj
      obtain ⟨q0, q1, q2⟩ := hU (j / 3) (by omega)
      have h3 : j % 3 = 0 ∨ j % 3 = 1 ∨ j % 3 = 2 := by omega
      unfold avV
      rcases h3 with e | e | e
      · rw [if_pos e, ← q0, show o + j / 3 * 3 = o + j by omega]
      · rw [if_neg (by omega), if_pos e, ← q1, show o + j / 3 * 3 + 1 = o + j by omega]
      · rw [if_neg (by omega), if_neg (by omega), ← q2, show o + j / 3 * 3 + 2 = o + j by omega]) (rowOf_one _ _ (avV_one U)) (by unfold maxLen; omega) (by omega) (Nat.zero_le _)
  rw [rowOf_cat] at ho
  rcases ho.2 with ⟨he, _⟩ | ⟨g', cap, cur, he, _⟩
  · have := (hnil.1 he).1
    injection this with this
    cases this
  · subst he
    refine ⟨g', cap, w4, hap, ho, (Turns.refl _ v).grown hgr (fun j hj => .inl (by simp [Value.ownBlock] at hj; exact hj.symm)), ?_⟩
    simp [Value.ownBlock] at hR'
    exact hR'

def offQ (o c k : Nat) : Nat := if c = k then o else o + k * 3

theorem cut_tail (b o n c k : Nat) (w : World) (h : k ≤ n) :
    (Instr.slice 24 (.slice (some ⟨b, o, none⟩) n c) (some (.int .i64 (k : Int))) none none).run Tryz.prog w = .ok (.slice (some ⟨b, offQ o c k, none⟩) (n - k) (c - k)) w := by
  rw [run_slice_l w 24 _ _ _ aelem_row .i64 (k : Int) (by omega) (by omega), aelem_is, asize_act]
  simp only [Result.andThen, sliced, Int.toNat_natCast]
  have : (if c = k then some (⟨b, o, none⟩ : Addr) else (some (⟨b, o, none⟩ : Addr)).map (·.add (k * 3))) = some ⟨b, offQ o c k, none⟩ := by
    unfold offQ
    split <;> simp [Addr.add]
  rw [this]

theorem CellsA.tail {w : World} {b o n c : Nat} {U : Nat → AV} (h : CellsA w b o n U) (k : Nat) (hk : k ≤ n) (hc : n ≤ c) : CellsA w b (offQ o c k) (n - k) (fun i => U (k + i)) := fun i hi => by
  have : offQ o c k = o + k * 3 := by
    unfold offQ
    rw [if_neg (by omega)]
  rw [this]
  exact h.part k (n - k) (by omega) i hi

end Go.Proofs.YtbbjklenpgkooaaGreat

/-
  The appends of one act of the document's Done, one behind the other.
  Conditions: none.
-/
namespace Go.Proofs.YtbbjklenpgkooaaGreat
open Go.RowKit By Dk Wi St
variable [Inhabited PR] [∀ pre s : ByteArray, Decidable (Beg pre s)]
set_option linter.unusedSectionVars false
set_option linter.unusedVariables false
set_option linter.unusedSimpArgs false
set_option maxRecDepth 100000

theorem copy_acts (v : World) (b o n cs : Nat) (U : Nat → AV) (hU : CellsA v b o n U) (hb : b < v.heap.size) (hn : n ≤ 4000000) :
    ∃ g' c' w', (Builtin.append_ #[24, 24] 24 #[.slice (some ⟨v.heap.size, 0, none⟩) 0 0, .slice (some ⟨b, o, none⟩) n cs]).run Tryz.prog (v.alloc (.cells #[] 54)) = .ok (.slice (some ⟨g', 0, none⟩) n c') w' ∧
      OwnA w' (.slice (some ⟨g', 0, none⟩) n c') n U ∧ Below v.heap.size v w' ∧ v.heap.size ≤ g' := by
  have b1 : Below v.heap.size v (v.alloc (.cells #[] 54)) := (Below.refl _ _).alloc (Nat.le_refl _) _
  obtain ⟨g', c', w', h1, H⟩ := (OwnA.start v U).pushS b o n cs U (hU.turns (Turns.of_below (F := fun _ => False) b1) hb (fun h => h)) (by omega)
  rw [Nat.zero_add] at h1 H
  obtain ⟨h2, h3, h4⟩ := H.out
  have hz := b1.size
  refine ⟨g', c', w', h1, h2.congr (fun i hi => ?_), b1.trans (h3.below (fun j hj => by omega) b1.size), ?_⟩
  · unfold catA
    rw [if_neg (by omega), Nat.sub_zero]
  · rcases h4 with e | e
    · omega
    · rw [e]; exact hz

/- One act done: what lies there then. -/
structure DI (w wr : World) (Pd : AV → Prop) (M : KV) (L : Nat → AV) (kl k g m c : Nat) (O : Nat → AV) : Prop where
  own : OwnA wr (.slice (some ⟨g, 0, none⟩) m c) m O
  hg : w.heap.size ≤ g
  rise : Rise O m
  km : KM O m (doL M (pas L k))
  can : ∀ i, i < k → (L i).set = false → (doL M (pas L i) (L i).key).isSome = true
  pd : ∀ i, i < m → Pd (O i)
  le : m ≤ kl + k
  bel : Below w.heap.size w wr

section
variable {w wr v : World} {Pd : AV → Prop} {M : KV} {L : Nat → AV} {kl k g m c : Nat} {O : Nat → AV} {P T : Nat}

theorem DI.same (h : DI w wr Pd M L kl k g m c O) (hh : v.heap = wr.heap) (h1 : v.os = wr.os) (h2 : v.tape = wr.tape) (h3 : v.output = wr.output) : DI w v Pd M L kl k g m c O :=
  ⟨ownsRow_same h.own fun j _ => by rw [hh], h.hg, h.rise, h.km, h.can, h.pd, h.le, below_heap h.bel hh h1 h2 h3⟩

/- The list behind a place, and the list ahead of it, are copied; one act goes between them, or none. -/
theorem DI.set_ (h : DI w v Pd M L kl k g m c O) (hs : kl + k + 1 ≤ 4000000) (hp : Place O m (L k).key P T) (hset : (L k).set = true) (hpd : Pd (L k)) (r0 r : Nat) (hr0 : r0 = m - P) (hr : r = m - (P + T)) :
    ∃ g1 c1 w1, (Builtin.append_ #[24, 24] 24 #[.slice (some ⟨v.heap.size, 0, none⟩) 0 0, .slice (some ⟨g, offQ 0 c P, none⟩) r0 (c - P)]).run Tryz.prog (v.alloc (.cells #[] 54)) = .ok (.slice (some ⟨g1, 0, none⟩) r0 c1) w1 ∧ Below w.heap.size w w1 ∧ r0 ≤ c1 ∧
      ∃ g2 c2 w2, (Builtin.append_ #[24, 24] 24 #[.slice (some ⟨w1.heap.size, 0, none⟩) 0 0, .slice (some ⟨g, 0, none⟩) P c]).run Tryz.prog (w1.alloc (.cells #[] 54)) = .ok (.slice (some ⟨g2, 0, none⟩) P c2) w2 ∧ Below w.heap.size w w2 ∧
        ∃ g3 c3 w3, (Builtin.append_ #[24, 24] 24 #[.slice (some ⟨g2, 0, none⟩) P c2, .slice (some ⟨w2.heap.size, 0, none⟩) 1 1]).run Tryz.prog (w2.alloc (.cells #[.string (L k).key, .bool (L k).set, .slice (L k).x (L k).n (L k).c] 54)) = .ok (.slice (some ⟨g3, 0, none⟩) (P + 1) c3) w3 ∧
          ∃ g4 c4 w4, (Builtin.append_ #[24, 24] 24 #[.slice (some ⟨g3, 0, none⟩) (P + 1) c3, .slice (some ⟨g1, if T = 1 then offQ 0 c1 1 else 0, none⟩) r (c1 - T)]).run Tryz.prog w3 = .ok (.slice (some ⟨g4, 0, none⟩) (P + 1 + r) c4) w4 ∧
            Hid (∃ O', DI w w4 Pd M L kl (k + 1) g4 (P + 1 + r) c4 O') := by
  obtain ⟨hgl, hmc, hce⟩ := h.own.cells
  have hle := hp.le
  have hml := h.le
  have hT : T = 0 ∨ T = 1 := by rcases hp.one with h | h <;> omega
  obtain ⟨g1, c1, w1, a1, a2, a3, a4⟩ := copy_acts v g (offQ 0 c P) r0 (c - P) (fun i => O (P + i)) (by rw [hr0]; exact hce.tail P (by omega) hmc) hgl (by omega)
  have hw1 : Below w.heap.size w w1 := h.bel.trans (a3.mono h.bel.size)
  obtain ⟨_, hrc, hce1⟩ := a2.cells
  refine ⟨g1, c1, w1, a1, hw1, hrc, ?_⟩
  have hz1 := a3.size
  have hceO1 : CellsA w1 g 0 P O := fun i hi => (hce.turns (Turns.of_below (F := fun _ => False) a3) hgl (fun h => h)) i (by omega)
  obtain ⟨g2, c2, w2, b1, b2, b3, b4⟩ := copy_acts w1 g 0 P c O hceO1 (by omega) (by omega)
  have hw2 : Below w.heap.size w w2 := hw1.trans (b3.mono hw1.size)
  refine ⟨g2, c2, w2, b1, hw2, ?_⟩
  have hz2 := b3.size
  obtain ⟨hg1l, _, _⟩ := a2.cells
  have hce2 : CellsA w2 g1 0 r0 (fun i => O (P + i)) := hce1.turns (Turns.of_below (F := fun _ => False) b3) hg1l (fun h => h)
  have bb : Below w2.heap.size w2 (w2.alloc (.cells #[.string (L k).key, .bool (L k).set, .slice (L k).x (L k).n (L k).c] 54)) := (Below.refl _ _).alloc (Nat.le_refl _) _
  have t3 := Three.new w2 (.string (L k).key) (.bool (L k).set) (.slice (L k).x (L k).n (L k).c) 54
  obtain ⟨g3, c3, w3, d1, D⟩ := (b2.alloc #[.string (L k).key, .bool (L k).set, .slice (L k).x (L k).n (L k).c] 54).pushS w2.heap.size 0 1 1 (fun _ => L k) (fun i hi => by
    obtain rfl : i = 0 := by omega
    exact ⟨t3.c0, t3.c1, t3.c2⟩) (by omega)
  obtain ⟨d2, d3, d4⟩ := D.out
  refine ⟨g3, c3, w3, d1, ?_⟩
  have hz3 := bb.size
  have hw3 : Below w.heap.size w w3 := (hw2.trans (bb.mono hw2.size)).trans (d3.below (fun j hj => by have := h.bel.size; omega) (by have := hw2.size; omega))
  have hce3 : CellsA w3 g1 0 r0 (fun i => O (P + i)) := (hce2.turns (Turns.of_below (F := fun _ => False) bb) (by omega) (fun h => h)).turns d3 (by omega) (by omega)
  have hfin : CellsA w3 g1 (if T = 1 then offQ 0 c1 1 else 0) r (rest O P T) := by
    rcases hT with e | e
    · subst e
      rw [if_neg (by omega)]
      intro i hi
      have := hce3 i (by omega)
      unfold rest
      rw [Nat.add_zero]
      exact this
    · subst e
      rw [if_pos rfl]
      intro i hi
      have := hce3.tail (c := c1) 1 (by omega) hrc i (by omega)
      unfold rest
      rw [Nat.add_assoc]
      exact this
  obtain ⟨g4, c4, w4, e1, E⟩ := d2.pushS g1 (if T = 1 then offQ 0 c1 1 else 0) r (c1 - T) (rest O P T) hfin (by omega)
  obtain ⟨e2, e3, e4⟩ := E.out
  obtain ⟨i1, i2⟩ := ins_set hp h.rise h.km hset
  rw [← hr] at i1 i2
  have hg3 : w.heap.size ≤ g3 := by
    have := hw2.size
    have := h.bel.size
    rcases d4 with e | e
    · omega
    · rw [e]; omega
  refine ⟨g4, c4, w4, e1, _, e2, ?_, i1, ?_, fun i hi hse => ?_, fun i hi => ?_, by omega, hw3.trans (e3.below (fun j hj => by omega) hw3.size)⟩
  · have := hw3.size
    rcases e4 with e | e
    · omega
    · rw [e]; exact this
  · rw [pas_succ, doL_snoc]
    exact i2
  · by_cases ei : i < k
    · exact h.can i ei hse
    · obtain rfl : i = k := by omega
      rw [hset] at hse
      cases hse
  · rw [cat_set]
    split
    · exact h.pd i (by omega)
    · split
      · exact hpd
      · exact h.pd _ (by omega)

theorem DI.del_ (h : DI w v Pd M L kl k g m c O) (hs : kl + k + 1 ≤ 4000000) (hp : Place O m (L k).key P 1) (hset : (L k).set = false) (r0 r : Nat) (hr0 : r0 = m - P) (hr : r = m - (P + 1)) :
    ∃ g1 c1 w1, (Builtin.append_ #[24, 24] 24 #[.slice (some ⟨v.heap.size, 0, none⟩) 0 0, .slice (some ⟨g, offQ 0 c P, none⟩) r0 (c - P)]).run Tryz.prog (v.alloc (.cells #[] 54)) = .ok (.slice (some ⟨g1, 0, none⟩) r0 c1) w1 ∧ Below w.heap.size w w1 ∧ r0 ≤ c1 ∧
      ∃ g2 c2 w2, (Builtin.append_ #[24, 24] 24 #[.slice (some ⟨w1.heap.size, 0, none⟩) 0 0, .slice (some ⟨g, 0, none⟩) P c]).run Tryz.prog (w1.alloc (.cells #[] 54)) = .ok (.slice (some ⟨g2, 0, none⟩) P c2) w2 ∧ Below w.heap.size w w2 ∧
          ∃ g4 c4 w4, (Builtin.append_ #[24, 24] 24 #[.slice (some ⟨g2, 0, none⟩) P c2, .slice (some ⟨g1, offQ 0 c1 1, none⟩) r (c1 - 1)]).run Tryz.prog w2 = .ok (.slice (some ⟨g4, 0, none⟩) (P + r) c4) w4 ∧
            Hid (∃ O', DI w w4 Pd M L kl (k + 1) g4 (P + r) c4 O') := by
  obtain ⟨hgl, hmc, hce⟩ := h.own.cells
  have hle := hp.le
  have hml := h.le
  obtain ⟨g1, c1, w1, a1, a2, a3, a4⟩ := copy_acts v g (offQ 0 c P) r0 (c - P) (fun i => O (P + i)) (by rw [hr0]; exact hce.tail P (by omega) hmc) hgl (by omega)
  have hw1 : Below w.heap.size w w1 := h.bel.trans (a3.mono h.bel.size)
  obtain ⟨_, hrc, hce1⟩ := a2.cells
  refine ⟨g1, c1, w1, a1, hw1, hrc, ?_⟩
  have hz1 := a3.size
  have hceO1 : CellsA w1 g 0 P O := fun i hi => (hce.turns (Turns.of_below (F := fun _ => False) a3) hgl (fun h => h)) i (by omega)
  obtain ⟨g2, c2, w2, b1, b2, b3, b4⟩ := copy_acts w1 g 0 P c O hceO1 (by omega) (by omega)
  have hw2 : Below w.heap.size w w2 := hw1.trans (b3.mono hw1.size)
  refine ⟨g2, c2, w2, b1, hw2, ?_⟩
  have hz2 := b3.size
  obtain ⟨hg1l, _, _⟩ := a2.cells
  have hce2 : CellsA w2 g1 0 r0 (fun i => O (P + i)) := hce1.turns (Turns.of_below (F := fun _ => False) b3) hg1l (fun h => h)
  have hfin : CellsA w2 g1 (offQ 0 c1 1) r (rest O P 1) := by
    intro i hi
    have := hce2.tail (c := c1) 1 (by omega) hrc i (by omega)
    unfold rest
    rw [Nat.add_assoc]
    exact this
  obtain ⟨g4, c4, w4, e1, E⟩ := b2.pushS g1 (offQ 0 c1 1) r (c1 - 1) (rest O P 1) hfin (by omega)
  obtain ⟨e2, e3, e4⟩ := E.out
  obtain ⟨i1, i2⟩ := ins_del hp h.rise h.km hset
  rw [← hr] at i1 i2
  have hg2 : w.heap.size ≤ g2 := by
    have := hw1.size
    omega
  refine ⟨g4, c4, w4, e1, _, e2, ?_, i1, ?_, fun i hi hse => ?_, fun i hi => ?_, by omega, hw2.trans (e3.below (fun j hj => by omega) hw2.size)⟩
  · have := hw2.size
    rcases e4 with e | e
    · omega
    · rw [e]; exact this
  · rw [pas_succ, doL_snoc]
    exact i2
  · by_cases ei : i < k
    · exact h.can i ei hse
    · obtain rfl : i = k := by omega
      rw [hp.has h.km]
      rfl
  · rw [cat_del]
    split
    · exact h.pd i (by omega)
    · exact h.pd _ (by omega)

end

end Go.Proofs.YtbbjklenpgkooaaGreat

/-
  The document's Done: a list of keys that rise, and acts that are done upon it.
  Conditions: the keys and the acts lie in memory.
-/
namespace Go.Proofs.YtbbjklenpgkooaaGreat
open Go.RowKit By Dk Wi St
variable [Inhabited PR] [∀ pre s : ByteArray, Decidable (Beg pre s)]
set_option linter.unusedSectionVars false
set_option linter.unusedVariables false
set_option linter.unusedSimpArgs false
set_option maxRecDepth 100000

def DoneTold (w w' : World) (Pd : AV → Prop) (M' : KV) (n c : Nat) (g : Nat) (O : Nat → AV) : Prop :=
  CellsA w' g 0 n O ∧ g < w'.heap.size ∧ n ≤ c ∧ w.heap.size ≤ g ∧ (∀ i, i < n → Pd (O i)) ∧ Rise O n ∧ KM O n M' ∧ Below w.heap.size w w'

theorem append_ex {P : Program} {w : World} {ops : Array Oper} {rest : List Oper} {o : Oper} {a : Act} {Q : Exit → Act → World → Prop} (hg : o.guard = none) (s x : Operand) (t : TypeId) (ho : o.op = .call { callee := .builtin .append, args := #[s, x], argTypes := #[t, t] }) (v1 v2 : Value) (hs : a.eval s = v1) (hx : a.eval x = v2)
    {R : Nat → Nat → World → Prop} {n : Nat} (hr : ∃ g c w', (Builtin.append_ #[t, t] o.type #[v1, v2]).run P w = .ok (.slice (some ⟨g, 0, none⟩) n c) w' ∧ R g c w') (h : ∀ g c w', R g c w' → wpList P ops Q rest (a.put o.dst (.slice (some ⟨g, 0, none⟩) n c)) w') : wpList P ops Q (o :: rest) a w := by
  obtain ⟨g, c, w', h1, h2⟩ := hr
  exact wpList_append_run hg s x t ho v1 v2 hs hx h1 (h g c w' h2)

theorem bytes_less (a b : ByteArray) (t : Bool) (h : lessN (nat a) (nat b) = t) : Op.bytesLess a.toList b.toList = t := by rw [less_nat]; exact h

set_option maxHeartbeats 8000000 in
theorem rdones_any (kb ko klen kcap : Nat) (K : Nat → AV) (w : World) (Pd : AV → Prop) (M : KV) (hk : CellsA w kb ko klen K) (hkb : kb < w.heap.size) (hpk : ∀ i, i < klen → Pd (K i)) (hrise : Rise K klen) (hkm : KM K klen M) (la : Option Addr) (llen lcap : Nat) (L : Nat → AV) (hL : ActsAt w la llen L) (hpl : ∀ i, i < llen → Pd (L i)) (hs : klen + llen ≤ 4000000) :
    Calls Tryz.prog 15 #[.slice (some ⟨kb, ko, none⟩) klen kcap, .slice la llen lcap] w fun e w' =>
      (¬ canL M (pas L llen) ∧ e = .returned (.tuple #[.slice (some ⟨kb, ko, none⟩) klen kcap, .bool false]) ∧ Below w.heap.size w w') ∨
      (canL M (pas L llen) ∧ ∃ g n c O, e = .returned (.tuple #[.slice (some ⟨g, 0, none⟩) n c, .bool true]) ∧ n ≤ klen + llen ∧ Hid (DoneTold w w' Pd (doL M (pas L llen)) n c g O)) := by
  obtain ⟨g0, c0, w0, hap0, h01, h02, h03⟩ := copy_acts w kb ko klen kcap K hk hkb (by omega)
  have HD0 : Hid (DI w w0 Pd M L klen 0 g0 klen c0 K) := ⟨h01, h03, hrise, hkm, (fun i hi => by omega), hpk, by omega, h02⟩
  have HL := hid hL
  have HPL := hid hpl
  clear hk hkb hpk hrise hkm h01 h02 h03 hL hpl
  go_enter Tryz.func15, Tryz.ntmps15
  go_wp2_with (at_builtin; refine wpList_append_run rfl _ _ 24 rfl _ _ rfl rfl hap0 ?_; clear hap0)
  go_loopw [6, 7] (fun out i wr => ∃ (k g m c : Nat) (O : Nat → AV), k ≤ llen ∧ out = .slice (some ⟨g, 0, none⟩) m c ∧ i = .int .i64 k ∧ Hid (DI w wr Pd M L klen k g m c O)) (fun _ i _ => llen - (intOf i).toNat)
  case atStart => exact ⟨0, g0, klen, c0, K, by omega, rfl, rfl, HD0.out⟩
  case round =>
    clear HD0
    obtain ⟨k, g, m, c, O, hk, rfl, rfl, HD⟩ := hrel
    by_cases hkl : k < llen
    · have hkl' : (k : Int) < (llen : Int) := by omega
      rcases HL.out.row with h0 | ⟨b, o, rfl, hbl, hc⟩
      · omega
      obtain ⟨f0, f1, f2⟩ := hc k hkl
      have hbw := HD.out.bel
      have k0 := (hbw.cell (p := ⟨b, o + k * 3, none⟩) hbl).trans f0
      have hml := HD.out.le
      obtain ⟨hgl, hmc, hce⟩ := HD.out.own.cells
      have HCE := hid hce
      have HCL : Hid (∀ v, Below w.heap.size w v → v.cell? ⟨b, o + k * 3, none⟩ = some (.string (L k).key) ∧ v.cell? ⟨b, o + k * 3 + 1, none⟩ = some (.bool (L k).set) ∧ v.cell? ⟨b, o + k * 3 + 2, none⟩ = some (.slice (L k).x (L k).n (L k).c)) := fun v hv =>
        ⟨(hv.cell (p := ⟨b, o + k * 3, none⟩) hbl).trans f0, (hv.cell (p := ⟨b, o + k * 3 + 1, none⟩) hbl).trans f1, (hv.cell (p := ⟨b, o + k * 3 + 2, none⟩) hbl).trans f2⟩
      clear hc f0 f1 f2 hbw hgl hce
      go_wp2_with fail
      go_loopw [8] (fun a wr' => ∃ (p q : Nat), p ≤ m ∧ a = .int .i64 p ∧ wr' = wr.drewN q ∧ Hid (∀ j, j < p → lessN (nat (O j).key) (nat (L k).key) = true)) (fun a _ => m - (intOf a).toNat)
      case atStart => exact ⟨0, 0, Nat.zero_le _, rfl, rfl, fun j hj => by omega⟩
      case round =>
        obtain ⟨p, q, hp, rfl, rfl, HLow⟩ := hrel
        go_wp2_with fail
        by_cases hpm : p < m
        · have hpm' : (p : Int) < (m : Int) := by omega
          have e0 := (HCE.out p hpm).1
          rw [Nat.zero_add] at e0
          by_cases hlt : lessN (nat (O p).key) (nat (L k).key) = true
          · have hbl2 := bytes_less _ _ _ hlt
            have HLow2 : Hid (∀ j, j < p + 1 → lessN (nat (O j).key) (nat (L k).key) = true) := fun j hj => by
              by_cases e : j = p
              · rw [e]; exact hlt
              · exact HLow.out j (by omega)
            clear hlt HLow
            go_quiet (fail)
            go_wp2_with fail
            go_roundw
            case rel => exact ⟨p + 1, _, by omega, by go_num, rfl, HLow2.out⟩
            case measure => simp [intOf]; omega
          · have hlt' : lessN (nat (O p).key) (nat (L k).key) = false := by simpa using hlt
            have hbl2 := bytes_less _ _ _ hlt'
            have HPl := hid (Place.of HD.out.rise hp HLow.out (fun _ => hlt'))
            clear hlt hlt' HLow
            by_cases heq : (O p).key = (L k).key
            · have hbe : ((O p).key.toList == (L k).key.toList) = true := by rw [heq]; exact beq_same _
              have HPP : Hid (Place O m (L k).key p 1) := by
                rcases HPl.out with h | h
                · exact h.2.2
                · exact absurd ⟨hpm, heq⟩ h.1
              clear HPl heq
              obtain ⟨r0, hr0⟩ : ∃ r0, r0 = m - p := ⟨_, rfl⟩
              obtain ⟨r, hr⟩ : ∃ r, r = m - (p + 1) := ⟨_, rfl⟩
              have hcut : ∀ v : World, (Instr.slice 24 (.slice (some ⟨g, 0, none⟩) m c) (some (.int .i64 (p : Int))) none none).run Tryz.prog v = .ok (.slice (some ⟨g, offQ 0 c p, none⟩) r0 (c - p)) v := fun v => by rw [hr0]; exact cut_tail g 0 m c p v hp
              have hcut2 : ∀ v : World, (Instr.slice 24 (.slice (some ⟨g, 0, none⟩) m c) none (some (.int .i64 (p : Int))) none).run Tryz.prog v = .ok (.slice (some ⟨g, 0, none⟩) p c) v := fun v => cut_acts _ m c p v (by omega)
              have hcut3 : ∀ (g1 c1 : Nat) (v : World), (Instr.slice 24 (.slice (some ⟨g1, 0, none⟩) r0 c1) (some (.int .i64 1)) none none).run Tryz.prog v = .ok (.slice (some ⟨g1, offQ 0 c1 1, none⟩) r (c1 - 1)) v := fun g1 c1 v => by
                have := cut_tail g1 0 r0 c1 1 v (by omega)
                rw [show r0 - 1 = r by omega] at this
                exact this
              have HDv : Hid (∀ n, DI w (wr.drewN n) Pd M L klen k g m c O) := fun n => HD.out.same rfl rfl rfl rfl
              have hkp := HPL.out k hkl
              by_cases hset : (L k).set = true
              · have HRUN := hid (fun n => (HDv.out n).set_ (by omega) HPP.out hset hkp r0 r hr0 hr)
                have hse : (L k).set = true := hset
                rw [hse] at HRUN
                simp only [if_true] at HRUN
                clear hset hkp hr0 hr HPP HDv HD HCE hp
                rw [hse] at HCL
                generalize (O p).key = Op' at *
                generalize (L k).key = Kk at *
                generalize (L k).x = Kx at *
                generalize (L k).n = Kn at *
                generalize (L k).c = Kc at *
                go_quiet (fail)
                go_wp2_with fail
                go_quiet (fail)
                go_wp2_with (first
                  | (at_builtin; refine append_ex rfl _ _ 24 rfl _ _ rfl rfl (HRUN.out _) ?_; clear HRUN hcut; rintro g1 c1 w1 ⟨hb1, hrc, h2⟩; obtain ⟨s0, s1, s2⟩ := HCL.out w1 hb1; clear hb1 hrc)
                  | (at_builtin; refine append_ex rfl _ _ 24 rfl _ _ rfl rfl h2 ?_; clear h2; rintro g2 c2 w2 ⟨hb2, h3⟩; obtain ⟨u0, u1, u2⟩ := HCL.out w2 hb2; clear hb2)
                  | (at_builtin; refine append_ex rfl _ _ 24 rfl _ _ rfl rfl h3 ?_; clear h3; rintro g3 c3 w3 h4)
                  | (at_builtin; refine append_ex rfl _ _ 24 rfl _ _ rfl rfl h4 ?_; clear h4; rintro g4 c4 w4 HN))
                go_roundw
                case rel => obtain ⟨O', hO'⟩ := HN.out; exact ⟨k + 1, g4, _, c4, O', by omega, rfl, by go_num, hO'⟩
                case measure => simp [intOf]; omega
              · have hse : (L k).set = false := by simpa using hset
                have HRUN := hid (fun n => (HDv.out n).del_ (by omega) HPP.out hse r0 r hr0 hr)
                clear hset hkp hr0 hr HPP HDv HD HCE hp
                rw [hse] at HCL
                generalize (O p).key = Op' at *
                generalize (L k).key = Kk at *
                generalize (L k).x = Kx at *
                generalize (L k).n = Kn at *
                generalize (L k).c = Kc at *
                go_quiet (fail)
                go_wp2_with fail
                go_quiet (fail)
                go_wp2_with (first
                  | (at_builtin; refine append_ex rfl _ _ 24 rfl _ _ rfl rfl (HRUN.out _) ?_; clear HRUN hcut; rintro g1 c1 w1 ⟨hb1, hrc, h2⟩; obtain ⟨s0, s1, s2⟩ := HCL.out w1 hb1; clear hb1 hrc)
                  | (at_builtin; refine append_ex rfl _ _ 24 rfl _ _ rfl rfl h2 ?_; clear h2; rintro g2 c2 w2 ⟨hb2, h3⟩; obtain ⟨u0, u1, u2⟩ := HCL.out w2 hb2; clear hb2)
                  | (at_builtin; refine append_ex rfl _ _ 24 rfl _ _ rfl rfl h3 ?_; clear h3; rintro g4 c4 w4 HN))
                go_roundw
                case rel => obtain ⟨O', hO'⟩ := HN.out; exact ⟨k + 1, g4, _, c4, O', by omega, rfl, by go_num, hO'⟩
                case measure => simp [intOf]; omega
            · have hbe : ((O p).key.toList == (L k).key.toList) = false := beq_diff heq
              have HPP : Hid (Place O m (L k).key p 0) := by
                rcases HPl.out with h | h
                · exact absurd h.2.1 heq
                · exact h.2
              clear HPl heq
              obtain ⟨r0, hr0⟩ : ∃ r0, r0 = m - p := ⟨_, rfl⟩
              obtain ⟨r, hr⟩ : ∃ r, r = m - (p + 0) := ⟨_, rfl⟩
              have hcut : ∀ v : World, (Instr.slice 24 (.slice (some ⟨g, 0, none⟩) m c) (some (.int .i64 (p : Int))) none none).run Tryz.prog v = .ok (.slice (some ⟨g, offQ 0 c p, none⟩) r0 (c - p)) v := fun v => by rw [hr0]; exact cut_tail g 0 m c p v hp
              have hcut2 : ∀ v : World, (Instr.slice 24 (.slice (some ⟨g, 0, none⟩) m c) none (some (.int .i64 (p : Int))) none).run Tryz.prog v = .ok (.slice (some ⟨g, 0, none⟩) p c) v := fun v => cut_acts _ m c p v (by omega)
              have HDv : Hid (∀ n, DI w (wr.drewN n) Pd M L klen k g m c O) := fun n => HD.out.same rfl rfl rfl rfl
              have hkp := HPL.out k hkl
              by_cases hset : (L k).set = true
              · have HRUN := hid (fun n => (HDv.out n).set_ (by omega) HPP.out hset hkp r0 r0 hr0 (by omega))
                have hse : (L k).set = true := hset
                rw [hse] at HRUN
                simp only [show ¬ ((0 : Nat) = 1) from by omega, if_false, Nat.sub_zero] at HRUN
                clear hset hkp hr0 hr HPP HDv HD HCE hp
                rw [hse] at HCL
                generalize (O p).key = Op' at *
                generalize (L k).key = Kk at *
                generalize (L k).x = Kx at *
                generalize (L k).n = Kn at *
                generalize (L k).c = Kc at *
                go_quiet (fail)
                go_wp2_with fail
                go_quiet (fail)
                go_wp2_with (first
                  | (at_builtin; refine append_ex rfl _ _ 24 rfl _ _ rfl rfl (HRUN.out _) ?_; clear HRUN hcut; rintro g1 c1 w1 ⟨hb1, hrc, h2⟩; obtain ⟨s0, s1, s2⟩ := HCL.out w1 hb1; clear hb1 hrc)
                  | (at_builtin; refine append_ex rfl _ _ 24 rfl _ _ rfl rfl h2 ?_; clear h2; rintro g2 c2 w2 ⟨hb2, h3⟩; obtain ⟨u0, u1, u2⟩ := HCL.out w2 hb2; clear hb2)
                  | (at_builtin; refine append_ex rfl _ _ 24 rfl _ _ rfl rfl h3 ?_; clear h3; rintro g3 c3 w3 h4)
                  | (at_builtin; refine append_ex rfl _ _ 24 rfl _ _ rfl rfl h4 ?_; clear h4; rintro g4 c4 w4 HN))
                go_roundw
                case rel => obtain ⟨O', hO'⟩ := HN.out; exact ⟨k + 1, g4, _, c4, O', by omega, rfl, by go_num, hO'⟩
                case measure => simp [intOf]; omega
              · have hse : (L k).set = false := by simpa using hset
                have hno : ¬ canL M (pas L llen) := fun hcan => by
                  have h1 := canL_at hcan hkl hse
                  rw [HPP.out.has (HDv.out 0).km] at h1
                  cases h1
                have HRUN : Hid (∀ n, ∃ g1 c1 w1, (Builtin.append_ #[24, 24] 24 #[.slice (some ⟨wr.heap.size, 0, none⟩) 0 0, .slice (some ⟨g, offQ 0 c p, none⟩) r0 (c - p)]).run Tryz.prog ((wr.drewN n).alloc (.cells #[] 54)) = .ok (.slice (some ⟨g1, 0, none⟩) r0 c1) w1 ∧ Below w.heap.size w w1) := fun n => by
                  obtain ⟨hgl, hmc, hce⟩ := (HDv.out n).own.cells
                  obtain ⟨g1, c1, w1, a1, a2, a3, a4⟩ := copy_acts (wr.drewN n) g (offQ 0 c p) r0 (c - p) (fun i => O (p + i)) (by rw [hr0]; exact hce.tail p (by omega) hmc) hgl (by omega)
                  exact ⟨g1, c1, w1, a1, (HDv.out n).bel.trans (a3.mono (HDv.out n).bel.size)⟩
                clear hset hkp hr0 hr HPP HDv HD HCE hp
                rw [hse] at HCL
                generalize (O p).key = Op' at *
                generalize (L k).key = Kk at *
                generalize (L k).x = Kx at *
                generalize (L k).n = Kn at *
                generalize (L k).c = Kc at *
                go_quiet (fail)
                go_wp2_with fail
                go_quiet (fail)
                go_wp2_with (first
                  | (at_builtin; refine append_ex rfl _ _ 24 rfl _ _ rfl rfl (HRUN.out _) ?_; clear HRUN hcut; rintro g1 c1 w1 hb1; obtain ⟨s0, s1, s2⟩ := HCL.out w1 hb1; have HB1 := hid hb1; clear hb1))
                go_ret2
                exact .inl ⟨hno, rfl, HB1.out⟩
        · have hpm' : ¬ (p : Int) < (m : Int) := by omega
          have HPP : Hid (Place O m (L k).key p 0) := by
            rcases Place.of HD.out.rise hp HLow.out (fun h => absurd h hpm) with h | h
            · exact absurd h.1 hpm
            · exact h.2
          clear HLow
          obtain ⟨r0, hr0⟩ : ∃ r0, r0 = m - p := ⟨_, rfl⟩
          obtain ⟨r, hr⟩ : ∃ r, r = m - (p + 0) := ⟨_, rfl⟩
          have hcut : ∀ v : World, (Instr.slice 24 (.slice (some ⟨g, 0, none⟩) m c) (some (.int .i64 (p : Int))) none none).run Tryz.prog v = .ok (.slice (some ⟨g, offQ 0 c p, none⟩) r0 (c - p)) v := fun v => by rw [hr0]; exact cut_tail g 0 m c p v hp
          have hcut2 : ∀ v : World, (Instr.slice 24 (.slice (some ⟨g, 0, none⟩) m c) none (some (.int .i64 (p : Int))) none).run Tryz.prog v = .ok (.slice (some ⟨g, 0, none⟩) p c) v := fun v => cut_acts _ m c p v (by omega)
          have HDv : Hid (∀ n, DI w (wr.drewN n) Pd M L klen k g m c O) := fun n => HD.out.same rfl rfl rfl rfl
          have hkp := HPL.out k hkl
          by_cases hset : (L k).set = true
          · have HRUN := hid (fun n => (HDv.out n).set_ (by omega) HPP.out hset hkp r0 r0 hr0 (by omega))
            have hse : (L k).set = true := hset
            rw [hse] at HRUN
            simp only [show ¬ ((0 : Nat) = 1) from by omega, if_false, Nat.sub_zero] at HRUN
            clear hset hkp hr0 hr HPP HDv HD HCE hp
            rw [hse] at HCL
            generalize (L k).key = Kk at *
            generalize (L k).x = Kx at *
            generalize (L k).n = Kn at *
            generalize (L k).c = Kc at *
            go_quiet (fail)
            go_wp2_with fail
            go_quiet (fail)
            go_wp2_with (first
              | (at_builtin; refine append_ex rfl _ _ 24 rfl _ _ rfl rfl (HRUN.out _) ?_; clear HRUN hcut; rintro g1 c1 w1 ⟨hb1, hrc, h2⟩; obtain ⟨s0, s1, s2⟩ := HCL.out w1 hb1; clear hb1 hrc)
              | (at_builtin; refine append_ex rfl _ _ 24 rfl _ _ rfl rfl h2 ?_; clear h2; rintro g2 c2 w2 ⟨hb2, h3⟩; obtain ⟨u0, u1, u2⟩ := HCL.out w2 hb2; clear hb2)
              | (at_builtin; refine append_ex rfl _ _ 24 rfl _ _ rfl rfl h3 ?_; clear h3; rintro g3 c3 w3 h4)
              | (at_builtin; refine append_ex rfl _ _ 24 rfl _ _ rfl rfl h4 ?_; clear h4; rintro g4 c4 w4 HN))
            go_roundw
            case rel => obtain ⟨O', hO'⟩ := HN.out; exact ⟨k + 1, g4, _, c4, O', by omega, rfl, by go_num, hO'⟩
            case measure => simp [intOf]; omega
          · have hse : (L k).set = false := by simpa using hset
            have hno : ¬ canL M (pas L llen) := fun hcan => by
              have h1 := canL_at hcan hkl hse
              rw [HPP.out.has (HDv.out 0).km] at h1
              cases h1
            have HRUN : Hid (∀ n, ∃ g1 c1 w1, (Builtin.append_ #[24, 24] 24 #[.slice (some ⟨wr.heap.size, 0, none⟩) 0 0, .slice (some ⟨g, offQ 0 c p, none⟩) r0 (c - p)]).run Tryz.prog ((wr.drewN n).alloc (.cells #[] 54)) = .ok (.slice (some ⟨g1, 0, none⟩) r0 c1) w1 ∧ Below w.heap.size w w1) := fun n => by
              obtain ⟨hgl, hmc, hce⟩ := (HDv.out n).own.cells
              obtain ⟨g1, c1, w1, a1, a2, a3, a4⟩ := copy_acts (wr.drewN n) g (offQ 0 c p) r0 (c - p) (fun i => O (p + i)) (by rw [hr0]; exact hce.tail p (by omega) hmc) hgl (by omega)
              exact ⟨g1, c1, w1, a1, (HDv.out n).bel.trans (a3.mono (HDv.out n).bel.size)⟩
            clear hset hkp hr0 hr HPP HDv HD HCE hp
            rw [hse] at HCL
            generalize (L k).key = Kk at *
            generalize (L k).x = Kx at *
            generalize (L k).n = Kn at *
            generalize (L k).c = Kc at *
            go_quiet (fail)
            go_wp2_with fail
            go_quiet (fail)
            go_wp2_with (first
              | (at_builtin; refine append_ex rfl _ _ 24 rfl _ _ rfl rfl (HRUN.out _) ?_; clear HRUN hcut; rintro g1 c1 w1 hb1; obtain ⟨s0, s1, s2⟩ := HCL.out w1 hb1; have HB1 := hid hb1; clear hb1))
            go_ret2
            exact .inl ⟨hno, rfl, HB1.out⟩
    · obtain rfl : k = llen := by omega
      have hcan : canL M (pas L k) := canL_of HD.out.can
      obtain ⟨hgl, hmc, hce⟩ := HD.out.own.cells
      have HF : Hid (DoneTold w wr Pd (doL M (pas L k)) m c g O ∧ m ≤ klen + k) := ⟨⟨hce, hgl, hmc, HD.out.hg, HD.out.pd, HD.out.rise, HD.out.km, HD.out.bel⟩, HD.out.le⟩
      clear hce hgl hmc HD
      go_wp2_with fail
      go_ret2
      exact .inr ⟨hcan, g, m, c, O, rfl, HF.out.2, HF.out.1⟩

end Go.Proofs.YtbbjklenpgkooaaGreat

/-
  Package store's All, as far as it is made; the statements' own check that a value is kept.
  Conditions: none.
-/
namespace Go.Proofs.YtbbjklenpgkooaaGreat
open Go.RowKit By Dk Wi St Su Jo
variable [Inhabited PR] [∀ pre s : ByteArray, Decidable (Beg pre s)]
set_option linter.unusedSectionVars false
set_option linter.unusedVariables false
set_option linter.unusedSimpArgs false
set_option maxRecDepth 100000

theorem all_make (v : Option Addr) (s : ByteArray) (w : World) :
    Calls Tryz.prog 22 #[.pointer v, .string s] w fun e w' => e = .returned (.func (.func 48) #[] #[.pointer (some ⟨w.heap.size, 0, none⟩), .pointer (some ⟨w.heap.size + 1, 0, none⟩)]) ∧ w' = (w.alloc (.cells #[.pointer v] 34)).alloc (.cells #[.string s] 9) := by
  go_enter Tryz.func22, Tryz.ntmps22
  go_wp2_with fail
  go_ret
  exact ⟨rfl, rfl⟩

theorem func_ne (f : Nat) (b : Array Value) (w : World) : (binOp .neq 58 (.func (.func f) #[] b) .nilFunc).run Tryz.prog w = .ok (.bool true) w := by kernel_rfl

def aV (g : Nat) : Nat → AV := fun _ => ⟨⟨#[97]⟩, true, some ⟨g, 0, none⟩, 1, 1, [7]⟩

theorem aV_pas (g : Nat) : pas (aV g) 1 = [⟨[97], true, [7]⟩] := rfl

theorem aV_enc : enc [⟨[97], true, [7]⟩] = [1, 1, 97, 1, 1, 7] := by
  unfold enc encL encA
  simp [uv_small]

theorem aV_says (g : Nat) : EncSays (pas (aV g) 1) 0 [1, 1, 97, 1, 1, 7] := by
  rw [aV_pas]
  refine .inr (.inr ⟨⟨by simp, fun a ha => ?_⟩, by rw [aV_enc]; simp, rfl, aV_enc.symm⟩)
  simp at ha
  subst ha
  exact ⟨⟨by simp, by simp⟩, by simp⟩

theorem aV_can (g : Nat) (M : KV) : canL M (pas (aV g) 1) := canL_of fun i hi hs => by cases hs

theorem aV_acts (w : World) : ActsAt ((w.alloc (.cells #[.int .u8 7] 5)).alloc (.cells #[.string ⟨#[97]⟩, .bool true, .slice (some ⟨w.heap.size, 0, none⟩) 1 1] 54)) (some ⟨w.heap.size + 1, 0, none⟩) 1 (aV w.heap.size) := by
  have hsz : (w.alloc (.cells #[.int .u8 7] 5)).heap.size = w.heap.size + 1 := by simp
  refine ⟨.inr ⟨w.heap.size + 1, 0, rfl, by simp, fun i hi => ?_⟩, fun i hi => ⟨⟨rfl, Nat.le_refl _, (fun e => by cases e), .inr ⟨w.heap.size, 0, rfl, by simp; omega, fun j hj => ?_⟩, fun v hv => by simp [aV] at hv; omega⟩, by show 1 ≤ _; omega, by show (⟨#[97]⟩ : ByteArray).size ≤ _; decide⟩⟩
  · obtain rfl : i = 0 := by omega
    have t := Three.new (w.alloc (.cells #[.int .u8 7] 5)) (.string ⟨#[97]⟩) (.bool true) (.slice (some ⟨w.heap.size, 0, none⟩) 1 1) 54
    rw [hsz] at t
    exact ⟨t.c0, t.c1, t.c2⟩
  · obtain rfl : j = 0 := by have : j < 1 := hj; omega
    have b : Below (w.heap.size + 1) (w.alloc (.cells #[.int .u8 7] 5)) ((w.alloc (.cells #[.int .u8 7] 5)).alloc (.cells #[.string ⟨#[97]⟩, .bool true, .slice (some ⟨w.heap.size, 0, none⟩) 1 1] 54)) := (Below.refl _ _).alloc (by simp) _
    refine (b.cell (p := ⟨w.heap.size, 0, none⟩) (Nat.lt_succ_self _)).trans ?_
    simp [gl, aV]

set_option maxHeartbeats 2000000 in
theorem sawake (w : World) : Calls Tryz.prog 6 #[] w fun e w' => e = .returned (.bool true) ∧ Below w.heap.size w w' := by
  have hN := dnew 8 8 rfl w (by omega) (by omega)
  have HAP : Hid (∀ v p sq jq mq g' K, Alive w.heap.size w v p 8 sq jq mq 0 0 g' (fun _ => none) K → g' ≤ 1 → Calls Tryz.prog 17 #[.pointer (some ⟨sq, 0, none⟩), .slice (some ⟨v.heap.size + 1, 0, none⟩) 1 1] ((v.alloc (.cells #[.int .u8 7] 5)).alloc (.cells #[.string ⟨#[97]⟩, .bool true, .slice (some ⟨v.heap.size, 0, none⟩) 1 1] 54)) fun e v2 => e = .returned (.int .i64 0) ∧
      Calls Tryz.prog 12 #[.pointer (some ⟨p, 0, none⟩), .slice none 0 0] v2 fun e v3 => e = .returned (.tuple #[]) ∧
        Calls Tryz.prog 11 #[.pointer (some ⟨p, 0, none⟩)] v3 fun e v4 => ∃ sq2, e = .returned (.tuple #[.pointer (some ⟨sq2, 0, none⟩), .int .i64 0]) ∧
          Calls Tryz.prog 21 #[.pointer (some ⟨sq2, 0, none⟩), .string ⟨#[97]⟩] v4 fun e v5 => ∃ b5 c5, e = .returned (.tuple #[.slice (some b5) 1 c5, .bool true]) ∧ v5.cell? b5 = some (.int .u8 7) ∧ b5 = ⟨b5.block, b5.off, none⟩ ∧ Hid (Below w.heap.size w v5)) := fun v p sq jq mq g' K hal hg => by
    have b1 : Below v.heap.size v (v.alloc (.cells #[.int .u8 7] 5)) := (Below.refl _ _).alloc (Nat.le_refl _) _
    have b2 : Below v.heap.size v ((v.alloc (.cells #[.int .u8 7] 5)).alloc (.cells #[.string ⟨#[97]⟩, .bool true, .slice (some ⟨v.heap.size, 0, none⟩) 1 1] 54)) := b1.alloc (by simp) _
    have hal2 := hal.below b2
    have hfoot := hal.foot
    have hmb : mq < v.heap.size := by
      obtain ⟨⟨nb, DD, hst⟩, _⟩ := hal.stat
      exact hst.map.lt
    refine (apply_ok hal2 (some ⟨v.heap.size + 1, 0, none⟩) 1 1 (aV v.heap.size) (aV_acts v) (by omega) (Nat.le_refl _) ⟨fun _ ad ha => ?_, fun i hi _ ad ha => ?_⟩ [1, 1, 97, 1, 1, 7] (aV_says _) (aV_can _ _) (by show 0 + 1 ≤ 8; omega) (by omega)).mono fun e v2 ⟨e2, t2, K2, hal3, hK2⟩ => ⟨e2, ?_⟩
    · injection ha with ha
      subst ha
      exact ⟨fun hk => by have : v.heap.size + 1 < v.heap.size := (hfoot _ hk).2; omega, by show v.heap.size + 1 ≠ mq; omega⟩
    · injection ha with ha
      subst ha
      exact ⟨fun hk => by have : v.heap.size < v.heap.size := (hfoot _ hk).2; omega, by show v.heap.size ≠ mq; omega⟩
    refine (hal3.crash none 0 0 (fun _ => false) (.inl rfl) (fun h => absurd rfl h) (by omega) (by omega)).mono fun e v3 ⟨e3, t3, hop⟩ => ⟨e3, hop.mono ?_⟩
    rintro e v4 ⟨sq2, jq2, mq2, g2, K4, e4, b4, hg4, hal4, _⟩
    refine ⟨sq2, e4, ?_⟩
    obtain ⟨⟨nb, DD, hst⟩, _⟩ := hal4.stat
    have hM : doL (fun _ => none) (pas (aV v.heap.size) 1) ⟨#[97]⟩ = some [7] := by
      rw [aV_pas]
      have : str [97] = (⟨#[97]⟩ : ByteArray) := rfl
      simp [doL, doA, this]
    refine (get_any hst ⟨#[97]⟩ (by decide)).mono fun e v5 ⟨y, n5, c5, e5, b5, _, hv⟩ => ?_
    rw [hM] at e5 hv
    obtain ⟨hsl, _⟩ := hv [7] rfl
    have hn5 : n5 = 1 := hsl.len.symm
    subst hn5
    rcases hsl.row with h0 | ⟨bb, oo, rfl, _, hc⟩
    · omega
    · exact ⟨⟨bb, oo, none⟩, c5, e5, hc 0 (by omega), rfl, hal4.bel.trans (b5.mono hal4.size)⟩
  go_enter Tryz.func6, Tryz.ntmps6
  go_wp2_with (first
    | (go_at_call 10; refine hN.mono ?_; rintro e w1 ⟨p, F, rfl, d1⟩; clear hN
       have hO1 := open_new d1 (by omega)
       clear d1)
    | (go_at_call 11; refine hO1.mono ?_; rintro e w2 ⟨sq, jq, mq, g', K', rfl, _, hg, hal, _⟩; clear hO1
       have hA := HAP.out w2 p sq jq mq g' K' hal hg
       clear HAP hal hg)
    | (go_at_call 17; refine hA.mono ?_; rintro e w3 ⟨rfl, hC⟩; clear hA)
    | (go_at_call 12; refine hC.mono ?_; rintro e w4 ⟨rfl, hO2⟩; clear hC)
    | (go_at_call 11; refine hO2.mono ?_; rintro e w5 ⟨sq2, rfl, hG⟩; clear hO2)
    | (go_at_call 21; refine hG.mono ?_; rintro e w6 ⟨b5, c5, rfl, hcell, hb5, HB⟩; clear hG; obtain ⟨bb, bo, rfl⟩ : ∃ bb bo, b5 = ⟨bb, bo, none⟩ := ⟨_, _, hb5⟩; clear hb5
       have hfn := func_ne 48
       have hAl := all_make (some ⟨sq2, 0, none⟩) ⟨#[]⟩ w6)
    | (go_at_call 22; refine hAl.mono ?_; rintro e w7 ⟨rfl, hw⟩; subst w7; clear hAl))
  go_ret
  exact ⟨rfl, (HB.out.alloc HB.out.size _).alloc (by have := HB.out.size; simp; omega) _⟩

end Go.Proofs.YtbbjklenpgkooaaGreat

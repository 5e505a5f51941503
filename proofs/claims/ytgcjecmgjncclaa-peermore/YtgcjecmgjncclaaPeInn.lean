/-
  Those that count, one by one: plainly, and in memory.
  Conditions: none.
-/
import Derived.Test.YtgcjecmgjncclaaPeMap
import Derived.Test.YtgcjecmgjncclaaPeRef1
namespace Go.Proofs.Ytgcjecmgjncclaa.Pe
open Go.RowKit By Fl Pz
set_option linter.unusedVariables false
set_option linter.unusedSimpArgs false
set_option maxRecDepth 100000

/- t of the infos are seen, S of them are taken, the OSDs M are met; H and W: up to where, and who. -/
structure Seen (x : Itv) (I : List Inf) (t : Nat) (S : List Inf) (M : List Int) (lk : Bool) (H W : List Int) : Prop where
  seq : sel x I [] = S ++ sel x (I.drop t) M
  hd : H = (pairs x S).map (·.1)
  wh : W = (pairs x S).map (·.2)
  lk : lk = S.any (lacks x)
  le : S.length ≤ t

theorem sel_drop {x : Itv} {I : List Inf} {t : Nat} {i : Inf} {M : List Int} (h : I[t]? = some i) : sel x (I.drop t) M = if counts x i && !M.contains i.os then i :: sel x (I.drop (t + 1)) (i.os :: M) else sel x (I.drop (t + 1)) M := by
  rw [drop_at h]
  rfl
section
variable {x : Itv} {I S : List Inf} {t : Nat} {M H W : List Int} {lk : Bool} {i : Inf}
theorem Seen.start (x : Itv) (I : List Inf) : Seen x I 0 [] [] false [] [] := ⟨rfl, rfl, rfl, rfl, Nat.le_refl _⟩
theorem Seen.skip (h : Seen x I t S M lk H W) (e : I[t]? = some i) (hc : (counts x i && !M.contains i.os) = false) : Seen x I (t + 1) S M lk H W :=
  ⟨by rw [h.seq, sel_drop e, hc]; rfl, h.hd, h.wh, h.lk, Nat.le_succ_of_le h.le⟩
theorem pairs_one (x : Itv) (S : List Inf) (i : Inf) : pairs x (S ++ [i]) = pairs x S ++ ((hasI x i).map fun h => (h, i.os)).toList := by
  rw [pairs_app]
  unfold pairs
  rw [List.filterMap_cons]
  cases hasI x i <;> rfl
theorem Seen.none (h : Seen x I t S M lk H W) (e : I[t]? = some i) (hc : (counts x i && !M.contains i.os) = true) (hh : hasI x i = Option.none) : Seen x I (t + 1) (S ++ [i]) (i.os :: M) (lk || lacks x i) H W :=
  ⟨by rw [h.seq, sel_drop e, if_pos hc, List.append_assoc]; rfl, by rw [h.hd, pairs_one, hh]; simp, by rw [h.wh, pairs_one, hh]; simp, by rw [List.any_append, h.lk]; simp, by rw [List.length_append]; have := h.le; simp; omega⟩
theorem Seen.some (h : Seen x I t S M lk H W) (e : I[t]? = Option.some i) (hc : (counts x i && !M.contains i.os) = true) {z : Int} (hh : hasI x i = Option.some z) : Seen x I (t + 1) (S ++ [i]) (i.os :: M) (lk || lacks x i) (H ++ [z]) (W ++ [i.os]) :=
  ⟨by rw [h.seq, sel_drop e, if_pos hc, List.append_assoc]; rfl, by rw [h.hd, pairs_one, hh]; simp, by rw [h.wh, pairs_one, hh]; simp, by rw [List.any_append, h.lk]; simp, by rw [List.length_append]; have := h.le; simp; omega⟩
theorem Seen.all (h : Seen x I t S M lk H W) (e : I.length = t) : S = sel x I [] := by
  rw [h.seq, List.drop_eq_nil_of_le (by omega)]
  simp [sel]
theorem Seen.len (h : Seen x I t S M lk H W) : H.length ≤ t ∧ W.length ≤ t := by
  have := h.le
  have h2 : (pairs x S).length ≤ S.length := by unfold pairs; exact List.length_filterMap_le _ _
  exact ⟨by rw [h.hd, List.length_map]; omega, by rw [h.wh, List.length_map]; omega⟩
end

/- The map and the two lists. -/
structure Mm (wA wr : World) (mb nb : Nat) (D : DataW Value) (M : List Int) (R1 R2 : Value) (H W : List Int) : Prop where
  bel : Below wA.heap.size wA wr
  mp : BmAt wr mb nb D M
  mB : wA.heap.size ≤ mb
  o1 : Own wr wA.heap.size 3 1 enN R1 H
  o2 : Own wr wA.heap.size 3 1 enN R2 W
  ap : ∀ g, R1.ownBlock = some g → R2.ownBlock = some g → False
  n1 : ∀ g, R1.ownBlock = some g → g ≠ mb
  n2 : ∀ g, R2.ownBlock = some g → g ≠ mb
section
variable {wA wr w' : World} {mb nb : Nat} {D : DataW Value} {M : List Int} {R1 R2 : Value} {H W : List Int}
theorem Mm.below (h : Mm wA wr mb nb D M R1 R2 H W) (hb : Below wr.heap.size wr w') : Mm wA w' mb nb D M R1 R2 H W :=
  ⟨on h.bel hb, h.mp.below hb, h.mB, h.o1.below hb, h.o2.below hb, h.ap, h.n1, h.n2⟩
theorem Mm.put (h : Mm wA wr mb nb D M R1 R2 H W) {k : Int} (hk : wfI k) (hn : nb < 4000000000000000000) :
    ∃ w1 D', (Instr.mapUpdate 46 (.map (some mb)) (.int .i64 k) (.bool true)).run Try.prog wr = .ok () w1 ∧ Hid (Mm wA w1 mb (nb + 1) D' (k :: M) R1 R2 H W ∧ Turns (fun q => q = mb) wr w1) := by
  obtain ⟨w1, D', hr, HH⟩ := h.mp.put hk hn
  obtain ⟨h1, t⟩ := HH.out
  exact ⟨w1, D', hr, hid ⟨⟨h.bel.trans (t.below (fun q e => by have := h.mB; omega) h.bel.size), h1, h.mB, h.o1.turns t (fun g hg e => h.n1 g hg e), h.o2.turns t (fun g hg e => h.n2 g hg e), h.ap, h.n1, h.n2⟩, t⟩⟩
theorem Mm.push1 (h : Mm wA wr mb nb D M R1 R2 H W) (z : Int) (hs : H.length + 1 ≤ 17592186043904) :
    ∃ x' n' c' w3, (Builtin.append_ #[22, 22] 22 #[R1, .slice (some ⟨wr.heap.size, 0, none⟩) 1 1]).run Try.prog (wr.alloc (.cells #[.int .i64 z] 3)) = .ok (.slice x' n' c') w3 ∧ Hid (Mm wA w3 mb nb D M (.slice x' n' c') R2 (H ++ [z]) W ∧ Turns (fun q => R1.ownBlock = some q) wr w3) := by
  obtain ⟨x', n', c', w3, hr, ho, hb, t, hg⟩ := push_one2 (a := z) #[.int .i64 z] rfl nrow h.o1 h.bel.size hs (by omega)
  have l2 := fun g q => (World.ownsRow.lt h.o2 g q).2
  exact ⟨x', n', c', w3, hr, hid ⟨⟨h.bel.trans hb, h.mp.turns t (fun e => h.n1 mb e rfl), h.mB, ho, h.o2.turns t (fun g q e => h.ap g e q), fun g q1 q2 => by
      rcases hg g q1 with e | e
      · exact h.ap g e q2
      · have := l2 g q2; omega, fun g q e => by
      rcases hg g q with e2 | e2
      · exact h.n1 g e2 e
      · have := h.mp.lt; omega, h.n2⟩, t⟩⟩
theorem Mm.push2 (h : Mm wA wr mb nb D M R1 R2 H W) (z : Int) (hs : W.length + 1 ≤ 17592186043904) :
    ∃ x' n' c' w3, (Builtin.append_ #[22, 22] 22 #[R2, .slice (some ⟨wr.heap.size, 0, none⟩) 1 1]).run Try.prog (wr.alloc (.cells #[.int .i64 z] 3)) = .ok (.slice x' n' c') w3 ∧ Hid (Mm wA w3 mb nb D M R1 (.slice x' n' c') H (W ++ [z])) := by
  obtain ⟨x', n', c', w3, hr, ho, hb, t, hg⟩ := push_one2 (a := z) #[.int .i64 z] rfl nrow h.o2 h.bel.size hs (by omega)
  have l1 := fun g q => (World.ownsRow.lt h.o1 g q).2
  exact ⟨x', n', c', w3, hr, hid ⟨h.bel.trans hb, h.mp.turns t (fun e => h.n2 mb e rfl), h.mB, h.o1.turns t (fun g q e => h.ap g q e), ho, fun g q1 q2 => by
      rcases hg g q2 with e | e
      · exact h.ap g q1 e
      · have := l1 g q1; omega, h.n1, fun g q e => by
      rcases hg g q with e2 | e2
      · exact h.n2 g e2 e
      · have := h.mp.lt; omega⟩⟩
/- The three are new. -/
theorem Mm.start (w : World) : Mm w (((w.alloc (.cells #[] 3)).alloc (.cells #[] 3)).alloc (.map #[] 0)) (w.heap.size + 2) 0 (.map []) [] (.slice (some ⟨w.heap.size, 0, none⟩) 0 0) (.slice (some ⟨w.heap.size + 1, 0, none⟩) 0 0) [] [] := by
  have b1 := al w (.cells #[] 3)
  have b2 := al (w.alloc (.cells #[] 3)) (.cells #[] 3)
  have b3 := al ((w.alloc (.cells #[] 3)).alloc (.cells #[] 3)) (.map #[] 0)
  have m := BmAt.new ((w.alloc (.cells #[] 3)).alloc (.cells #[] 3))
  rw [show ((w.alloc (.cells #[] 3)).alloc (.cells #[] 3)).heap.size = w.heap.size + 2 by simp] at m
  have o2 := Own.empty (w.alloc (.cells #[] 3)) (B := w.heap.size) b1.size 3 1 enN
  rw [show (w.alloc (.cells #[] 3)).heap.size = w.heap.size + 1 by simp] at o2
  refine ⟨on b1 (on b2 b3), m, by omega, ((Own.empty w (Nat.le_refl _) 3 1 enN).below b2).below b3, o2.below b3, fun g h1 h2 => ?_, fun g h1 => ?_, fun g h1 => ?_⟩
  · simp [Value.ownBlock] at h1 h2; omega
  · simp [Value.ownBlock] at h1; omega
  · simp [Value.ownBlock] at h1; omega
end
end Go.Proofs.Ytgcjecmgjncclaa.Pe

/-
  2 texts of this proof, one behind the other: IvBefore, IvLast.
-/
import Derived.Test.YthlfmbijagpggaaGreatJIvAll
/-
  Package interval: Before.
  Conditions: the row of maps lies in memory.
-/
namespace Go.Proofs.YthlfmbijagpggaaGreat.Iv
open Go.RowKit By Fl At Cr Pl
set_option linter.unusedVariables false
set_option linter.unusedSimpArgs false
set_option maxRecDepth 100000
attribute [local go_sem] Oper.semAt_some

def ahead (epoch : Int) (s : Span) : Bool := decide (s.fr < epoch)
def BeforeSays (w : World) (ms : List Mp) (pg epoch : Int) (e : Ending) (w' : World) : Prop :=
  (okM ms pg = false ∧ e = .returned (.tuple #[.slice none 0 0, .int .i64 1]) ∧ Below w.heap.size w w') ∨ (okM ms pg = true ∧ ∃ x n c, e = .returned (.tuple #[.slice x n c, .int .i64 0]) ∧ CollSays w w' ((bks ms pg).filter (ahead epoch)) x n c)

set_option maxHeartbeats 3200000 in
theorem before_yes {w : World} {x : Option Addr} {n c : Nat} {L : List MV} (h : Ms w x n c L) (pg epoch : Int) (hok : okM (L.map MV.m) pg = true) :
    Calls Tryz.prog 9 #[.slice x n c, .int .i64 pg, .int .i64 epoch] w fun e w' => ∃ x' n' c', e = .returned (.tuple #[.slice x' n' c', .int .i64 0]) ∧ CollSays w w' ((bks (L.map MV.m) pg).filter (ahead epoch)) x' n' c' := by
  obtain ⟨wA, hwA⟩ : ∃ wA, wA = w.alloc (.cells #[.int .i64 epoch] 3) := ⟨_, rfl⟩
  have bA : Below w.heap.size w wA := by rw [hwA]; exact al _ _
  have hEb : wA.heap[w.heap.size]? = some (.cells #[.int .i64 epoch] 3 (0, 0)) := by rw [hwA]; exact heap_alloc_new _ _
  have cM := mapsmay_any (h.below bA) pg
  rw [hok] at cM
  have HG : Hid (∀ w1, Below w.heap.size w w1 → Gives 8 29 #[.pointer (some ⟨w1.heap.size, 0, none⟩), .pointer (some ⟨w1.heap.size + 1, 0, none⟩)] (bks (L.map MV.m) pg).length (OkS (bks (L.map MV.m) pg)) (fun k => k < w.heap.size ∨ k = w1.heap.size ∨ k = w1.heap.size + 1) ((w1.alloc (.cells #[.slice x n c] 26)).alloc (.cells #[.int .i64 pg] 3))) := fun w1 hb => back_at h hok hb
  have hlen : (bks (L.map MV.m) pg).length ≤ 4096 := Nat.le_trans (bks_len _ _) (rw_of hok).le
  have HB := hid (And.intro bA hEb)
  have HL := hid hlen
  clear h hok bA hEb hlen
  generalize bks (L.map MV.m) pg = T at *
  refine (callsIn_wide (n := 9)).1 ?_
  refine callsIn_of_wp_marks Tryz.func9 rfl trivial ?_ rfl
  simp only [Tryz.ntmps9, List.size_toArray, List.length_cons, List.length_nil, Nat.reduceAdd, Nat.reduceSub, Array.replicate_succ, Array.replicate_zero, List.push_toArray, List.append_toArray, List.nil_append, List.cons_append]
  rw [hwA] at cM
  gi_wp2
  refine ⟨trivial, (callsIn_wide.2 cM).mono ?_⟩
  rintro e w1 ⟨rfl, hb1⟩
  rw [← hwA] at hb1
  clear cM hwA
  have cB := back_make x n c pg (w1.alloc (.cells #[.slice none 0 0] 30))
  gi_wp2
  refine ⟨trivial, (callsIn_wide.2 cB).mono ?_⟩
  rintro e w' ⟨rfl, hw'⟩
  subst w'
  clear cB
  obtain ⟨w2, hw2⟩ : ∃ w2, w2 = w1.alloc (.cells #[.slice none 0 0] 30) := ⟨_, rfl⟩
  have b2 : Below w1.heap.size w1 w2 := by rw [hw2]; exact al _ _
  have hz2 : w2.heap.size = w1.heap.size + 1 := by rw [hw2]; simp
  have hbx : w2.heap[w1.heap.size]? = some (.cells #[.slice none 0 0] 30 (0, 0)) := by rw [hw2]; exact heap_alloc_new _ _
  rw [← hw2]
  clear hw2
  have bw1 := on HB.out.1 hb1
  have bw2 := on bw1 b2
  have hG := HG.out w2 bw2
  obtain ⟨W0, hW0⟩ : ∃ W0, W0 = (w2.alloc (.cells #[.slice x n c] 26)).alloc (.cells #[.int .i64 pg] 3) := ⟨_, rfl⟩
  have b20 : Below w2.heap.size w2 W0 := by rw [hW0]; exact on (al _ _) (al _ _)
  have hz0 : W0.heap.size = w2.heap.size + 2 := by rw [hW0]; simp
  rw [← hW0, hz2] at hG
  have hlt : w.heap.size < wA.heap.size := (Array.getElem?_eq_some_iff.1 HB.out.2).1
  have hs1 := hb1.size
  have HS := hid (And.intro bw2 (And.intro b20 (And.intro hbx (And.intro (on hb1 (on b2 b20)) (And.intro hz0 (And.intro hz2 (And.intro hlt hs1)))))))
  have HGG := hid hG
  clear hG HG bw1 bw2 b2 hbx hb1 b20
  gi_wp2
  rw [← hW0]
  clear hW0
  refine range_gives (gf := 29) (lb := #[.pointer (some ⟨w1.heap.size + 1, 0, none⟩), .pointer (some ⟨w1.heap.size + 1 + 1, 0, none⟩)]) (N := T.length) (Ok := OkS T) (by omega) rfl (enters_of Tryz.func29 (by kernel_rfl) rfl) HGG.out ?rd ?ps (okS_abd T)
    (fun X Z i W => ∃ L R, CJ w wA (fun k => k = w.heap.size) T (ahead epoch) w1.heap.size X Z i W L R) (fun _ _ _ _ _ => False) (cj_abd _ _ _ _ _ _) (fun c X Z X' Z' i A B h => h.elim) ?start ?round ?done ?stop
  case rd =>
    intro k hk
    have z := HS.out.1.size
    rcases hk with hk | rfl | rfl <;> omega
  case ps =>
    rintro X Z i a W ⟨v, _, rfl, _⟩
    rfl
  case start =>
    obtain ⟨bw2, b20, hbx, bA0, _⟩ := HS.out
    have zA := HB.out.1.size
    refine ⟨[], .slice none 0 0, (b20.block _ (by omega)).trans hbx, Own.nil _ _ _ _ _, by simp, fun v hv => (List.not_mem_nil hv).elim, fun e => e, fun e => ?_, fun g hg => ?_, on bw2 b20, fun k e => e.elim, by omega, fun k e => ?_⟩
    · rcases e with e | e | e <;> omega
    · simp [Value.ownBlock] at hg
    · subst e
      exact ⟨fun e => e, by omega, by omega, by simp [Value.ownBlock], bA0.block _ hlt⟩
  case round =>
    rintro l X Z i a W hf hl hXl hI0 ⟨v, hv, rfl, hsp, hbz⟩
    clear hI0
    unfold vS
    gi_wp2
    refine ⟨al _ _, fun W2 t2 hf2 hI hO => ?_⟩
    clear hO
    obtain ⟨L1, R, hC⟩ := hI
    have hne : ¬ W.heap.size = l := by omega
    have hvb : W2.heap[W.heap.size]? = some (.cells (cS v) 36 (0, 0)) := (t2.block _ (by simp) hne).trans (heap_alloc_new _ _)
    have hsp2 : SpAt W2 v := (hsp.below (al _ _)).turns t2 (fun k hk e => (hbz k hk).2 (by have e' : k = l := e; rw [e']; exact hXl))
    obtain ⟨a0, a1, a2, a3, a4, a5⟩ := SBox.at hvb
    have c0 : W2.cell? ⟨w1.heap.size, 0, none⟩ = some R := cell_heap hC.box rfl
    have ce : W2.cell? ⟨w.heap.size, 0, none⟩ = some (.int .i64 epoch) := cell_heap (((hC.kp _ rfl).2.2.2.2).trans HB.out.2) rfl
    by_cases hp : v.s.fr < epoch
    · have hP : ahead epoch v.s = true := by unfold ahead; simpa using hp
      obtain ⟨x', n', c', w3, hap, hc3, hf3, HP⟩ := hC.push hf2 hv hsp2 hbz hP HL.out (Below.refl _ _)
      clear hvb hsp2 hC hsp hbz hv t2
      gi_wp2_with (first
        | (gi_at_builtin; refine wpListIn_append_run rfl _ _ _ rfl _ _ rfl rfl hap ?_)
        | gi_in)
      exact ⟨HP.out.1, HP.out.2⟩
    · have hP : ahead epoch v.s = false := by unfold ahead; simpa using hp
      have HP := hid (hC.skip hf2 hv hP (Below.refl _ _))
      clear hvb hsp2 hC hsp hbz hv t2
      gi_wp2
      exact ⟨HP.out.1, HP.out.2⟩
  case done =>
    rintro D X Z W hD hf hXD ⟨L1, R, hC⟩ hDk
    have c0 : W.cell? ⟨w1.heap.size, 0, none⟩ = some R := cell_heap hC.box rfl
    obtain ⟨x1, c1, e, _, _, _⟩ := hC.own.form
    have HC : Hid (CollSays w (W.putObj D (.deferred none)) (T.filter (ahead epoch)) x1 L1.length c1) := by
      have tD := put_turns (W := W) (l := D) (.deferred none)
      have nD : ∀ k, k = D → X k := fun k e => by rw [e]; exact hXD
      refine ⟨L1, hC.bel.trans (tD.below (fun k e => hC.xlo k (nD k e)) hC.bel.size), ?_, ?_, fun v hv => ⟨(hC.spa v hv).1.turns tD (fun k hk e => ((hC.spa v hv).2 k hk).1 (nD k e)), fun k hk => ?_⟩⟩
      · rw [← e]
        exact hC.own.turns tD (fun g hg e => (hC.row g hg).1 (nD g e))
      · rw [hC.lst, List.take_length]
      · rw [← e]
        exact ((hC.spa v hv).2 k hk).2.2
    rw [e] at c0
    clear hC e
    gi_wp2
    refine ⟨by simp, .inl ⟨_, _, rfl, run_takeDeferred hDk, ?_⟩⟩
    exact ⟨_, results_tmp2 rfl _ _ _, _, _, _, rfl, HC.out⟩
  case stop =>
    rintro D c X Z i W _ _ _ _ h
    exact h.elim

theorem before_any {w : World} {x : Option Addr} {n c : Nat} {L : List MV} (h : Ms w x n c L) (pg epoch : Int) :
    Calls Tryz.prog 9 #[.slice x n c, .int .i64 pg, .int .i64 epoch] w fun e w' => BeforeSays w (L.map MV.m) pg epoch e w' := by
  unfold BeforeSays
  cases hok : okM (L.map MV.m) pg with
  | true => exact (before_yes h pg epoch hok).mono fun e w' hh => .inr ⟨rfl, hh⟩
  | false =>
    have bA := al w (.cells #[.int .i64 epoch] 3)
    have cM := mapsmay_any (h.below bA) pg
    rw [hok] at cM
    have HB := hid bA
    clear h hok bA
    refine (callsIn_wide (n := 9)).1 ?_
    refine callsIn_of_wp_marks Tryz.func9 rfl trivial ?_ rfl
    simp only [Tryz.ntmps9, List.size_toArray, List.length_cons, List.length_nil, Nat.reduceAdd, Nat.reduceSub, Array.replicate_succ, Array.replicate_zero, List.push_toArray, List.append_toArray, List.nil_append, List.cons_append]
    gi_wp2
    refine ⟨trivial, (callsIn_wide.2 cM).mono ?_⟩
    rintro e w1 ⟨rfl, hb1⟩
    clear cM
    gi_wp2
    exact ⟨_, results_tmp2 rfl _ _ _, .inl ⟨trivial, rfl, on HB.out hb1⟩⟩

end Go.Proofs.YthlfmbijagpggaaGreat.Iv

/-
  Package interval: Last.
  Conditions: the row of maps lies in memory.
-/
namespace Go.Proofs.YthlfmbijagpggaaGreat.Iv
open Go.RowKit By Fl At Cr Pl
set_option linter.unusedVariables false
set_option linter.unusedSimpArgs false
set_option maxRecDepth 100000
attribute [local go_sem] Oper.semAt_some

def zS : Array Value := #[.int .i64 0, .int .i64 0, .slice none 0 0, .slice none 0 0, .slice none 0 0, .int .i64 0]
def LastSays (w : World) (ms : List Mp) (pg : Int) (e : Ending) (w' : World) : Prop :=
  (okM ms pg = false ∧ e = .returned (.tuple #[.agg zS, .int .i64 1]) ∧ Below w.heap.size w w') ∨ (okM ms pg = true ∧ ∃ v : SpV, e = .returned (.tuple #[vS v, .int .i64 0]) ∧ Below w.heap.size w w' ∧ SpAt w' v ∧ (bks ms pg)[0]? = some v.s)

/- Ahead of the one round. -/
structure LI (w : World) (rb lb : Nat) (X Z : Nat → Prop) (i : Nat) (W : World) : Prop where
  zero : i = 0
  box : W.heap[lb]? = some (.cells zS 36 (0, 0))
  res : W.heap[rb]? = some (.cells zS 36 (0, 0))
  nx : ¬ X lb ∧ ¬ X rb ∧ ¬ Z lb
  nz : ¬ Z rb
  bel : Below w.heap.size w W
  xlo : ∀ k, X k → w.heap.size ≤ k

theorem li_abd (w : World) (rb lb : Nat) : Abd (LI w rb lb) := by
  rintro X Z X' Z' i A B h t hX hZ hs hlt
  have s1 : lb < A.heap.size := (Array.getElem?_eq_some_iff.1 h.box).1
  have s2 : rb < A.heap.size := (Array.getElem?_eq_some_iff.1 h.res).1
  have nX : ∀ k, k < A.heap.size → ¬ X k → ¬ X' k := fun k hk hn e => by
    rcases hX k e with e | e
    · exact hn e
    · omega
  refine ⟨h.zero, (t.block lb s1 h.nx.1).trans h.box, (t.block rb s2 h.nx.2.1).trans h.res, ⟨nX lb s1 h.nx.1, nX rb s2 h.nx.2.1, fun e => ?_⟩, fun e => ?_, h.bel.trans (t.below h.xlo h.bel.size), fun k hk => ?_⟩
  · rcases hZ lb e with e | e
    · exact h.nx.2.2 e
    · omega
  · rcases hZ rb e with e | e
    · exact h.nz e
    · omega
  · rcases hX k hk with e | e
    · exact h.xlo k e
    · exact Nat.le_trans h.bel.size e

/- Behind it. -/
structure LX (w : World) (rb lb : Nat) (T : List Span) (c : Code) (X Z : Nat → Prop) (i : Nat) (W : World) (v : SpV) : Prop where
  code : c = .exit 0
  box : SBox W lb v
  res : W.heap[rb]? = some (.cells zS 36 (0, 0))
  nx : ¬ X lb ∧ ¬ X rb
  spa : SpAt W v
  bls : ∀ k, blks v k → ¬ X k ∧ k ≠ rb
  get : T[0]? = some v.s
  bel : Below w.heap.size w W
  xlo : ∀ k, X k → w.heap.size ≤ k

theorem lx_abd (w : World) (rb lb : Nat) (T : List Span) (c : Code) : Abd (fun X Z i W => ∃ v, LX w rb lb T c X Z i W v) := by
  rintro X Z X' Z' i A B ⟨v, h⟩ t hX hZ hs hlt
  have s1 : lb < A.heap.size := h.box.lt
  have s2 : rb < A.heap.size := (Array.getElem?_eq_some_iff.1 h.res).1
  have nX : ∀ k, k < A.heap.size → ¬ X k → ¬ X' k := fun k hk hn e => by
    rcases hX k e with e | e
    · exact hn e
    · omega
  refine ⟨v, h.code, h.box.turns t h.nx.1, (t.block rb s2 h.nx.2).trans h.res, ⟨nX lb s1 h.nx.1, nX rb s2 h.nx.2⟩, h.spa.turns t (fun k hk => (h.bls k hk).1), fun k hk => ⟨nX k (h.spa.lt hk) (h.bls k hk).1, (h.bls k hk).2⟩, h.get, h.bel.trans (t.below h.xlo h.bel.size), fun k hk => ?_⟩
  rcases hX k hk with e | e
  · exact h.xlo k e
  · exact Nat.le_trans h.bel.size e

set_option maxHeartbeats 3200000 in
theorem last_yes {w : World} {x : Option Addr} {n c : Nat} {L : List MV} (h : Ms w x n c L) (pg : Int) (hok : okM (L.map MV.m) pg = true) :
    Calls Tryz.prog 8 #[.slice x n c, .int .i64 pg] w fun e w' => ∃ v : SpV, e = .returned (.tuple #[vS v, .int .i64 0]) ∧ Below w.heap.size w w' ∧ SpAt w' v ∧ (bks (L.map MV.m) pg)[0]? = some v.s := by
  obtain ⟨wA, hwA⟩ : ∃ wA, wA = w.alloc (.cells zS 36) := ⟨_, rfl⟩
  have bA : Below w.heap.size w wA := by rw [hwA]; exact al _ _
  have hRb : wA.heap[w.heap.size]? = some (.cells zS 36 (0, 0)) := by rw [hwA]; exact heap_alloc_new _ _
  have cM := mapsmay_any (h.below bA) pg
  rw [hok] at cM
  have HG : Hid (∀ w1, Below w.heap.size w w1 → Gives 8 29 #[.pointer (some ⟨w1.heap.size, 0, none⟩), .pointer (some ⟨w1.heap.size + 1, 0, none⟩)] (bks (L.map MV.m) pg).length (OkS (bks (L.map MV.m) pg)) (fun k => k < w.heap.size ∨ k = w1.heap.size ∨ k = w1.heap.size + 1) ((w1.alloc (.cells #[.slice x n c] 26)).alloc (.cells #[.int .i64 pg] 3))) := fun w1 hb => back_at h hok hb
  have hpos : 1 ≤ (bks (L.map MV.m) pg).length := by
    have := ivs_ne (rw_of hok).ne pg
    unfold bks
    rw [List.length_reverse]
    exact List.length_pos_iff.2 this
  have HB := hid (And.intro bA hRb)
  have HL := hid hpos
  clear h hok bA hRb hpos
  generalize bks (L.map MV.m) pg = T at *
  refine (callsIn_wide (n := 9)).1 ?_
  refine callsIn_of_wp_marks Tryz.func8 rfl trivial ?_ rfl
  simp only [Tryz.ntmps8, List.size_toArray, List.length_cons, List.length_nil, Nat.reduceAdd, Nat.reduceSub, Array.replicate_succ, Array.replicate_zero, List.push_toArray, List.append_toArray, List.nil_append, List.cons_append]
  unfold zS at hwA
  rw [hwA] at cM
  gi_wp2
  refine ⟨trivial, (callsIn_wide.2 cM).mono ?_⟩
  rintro e w1 ⟨rfl, hb1⟩
  rw [← hwA] at hb1
  clear cM hwA
  obtain ⟨w2, hw2⟩ : ∃ w2, w2 = w1.alloc (.cells #[.int .i64 0, .int .i64 0, .slice none 0 0, .slice none 0 0, .slice none 0 0, .int .i64 0] 36) := ⟨_, rfl⟩
  have b2 : Below w1.heap.size w1 w2 := by rw [hw2]; exact al _ _
  have hz2 : w2.heap.size = w1.heap.size + 1 := by rw [hw2]; simp
  have hbx : w2.heap[w1.heap.size]? = some (.cells zS 36 (0, 0)) := by rw [hw2]; exact heap_alloc_new _ _
  have cB := back_make x n c pg w2
  rw [hw2] at cB
  gi_wp2
  refine ⟨trivial, (callsIn_wide.2 cB).mono ?_⟩
  rintro e w' ⟨rfl, hw'⟩
  subst w'
  clear cB
  rw [← hw2]
  clear hw2
  have bw1 := on HB.out.1 hb1
  have bw2 := on bw1 b2
  have hG := HG.out w2 bw2
  obtain ⟨W0, hW0⟩ : ∃ W0, W0 = (w2.alloc (.cells #[.slice x n c] 26)).alloc (.cells #[.int .i64 pg] 3) := ⟨_, rfl⟩
  have b20 : Below w2.heap.size w2 W0 := by rw [hW0]; exact on (al _ _) (al _ _)
  have hz0 : W0.heap.size = w2.heap.size + 2 := by rw [hW0]; simp
  rw [← hW0, hz2] at hG
  have hlt : w.heap.size < wA.heap.size := (Array.getElem?_eq_some_iff.1 HB.out.2).1
  have hs1 := hb1.size
  have HS := hid (And.intro bw2 (And.intro b20 (And.intro hbx (on hb1 (on b2 b20)))))
  have HGG := hid hG
  clear hG HG bw1 bw2 b2 hbx hb1 b20
  gi_wp2
  rw [← hW0]
  clear hW0
  refine range_gives (gf := 29) (lb := #[.pointer (some ⟨w1.heap.size + 1, 0, none⟩), .pointer (some ⟨w1.heap.size + 1 + 1, 0, none⟩)]) (N := T.length) (Ok := OkS T) (by omega) rfl (enters_of Tryz.func29 (by kernel_rfl) rfl) HGG.out ?rd ?ps (okS_abd T)
    (LI w w.heap.size w1.heap.size) (fun c X Z i W => ∃ v, LX w w.heap.size w1.heap.size T c X Z i W v) (li_abd _ _ _) (lx_abd _ _ _ _) ?start ?round ?done ?stop
  case rd =>
    intro k hk
    have z := HS.out.1.size
    rcases hk with hk | rfl | rfl <;> omega
  case ps =>
    rintro X Z i a W ⟨v, _, rfl, _⟩
    rfl
  case start =>
    obtain ⟨bw2, b20, hbx, bA0⟩ := HS.out
    refine ⟨rfl, (b20.block _ (by omega)).trans hbx, (bA0.block _ hlt).trans HB.out.2, ⟨fun e => e, fun e => e, fun e => ?_⟩, fun e => ?_, on bw2 b20, fun k e => e.elim⟩
    · rcases e with e | e | e <;> omega
    · rcases e with e | e | e <;> omega
  case round =>
    rintro l X Z i a W hf hl hXl hI0 ⟨v, hv, rfl, hsp, hbz⟩
    clear hI0
    unfold vS
    gi_wp2
    refine ⟨al _ _, fun W2 t2 hf2 hI hO => ?_⟩
    clear hO
    have hne : ¬ W.heap.size = l := by omega
    have hvb : W2.heap[W.heap.size]? = some (.cells (cS v) 36 (0, 0)) := (t2.block _ (by simp) hne).trans (heap_alloc_new _ _)
    have hsp2 : SpAt W2 v := (hsp.below (al _ _)).turns t2 (fun k hk e => (hbz k hk).2 (by have e' : k = l := e; rw [e']; exact hXl))
    obtain ⟨a0, a1, a2, a3, a4, a5⟩ := SBox.at hvb
    have hb := hI.box
    unfold zS at hb
    have f0 := fr_heap hb 0
    have f1 := fr_heap hb 1
    have f2 := fr_heap hb 2
    have f3 := fr_heap hb 3
    have f4 := fr_heap hb 4
    have f5 := fr_heap hb 5
    have c0 : W2.cell? ⟨w1.heap.size, 0, none⟩ = some (.int .i64 0) := cell_heap hb rfl
    have c1 : W2.cell? ⟨w1.heap.size, 1, none⟩ = some (.int .i64 0) := cell_heap hb rfl
    have c2 : W2.cell? ⟨w1.heap.size, 2, none⟩ = some (.slice none 0 0) := cell_heap hb rfl
    have c3 : W2.cell? ⟨w1.heap.size, 3, none⟩ = some (.slice none 0 0) := cell_heap hb rfl
    have c4 : W2.cell? ⟨w1.heap.size, 4, none⟩ = some (.slice none 0 0) := cell_heap hb rfl
    have c5 : W2.cell? ⟨w1.heap.size, 5, none⟩ = some (.int .i64 0) := cell_heap hb rfl
    have HP : Hid (Turns (fun k => ¬ Z k) W2 (put6 W2 w1.heap.size v) ∧ LX w w.heap.size w1.heap.size T (.exit 0) X Z (i + 1) (put6 W2 w1.heap.size v) v) := by
      have tp := turns_put6 W2 w1.heap.size v
      have z1 : w.heap.size ≠ w1.heap.size := by omega
      refine ⟨tp.weak fun k hk e => hI.nx.2.2 (hk ▸ e), rfl, put6_box hI.box rfl v, (tp.block _ (Array.getElem?_eq_some_iff.1 hI.res).1 z1).trans hI.res, ⟨hI.nx.1, hI.nx.2.1⟩, hsp2.turns tp (fun k hk e => ?_), fun k hk => ⟨(hbz k hk).2, fun e => ?_⟩, ?_, hI.bel.trans (tp.below (fun k hk => ?_) hI.bel.size), hI.xlo⟩
      · have e' : k = w1.heap.size := e
        exact hI.nx.2.2 (e' ▸ (hbz k hk).1)
      · exact hI.nz (e ▸ (hbz k hk).1)
      · rw [hI.zero] at hv
        exact hv
      · have e' : k = w1.heap.size := hk
        have := HB.out.1.size
        omega
    unfold put6 at HP
    clear hvb hsp2 hsp hbz hv t2 hb hI
    gi_wp2
    exact ⟨HP.out.1, .inr ⟨_, rfl, v, HP.out.2⟩⟩
  case done =>
    rintro D X Z W hD hf hXD hI hDk
    have := hI.zero
    have := HL.out
    omega
  case stop =>
    rintro D c X Z i W hD hf hXD hi ⟨v, hX⟩ hDk
    obtain ⟨rfl, x1, x2, x3, x4, x5, x6, x7, x8⟩ := hX
    obtain ⟨a0, a1, a2, a3, a4, a5⟩ := x1.at
    unfold zS at x2
    have f0 := fr_heap x2 0
    have f1 := fr_heap x2 1
    have f2 := fr_heap x2 2
    have f3 := fr_heap x2 3
    have f4 := fr_heap x2 4
    have f5 := fr_heap x2 5
    have c0 : W.cell? ⟨w.heap.size, 0, none⟩ = some (.int .i64 0) := cell_heap x2 rfl
    have c1 : W.cell? ⟨w.heap.size, 1, none⟩ = some (.int .i64 0) := cell_heap x2 rfl
    have c2 : W.cell? ⟨w.heap.size, 2, none⟩ = some (.slice none 0 0) := cell_heap x2 rfl
    have c3 : W.cell? ⟨w.heap.size, 3, none⟩ = some (.slice none 0 0) := cell_heap x2 rfl
    have c4 : W.cell? ⟨w.heap.size, 4, none⟩ = some (.slice none 0 0) := cell_heap x2 rfl
    have c5 : W.cell? ⟨w.heap.size, 5, none⟩ = some (.int .i64 0) := cell_heap x2 rfl
    have tp := turns_put6 W w.heap.size v
    have hDr : D ≠ w.heap.size := fun e => x3.2 (e ▸ hXD)
    have sD : D < W.heap.size := (Array.getElem?_eq_some_iff.1 hDk).1
    have hDk9 : (put6 W w.heap.size v).heap[D]? = some (.deferred (some [])) := (tp.block D sD hDr).trans hDk
    have tD := put_turns (W := put6 W w.heap.size v) (l := D) (.deferred none)
    have HF : Hid (Below w.heap.size w ((put6 W w.heap.size v).putObj D (.deferred none)) ∧ SpAt ((put6 W w.heap.size v).putObj D (.deferred none)) v ∧ T[0]? = some v.s ∧ SBox ((put6 W w.heap.size v).putObj D (.deferred none)) w.heap.size v) := by
      refine ⟨(x7.trans (tp.below (fun k e => by have e' : k = w.heap.size := e; omega) x7.size)).trans (tD.below (fun k e => x8 k (by have e' : k = D := e; rw [e']; exact hXD)) (Nat.le_trans x7.size tp.size)), (x4.turns tp (fun k hk e => (x5 k hk).2 e)).turns tD (fun k hk e => (x5 k hk).1 (by have e' : k = D := e; rw [e']; exact hXD)), x6, (put6_box x2 rfl v).turns tD (fun e => hDr e.symm)⟩
    have HD9 := hid hDk9
    unfold put6 at HF HD9
    clear x1 x2 x3 x4 x5 x6 x7 x8 tp hDk9 tD
    gi_wp2
    refine ⟨by simp, .inl ⟨_, _, rfl, run_takeDeferred HD9.out, ?_⟩⟩
    obtain ⟨g1, g2, g3, g4⟩ := HF.out
    refine ⟨.tuple #[vS v, .int .i64 0], ?_, v, rfl, g1, g2, g3⟩
    rw [results_cell2 rfl]
    obtain ⟨a0, a1, a2, a3, a4, a5⟩ := g4.at
    clear HF HD9 g1 g2 g3 g4 c0 c1 c2 c3 c4 c5 f0 f1 f2 f3 f4 f5
    unfold vS
    generalize (World.putObj _ D (.deferred none)) = W9 at *
    go_simp

set_option maxHeartbeats 1600000 in
theorem last_any {w : World} {x : Option Addr} {n c : Nat} {L : List MV} (h : Ms w x n c L) (pg : Int) :
    Calls Tryz.prog 8 #[.slice x n c, .int .i64 pg] w fun e w' => LastSays w (L.map MV.m) pg e w' := by
  unfold LastSays
  cases hok : okM (L.map MV.m) pg with
  | true => exact (last_yes h pg hok).mono fun e w' hh => .inr ⟨rfl, hh⟩
  | false =>
    obtain ⟨wA, hwA⟩ : ∃ wA, wA = w.alloc (.cells #[.int .i64 0, .int .i64 0, .slice none 0 0, .slice none 0 0, .slice none 0 0, .int .i64 0] 36) := ⟨_, rfl⟩
    have bA : Below w.heap.size w wA := by rw [hwA]; exact al _ _
    have hRb : wA.heap[w.heap.size]? = some (.cells #[.int .i64 0, .int .i64 0, .slice none 0 0, .slice none 0 0, .slice none 0 0, .int .i64 0] 36 (0, 0)) := by rw [hwA]; exact heap_alloc_new _ _
    have cM := mapsmay_any (h.below bA) pg
    rw [hok] at cM
    have HB := hid (And.intro bA hRb)
    clear h hok bA hRb
    refine (callsIn_wide (n := 9)).1 ?_
    refine callsIn_of_wp_marks Tryz.func8 rfl trivial ?_ rfl
    simp only [Tryz.ntmps8, List.size_toArray, List.length_cons, List.length_nil, Nat.reduceAdd, Nat.reduceSub, Array.replicate_succ, Array.replicate_zero, List.push_toArray, List.append_toArray, List.nil_append, List.cons_append]
    rw [hwA] at cM
    gi_wp2
    refine ⟨trivial, (callsIn_wide.2 cM).mono ?_⟩
    rintro e w1 ⟨rfl, hb1⟩
    rw [← hwA] at hb1
    clear cM hwA
    have x2 := (hb1.block _ (Array.getElem?_eq_some_iff.1 HB.out.2).1).trans HB.out.2
    have f0 := fr_heap x2 0
    have f1 := fr_heap x2 1
    have f2 := fr_heap x2 2
    have f3 := fr_heap x2 3
    have f4 := fr_heap x2 4
    have f5 := fr_heap x2 5
    have c0 : w1.cell? ⟨w.heap.size, 0, none⟩ = some (.int .i64 0) := cell_heap x2 rfl
    have c1 : w1.cell? ⟨w.heap.size, 1, none⟩ = some (.int .i64 0) := cell_heap x2 rfl
    have c2 : w1.cell? ⟨w.heap.size, 2, none⟩ = some (.slice none 0 0) := cell_heap x2 rfl
    have c3 : w1.cell? ⟨w.heap.size, 3, none⟩ = some (.slice none 0 0) := cell_heap x2 rfl
    have c4 : w1.cell? ⟨w.heap.size, 4, none⟩ = some (.slice none 0 0) := cell_heap x2 rfl
    have c5 : w1.cell? ⟨w.heap.size, 5, none⟩ = some (.int .i64 0) := cell_heap x2 rfl
    have HT : Hid (Below w.heap.size w ((((((w1.setCell ⟨w.heap.size, 0, none⟩ (.int .i64 0)).setCell ⟨w.heap.size, 1, none⟩ (.int .i64 0)).setCell ⟨w.heap.size, 2, none⟩ (.slice none 0 0)).setCell ⟨w.heap.size, 3, none⟩ (.slice none 0 0)).setCell ⟨w.heap.size, 4, none⟩ (.slice none 0 0)).setCell ⟨w.heap.size, 5, none⟩ (.int .i64 0)) ∧ ((((((w1.setCell ⟨w.heap.size, 0, none⟩ (.int .i64 0)).setCell ⟨w.heap.size, 1, none⟩ (.int .i64 0)).setCell ⟨w.heap.size, 2, none⟩ (.slice none 0 0)).setCell ⟨w.heap.size, 3, none⟩ (.slice none 0 0)).setCell ⟨w.heap.size, 4, none⟩ (.slice none 0 0)).setCell ⟨w.heap.size, 5, none⟩ (.int .i64 0)).heap[w.heap.size]? = some (.cells #[.int .i64 0, .int .i64 0, .slice none 0 0, .slice none 0 0, .slice none 0 0, .int .i64 0] 36 (0, 0))) := by
      have bb := on HB.out.1 hb1
      refine ⟨bb.trans (Turns.below (F := fun k => k = w.heap.size) (turns_put (turns_put (turns_put (turns_put (turns_put (turns_put (Turns.refl _ w1) _ _) _ _) _ _) _ _) _ _) _ _) (fun k e => by have e' : k = w.heap.size := e; omega) bb.size), ?_⟩
      refine (heap_set (heap_set (heap_set (heap_set (heap_set (heap_set x2 _) _) _) _) _) _).trans ?_
      simp
    clear x2
    gi_wp2
    obtain ⟨g1, g2⟩ := HT.out
    refine ⟨.tuple #[.agg #[.int .i64 0, .int .i64 0, .slice none 0 0, .slice none 0 0, .slice none 0 0, .int .i64 0], .int .i64 1], ?_, .inl ⟨trivial, rfl, g1⟩⟩
    rw [results_cell2 rfl]
    have a0 := cell_heap g2 (j := 0) (v := .int .i64 0) rfl
    have a1 := cell_heap g2 (j := 1) (v := .int .i64 0) rfl
    have a2 := cell_heap g2 (j := 2) (v := .slice none 0 0) rfl
    have a3 := cell_heap g2 (j := 3) (v := .slice none 0 0) rfl
    have a4 := cell_heap g2 (j := 4) (v := .slice none 0 0) rfl
    have a5 := cell_heap g2 (j := 5) (v := .int .i64 0) rfl
    clear c0 c1 c2 c3 c4 c5 f0 f1 f2 f3 f4 f5 g1 g2 HT
    generalize (((((w1.setCell ⟨w.heap.size, 0, none⟩ (.int .i64 0)).setCell ⟨w.heap.size, 1, none⟩ (.int .i64 0)).setCell ⟨w.heap.size, 2, none⟩ (.slice none 0 0)).setCell ⟨w.heap.size, 3, none⟩ (.slice none 0 0)).setCell ⟨w.heap.size, 4, none⟩ (.slice none 0 0)).setCell ⟨w.heap.size, 5, none⟩ (.int .i64 0) = W9 at *
    go_simp

end Go.Proofs.YthlfmbijagpggaaGreat.Iv

/-
  2 texts of this proof, one behind the other: IvColl, IvColl2.
-/
import Derived.Test.YthlfmbijagpggaaIvBackG
import Derived.OwnWalkIn
/-
  Intervals that are handed over, collected in a list of one's own: slices.AppendSeq and slices.Collect.
  Conditions: at most 4,096 of them.
-/
namespace Go.Proofs.Ythlfmbijagpggaa.Iv
open Go.RowKit By Fl At Cr Pl
set_option linter.unusedVariables false
set_option linter.unusedSimpArgs false
set_option maxRecDepth 100000
attribute [local go_sem] Oper.semAt_some

theorem wpListIn_append_run {F : Fence} {n : Nat} {P : Program} {w w' : World} {ops : Array Oper} {rest : List Oper} {o : Oper} {a : Act} {Q : Exit → Act → World → Prop} {v' : Value} (hgd : o.guard = none) (s x : Operand) (t : TypeId)
    (ho : o.op = .call { callee := .builtin .append, args := #[s, x], argTypes := #[t, t] }) (v1 v2 : Value) (hs : a.eval s = v1) (hx : a.eval x = v2) (hr : (Builtin.append_ #[t, t] o.type #[v1, v2]).run P w = .ok v' w')
    (h : wpListIn F n P ops Q rest (a.put o.dst v') w') : wpListIn F n P ops Q (o :: rest) a w := by
  refine wpListIn_plain hgd fun K hK => ?_
  unfold Oper.wpIn
  refine ⟨by simp [Oper.about, ho, resolve, Target.leads, Sem.run_pure], ?_⟩
  rw [Oper.semAt_plain F _ _ (by rw [ho]; intro c hc'; cases hc')]
  simp [execOp, ho, resolve, invoke, builtin, hs, hx, hr, Result.andThen]
  exact hK _ _ h

theorem push_s {w : World} {B : Nat} {R : Value} {L : List SpV} (h : Fl.Own w B 25 6 enS R L) (v : SpV) (hl : L.length ≤ 5000) (hB : B ≤ w.heap.size) :
    ∃ x' c' w3, (Builtin.append_ #[34, 34] 34 #[R, .slice (some ⟨w.heap.size, 0, none⟩) 1 1]).run Try.prog (w.alloc (.cells #[.int .i64 v.s.fr, .int .i64 v.s.til, .slice v.x1 v.n1 v.c1, .slice v.x2 v.n2 v.c2, .slice v.x3 v.n3 v.c3, .int .i64 (prm v.s.ac)] 25)) = .ok (.slice x' (L.length + 1) c') w3 ∧
      Hid (Fl.Own w3 B 25 6 enS (.slice x' (L.length + 1) c') (L ++ [v]) ∧ Turns (fun j => R.ownBlock = some j) w w3 ∧ ∀ g, (Value.slice x' (L.length + 1) c').ownBlock = some g → R.ownBlock = some g ∨ w.heap.size ≤ g) := by
  have b1 := al w (.cells #[.int .i64 v.s.fr, .int .i64 v.s.til, .slice v.x1 v.n1 v.c1, .slice v.x2 v.n2 v.c2, .slice v.x3 v.n3 v.c3, .int .i64 (prm v.s.ac)] 25)
  obtain ⟨x', c', w3, hap, HO⟩ := (h.below b1).push srow (by simp; omega) ⟨w.heap.size, 0, none⟩ 1 1 [v] rfl (fun j u hj => by
    rw [add_at, Nat.zero_add]
    rw [flat_one] at hj
    have e : w.heap.size < (w.alloc (.cells (cS v) 25)).heap.size := by simp
    have hh : (w.alloc (.cells (cS v) 25)).heap[w.heap.size]? = some (.cells (cS v) 25 (0, 0)) := heap_alloc_new _ _
    exact cell_heap hh (by simpa [cS, enS] using hj)) (by omega)
  obtain ⟨o3, t3, n3⟩ := HO.out
  refine ⟨x', c', w3, hap, o3, (Turns.of_below b1).trans t3, fun g hg => ?_⟩
  rcases n3 g hg with e | e
  · exact .inl e
  · right
    rw [e]
    simp

/- What is collected between two rounds: those of the first i that P takes. -/
structure CJ (w w1 : World) (Kp : Nat → Prop) (T : List Span) (P : Span → Bool) (Bs : Nat) (X Z : Nat → Prop) (i : Nat) (W : World) (L : List SpV) (R : Value) : Prop where
  box : W.heap[Bs]? = some (.cells #[R] 34 (0, 0))
  own : Fl.Own W w.heap.size 25 6 enS R L
  lst : L.map SpV.s = (T.take i).filter P
  spa : ∀ v ∈ L, SpAt W v ∧ ∀ k, blks v k → ¬ X k ∧ k ≠ Bs ∧ R.ownBlock ≠ some k
  nxb : ¬ X Bs
  nzb : ¬ Z Bs
  row : ∀ g, R.ownBlock = some g → ¬ X g ∧ ¬ Z g ∧ g ≠ Bs
  bel : Below w.heap.size w W
  xlo : ∀ k, X k → w.heap.size ≤ k
  hBs : w.heap.size ≤ Bs
  kp : ∀ k, Kp k → ¬ X k ∧ k < W.heap.size ∧ k ≠ Bs ∧ R.ownBlock ≠ some k ∧ W.heap[k]? = w1.heap[k]?

theorem cj_abd (w w1 : World) (Kp : Nat → Prop) (T : List Span) (P : Span → Bool) (Bs : Nat) : Abd (fun X Z i W => ∃ L R, CJ w w1 Kp T P Bs X Z i W L R) := by
  rintro X Z X' Z' i A B ⟨L, R, h⟩ t hX hZ hs hlt
  have sB : Bs < A.heap.size := (Array.getElem?_eq_some_iff.1 h.box).1
  have nX : ∀ k, k < A.heap.size → ¬ X k → ¬ X' k := fun k hk hn e => by
    rcases hX k e with e | e
    · exact hn e
    · omega
  have nZ : ∀ k, k < A.heap.size → ¬ Z k → ¬ Z' k := fun k hk hn e => by
    rcases hZ k e with e | e
    · exact hn e
    · omega
  refine ⟨L, R, (t.block Bs sB h.nxb).trans h.box, h.own.turns t (fun g hg => (h.row g hg).1), h.lst, fun v hv => ⟨(h.spa v hv).1.turns t (fun k hk => ((h.spa v hv).2 k hk).1), fun k hk => ⟨nX k ((h.spa v hv).1.lt hk) ((h.spa v hv).2 k hk).1, ((h.spa v hv).2 k hk).2⟩⟩, nX Bs sB h.nxb, nZ Bs sB h.nzb, fun g hg => ?_, h.bel.trans (t.below h.xlo h.bel.size), fun k hk => ?_, h.hBs, fun k hk => ?_⟩
  · have := (h.own.tb hg).2.lt
    obtain ⟨a, b, c⟩ := h.row g hg
    exact ⟨nX g this a, nZ g this b, c⟩
  · rcases hX k hk with e | e
    · exact h.xlo k e
    · exact Nat.le_trans h.bel.size e
  · obtain ⟨k1, k2, k3, k4, k5⟩ := h.kp k hk
    exact ⟨nX k k2 k1, Nat.lt_of_lt_of_le k2 t.size, k3, k4, (t.block k k2 k1).trans k5⟩

theorem take_filter {T : List Span} {i : Nat} {s : Span} (P : Span → Bool) (h : T[i]? = some s) : (T.take (i + 1)).filter P = (T.take i).filter P ++ (if P s = true then [s] else []) := by
  rw [List.take_add_one, h, List.filter_append]
  simp [List.filter_cons]

theorem CJ.push {w w1 : World} {Kp : Nat → Prop} {T : List Span} {P : Span → Bool} {Bs : Nat} {X Z : Nat → Prop} {i : Nat} {W W2 : World} {L : List SpV} {R : Value} {v : SpV} (h : CJ w w1 Kp T P Bs X Z i W L R) (hf : Fit X Z W) (hv : T[i]? = some v.s) (hsp : SpAt W v) (hbz : ∀ k, blks v k → Z k ∧ ¬ X k) (hP : P v.s = true) (hT : T.length ≤ 4096) (hb : Below W.heap.size W W2) :
    ∃ x' n' c' w3, (Builtin.append_ #[34, 34] 34 #[R, .slice (some ⟨W2.heap.size, 0, none⟩) 1 1]).run Try.prog (W2.alloc (.cells #[.int .i64 v.s.fr, .int .i64 v.s.til, .slice v.x1 v.n1 v.c1, .slice v.x2 v.n2 v.c2, .slice v.x3 v.n3 v.c3, .int .i64 (prm v.s.ac)] 25)) = .ok (.slice x' n' c') w3 ∧
      w3.cell? ⟨Bs, 0, none⟩ = some R ∧ w3.frozen? ⟨Bs, 0, none⟩ = false ∧ Hid (Turns (fun k => ¬ Z k) W (w3.setCell ⟨Bs, 0, none⟩ (.slice x' n' c')) ∧ ∃ L R, CJ w w1 Kp T P Bs X Z (i + 1) (w3.setCell ⟨Bs, 0, none⟩ (.slice x' n' c')) L R) := by
  have hlen : L.length ≤ 5000 := by
    have h1 := congrArg List.length h.lst
    rw [List.length_map] at h1
    have h2 := List.length_filter_le P (T.take i)
    rw [List.length_take] at h2
    omega
  have bw2 : Below w.heap.size w W2 := h.bel.trans (hb.mono h.bel.size)
  obtain ⟨x', c', w3, hap, HO⟩ := push_s (h.own.below hb) v hlen bw2.size
  obtain ⟨o3, t3, n3⟩ := HO.out
  have sB : Bs < W.heap.size := (Array.getElem?_eq_some_iff.1 h.box).1
  have z2 := hb.size
  have box2 := (hb.block Bs sB).trans h.box
  have box3 : w3.heap[Bs]? = some (.cells #[R] 34 (0, 0)) := (t3.block Bs (by omega) (fun e => (h.row Bs e).2.2 rfl)).trans box2
  have tB : Turns (fun k => k = Bs) w3 (w3.setCell ⟨Bs, 0, none⟩ (.slice x' (L.length + 1) c')) := turns_put (Turns.refl _ w3) 0 _
  have t23 : Turns (fun j => R.ownBlock = some j ∨ j = Bs) W2 (w3.setCell ⟨Bs, 0, none⟩ (.slice x' (L.length + 1) c')) := (t3.weak fun j e => .inl e).trans (tB.weak fun j e => .inr e)
  have tW : Turns (fun j => R.ownBlock = some j ∨ j = Bs) W (w3.setCell ⟨Bs, 0, none⟩ (.slice x' (L.length + 1) c')) := (Turns.of_below hb).trans t23
  have new : ∀ g, (Value.slice x' (L.length + 1) c').ownBlock = some g → R.ownBlock = some g ∨ W.heap.size ≤ g := fun g hg => by
    rcases n3 g hg with e | e
    · exact .inl e
    · exact .inr (by omega)
  have hsz := tW.size
  refine ⟨x', _, c', w3, hap, cell_heap box3 rfl, fr_heap box3 0, tW.weak fun k hk e => ?_, L ++ [v], .slice x' (L.length + 1) c', (heap_set box3 _).trans (by simp), ?_, ?_, fun u hu => ?_, h.nxb, h.nzb, fun g hg => ?_, ?_, h.xlo, h.hBs, fun k hk => ?_⟩
  · rcases hk with hk | rfl
    · exact (h.row k hk).2.1 e
    · exact h.nzb e
  · exact o3.turns tB (fun g hg e => by
      have e' : g = Bs := e
      subst e'
      rcases new g hg with e2 | e2
      · exact (h.row g e2).2.2 rfl
      · omega)
  · rw [List.map_append, h.lst, take_filter P hv, if_pos hP]
    rfl
  · rcases List.mem_append.1 hu with hu | hu
    · obtain ⟨s1, s2⟩ := h.spa u hu
      refine ⟨s1.turns tW (fun k hk e => ?_), fun k hk => ⟨(s2 k hk).1, (s2 k hk).2.1, fun e => ?_⟩⟩
      · rcases e with e | e
        · exact (s2 k hk).2.2 e
        · exact (s2 k hk).2.1 e
      · rcases new k e with e2 | e2
        · exact (s2 k hk).2.2 e2
        · have := s1.lt hk
          omega
    · simp at hu
      subst hu
      refine ⟨hsp.turns tW (fun k hk e => ?_), fun k hk => ⟨(hbz k hk).2, fun e => h.nzb (e ▸ (hbz k hk).1), fun e => ?_⟩⟩
      · rcases e with e | e
        · exact (h.row k e).2.1 (hbz k hk).1
        · exact h.nzb (e ▸ (hbz k hk).1)
      · rcases new k e with e2 | e2
        · exact (h.row k e2).2.1 (hbz k hk).1
        · have := hsp.lt hk
          omega
  · rcases new g hg with e2 | e2
    · exact h.row g e2
    · exact ⟨fun e => by have := hf.lt g (hf.sub g e); omega, fun e => by have := hf.lt g e; omega, by omega⟩
  · exact h.bel.trans (tW.below (fun k hk => by
      rcases hk with hk | rfl
      · exact (h.own.tb hk).1
      · exact h.hBs) h.bel.size)
  · obtain ⟨k1, k2, k3, k4, k5⟩ := h.kp k hk
    refine ⟨k1, by omega, k3, fun e => ?_, (tW.block k k2 (fun e => ?_)).trans k5⟩
    · rcases new k e with e2 | e2
      · exact k4 e2
      · omega
    · rcases e with e | e
      · exact k4 e
      · exact k3 e

theorem CJ.skip {w w1 : World} {Kp : Nat → Prop} {T : List Span} {P : Span → Bool} {Bs : Nat} {X Z : Nat → Prop} {i : Nat} {W W2 : World} {L : List SpV} {R : Value} {s : Span} (h : CJ w w1 Kp T P Bs X Z i W L R) (hf : Fit X Z W) (hv : T[i]? = some s) (hP : P s = false) (hb : Below W.heap.size W W2) :
    Turns (fun k => ¬ Z k) W W2 ∧ ∃ L R, CJ w w1 Kp T P Bs X Z (i + 1) W2 L R := by
  obtain ⟨L', R', h'⟩ := cj_abd w w1 Kp T P Bs X Z X Z i W W2 ⟨L, R, h⟩ (Turns.of_below hb) (fun k hk => .inl hk) (fun k hk => .inl hk) hf.sub (fun k hk => Nat.lt_of_lt_of_le (hf.lt k hk) hb.size)
  refine ⟨Turns.of_below hb, L', R', h'.box, h'.own, ?_, h'.spa, h'.nxb, h'.nzb, h'.row, h'.bel, h'.xlo, h'.hBs, h'.kp⟩
  rw [h'.lst, take_filter P hv, hP, if_neg (by simp), List.append_nil]

theorem Gives.later {n gf N : Nat} {lb : Array Value} {Ok : (Nat → Prop) → (Nat → Prop) → Nat → Array Value → World → Prop} {Rd : Nat → Prop} {w w' : World} (h : Gives n gf lb N Ok Rd w) (t : Turns (fun k => ¬ Rd k) w w') : Gives n gf lb N Ok Rd w' :=
  fun l J Jx X Z W hW => h l J Jx X Z W (t.trans hW)

end Go.Proofs.Ythlfmbijagpggaa.Iv

/-
  slices.AppendSeq and slices.Collect of intervals.
  Conditions: at most 4,096 of them.
-/
namespace Go.Proofs.Ythlfmbijagpggaa.Iv
open Go.RowKit By Fl At Cr Pl
set_option linter.unusedVariables false
set_option linter.unusedSimpArgs false
set_option maxRecDepth 100000
attribute [local go_sem] Oper.semAt_some

def CollSays (w w' : World) (T : List Span) (x : Option Addr) (n c : Nat) : Prop := ∃ L : List SpV, Below w.heap.size w w' ∧ Fl.Own w' w.heap.size 25 6 enS (.slice x n c) L ∧ L.map SpV.s = T ∧ ∀ v ∈ L, SpAt w' v ∧ ∀ k, blks v k → (Value.slice x n c).ownBlock ≠ some k

set_option maxHeartbeats 3200000 in
theorem appendseq_any {w : World} {gf : Nat} {lb : Array Value} {T : List Span} {Rd : Nat → Prop} (hG : Gives 8 gf lb T.length (OkS T) Rd w) (hT : T.length ≤ 4096) (hRd : ∀ k, Rd k → k < w.heap.size) (eg : ∀ args w, (callFunc gf args).run Try.prog w = .ok (.enter gf args) w) :
    Calls Try.prog 17 #[.slice none 0 0, .func (.func gf) #[] lb] w fun e w' => ∃ x n c, e = .returned (.slice x n c) ∧ Hid (CollSays w w' T x n c) := by
  obtain ⟨W0, hW0⟩ : ∃ W0, W0 = w.alloc (.cells #[.slice none 0 0] 34) := ⟨_, rfl⟩
  have b0 : Below w.heap.size w W0 := by rw [hW0]; exact al _ _
  have h0 : W0.heap[w.heap.size]? = some (.cells #[.slice none 0 0] 34 (0, 0)) := by rw [hW0]; exact heap_alloc_new _ _
  have HG := hid (hG.later (Turns.of_below b0))
  have HRd := hid hRd
  have Heg := hid eg
  have HB := hid (And.intro b0 h0)
  clear hG hRd eg b0 h0
  refine (callsIn_wide (n := 9)).1 ?_
  refine callsIn_of_wp_marks Try.func17 rfl trivial ?_ rfl
  simp only [Try.ntmps17, List.size_toArray, List.length_cons, List.length_nil, Nat.reduceAdd, Nat.reduceSub, Array.replicate_succ, Array.replicate_zero, List.push_toArray, List.append_toArray, List.nil_append, List.cons_append]
  gi_wp2
  rw [← hW0]
  clear hW0
  refine range_gives (gf := gf) (lb := lb) (N := T.length) (Ok := OkS T) (Rd := Rd) (by omega) rfl Heg.out HG.out ?rd ?ps (okS_abd T)
    (fun X Z i W => ∃ L R, CJ w w (fun _ => False) T (fun _ => true) w.heap.size X Z i W L R) (fun _ _ _ _ _ => False) (cj_abd _ _ _ _ _ _) (fun c X Z X' Z' i A B h => h.elim) ?start ?round ?done ?stop
  case rd =>
    intro k hk
    exact Nat.lt_of_lt_of_le (HRd.out k hk) HB.out.1.size
  case ps =>
    rintro X Z i a W ⟨v, _, rfl, _⟩
    rfl
  case start =>
    refine ⟨[], .slice none 0 0, HB.out.2, Own.nil _ _ _ _ _, by simp, fun v hv => (List.not_mem_nil hv).elim, fun e => e, fun e => ?_, fun g hg => ?_, HB.out.1, fun k e => e.elim, Nat.le_refl _, fun k e => e.elim⟩
    · have := HRd.out _ e
      omega
    · simp [Value.ownBlock] at hg
  case round =>
    rintro l X Z i a W hf hl hXl hI0 ⟨v, hv, rfl, hsp, hbz⟩
    clear hI0
    unfold vS
    gi_wp2
    refine ⟨al _ _, fun W2 t2 hf2 hI hO => ?_⟩
    clear hO
    obtain ⟨L, R, hC⟩ := hI
    have hne : ¬ W.heap.size = l := by omega
    have hvb : W2.heap[W.heap.size]? = some (.cells (cS v) 25 (0, 0)) := (t2.block _ (by simp) hne).trans (heap_alloc_new _ _)
    have hsp2 : SpAt W2 v := (hsp.below (al _ _)).turns t2 (fun k hk e => (hbz k hk).2 (by have e' : k = l := e; rw [e']; exact hXl))
    obtain ⟨a0, a1, a2, a3, a4, a5⟩ := SBox.at hvb
    have c0 : W2.cell? ⟨w.heap.size, 0, none⟩ = some R := cell_heap hC.box rfl
    obtain ⟨x', n', c', w3, hap, hc3, hf3, HP⟩ := hC.push hf2 hv hsp2 hbz rfl hT (Below.refl _ _)
    clear hvb hsp2 hC hsp hbz hv t2
    gi_wp2_with (first
      | (gi_at_builtin; refine wpListIn_append_run rfl _ _ _ rfl _ _ rfl rfl hap ?_)
      | gi_in)
    exact ⟨HP.out.1, HP.out.2⟩
  case done =>
    rintro D X Z W hD hf hXD ⟨L, R, hC⟩ hDk
    have c0 : W.cell? ⟨w.heap.size, 0, none⟩ = some R := cell_heap hC.box rfl
    obtain ⟨x, c, e, _, _, _⟩ := hC.own.form
    have HC : Hid (CollSays w (W.putObj D (.deferred none)) T x L.length c) := by
      have tD := put_turns (W := W) (l := D) (.deferred none)
      have nD : ∀ k, k = D → X k := fun k e => by rw [e]; exact hXD
      refine ⟨L, hC.bel.trans (tD.below (fun k e => hC.xlo k (nD k e)) hC.bel.size), ?_, ?_, fun v hv => ⟨(hC.spa v hv).1.turns tD (fun k hk e => ((hC.spa v hv).2 k hk).1 (nD k e)), fun k hk => ?_⟩⟩
      · rw [← e]
        exact hC.own.turns tD (fun g hg e => (hC.row g hg).1 (nD g e))
      · rw [hC.lst, List.take_length]
        simp
      · rw [← e]
        exact ((hC.spa v hv).2 k hk).2.2
    rw [e] at c0
    clear hC e
    gi_wp2
    refine ⟨by simp, .inl ⟨_, _, rfl, run_takeDeferred hDk, ?_⟩⟩
    exact ⟨_, results_tmp rfl _ _ _, _, _, _, rfl, HC.out⟩
  case stop =>
    rintro D c X Z i W _ _ _ _ h
    exact h.elim

theorem collect_any {w : World} {gf : Nat} {lb : Array Value} {T : List Span} {Rd : Nat → Prop} (hG : Gives 8 gf lb T.length (OkS T) Rd w) (hT : T.length ≤ 4096) (hRd : ∀ k, Rd k → k < w.heap.size) (eg : ∀ args w, (callFunc gf args).run Try.prog w = .ok (.enter gf args) w) :
    Calls Try.prog 13 #[.func (.func gf) #[] lb] w fun e w' => ∃ x n c, e = .returned (.slice x n c) ∧ Hid (CollSays w w' T x n c) := by
  have cA := appendseq_any hG hT hRd eg
  clear hG hRd eg
  go_enter Try.func13, Try.ntmps13
  go_wp2_with (go_at_call 17; refine cA.mono ?_; rintro e w1 ⟨x, n, c, rfl, H1⟩; clear cA)
  go_ret
  exact ⟨_, _, _, rfl, H1.out⟩

end Go.Proofs.Ythlfmbijagpggaa.Iv

/-
  2 texts of this proof, one behind the other: IvMaps, IvMaps2.
-/
import Derived.Test.YthlfmbijagpggaaGreatJIvPlain
import Derived.Test.YthlfmbijagpggaaGreatJAtRefApp3
import Derived.Test.YthlfmbijagpggaaGreatJAtTurn
import Derived.Deep.DeepCutAuto
import Derived.Deep.RegionHeld3
import Derived.Test.YthlfmbijagpggaaGreatByHk
/-
  The statements' own maps: from a pool's first map on, behind each change.
  Conditions: the changes lie in memory.
-/
namespace Go.Proofs.YthlfmbijagpggaaGreat.Iv
open Go.RowKit By Fl At Cr Pl
set_option linter.unusedVariables false
set_option linter.unusedSimpArgs false
set_option maxRecDepth 100000

theorem push_m {w : World} {B : Nat} {R : Value} {L : List MV} (h : Fl.Own w B 49 6 enM R L) (v : MV) (hl : L.length ≤ 1000) (hB : B ≤ w.heap.size) :
    ∃ x' c' w3, (Builtin.append_ #[26, 26] 26 #[R, .slice (some ⟨w.heap.size, 0, none⟩) 1 1]).run Tryz.prog (w.alloc (.cells #[.int .i64 v.m.ep, .int .i64 v.m.pool.k, .int .i64 v.m.pool.m, .int .i64 v.m.pool.pgs, .int .i64 v.m.pool.dom, .slice v.x v.n v.c] 49)) = .ok (.slice x' (L.length + 1) c') w3 ∧
      Hid (Fl.Own w3 B 49 6 enM (.slice x' (L.length + 1) c') (L ++ [v]) ∧ Turns (fun j => R.ownBlock = some j) w w3 ∧ ∀ g, (Value.slice x' (L.length + 1) c').ownBlock = some g → R.ownBlock = some g ∨ w.heap.size ≤ g) := by
  have b1 := al w (.cells #[.int .i64 v.m.ep, .int .i64 v.m.pool.k, .int .i64 v.m.pool.m, .int .i64 v.m.pool.pgs, .int .i64 v.m.pool.dom, .slice v.x v.n v.c] 49)
  obtain ⟨x', c', w3, hap, HO⟩ := (h.below b1).push mprow (by simp; omega) ⟨w.heap.size, 0, none⟩ 1 1 [v] rfl (fun j u hj => by
    rw [add_at, Nat.zero_add]
    rw [flat_one] at hj
    have hh := heap_alloc_new w (.cells #[.int .i64 v.m.ep, .int .i64 v.m.pool.k, .int .i64 v.m.pool.m, .int .i64 v.m.pool.pgs, .int .i64 v.m.pool.dom, .slice v.x v.n v.c] 49)
    exact cell_heap hh (by simpa [enM] using hj)) (by omega)
  obtain ⟨o3, t3, n3⟩ := HO.out
  refine ⟨x', c', w3, hap, o3, (Turns.of_below b1).trans t3, fun g hg => ?_⟩
  rcases n3 g hg with e | e
  · exact .inl e
  · right
    rw [e]
    simp

/- The row of maps so far: of one's own, each with its OSDs. -/
structure Mr (w0 wr : World) (p : Pool) (R : Value) (LM : List MV) : Prop where
  bel : Below w0.heap.size w0 wr
  own : Fl.Own wr w0.heap.size 49 6 enM R LM
  each : ∀ v ∈ LM, At.Os wr v.x v.n v.c v.m.osds ∧ (v.n ≠ 0 → ∀ a, v.x = some a → R.ownBlock ≠ some a.block)
  ok : okR p 0 (LM.map MV.m) = true
  ne : LM ≠ []

theorem okR_app {p : Pool} : ∀ {ms : List Mp} {e : Int} {m : Mp}, okR p e ms = true → mayM m = true → m.pool = p → m.ep = e + ms.length → okR p e (ms ++ [m]) = true
  | [], e, m, _, h1, h2, h3 => by
    simp only [List.nil_append, okR, Bool.and_eq_true, decide_eq_true_eq, eqP_iff]
    exact ⟨⟨⟨h1, h2⟩, by simpa using h3⟩, trivial⟩
  | a :: t, e, m, h, h1, h2, h3 => by
    simp only [okR, Bool.and_eq_true, decide_eq_true_eq, eqP_iff] at h
    simp only [List.cons_append, okR, Bool.and_eq_true, decide_eq_true_eq, eqP_iff]
    exact ⟨h.1, okR_app h.2 h1 h2 (by rw [h3]; simp; omega)⟩

theorem Mr.push {w0 wr wc : World} {p : Pool} {R : Value} {LM : List MV} {v : MV} {m : Mp} {c : Ch} (h : Mr w0 wr p R LM) (hl : LM.length ≤ 100) (hm : LM[LM.length - 1]? = some ⟨m, v.x, v.n, v.c⟩ ∨ ∃ u : MV, LM[LM.length - 1]? = some u ∧ u.m = m) (hv : v.m = (applyP m c).2) (h0 : (applyP m c).1 = 0) (hb : Below wr.heap.size wr wc) (hO : At.Os wc v.x v.n v.c v.m.osds) (hfin : At.Os wc v.x v.n v.c v.m.osds → (v.n ≠ 0 → ∀ a, v.x = some a → R.ownBlock ≠ some a.block)) :
    ∃ x' n' c' w3, (Builtin.append_ #[26, 26] 26 #[R, .slice (some ⟨wc.heap.size, 0, none⟩) 1 1]).run Tryz.prog (wc.alloc (.cells #[.int .i64 v.m.ep, .int .i64 v.m.pool.k, .int .i64 v.m.pool.m, .int .i64 v.m.pool.pgs, .int .i64 v.m.pool.dom, .slice v.x v.n v.c] 49)) = .ok (.slice x' n' c') w3 ∧ Hid (Mr w0 w3 p (.slice x' n' c') (LM ++ [v])) := by
  have bw : Below w0.heap.size w0 wc := on h.bel hb
  obtain ⟨x', c', w3, hap, HO⟩ := push_m (h.own.below hb) v (by omega) bw.size
  obtain ⟨o3, t3, n3⟩ := HO.out
  have hp : ∃ u : MV, LM[LM.length - 1]? = some u ∧ u.m = m := by
    rcases hm with hm | hm
    · exact ⟨_, hm, rfl⟩
    · exact hm
  obtain ⟨u, hu, hum⟩ := hp
  have hmm : (LM.map MV.m)[LM.length - 1]? = some m := by rw [List.getElem?_map, hu, ← hum]; rfl
  obtain ⟨g1, g2, g3⟩ := okR_get h.ok _ _ hmm
  have hpos : 0 < LM.length := List.length_pos_iff.2 h.ne
  have hadv : (applyP m c) = advP m c ∧ (advP m c).1 = 0 := by
    unfold applyP at h0 ⊢
    rw [if_pos g1] at h0 ⊢
    by_cases e : (advP m c).1 = 0
    · rw [if_pos e]
      exact ⟨rfl, e⟩
    · rw [if_neg e] at h0
      exact absurd h0 e
  obtain ⟨a1, a2⟩ := adv_may g1 hadv.2
  have a3 : (advP m c).2.pool = m.pool := by
    unfold advP
    split
    · rfl
    · split <;> rfl
  rw [hadv.1] at hv
  have hnew : ∀ (y : Option Addr) (k : Nat) (L : List Osd) (cc : Nat), At.Os wc y k cc L → (k ≠ 0 → ∀ a, y = some a → R.ownBlock ≠ some a.block) → At.Os w3 y k cc L ∧ (k ≠ 0 → ∀ a, y = some a → (Value.slice x' (LM.length + 1) c').ownBlock ≠ some a.block) := fun y k L cc hy hne => by
    refine ⟨hy.turns t3 (fun hk a ha e => hne hk a ha e), fun hk a ha e => ?_⟩
    rcases n3 _ e with e2 | e2
    · exact hne hk a ha e2
    · rcases hy.row with q | ⟨b, o, q1, q2, _⟩
      · exact hk q
      · rw [ha] at q1
        injection q1 with q1
        rw [q1] at e2
        dsimp only at e2
        omega
  refine ⟨x', _, c', w3, hap, bw.trans (t3.below (fun k hk => (h.own.tb hk).1) bw.size), o3, fun q hq => ?_, ?_, by simp⟩
  · rcases List.mem_append.1 hq with hq | hq
    · obtain ⟨e1, e2⟩ := h.each q hq
      exact hnew _ _ _ _ (e1.below hb) e2
    · simp at hq
      subst hq
      exact hnew _ _ _ _ hO (hfin hO)
  · rw [List.map_append]
    refine okR_app h.ok (by rw [hv]; exact a1) (by rw [hv, a3]; exact g2) ?_
    rw [hv, a2, g3, List.length_map]
    omega

end Go.Proofs.YthlfmbijagpggaaGreat.Iv

/-
  The statements' own maps: they are maps, one behind the other.
  Conditions: the changes lie in memory.
-/
namespace Go.Proofs.YthlfmbijagpggaaGreat.Iv
open Go.RowKit By Fl At Cr Pl
set_option linter.unusedVariables false
set_option linter.unusedSimpArgs false
set_option maxRecDepth 100000

def MapsSay (w : World) (p : Pool) (e : Ending) (w' : World) : Prop :=
  ((poolB p = false ∨ 8 < p.k + p.m) ∧ e = .returned (.tuple #[.slice none 0 0, .bool false]) ∧ Below w.heap.size w w') ∨
  (poolB p = true ∧ p.k + p.m ≤ 8 ∧ ∃ y yn yc, e = .returned (.tuple #[.slice y yn yc, .bool true]) ∧ ∃ LM : List MV, Below w.heap.size w w' ∧ Ms w' y yn yc LM ∧ okR p 0 (LM.map MV.m) = true ∧ 1 ≤ yn ∧ yn ≤ 41)

theorem Mr.ms {w0 wr : World} {p : Pool} {y : Option Addr} {yn yc : Nat} {LM : List MV} (h : Mr w0 wr p (.slice y yn yc) LM) : Ms wr y yn yc LM := by
  have hp : ∀ (k : Nat) (v : MV), LM[k]? = some v → At.Os wr v.x v.n v.c v.m.osds ∧ v.m.pool.k ≤ 9223372036854775807 := fun k v hk => by
    have hm : (LM.map MV.m)[k]? = some v.m := by rw [List.getElem?_map, hk]; rfl
    obtain ⟨g1, g2, g3⟩ := okR_get h.ok k _ hm
    refine ⟨(h.each v (List.mem_of_getElem? hk)).1, ?_⟩
    unfold mayM at g1
    simp only [Bool.and_eq_true] at g1
    have g4 := g1.1.2
    unfold poolB at g4
    simp only [Bool.and_eq_true, decide_eq_true_eq, wi_iff] at g4
    omega
  obtain ⟨x', c', e, h1, h2, h3⟩ := h.own.form
  injection e with e1 e2 e3
  subst e1 e2 e3
  refine ⟨rfl, h1, h2, ?_, hp⟩
  cases y with
  | none => exact .inl (h2 rfl).1
  | some ad =>
    obtain ⟨g, rfl, hB, hg⟩ := h3 ad rfl
    exact .inr ⟨g, 0, rfl, hg, fun k v hk j u hu => by rw [Nat.zero_add]; exact h.own.cell mprow.len hk hu⟩

theorem mr_start {w0 w1 : World} {p : Pool} {g : Nat} (hp : poolB p = true) (hb : Below w0.heap.size w0 w1) (hg : w1.heap[g]? = some (.cells #[.int .i64 0, .int .i64 p.k, .int .i64 p.m, .int .i64 p.pgs, .int .i64 p.dom, .slice none 0 0] 49 (0, 0))) (hB : w0.heap.size ≤ g) :
    Mr w0 w1 p (.slice (some ⟨g, 0, none⟩) 1 1) [⟨⟨0, p, []⟩, none, 0, 0⟩] := by
  refine ⟨hb, ?_, fun v hv => ?_, ?_, by simp⟩
  · exact Own.of_heap (K := [⟨⟨0, p, []⟩, none, 0, 0⟩]) (sz := 6) (enc := enM) hg hB (c := 1) (by simp) (by decide) (by simp) mprow.len (by simp [flat, enM])
  · simp at hv
    subst hv
    exact ⟨⟨rfl, Nat.le_refl _, by simp, fun _ => ⟨rfl, rfl⟩, .inl rfl⟩, fun e => absurd rfl e⟩
  · simp only [List.map_cons, List.map_nil, okR, Bool.and_eq_true, decide_eq_true_eq, eqP_iff]
    refine ⟨⟨⟨?_, trivial⟩, trivial⟩, trivial⟩
    unfold mayM
    rw [hp]
    rfl

def put6m (w : World) (g : Nat) (v : MV) : World :=
  (((((w.setCell ⟨g, 0, none⟩ (.int .i64 v.m.ep)).setCell ⟨g, 1, none⟩ (.int .i64 v.m.pool.k)).setCell ⟨g, 2, none⟩ (.int .i64 v.m.pool.m)).setCell ⟨g, 3, none⟩ (.int .i64 v.m.pool.pgs)).setCell ⟨g, 4, none⟩ (.int .i64 v.m.pool.dom)).setCell ⟨g, 5, none⟩ (.slice v.x v.n v.c)
theorem turns_put6m (w : World) (g : Nat) (v : MV) : Turns (fun k => k = g) w (put6m w g v) := turns_put (turns_put (turns_put (turns_put (turns_put (turns_put (Turns.refl _ w) _ _) _ _) _ _) _ _) _ _) _ _
theorem put6m_box {w : World} {g : Nat} {cs : Array Value} (h : w.heap[g]? = some (.cells cs 49 (0, 0))) (hs : cs.size = 6) (v : MV) : (put6m w g v).heap[g]? = some (.cells #[.int .i64 v.m.ep, .int .i64 v.m.pool.k, .int .i64 v.m.pool.m, .int .i64 v.m.pool.pgs, .int .i64 v.m.pool.dom, .slice v.x v.n v.c] 49 (0, 0)) := by
  unfold put6m
  refine (heap_set (heap_set (heap_set (heap_set (heap_set (heap_set h _) _) _) _) _) _).trans ?_
  obtain ⟨l⟩ := cs
  match l, hs with
  | [a0, a1, a2, a3, a4, a5], _ => simp

set_option maxHeartbeats 6400000 in
theorem maps_any {w : World} {x : Option Addr} {n c : Nat} {Lc : List Ch} (p : Pool) (h : Cs w x n c Lc) (hk : p.k ≤ 9223372036854775807) :
    Calls Tryz.prog 5 #[vP p, .slice x n c] w fun e w' => MapsSay w p e w' := by
  have hP := fun W => rpool_any p W
  obtain ⟨w0, hw0⟩ : ∃ w0, w0 = w.alloc (.cells #[.int .i64 p.k, .int .i64 p.m, .int .i64 p.pgs, .int .i64 p.dom] 23) := ⟨_, rfl⟩
  have b0 : Below w.heap.size w w0 := by rw [hw0]; exact al _ _
  have q0 : w0.cell? ⟨w.heap.size, 0, none⟩ = some (.int .i64 p.k) := by rw [hw0]; go_simp
  have q1 : w0.cell? ⟨w.heap.size, 1, none⟩ = some (.int .i64 p.m) := by rw [hw0]; go_simp
  have q2 : w0.cell? ⟨w.heap.size, 2, none⟩ = some (.int .i64 p.pgs) := by rw [hw0]; go_simp
  have q3 : w0.cell? ⟨w.heap.size, 3, none⟩ = some (.int .i64 p.dom) := by rw [hw0]; go_simp
  have HQ : Hid (∀ W, Below w0.heap.size w0 W → W.cell? ⟨w.heap.size, 0, none⟩ = some (.int .i64 p.k) ∧ W.cell? ⟨w.heap.size, 1, none⟩ = some (.int .i64 p.m) ∧ W.cell? ⟨w.heap.size, 2, none⟩ = some (.int .i64 p.pgs) ∧ W.cell? ⟨w.heap.size, 3, none⟩ = some (.int .i64 p.dom)) := fun W hb => ⟨keep hb q0, keep hb q1, keep hb q2, keep hb q3⟩
  have HB := hid b0
  have HW := hid hw0
  have HC := hid h
  clear h b0 hw0 q0 q1 q2 q3
  unfold vP at *
  cases hp : poolB p with
  | false =>
    rw [hp] at hP
    go_enter Tryz.func5, Tryz.ntmps5
    go_wp2_with (go_at_call 14; refine (hP _).mono ?_; rintro e w1 ⟨rfl, hb1⟩; clear hP; rw [← HW.out] at hb1)
    refine bodyPost_ret (results_tmp2 rfl _ _ _) rfl ?_
    exact .inl ⟨.inl hp, rfl, on HB.out hb1⟩
  | true =>
    rw [hp] at hP
    have hp2 := hp
    unfold poolB at hp2
    simp only [Bool.and_eq_true, decide_eq_true_eq, wi_iff] at hp2
    have hsum : IntKind.i64.wrap (p.k + p.m) = p.k + p.m := by rw [IntKind.wrap_i64]; omega
    have HP := hid hp
    clear hp hk
    by_cases h8 : 8 < p.k + p.m
    · have HP2 := hid hp2
      clear hp2
      go_enter Tryz.func5, Tryz.ntmps5
      go_wp2_with (go_at_call 14; refine (hP _).mono ?_; rintro e w1 ⟨rfl, hb1⟩; clear hP; rw [← HW.out] at hb1; obtain ⟨k0, k1, k2, k3⟩ := HQ.out w1 hb1)
      refine bodyPost_ret (results_tmp2 rfl _ _ _) rfl ?_
      exact .inl ⟨.inr h8, rfl, on HB.out hb1⟩
    · have h8' : ¬ 8 < p.k + p.m := h8
      have HP2 := hid (And.intro hp2 h8)
      clear hp2 h8
      go_enter Tryz.func5, Tryz.ntmps5
      go_wp2_with (go_at_call 14; refine (hP _).mono ?_; rintro e w1 ⟨rfl, hb1⟩; clear hP; rw [← HW.out] at hb1; obtain ⟨k0, k1, k2, k3⟩ := HQ.out w1 hb1)
      have H0 : Hid (Mr w0 (w1.alloc (.cells #[.int .i64 0, .int .i64 p.k, .int .i64 p.m, .int .i64 p.pgs, .int .i64 p.dom, .slice none 0 0] 49)) p (.slice (some ⟨w1.heap.size, 0, none⟩) 1 1) [⟨⟨0, p, []⟩, none, 0, 0⟩]) := mr_start HP.out (on hb1 (al _ _)) (heap_alloc_new _ _) hb1.size
      clear k0 k1 k2 k3 hb1 hsum h8'
      go_loopw [7, 6, 8, 9] (fun i l _ _ wr => ∃ (k : Nat) (R : Value) (LM : List MV), k ≤ 40 ∧ i = .int .i64 k ∧ l = R ∧ Hid (Mr w0 wr p R LM ∧ LM.length ≤ k + 1)) (fun i _ _ _ _ => 40 - (intOf i).toNat)
      case atStart => exact ⟨0, _, _, by omega, rfl, rfl, H0.out, by simp⟩
      case round =>
        clear H0
        obtain ⟨k, R, LM, hk, rfl, rfl, HR⟩ := hrel
        by_cases hend : k < n ∧ k < 40
        · have hkn : (k : Int) < (n : Int) := by omega
          have hk40 : (k : Int) < 40 := by omega
          obtain ⟨hMr, hlen⟩ := HR.out
          obtain ⟨g, cl, rfl, hlc, hcm, hg1, hg2⟩ := hMr.own.there hMr.ne
          obtain ⟨q, hq⟩ : ∃ q, LM.length = q + 1 := ⟨LM.length - 1, by have := List.length_pos_iff.2 hMr.ne; omega⟩
          obtain ⟨nl, hnl⟩ : ∃ nl, nl = LM.length := ⟨_, rfl⟩
          rw [← hnl] at hlc
          have hql : (nl : Int) - 1 = (q : Int) := by omega
          have hqn : (q : Int) < (nl : Int) := by omega
          have hqn2 : q < nl := by omega
          have hwq : IntKind.i64.wrap (q : Int) = (q : Int) := by rw [IntKind.wrap_i64]; omega
          obtain ⟨u, hu⟩ : ∃ u, LM[q]? = some u := ⟨LM[q]'(by omega), List.getElem?_eq_getElem (by omega)⟩
          obtain ⟨d, hd⟩ : ∃ d, Lc[k]? = some d := ⟨Lc[k]'(by have := HC.out.len; omega), List.getElem?_eq_getElem (by have := HC.out.len; omega)⟩
          have bwr := on HB.out hMr.bel
          rcases (HC.out.below bwr).row with e | ⟨b, o, rfl, hb, hc⟩
          · omega
          obtain ⟨e0, e1, e2, e3, e4, e5, e6, e7, e8⟩ := Cs.at hc hd
          have a0 := hMr.own.cell mprow.len hu (j := 0) rfl
          have a1 := hMr.own.cell mprow.len hu (j := 1) rfl
          have a2 := hMr.own.cell mprow.len hu (j := 2) rfl
          have a3 := hMr.own.cell mprow.len hu (j := 3) rfl
          have a4 := hMr.own.cell mprow.len hu (j := 4) rfl
          have a5 := hMr.own.cell mprow.len hu (j := 5) rfl
          rw [Nat.add_zero] at a0
          have hOu := (hMr.each u (List.mem_of_getElem? hu)).1
          have HAp : Hid (∀ W, Below wr.heap.size wr W → Calls Tryz.prog 15 #[vM u.m.ep u.m.pool u.x u.n u.c, vC d] W fun e w' => ∃ y yn yc, e = .returned (.tuple #[vM (applyP u.m d).2.ep (applyP u.m d).2.pool y yn yc, .int .i64 (applyP u.m d).1]) ∧ Hid (ToldN W w' y yn yc (applyP u.m d).2.osds)) := fun W hW => rapply_new u.m d (hOu.below hW)
          have HMr := hid (And.intro hMr (And.intro hq (And.intro hu hlen)))
          rw [← hnl]
          have HNL := hid hnl
          clear hMr hlen hg1 hg2 hcm hlc hc hOu hu hd HR hq hnl
          unfold vM vC at HAp
          go_wp2_with fail
          go_cut [8, 9] (fun s8 s9 wc => ∃ (mb : Nat) (y : Option Addr) (yn yc : Nat), s8 = .pointer (some ⟨mb, 0, none⟩) ∧ s9 = .int .i64 (applyP u.m d).1 ∧ Hid (Below wr.heap.size wr wc ∧ wc.heap[mb]? = some (.cells #[.int .i64 (applyP u.m d).2.ep, .int .i64 (applyP u.m d).2.pool.k, .int .i64 (applyP u.m d).2.pool.m, .int .i64 (applyP u.m d).2.pool.pgs, .int .i64 (applyP u.m d).2.pool.dom, .slice y yn yc] 49 (0, 0)) ∧ At.Os wc y yn yc (applyP u.m d).2.osds ∧ ∀ a, y = some a → wr.heap.size ≤ a.block))
          case first =>
            have bD : Below wr.heap.size wr wr.drew := (Below.refl _ _).drew
            have a0 := keep bD a0
            have a1 := keep bD a1
            have a2 := keep bD a2
            have a3 := keep bD a3
            have a4 := keep bD a4
            have a5 := keep bD a5
            have e0 := keep bD e0
            have e1 := keep bD e1
            have e2 := keep bD e2
            have e3 := keep bD e3
            have e4 := keep bD e4
            have e5 := keep bD e5
            have e6 := keep bD e6
            have e7 := keep bD e7
            have e8 := keep bD e8
            have hS : ∀ v, Below wr.drew.heap.size wr.drew v → v.cell? ⟨g, q * 6, none⟩ = some (.int .i64 u.m.ep) ∧ v.cell? ⟨g, q * 6 + 1, none⟩ = some (.int .i64 u.m.pool.k) ∧ v.cell? ⟨g, q * 6 + 2, none⟩ = some (.int .i64 u.m.pool.m) ∧ v.cell? ⟨g, q * 6 + 3, none⟩ = some (.int .i64 u.m.pool.pgs) ∧ v.cell? ⟨g, q * 6 + 4, none⟩ = some (.int .i64 u.m.pool.dom) ∧ v.cell? ⟨g, q * 6 + 5, none⟩ = some (.slice u.x u.n u.c) ∧ v.cell? ⟨b, o + k * 9, none⟩ = some (.int .i64 d.kind) ∧ v.cell? ⟨b, o + k * 9 + 1, none⟩ = some (.int .i64 d.osd.id) ∧ v.cell? ⟨b, o + k * 9 + 2, none⟩ = some (.bool d.osd.up) ∧ v.cell? ⟨b, o + k * 9 + 3, none⟩ = some (.bool d.osd.inn) ∧ v.cell? ⟨b, o + k * 9 + 4, none⟩ = some (.int .i64 d.osd.wt) ∧ v.cell? ⟨b, o + k * 9 + 5, none⟩ = some (.int .i64 d.osd.life) ∧ v.cell? ⟨b, o + k * 9 + 6, none⟩ = some (.int .i64 d.osd.boot) ∧ v.cell? ⟨b, o + k * 9 + 7, none⟩ = some (.int .i64 d.osd.host) ∧ v.cell? ⟨b, o + k * 9 + 8, none⟩ = some (.int .i64 d.osd.rack) := fun v hv => ⟨keep hv a0, keep hv a1, keep hv a2, keep hv a3, keep hv a4, keep hv a5, keep hv e0, keep hv e1, keep hv e2, keep hv e3, keep hv e4, keep hv e5, keep hv e6, keep hv e7, keep hv e8⟩
            have HS := hid hS
            have HBD := hid bD
            have cP := HAp.out _ bD
            have cN := HAp.out (wr.drew.alloc (.cells #[.int .i64 0, .int .i64 0, .int .i64 0, .int .i64 0, .int .i64 0, .slice none 0 0] 49)) (on bD (al _ _))
            clear bD hS HAp a0 a1 a2 a3 a4 a5 e0 e1 e2 e3 e4 e5 e6 e7 e8
            refine wp_region_held_drew (S := fun v => v.cell? ⟨g, q * 6, none⟩ = some (.int .i64 u.m.ep) ∧ v.cell? ⟨g, q * 6 + 1, none⟩ = some (.int .i64 u.m.pool.k) ∧ v.cell? ⟨g, q * 6 + 2, none⟩ = some (.int .i64 u.m.pool.m) ∧ v.cell? ⟨g, q * 6 + 3, none⟩ = some (.int .i64 u.m.pool.pgs) ∧ v.cell? ⟨g, q * 6 + 4, none⟩ = some (.int .i64 u.m.pool.dom) ∧ v.cell? ⟨g, q * 6 + 5, none⟩ = some (.slice u.x u.n u.c) ∧ v.cell? ⟨b, o + k * 9, none⟩ = some (.int .i64 d.kind) ∧ v.cell? ⟨b, o + k * 9 + 1, none⟩ = some (.int .i64 d.osd.id) ∧ v.cell? ⟨b, o + k * 9 + 2, none⟩ = some (.bool d.osd.up) ∧ v.cell? ⟨b, o + k * 9 + 3, none⟩ = some (.bool d.osd.inn) ∧ v.cell? ⟨b, o + k * 9 + 4, none⟩ = some (.int .i64 d.osd.wt) ∧ v.cell? ⟨b, o + k * 9 + 5, none⟩ = some (.int .i64 d.osd.life) ∧ v.cell? ⟨b, o + k * 9 + 6, none⟩ = some (.int .i64 d.osd.boot) ∧ v.cell? ⟨b, o + k * 9 + 7, none⟩ = some (.int .i64 d.osd.host) ∧ v.cell? ⟨b, o + k * 9 + 8, none⟩ = some (.int .i64 d.osd.rack)) (by kernel_rfl) (HS.out _ (Below.refl _ _)) (fun hHeld => ?_)
            generalize wr.drew = wD at *
            generalize hAA : applyP u.m d = AA at *
            clear hAA
            refine By.hk 0 ?_
            refine By.hk 1 ?_
            refine By.hk 2 ?_
            refine By.hk 3 ?_
            refine By.hk 4 ?_
            refine By.hk 5 ?_
            refine By.hk 6 ?_
            refine By.hk 7 ?_
            refine By.hk 8 ?_
            refine By.hk 9 ?_
            refine wpAnyH_ready (rs := [10, 14]) (by kernel_rfl) (by simp) ?_
            refine AllReadyH.cons rfl (fun K hK => ?_) (AllReadyH.cons rfl (fun K hK => ?_) AllReadyH.nil)
            · go_simp
              refine cP.mono ?_
              rintro e w2 ⟨y, yn, yc, rfl, HV⟩
              clear cP cN
              refine hK.out _ _ (HS.out _ HV.out.1) (fun hHeld => ?_)
              clear hK K
              refine By.hk 11 ?_
              refine By.hk 12 ?_
              refine By.hk 13 ?_
              refine wpAnyH_ready (rs := [14]) (by kernel_rfl) (by simp) ?_
              refine AllReadyH.cons rfl (fun K hK => ?_) AllReadyH.nil
              go_simp
              refine hK.out _ _ (HS.out _ (on HV.out.1 (al _ _))) (fun hHeld => ?_)
              clear hK K
              refine wpAnyH_ready (rs := [15]) (by kernel_rfl) (by simp) ?_
              refine AllReadyH.cons rfl (fun K hK => ?_) AllReadyH.nil
              go_simp
              refine hK.out _ _ (HS.out _ (on HV.out.1 (al _ _))) (fun hHeld => ?_)
              clear hK K
              refine By.hk 16 ?_
              refine wpAnyH_done (by kernel_rfl) ?_ _
              go_wp2_with fail
              go_meet
              case rel =>
                obtain ⟨v2, v3, v4⟩ := HV.out
                have z1 := HBD.out.size
                exact ⟨_, y, yn, yc, rfl, rfl, on HBD.out (on v2 (al _ _)), heap_alloc_new _ _, v3.below (al _ _), fun a ha => by have := v4 a ha; omega⟩
            · go_simp
              refine hK.out _ _ (HS.out _ (al _ _)) (fun hHeld => ?_)
              clear hK K
              refine wpAnyH_ready (rs := [10]) (by kernel_rfl) (by simp) ?_
              refine AllReadyH.cons rfl (fun K hK => ?_) AllReadyH.nil
              go_simp
              refine cN.mono ?_
              rintro e w2 ⟨y, yn, yc, rfl, HV⟩
              clear cP cN
              have zA : (wD.alloc (.cells #[.int .i64 0, .int .i64 0, .int .i64 0, .int .i64 0, .int .i64 0, .slice none 0 0] 49)).heap.size = wD.heap.size + 1 := by simp
              have hx : w2.heap[wD.heap.size]? = some (.cells #[.int .i64 0, .int .i64 0, .int .i64 0, .int .i64 0, .int .i64 0, .slice none 0 0] 49 (0, 0)) := (HV.out.1.block _ (by simp)).trans (heap_alloc_new _ _)
              have c0 : w2.cell? ⟨wD.heap.size, 0, none⟩ = some (.int .i64 0) := cell_heap hx rfl
              have c1 : w2.cell? ⟨wD.heap.size, 1, none⟩ = some (.int .i64 0) := cell_heap hx rfl
              have c2 : w2.cell? ⟨wD.heap.size, 2, none⟩ = some (.int .i64 0) := cell_heap hx rfl
              have c3 : w2.cell? ⟨wD.heap.size, 3, none⟩ = some (.int .i64 0) := cell_heap hx rfl
              have c4 : w2.cell? ⟨wD.heap.size, 4, none⟩ = some (.int .i64 0) := cell_heap hx rfl
              have c5 : w2.cell? ⟨wD.heap.size, 5, none⟩ = some (.slice none 0 0) := cell_heap hx rfl
              have f0 := fr_heap hx 0
              have f1 := fr_heap hx 1
              have f2 := fr_heap hx 2
              have f3 := fr_heap hx 3
              have f4 := fr_heap hx 4
              have f5 := fr_heap hx 5
              have HX := hid (put6m_box hx rfl ⟨AA.2, y, yn, yc⟩)
              have HP9 := hid (turns_put6m w2 wD.heap.size ⟨AA.2, y, yn, yc⟩)
              unfold put6m at HX HP9
              clear hx
              have HS2 : Hid (∀ v', Turns (fun k => k = wD.heap.size) w2 v' → Below wD.heap.size wD v') := fun v' hv' => ((al _ _).trans (HV.out.1.mono (by omega))).trans (hv'.below (fun j e => by have e' : j = wD.heap.size := e; omega) (by have := HV.out.1.size; omega))
              refine hK.out _ _ (HS.out _ (HS2.out _ (Turns.refl _ _))) (fun hHeld => ?_)
              clear hK K
              refine By.hk 11 ?_
              refine By.hk 12 ?_
              refine By.hk 13 ?_
              refine wpAnyH_ready (rs := [15]) (by kernel_rfl) (by simp) ?_
              refine AllReadyH.cons rfl (fun K hK => ?_) AllReadyH.nil
              go_simp
              refine hK.out _ _ (HS.out _ (HS2.out _ HP9.out)) (fun hHeld => ?_)
              clear hK K
              refine By.hk 16 ?_
              refine wpAnyH_done (by kernel_rfl) ?_ _
              clear c0 c1 c2 c3 c4 c5 f0 f1 f2 f3 f4 f5
              go_wp2_with fail
              go_meet
              case rel =>
                obtain ⟨v2, v3, v4⟩ := HV.out
                have z1 := HBD.out.size
                refine ⟨_, y, yn, yc, rfl, rfl, HBD.out.trans ((HS2.out _ HP9.out).mono z1), HX.out, v3.turns HP9.out (fun hn a ha e => ?_), fun a ha => by have := v4 a ha; omega⟩
                have := v4 a ha
                have e' : a.block = wD.heap.size := e
                omega
          case rest =>
            obtain ⟨mb, y, yn, yc, rfl, rfl, HC2⟩ := hcut
            clear HAp a0 a1 a2 a3 a4 a5 e0 e1 e2 e3 e4 e5 e6 e7 e8
            obtain ⟨r1, r2, r3, r4⟩ := HC2.out
            have c0 : wc.cell? ⟨mb, 0, none⟩ = some (.int .i64 (applyP u.m d).2.ep) := cell_heap r2 rfl
            have c1 : wc.cell? ⟨mb, 1, none⟩ = some (.int .i64 (applyP u.m d).2.pool.k) := cell_heap r2 rfl
            have c2 : wc.cell? ⟨mb, 2, none⟩ = some (.int .i64 (applyP u.m d).2.pool.m) := cell_heap r2 rfl
            have c3 : wc.cell? ⟨mb, 3, none⟩ = some (.int .i64 (applyP u.m d).2.pool.pgs) := cell_heap r2 rfl
            have c4 : wc.cell? ⟨mb, 4, none⟩ = some (.int .i64 (applyP u.m d).2.pool.dom) := cell_heap r2 rfl
            have c5 : wc.cell? ⟨mb, 5, none⟩ = some (.slice y yn yc) := cell_heap r2 rfl
            obtain ⟨hMr, hq, hu, hlen⟩ := HMr.out
            have hNL := HNL.out
            by_cases hz : (applyP u.m d).1 = 0
            · have hqz : ((applyP u.m d).1 == (0 : Int)) = true := by simpa using hz
              obtain ⟨x', n', c', w3, hap, HN⟩ := hMr.push (v := ⟨(applyP u.m d).2, y, yn, yc⟩) (c := d) (m := u.m) (by omega) (.inr ⟨u, by rw [hq, Nat.add_sub_cancel]; exact hu, rfl⟩) rfl hz r1 r3 (fun _ hn a ha e => by
                have := r4 a ha
                have := (hMr.own.tb e).2.lt
                omega)
              rw [← hNL] at hap
              have HLn : Hid (LM.length ≤ k + 1) := hlen
              clear hMr hq hu hlen r1 r2 r3 r4 HC2 hz hNL
              dsimp only at hap
              generalize (applyP u.m d).1 = E1 at *
              generalize (applyP u.m d).2 = M2 at *
              go_wp2_with (at_builtin; refine wpList_append_run rfl _ _ _ rfl _ _ rfl rfl hap ?_)
              go_roundw
              case rel => exact ⟨k + 1, _, _, by omega, by go_num, rfl, HN.out, by have := HLn.out; simp; omega⟩
              case measure => simp [intOf]; omega
            · have hqz : ((applyP u.m d).1 == (0 : Int)) = false := by simpa using hz
              have HN : Hid (Mr w0 wc p (.slice (some ⟨g, 0, none⟩) nl cl) LM ∧ LM.length ≤ k + 1) := by
                rw [hNL]
                refine ⟨⟨on hMr.bel r1, hMr.own.below r1, fun v hv => ⟨(hMr.each v hv).1.below r1, (hMr.each v hv).2⟩, hMr.ok, hMr.ne⟩, hlen⟩
              clear hMr hq hu hlen r1 r2 r3 r4 HC2 hz hNL
              generalize (applyP u.m d).1 = E1 at *
              generalize (applyP u.m d).2 = M2 at *
              go_wp2_with fail
              go_roundw
              case rel => exact ⟨k + 1, _, _, by omega, by go_num, rfl, HN.out.1, by have := HN.out.2; omega⟩
              case measure => simp [intOf]; omega
        · obtain ⟨hMr, hlen⟩ := HR.out
          obtain ⟨g, cl, rfl, hlc, hcm, hg1, hg2⟩ := hMr.own.there hMr.ne
          have HF : Hid (Mr w0 wr p (.slice (some ⟨g, 0, none⟩) LM.length cl) LM ∧ 1 ≤ LM.length ∧ LM.length ≤ 41) := ⟨hMr, by have := List.length_pos_iff.2 hMr.ne; omega, by omega⟩
          clear hMr hlen hg1 hg2 hcm hlc HR
          by_cases hkn : (k : Int) < (n : Int)
          · have hk40 : ¬ (k : Int) < 40 := by omega
            go_wp2_with fail
            refine bodyPost_ret (results_tmp2 rfl _ _ _) rfl ?_
            obtain ⟨f1, f2, f3⟩ := HF.out
            exact .inr ⟨HP.out, by have := HP2.out.2; omega, _, _, _, rfl, LM, on HB.out f1.bel, f1.ms, f1.ok, f2, f3⟩
          · go_wp2_with fail
            refine bodyPost_ret (results_tmp2 rfl _ _ _) rfl ?_
            obtain ⟨f1, f2, f3⟩ := HF.out
            exact .inr ⟨HP.out, by have := HP2.out.2; omega, _, _, _, rfl, LM, on HB.out f1.bel, f1.ms, f1.ok, f2, f3⟩

end Go.Proofs.YthlfmbijagpggaaGreat.Iv

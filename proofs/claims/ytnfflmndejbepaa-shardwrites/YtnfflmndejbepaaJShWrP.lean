/-
  2 texts of this proof, one behind the other: ShWrP, ShItem.
-/
import Derived.Test.YtnfflmndejbepaaShDo
import Derived.Test.YtnfflmndejbepaaShAct
import Derived.Test.YtnfflmndejbepaaShRBk
import Derived.Test.YtnfflmndejbepaaJShSeat
import Derived.Test.YtnfflmndejbepaaJByRows
import Derived.Deep.Slices
/-
  Write, plainly; what is left of a holder whose shard was written to.
  Conditions: none.
-/
namespace Go.Proofs.Ytnfflmndejbepaa.Sh
set_option linter.unusedSectionVars false
variable [Inhabited DZ]
open Go.RowKit By Fl
set_option linter.unusedVariables false
set_option linter.unusedSimpArgs false
set_option maxRecDepth 100000

def writeP (H : Hld) (since : Int) (e : Ent) (c : Chk) : Hld × Int :=
  if (actP H since).2 ≠ 0 then actP H since else if bz (okE e) && bz (okC c) then
    (if ((actP H since).1.now.log.length : Int) + 1 < e.seq then ((actP H since).1, 9)
     else if e.seq = ((actP H since).1.now.log.length : Int) + 1 then (⟨(actP H since).1.fe, doE (actP H since).1.now e c, (actP H since).1.nx⟩, 0)
     else if bz ((actP H since).1.now.log[(e.seq - 1).toNat]? = some e) then ((actP H since).1, 0) else ((actP H since).1, 8))
  else (H, 1)

/- No list of it is too long. -/
def SmallS (s : Shd) : Prop := s.its.length < 99999990 ∧ s.log.length < 99999990 ∧ s.und.length < 99999990
def Small (H : Hld) : Prop := ∀ s ∈ H.now :: H.nx, SmallS s

theorem act_yes {H : Hld} {since : Int} (h : (actP H since).2 = 0) : okH (actP H since).1 ∧ (actP H since).1.now.si = since ∧ (actP H since).1.fe = since ∧ (actP H since).1.now ∈ H.now :: H.nx ∧ ∀ s ∈ (actP H since).1.nx, s ∈ H.nx := by
  by_cases ha : (askP H since).2 = 0
  · obtain ⟨hH, hw, hf, _⟩ := ask_yes ha
    unfold actP at h ⊢
    rw [if_neg (by simp [ha])] at h ⊢
    cases hs : atH H since with
    | none => rw [hs] at h; cases h
    | some s =>
      dsimp only
      obtain ⟨h1, h2⟩ := act_ok hH hw.1 hw.2 hf hs
      refine ⟨h1, h2, rfl, ?_, fun t ht => (List.mem_filter.1 ht).1⟩
      unfold atH at hs
      split at hs
      · cases hs
      · exact (atL_mem hs).1
  · rw [act_no ha] at h
    exact absurd h ha

theorem act_small {H : Hld} {since : Int} (h : (actP H since).2 = 0) (hs : Small H) : Small (actP H since).1 := fun s hm => by
  obtain ⟨_, _, _, h4, h5⟩ := act_yes h
  rcases List.mem_cons.1 hm with e | e
  · rw [e]; exact hs _ h4
  · exact hs s (List.mem_cons_of_mem _ (h5 s e))

section
variable {w w1 wc w' W : World} {G0 Gl : Nat → Prop} {GN : Nat → Nat → Prop} {v : HV}

theorem hcells {g : Nat} {t : TypeId} (h : W.heap[g]? = some (.cells (HCells v) t (0, 0))) : W.cell? ⟨g, 0, none⟩ = some (.int .i64 v.fe) ∧ W.cell? ⟨g, 1, none⟩ = some (.int .i64 v.now.pl) ∧ W.cell? ⟨g, 2, none⟩ = some (.int .i64 v.now.si) ∧ W.cell? ⟨g, 3, none⟩ = some (.slice v.now.x1 v.now.n1 v.now.c1) ∧ W.cell? ⟨g, 4, none⟩ = some (.slice v.now.x2 v.now.n2 v.now.c2) ∧ W.cell? ⟨g, 5, none⟩ = some (.slice v.now.x3 v.now.n3 v.now.c3) ∧ W.cell? ⟨g, 6, none⟩ = some (.slice v.x v.n v.c) :=
  ⟨cell_heap h rfl, cell_heap h rfl, cell_heap h rfl, cell_heap h rfl, cell_heap h rfl, cell_heap h rfl, cell_heap h rfl⟩

/- What was told to a box turns nothing of a holder of one's own that came behind it. -/
theorem own_end {r : Nat} {H : Hld} {z : Int} (h1 : Below w.heap.size w w1) (hr : w.heap.size ≤ r ∧ r < w1.heap.size) (hb : Below w1.heap.size w1 wc) (h : OwH wc G0 Gl GN v) (hp : pH v = H) (hq : ∀ q, AllG G0 Gl GN q → New w1 wc q) (t : Turns (fun k => k = r) wc W) : Tells w H z (.returned (.tuple #[vH v, .int .i64 z])) W := by
  have s1 := hb.size
  have s2 := t.size
  have s0 := h1.size
  refine ⟨v, rfl, hid ⟨G0, Gl, GN, h.keeps (.turns t fun q hg e => by have := (hq q hg).1; omega), hp, (on h1 hb).trans (t.below (fun q e => by omega) (by omega)), fun q hg => ?_⟩⟩
  have := hq q hg
  exact ⟨by have := this.1; omega, by have := this.2; omega⟩

/- Its shard was written to. -/
theorem OwH.done {p : Nat} {s : Shd} (h : OwH w G0 Gl GN v) (hq : ∀ q, AllG G0 Gl GN q → q < w.heap.size ∧ q ≠ p) (T : Turned w G0 p 1 (HCells v) 29 s w') :
    ∃ u : SV, OwH w' (fun q => G0 q ∨ New w w' q) Gl GN ⟨v.fe, u, v.x, v.n, v.c, v.N⟩ ∧ pS u = s ∧ Turns (fun q => q = p ∨ G0 q) w w' ∧
      w'.cell? ⟨p, 0, none⟩ = some (.int .i64 v.fe) ∧ w'.cell? ⟨p, 1, none⟩ = some (.int .i64 u.pl) ∧ w'.cell? ⟨p, 2, none⟩ = some (.int .i64 u.si) ∧ w'.cell? ⟨p, 3, none⟩ = some (.slice u.x1 u.n1 u.c1) ∧ w'.cell? ⟨p, 4, none⟩ = some (.slice u.x2 u.n2 u.c2) ∧ w'.cell? ⟨p, 5, none⟩ = some (.slice u.x3 u.n3 u.c3) ∧ w'.cell? ⟨p, 6, none⟩ = some (.slice v.x v.n v.c) := by
  obtain ⟨u, A', hp, hA, hj, ho, hs, tt⟩ := T
  have kk : ∀ F : Nat → Prop, (∀ q, F q → q ≠ p ∧ ¬ G0 q) → Keeps F w w' := fun F hF => .turns tt fun q hf e => by
    rcases e with e | e
    · exact (hF q hf).1 e
    · exact (hF q hf).2 e
  refine ⟨u, ⟨ho, ?_, h.gl, fun i s hi => (h.nx i s hi).keeps (kk _ fun q hg => ⟨(hq q (.inr (.inr ⟨i, hg⟩))).2, (h.d1 i q hg).1⟩), fun q hg hl => ?_, fun i q hg => ⟨fun e => ?_, (h.d1 i q hg).2⟩, h.d2, h.ln⟩, hs, tt,
    cell_heap hp ((hj 0 (.inl (by omega))).trans rfl), cell_heap hp hA.1, cell_heap hp hA.2.1, cell_heap hp hA.2.2.1, cell_heap hp hA.2.2.2.1, cell_heap hp hA.2.2.2.2, cell_heap hp ((hj 6 (.inr (by omega))).trans rfl)⟩
  · exact h.own.turns tt fun q hg e => by
      rcases e with e | e
      · exact (hq q (.inr (.inl (h.gl q hg)))).2 e
      · exact h.d0 q e (h.gl q hg)
  · rcases hg with e | e
    · exact h.d0 q e hl
    · have := (hq q (.inr (.inl hl))).1
      have := e.1
      omega
  · rcases e with e | e
    · exact (h.d1 i q hg).1 e
    · have := (hq q (.inr (.inr ⟨i, hg⟩))).1
      have := e.1
      omega
end

end Go.Proofs.Ytnfflmndejbepaa.Sh

/-
  What a law's second form is told of shards, holders, entries with their chunks, and lists of them, that came in.
  Conditions: none.
-/
namespace Go.Proofs.Ytnfflmndejbepaa.Sh
open Go.RowKit Go.ChangeShapes Go.WideShapes Go.Deep By Fl
set_option linter.unusedVariables false
set_option linter.unusedSimpArgs false
set_option maxRecDepth 100000

theorem bulk_mem {H : Type} {d : DataW H} : ∀ {l : List (DataW H)}, d ∈ l → Rows.uptoBulk d ≤ Rows.uptoBulkAll l
  | x :: l, h => by
    simp only [Rows.uptoBulkAll]
    rcases List.mem_cons.1 h with h | h
    · subst h; omega
    · have := bulk_mem h
      omega

theorem okWide_array {P : Program} {w : World} {base : Nat} {t e : TypeId} {k : Nat} {v : Value} (ht : P.underlying t = some (.array k e)) (h : Value.okWide P w .any base t v) : ∃ cs, v = .agg cs ∧ cs.size = P.cellsOf t := by
  simp only [Value.okWide, ht] at h
  obtain ⟨cs, h1, h2, _⟩ := h
  exact ⟨cs, h1, h2⟩

/- A list that is read, of cells that are there. -/
theorem lis_made {α : Type} [Inhabited α] {W : World} {en : α → List Value} {sz : Nat} {A : World → (Nat → Prop) → α → Prop} (a : Addr) (len cap : Nat) (hl : len ≤ cap) (hs : len ≤ 100000000) (hz : 0 < sz) (hne : ∀ v, 0 < (en v).length)
    (each : ∀ i, i < len → ∃ v : α, (∀ (j : Nat) (u : Value), (en v)[j]? = some u → W.cell? (a.add (i * sz + j)) = some u) ∧ A W (fun _ => True) v) : ∃ L : List α, Lis en sz A W (fun _ => True) (some a) len cap L := by
  obtain ⟨V, hV⟩ := choose_lt each
  refine ⟨(List.range len).map V, ⟨by simp, hl, hs, (fun h => by cases h), ?_, fun x hx => ?_⟩⟩
  · by_cases h0 : len = 0
    · exact .inl h0
    · obtain ⟨b, off, spot⟩ := a
      have c0 := (hV 0 (by omega)).1 0 _ (List.getElem?_eq_getElem (hne _))
      have hspot : spot = none := by simpa [Addr.add] using World.cell?_spot c0
      subst hspot
      refine .inr ⟨b, off, rfl, by simpa [Addr.add] using cell_lt' c0, trivial, fun q x hq j u hu => ?_⟩
      have hql : q < len := by simpa using (List.getElem?_eq_some_iff.1 hq).1
      have hx : V q = x := by simpa [hql] using hq
      subst hx
      have := (hV q hql).1 j u hu
      rw [add_at] at this
      rw [← Nat.add_assoc] at this
      exact this
  · obtain ⟨i, hi, rfl⟩ := List.mem_map.1 hx
    exact (hV i (List.mem_range.1 hi)).2

structure PV where
  e : Ent
  c : CV
def enP (v : PV) : List Value := enE v.e ++ enC v.c
def PAt (w : World) (F : Nat → Prop) (v : PV) : Prop := EAt w F v.e ∧ CAt w F v.c
def enH (v : HV) : List Value := (HCells v).toList
def vP (v : PV) : Value := .agg #[.int .i64 v.e.seq, .int .i64 v.e.cl, .int .i64 v.e.ks, .string v.e.nm, .int .i64 v.e.code, .bool v.e.gone, .int .i64 v.e.sz, .int .i64 v.c.sz, .slice v.c.x v.c.n v.c.c, .int .u32 v.c.sum]

section
variable {H : Type} {enc : TypeId × Value → H} {W : World} {base : Nat} {held : Bool} {d : DataW H} {p : List MemPlace}

theorem bytes_sl {fuel : Nat} {cs : List Value} (hf : DataW.trod enc Try.prog W base (fun _ => true) held fuel 33 cs = some (d, p)) (hw : Rows.uptoBulk d ≤ 1048576) :
    ∃ a len cap l, cs = [.slice a len cap] ∧ SlF W (fun _ => True) a len cap l ∧ len ≤ 1048576 := by
  obtain ⟨a, len, cap, f, h1, h2, h3⟩ := bytes_in_upto hf hw
  exact ⟨a, len, cap, _, h1, ⟨Sl.of_in h2, by omega, fun _ _ _ => trivial⟩, h3⟩

theorem chunk_n : Try.prog.cellsOf 36 = 3 := by kernel_rfl
theorem chunk_cells {fuel : Nat} {e0 e1 e2 : Value} (hf : DataW.trod enc Try.prog W base (fun _ => true) held fuel 36 [e0, e1, e2] = some (d, p)) (hw : Rows.uptoBulk d ≤ 1048576) :
    ∃ v : CV, [e0, e1, e2] = enC v ∧ CAt W (fun _ => True) v := by
  have c0 : Try.prog.cellsOf 3 = 1 := by kernel_rfl
  have c1 : Try.prog.cellsOf 33 = 1 := by kernel_rfl
  have c2 : Try.prog.cellsOf 34 = 1 := by kernel_rfl
  obtain ⟨xs, n, _, hx, _, hxl, hF⟩ := DataW.trod_struct Try.underlying36 hf
  simp only [Prod.mk.injEq] at hx
  obtain ⟨hd, _⟩ := hx
  subst hd
  obtain ⟨x0, x1, x2, rfl⟩ : ∃ x0 x1 x2, xs = [x0, x1, x2] := by
    match xs, hxl with
    | [x0, x1, x2], _ => exact ⟨x0, x1, x2, rfl⟩
  have f0' : DataW.trod enc Try.prog W base (fun _ => true) held n 3 (([e0, e1, e2].drop 0).take (Try.prog.cellsOf 3)) = some x0 := hF 0 _ rfl
  rw [c0] at f0'
  have f0 : DataW.trod enc Try.prog W base (fun _ => true) held n 3 [e0] = some (x0.1, x0.2) := f0'
  have f1' : DataW.trod enc Try.prog W base (fun _ => true) held n 33 (([e0, e1, e2].drop 1).take (Try.prog.cellsOf 33)) = some x1 := hF 1 _ rfl
  rw [c1] at f1'
  have f1 : DataW.trod enc Try.prog W base (fun _ => true) held n 33 [e1] = some (x1.1, x1.2) := f1'
  have f2' : DataW.trod enc Try.prog W base (fun _ => true) held n 34 (([e0, e1, e2].drop 2).take (Try.prog.cellsOf 34)) = some x2 := hF 2 _ rfl
  rw [c2] at f2'
  have f2 : DataW.trod enc Try.prog W base (fun _ => true) held n 34 [e2] = some (x2.1, x2.2) := f2'
  obtain ⟨v0, q0, _⟩ := DataW.trod_int Try.underlying3 f0
  simp at q0
  subst q0
  obtain ⟨v2, q2, _⟩ := DataW.trod_int Try.underlying34 f2
  simp at q2
  subst q2
  simp only [Rows.uptoBulk, List.map_cons, List.map_nil, Rows.uptoBulkAll] at hw
  obtain ⟨a1, l1, k1, L1, g1, w1, m1⟩ := bytes_sl f1 (by omega)
  simp at g1
  subst g1
  exact ⟨⟨v0, a1, l1, k1, L1, v2⟩, rfl, w1⟩

theorem item_n : Try.prog.cellsOf 79 = 4 := by kernel_rfl
theorem item_cells {fuel : Nat} {e0 e1 e2 e3 : Value} (hf : DataW.trod enc Try.prog W base (fun _ => true) held fuel 79 [e0, e1, e2, e3] = some (d, p)) (hw : Rows.uptoBulk d ≤ 1048576) :
    ∃ v : IV, [e0, e1, e2, e3] = enI v ∧ IAt W (fun _ => True) v := by
  have c0 : Try.prog.cellsOf 9 = 1 := by kernel_rfl
  have c1 : Try.prog.cellsOf 36 = 3 := by kernel_rfl
  obtain ⟨xs, n, _, hx, _, hxl, hF⟩ := DataW.trod_struct Try.underlying79 hf
  simp only [Prod.mk.injEq] at hx
  obtain ⟨hd, _⟩ := hx
  subst hd
  obtain ⟨x0, x1, rfl⟩ : ∃ x0 x1, xs = [x0, x1] := by
    match xs, hxl with
    | [x0, x1], _ => exact ⟨x0, x1, rfl⟩
  have f0' : DataW.trod enc Try.prog W base (fun _ => true) held n 9 (([e0, e1, e2, e3].drop 0).take (Try.prog.cellsOf 9)) = some x0 := hF 0 _ rfl
  rw [c0] at f0'
  have f0 : DataW.trod enc Try.prog W base (fun _ => true) held n 9 [e0] = some (x0.1, x0.2) := f0'
  have f1' : DataW.trod enc Try.prog W base (fun _ => true) held n 36 (([e0, e1, e2, e3].drop 1).take (Try.prog.cellsOf 36)) = some x1 := hF 1 _ rfl
  rw [c1] at f1'
  have f1 : DataW.trod enc Try.prog W base (fun _ => true) held n 36 [e1, e2, e3] = some (x1.1, x1.2) := f1'
  obtain ⟨v0, q0, r0, _⟩ := DataW.trod_string Try.underlying9 f0
  simp at q0
  subst q0
  simp only [Rows.uptoBulk, List.map_cons, List.map_nil, Rows.uptoBulkAll] at hw
  have s0 : v0.size ≤ 1048576 := by
    have h1 : v0.data.toList.length = v0.size := Array.length_toList
    rw [show x0.1 = _ from congrArg Prod.fst r0] at hw
    simp only [Rows.uptoBulk] at hw
    omega
  obtain ⟨V1, g1, w1⟩ := chunk_cells f1 (by omega)
  simp only [enC, List.cons.injEq, and_true] at g1
  obtain ⟨rfl, rfl, rfl⟩ := g1
  exact ⟨⟨v0, V1⟩, rfl, s0, w1⟩

theorem key_n : Try.prog.cellsOf 65 = 2 := by kernel_rfl
theorem key_cells {fuel : Nat} {e0 e1 : Value} (hf : DataW.trod enc Try.prog W base (fun _ => true) held fuel 65 [e0, e1] = some (d, p)) (hw : Rows.uptoBulk d ≤ 1048576) :
    ∃ v : Int × Int, [e0, e1] = [.int .i64 v.1, .int .i64 v.2] ∧ True := by
  have c0 : Try.prog.cellsOf 3 = 1 := by kernel_rfl
  obtain ⟨xs, n, _, hx, _, hxl, hF⟩ := DataW.trod_struct Try.underlying65 hf
  simp only [Prod.mk.injEq] at hx
  obtain ⟨hd, _⟩ := hx
  subst hd
  obtain ⟨x0, x1, rfl⟩ : ∃ x0 x1, xs = [x0, x1] := by
    match xs, hxl with
    | [x0, x1], _ => exact ⟨x0, x1, rfl⟩
  have f0' : DataW.trod enc Try.prog W base (fun _ => true) held n 3 (([e0, e1].drop 0).take (Try.prog.cellsOf 3)) = some x0 := hF 0 _ rfl
  rw [c0] at f0'
  have f0 : DataW.trod enc Try.prog W base (fun _ => true) held n 3 [e0] = some (x0.1, x0.2) := f0'
  have f1' : DataW.trod enc Try.prog W base (fun _ => true) held n 3 (([e0, e1].drop 1).take (Try.prog.cellsOf 3)) = some x1 := hF 1 _ rfl
  rw [c0] at f1'
  have f1 : DataW.trod enc Try.prog W base (fun _ => true) held n 3 [e1] = some (x1.1, x1.2) := f1'
  obtain ⟨v0, q0, _⟩ := DataW.trod_int Try.underlying3 f0
  simp at q0
  subst q0
  obtain ⟨v1, q1, _⟩ := DataW.trod_int Try.underlying3 f1
  simp at q1
  subst q1
  simp only [Rows.uptoBulk, List.map_cons, List.map_nil, Rows.uptoBulkAll] at hw
  exact ⟨⟨v0, v1⟩, rfl, trivial⟩

theorem entry_n : Try.prog.cellsOf 67 = 7 := by kernel_rfl
theorem entry_cells {fuel : Nat} {e0 e1 e2 e3 e4 e5 e6 : Value} (hf : DataW.trod enc Try.prog W base (fun _ => true) held fuel 67 [e0, e1, e2, e3, e4, e5, e6] = some (d, p)) (hw : Rows.uptoBulk d ≤ 1048576) :
    ∃ v : Ent, [e0, e1, e2, e3, e4, e5, e6] = enE v ∧ EAt W (fun _ => True) v := by
  have c0 : Try.prog.cellsOf 3 = 1 := by kernel_rfl
  have c1 : Try.prog.cellsOf 65 = 2 := by kernel_rfl
  have c2 : Try.prog.cellsOf 9 = 1 := by kernel_rfl
  have c3 : Try.prog.cellsOf 39 = 1 := by kernel_rfl
  have c4 : Try.prog.cellsOf 4 = 1 := by kernel_rfl
  obtain ⟨xs, n, _, hx, _, hxl, hF⟩ := DataW.trod_struct Try.underlying67 hf
  simp only [Prod.mk.injEq] at hx
  obtain ⟨hd, _⟩ := hx
  subst hd
  obtain ⟨x0, x1, x2, x3, x4, x5, rfl⟩ : ∃ x0 x1 x2 x3 x4 x5, xs = [x0, x1, x2, x3, x4, x5] := by
    match xs, hxl with
    | [x0, x1, x2, x3, x4, x5], _ => exact ⟨x0, x1, x2, x3, x4, x5, rfl⟩
  have f0' : DataW.trod enc Try.prog W base (fun _ => true) held n 3 (([e0, e1, e2, e3, e4, e5, e6].drop 0).take (Try.prog.cellsOf 3)) = some x0 := hF 0 _ rfl
  rw [c0] at f0'
  have f0 : DataW.trod enc Try.prog W base (fun _ => true) held n 3 [e0] = some (x0.1, x0.2) := f0'
  have f1' : DataW.trod enc Try.prog W base (fun _ => true) held n 65 (([e0, e1, e2, e3, e4, e5, e6].drop 1).take (Try.prog.cellsOf 65)) = some x1 := hF 1 _ rfl
  rw [c1] at f1'
  have f1 : DataW.trod enc Try.prog W base (fun _ => true) held n 65 [e1, e2] = some (x1.1, x1.2) := f1'
  have f2' : DataW.trod enc Try.prog W base (fun _ => true) held n 9 (([e0, e1, e2, e3, e4, e5, e6].drop 3).take (Try.prog.cellsOf 9)) = some x2 := hF 2 _ rfl
  rw [c2] at f2'
  have f2 : DataW.trod enc Try.prog W base (fun _ => true) held n 9 [e3] = some (x2.1, x2.2) := f2'
  have f3' : DataW.trod enc Try.prog W base (fun _ => true) held n 39 (([e0, e1, e2, e3, e4, e5, e6].drop 4).take (Try.prog.cellsOf 39)) = some x3 := hF 3 _ rfl
  rw [c3] at f3'
  have f3 : DataW.trod enc Try.prog W base (fun _ => true) held n 39 [e4] = some (x3.1, x3.2) := f3'
  have f4' : DataW.trod enc Try.prog W base (fun _ => true) held n 4 (([e0, e1, e2, e3, e4, e5, e6].drop 5).take (Try.prog.cellsOf 4)) = some x4 := hF 4 _ rfl
  rw [c4] at f4'
  have f4 : DataW.trod enc Try.prog W base (fun _ => true) held n 4 [e5] = some (x4.1, x4.2) := f4'
  have f5' : DataW.trod enc Try.prog W base (fun _ => true) held n 3 (([e0, e1, e2, e3, e4, e5, e6].drop 6).take (Try.prog.cellsOf 3)) = some x5 := hF 5 _ rfl
  rw [c0] at f5'
  have f5 : DataW.trod enc Try.prog W base (fun _ => true) held n 3 [e6] = some (x5.1, x5.2) := f5'
  obtain ⟨v0, q0, _⟩ := DataW.trod_int Try.underlying3 f0
  simp at q0
  subst q0
  obtain ⟨v2, q2, r2, _⟩ := DataW.trod_string Try.underlying9 f2
  simp at q2
  subst q2
  obtain ⟨v3, q3, _⟩ := DataW.trod_int Try.underlying39 f3
  simp at q3
  subst q3
  obtain ⟨v4, q4, _⟩ := DataW.trod_bool Try.underlying4 f4
  simp at q4
  subst q4
  obtain ⟨v5, q5, _⟩ := DataW.trod_int Try.underlying3 f5
  simp at q5
  subst q5
  simp only [Rows.uptoBulk, List.map_cons, List.map_nil, Rows.uptoBulkAll] at hw
  obtain ⟨V1, g1, w1⟩ := key_cells f1 (by omega)
  have s2 : v2.size ≤ 1048576 := by
    have h1 : v2.data.toList.length = v2.size := Array.length_toList
    rw [show x2.1 = _ from congrArg Prod.fst r2] at hw
    simp only [Rows.uptoBulk] at hw
    omega
  simp only [List.cons.injEq, and_true] at g1
  obtain ⟨rfl, rfl⟩ := g1
  exact ⟨⟨v0, V1.1, V1.2, v2, v3, v4, v5⟩, rfl, s2⟩

theorem undo_n : Try.prog.cellsOf 89 = 6 := by kernel_rfl
theorem undo_cells {fuel : Nat} {e0 e1 e2 e3 e4 e5 : Value} (hf : DataW.trod enc Try.prog W base (fun _ => true) held fuel 89 [e0, e1, e2, e3, e4, e5] = some (d, p)) (hw : Rows.uptoBulk d ≤ 1048576) :
    ∃ v : UV, [e0, e1, e2, e3, e4, e5] = enU v ∧ UAt W (fun _ => True) v := by
  have c0 : Try.prog.cellsOf 3 = 1 := by kernel_rfl
  have c1 : Try.prog.cellsOf 9 = 1 := by kernel_rfl
  have c2 : Try.prog.cellsOf 4 = 1 := by kernel_rfl
  have c3 : Try.prog.cellsOf 36 = 3 := by kernel_rfl
  obtain ⟨xs, n, _, hx, _, hxl, hF⟩ := DataW.trod_struct Try.underlying89 hf
  simp only [Prod.mk.injEq] at hx
  obtain ⟨hd, _⟩ := hx
  subst hd
  obtain ⟨x0, x1, x2, x3, rfl⟩ : ∃ x0 x1 x2 x3, xs = [x0, x1, x2, x3] := by
    match xs, hxl with
    | [x0, x1, x2, x3], _ => exact ⟨x0, x1, x2, x3, rfl⟩
  have f0' : DataW.trod enc Try.prog W base (fun _ => true) held n 3 (([e0, e1, e2, e3, e4, e5].drop 0).take (Try.prog.cellsOf 3)) = some x0 := hF 0 _ rfl
  rw [c0] at f0'
  have f0 : DataW.trod enc Try.prog W base (fun _ => true) held n 3 [e0] = some (x0.1, x0.2) := f0'
  have f1' : DataW.trod enc Try.prog W base (fun _ => true) held n 9 (([e0, e1, e2, e3, e4, e5].drop 1).take (Try.prog.cellsOf 9)) = some x1 := hF 1 _ rfl
  rw [c1] at f1'
  have f1 : DataW.trod enc Try.prog W base (fun _ => true) held n 9 [e1] = some (x1.1, x1.2) := f1'
  have f2' : DataW.trod enc Try.prog W base (fun _ => true) held n 4 (([e0, e1, e2, e3, e4, e5].drop 2).take (Try.prog.cellsOf 4)) = some x2 := hF 2 _ rfl
  rw [c2] at f2'
  have f2 : DataW.trod enc Try.prog W base (fun _ => true) held n 4 [e2] = some (x2.1, x2.2) := f2'
  have f3' : DataW.trod enc Try.prog W base (fun _ => true) held n 36 (([e0, e1, e2, e3, e4, e5].drop 3).take (Try.prog.cellsOf 36)) = some x3 := hF 3 _ rfl
  rw [c3] at f3'
  have f3 : DataW.trod enc Try.prog W base (fun _ => true) held n 36 [e3, e4, e5] = some (x3.1, x3.2) := f3'
  obtain ⟨v0, q0, _⟩ := DataW.trod_int Try.underlying3 f0
  simp at q0
  subst q0
  obtain ⟨v1, q1, r1, _⟩ := DataW.trod_string Try.underlying9 f1
  simp at q1
  subst q1
  obtain ⟨v2, q2, _⟩ := DataW.trod_bool Try.underlying4 f2
  simp at q2
  subst q2
  simp only [Rows.uptoBulk, List.map_cons, List.map_nil, Rows.uptoBulkAll] at hw
  have s1 : v1.size ≤ 1048576 := by
    have h1 : v1.data.toList.length = v1.size := Array.length_toList
    rw [show x1.1 = _ from congrArg Prod.fst r1] at hw
    simp only [Rows.uptoBulk] at hw
    omega
  obtain ⟨V3, g3, w3⟩ := chunk_cells f3 (by omega)
  simp only [enC, List.cons.injEq, and_true] at g3
  obtain ⟨rfl, rfl, rfl⟩ := g3
  exact ⟨⟨v0, v1, v2, V3⟩, rfl, s1, w3⟩

theorem items_in {fuel : Nat} {cs : List Value} (hf : DataW.trod enc Try.prog W base (fun _ => true) held fuel 22 cs = some (d, p)) (hw : Rows.uptoBulk d ≤ 1048576) :
    ∃ a len cap L, cs = [.slice a len cap] ∧ Lis enI 4 (IAt) W (fun _ => True) a len cap L ∧ len ≤ 1048576 := by
  rcases open_slice Try.underlying22 hf with ⟨h1, h2⟩ | ⟨a, len, cap, m, n, DD, Pl, rfl, hb, hl, hm, hmm, hx, hcell⟩
  · exact ⟨none, 0, 0, [], h1, Lis.empty W _, by omega⟩
  · simp only [if_true] at hmm
    subst hmm
    simp only [Prod.mk.injEq] at hx
    obtain ⟨rfl, _⟩ := hx
    simp only [Rows.uptoBulk] at hw
    have hbk := bulk_each (H := H) ((List.range len).map DD)
    simp only [List.length_map, List.length_range] at hbk
    haveI : Inhabited IV := ⟨⟨ByteArray.empty, ⟨0, none, 0, 0, [], 0⟩⟩⟩
    have hc : Try.prog.cellsOf 79 = 4 := by kernel_rfl
    have each : ∀ i, i < len → ∃ v : IV, (∀ (j : Nat) (u : Value), (enI v)[j]? = some u → W.cell? (a.add (i * 4 + j)) = some u) ∧ (IAt) W (fun _ => True) v := fun i hi => by
      obtain ⟨cs', h1, h2⟩ := hcell i (by omega)
      rw [hc] at h1
      obtain ⟨_, hlen, hcc⟩ := World.cells?_some h1
      have hmem := bulk_mem (H := H) (d := DD i) (l := (List.range len).map DD) (List.mem_map.2 ⟨i, List.mem_range.2 hi, rfl⟩)
      match cs', hlen, hcc, h2 with
      | [e0, e1, e2, e3], _, hcc, h2 =>
        obtain ⟨v, hv, k⟩ := item_cells h2 (by omega)
        refine ⟨v, fun j u hu => ?_, k⟩
        rw [← hv] at hu
        have hj := (List.getElem?_eq_some_iff.1 hu).1
        have q := hcc j (by simpa using hj)
        rw [add_add] at q
        rw [q, ← hu]
    obtain ⟨L, hL⟩ := lis_made a len m hl (by omega) (by omega) (fun v => by simp [enI]) each
    exact ⟨some a, len, m, L, rfl, hL, by omega⟩

theorem entries_in {fuel : Nat} {cs : List Value} (hf : DataW.trod enc Try.prog W base (fun _ => true) held fuel 23 cs = some (d, p)) (hw : Rows.uptoBulk d ≤ 1048576) :
    ∃ a len cap L, cs = [.slice a len cap] ∧ Lis enE 7 (EAt) W (fun _ => True) a len cap L ∧ len ≤ 1048576 := by
  rcases open_slice Try.underlying23 hf with ⟨h1, h2⟩ | ⟨a, len, cap, m, n, DD, Pl, rfl, hb, hl, hm, hmm, hx, hcell⟩
  · exact ⟨none, 0, 0, [], h1, Lis.empty W _, by omega⟩
  · simp only [if_true] at hmm
    subst hmm
    simp only [Prod.mk.injEq] at hx
    obtain ⟨rfl, _⟩ := hx
    simp only [Rows.uptoBulk] at hw
    have hbk := bulk_each (H := H) ((List.range len).map DD)
    simp only [List.length_map, List.length_range] at hbk
    haveI : Inhabited Ent := ⟨⟨0, 0, 0, ByteArray.empty, 0, false, 0⟩⟩
    have hc : Try.prog.cellsOf 67 = 7 := by kernel_rfl
    have each : ∀ i, i < len → ∃ v : Ent, (∀ (j : Nat) (u : Value), (enE v)[j]? = some u → W.cell? (a.add (i * 7 + j)) = some u) ∧ (EAt) W (fun _ => True) v := fun i hi => by
      obtain ⟨cs', h1, h2⟩ := hcell i (by omega)
      rw [hc] at h1
      obtain ⟨_, hlen, hcc⟩ := World.cells?_some h1
      have hmem := bulk_mem (H := H) (d := DD i) (l := (List.range len).map DD) (List.mem_map.2 ⟨i, List.mem_range.2 hi, rfl⟩)
      match cs', hlen, hcc, h2 with
      | [e0, e1, e2, e3, e4, e5, e6], _, hcc, h2 =>
        obtain ⟨v, hv, k⟩ := entry_cells h2 (by omega)
        refine ⟨v, fun j u hu => ?_, k⟩
        rw [← hv] at hu
        have hj := (List.getElem?_eq_some_iff.1 hu).1
        have q := hcc j (by simpa using hj)
        rw [add_add] at q
        rw [q, ← hu]
    obtain ⟨L, hL⟩ := lis_made a len m hl (by omega) (by omega) (fun v => by simp [enE]) each
    exact ⟨some a, len, m, L, rfl, hL, by omega⟩

theorem undos_in {fuel : Nat} {cs : List Value} (hf : DataW.trod enc Try.prog W base (fun _ => true) held fuel 24 cs = some (d, p)) (hw : Rows.uptoBulk d ≤ 1048576) :
    ∃ a len cap L, cs = [.slice a len cap] ∧ Lis enU 6 (UAt) W (fun _ => True) a len cap L ∧ len ≤ 1048576 := by
  rcases open_slice Try.underlying24 hf with ⟨h1, h2⟩ | ⟨a, len, cap, m, n, DD, Pl, rfl, hb, hl, hm, hmm, hx, hcell⟩
  · exact ⟨none, 0, 0, [], h1, Lis.empty W _, by omega⟩
  · simp only [if_true] at hmm
    subst hmm
    simp only [Prod.mk.injEq] at hx
    obtain ⟨rfl, _⟩ := hx
    simp only [Rows.uptoBulk] at hw
    have hbk := bulk_each (H := H) ((List.range len).map DD)
    simp only [List.length_map, List.length_range] at hbk
    haveI : Inhabited UV := ⟨⟨0, ByteArray.empty, false, ⟨0, none, 0, 0, [], 0⟩⟩⟩
    have hc : Try.prog.cellsOf 89 = 6 := by kernel_rfl
    have each : ∀ i, i < len → ∃ v : UV, (∀ (j : Nat) (u : Value), (enU v)[j]? = some u → W.cell? (a.add (i * 6 + j)) = some u) ∧ (UAt) W (fun _ => True) v := fun i hi => by
      obtain ⟨cs', h1, h2⟩ := hcell i (by omega)
      rw [hc] at h1
      obtain ⟨_, hlen, hcc⟩ := World.cells?_some h1
      have hmem := bulk_mem (H := H) (d := DD i) (l := (List.range len).map DD) (List.mem_map.2 ⟨i, List.mem_range.2 hi, rfl⟩)
      match cs', hlen, hcc, h2 with
      | [e0, e1, e2, e3, e4, e5], _, hcc, h2 =>
        obtain ⟨v, hv, k⟩ := undo_cells h2 (by omega)
        refine ⟨v, fun j u hu => ?_, k⟩
        rw [← hv] at hu
        have hj := (List.getElem?_eq_some_iff.1 hu).1
        have q := hcc j (by simpa using hj)
        rw [add_add] at q
        rw [q, ← hu]
    obtain ⟨L, hL⟩ := lis_made a len m hl (by omega) (by omega) (fun v => by simp [enU]) each
    exact ⟨some a, len, m, L, rfl, hL, by omega⟩

/- A shard that came in: none of its lists is long. -/
def SIn (w : World) (F : Nat → Prop) (v : SV) : Prop := SAt w F v ∧ v.I.length ≤ 1048576 ∧ v.E.length ≤ 1048576 ∧ v.U.length ≤ 1048576
theorem SIn.small {w : World} {F : Nat → Prop} {v : SV} (h : SIn w F v) : SmallS (pS v) := by
  obtain ⟨_, h1, h2, h3⟩ := h
  refine ⟨?_, ?_, ?_⟩
  · show (v.I.map pI).length < _
    rw [List.length_map]; omega
  · show v.E.length < _
    omega
  · show (v.U.map pU).length < _
    rw [List.length_map]; omega
structure HIn (w : World) (v : HV) : Prop where
  at_ : HAt w (fun _ => True) v
  small : Small (pH v)
  tiny : v.now.I.length ≤ 1048576 ∧ v.now.E.length ≤ 1048576 ∧ v.now.U.length ≤ 1048576

theorem shard_n : Try.prog.cellsOf 26 = 5 := by kernel_rfl
theorem shard_cells {fuel : Nat} {e0 e1 e2 e3 e4 : Value} (hf : DataW.trod enc Try.prog W base (fun _ => true) held fuel 26 [e0, e1, e2, e3, e4] = some (d, p)) (hw : Rows.uptoBulk d ≤ 1048576) :
    ∃ v : SV, [e0, e1, e2, e3, e4] = enS v ∧ SIn W (fun _ => True) v := by
  have c0 : Try.prog.cellsOf 3 = 1 := by kernel_rfl
  have c1 : Try.prog.cellsOf 22 = 1 := by kernel_rfl
  have c2 : Try.prog.cellsOf 23 = 1 := by kernel_rfl
  have c3 : Try.prog.cellsOf 24 = 1 := by kernel_rfl
  obtain ⟨xs, n, _, hx, _, hxl, hF⟩ := DataW.trod_struct Try.underlying26 hf
  simp only [Prod.mk.injEq] at hx
  obtain ⟨hd, _⟩ := hx
  subst hd
  obtain ⟨x0, x1, x2, x3, x4, rfl⟩ : ∃ x0 x1 x2 x3 x4, xs = [x0, x1, x2, x3, x4] := by
    match xs, hxl with
    | [x0, x1, x2, x3, x4], _ => exact ⟨x0, x1, x2, x3, x4, rfl⟩
  have f0' : DataW.trod enc Try.prog W base (fun _ => true) held n 3 (([e0, e1, e2, e3, e4].drop 0).take (Try.prog.cellsOf 3)) = some x0 := hF 0 _ rfl
  rw [c0] at f0'
  have f0 : DataW.trod enc Try.prog W base (fun _ => true) held n 3 [e0] = some (x0.1, x0.2) := f0'
  have f1' : DataW.trod enc Try.prog W base (fun _ => true) held n 3 (([e0, e1, e2, e3, e4].drop 1).take (Try.prog.cellsOf 3)) = some x1 := hF 1 _ rfl
  rw [c0] at f1'
  have f1 : DataW.trod enc Try.prog W base (fun _ => true) held n 3 [e1] = some (x1.1, x1.2) := f1'
  have f2' : DataW.trod enc Try.prog W base (fun _ => true) held n 22 (([e0, e1, e2, e3, e4].drop 2).take (Try.prog.cellsOf 22)) = some x2 := hF 2 _ rfl
  rw [c1] at f2'
  have f2 : DataW.trod enc Try.prog W base (fun _ => true) held n 22 [e2] = some (x2.1, x2.2) := f2'
  have f3' : DataW.trod enc Try.prog W base (fun _ => true) held n 23 (([e0, e1, e2, e3, e4].drop 3).take (Try.prog.cellsOf 23)) = some x3 := hF 3 _ rfl
  rw [c2] at f3'
  have f3 : DataW.trod enc Try.prog W base (fun _ => true) held n 23 [e3] = some (x3.1, x3.2) := f3'
  have f4' : DataW.trod enc Try.prog W base (fun _ => true) held n 24 (([e0, e1, e2, e3, e4].drop 4).take (Try.prog.cellsOf 24)) = some x4 := hF 4 _ rfl
  rw [c3] at f4'
  have f4 : DataW.trod enc Try.prog W base (fun _ => true) held n 24 [e4] = some (x4.1, x4.2) := f4'
  obtain ⟨v0, q0, _⟩ := DataW.trod_int Try.underlying3 f0
  simp at q0
  subst q0
  obtain ⟨v1, q1, _⟩ := DataW.trod_int Try.underlying3 f1
  simp at q1
  subst q1
  simp only [Rows.uptoBulk, List.map_cons, List.map_nil, Rows.uptoBulkAll] at hw
  obtain ⟨a2, l2, k2, L2, g2, w2, m2⟩ := items_in f2 (by omega)
  simp at g2
  subst g2
  obtain ⟨a3, l3, k3, L3, g3, w3, m3⟩ := entries_in f3 (by omega)
  simp at g3
  subst g3
  obtain ⟨a4, l4, k4, L4, g4, w4, m4⟩ := undos_in f4 (by omega)
  simp at g4
  subst g4
  exact ⟨⟨v0, v1, a2, l2, k2, L2, a3, l3, k3, L3, a4, l4, k4, L4⟩, rfl, ⟨w2, w3, w4⟩, by show L2.length ≤ _; rw [w2.len]; exact m2, by show L3.length ≤ _; rw [w3.len]; exact m3, by show L4.length ≤ _; rw [w4.len]; exact m4⟩

theorem shards_in {fuel : Nat} {cs : List Value} (hf : DataW.trod enc Try.prog W base (fun _ => true) held fuel 27 cs = some (d, p)) (hw : Rows.uptoBulk d ≤ 1048576) :
    ∃ a len cap L, cs = [.slice a len cap] ∧ Lis enS 5 (SIn) W (fun _ => True) a len cap L ∧ len ≤ 1048576 := by
  rcases open_slice Try.underlying27 hf with ⟨h1, h2⟩ | ⟨a, len, cap, m, n, DD, Pl, rfl, hb, hl, hm, hmm, hx, hcell⟩
  · exact ⟨none, 0, 0, [], h1, Lis.empty W _, by omega⟩
  · simp only [if_true] at hmm
    subst hmm
    simp only [Prod.mk.injEq] at hx
    obtain ⟨rfl, _⟩ := hx
    simp only [Rows.uptoBulk] at hw
    have hbk := bulk_each (H := H) ((List.range len).map DD)
    simp only [List.length_map, List.length_range] at hbk
    haveI : Inhabited SV := ⟨zSV⟩
    have hc : Try.prog.cellsOf 26 = 5 := by kernel_rfl
    have each : ∀ i, i < len → ∃ v : SV, (∀ (j : Nat) (u : Value), (enS v)[j]? = some u → W.cell? (a.add (i * 5 + j)) = some u) ∧ (SIn) W (fun _ => True) v := fun i hi => by
      obtain ⟨cs', h1, h2⟩ := hcell i (by omega)
      rw [hc] at h1
      obtain ⟨_, hlen, hcc⟩ := World.cells?_some h1
      have hmem := bulk_mem (H := H) (d := DD i) (l := (List.range len).map DD) (List.mem_map.2 ⟨i, List.mem_range.2 hi, rfl⟩)
      match cs', hlen, hcc, h2 with
      | [e0, e1, e2, e3, e4], _, hcc, h2 =>
        obtain ⟨v, hv, k⟩ := shard_cells h2 (by omega)
        refine ⟨v, fun j u hu => ?_, k⟩
        rw [← hv] at hu
        have hj := (List.getElem?_eq_some_iff.1 hu).1
        have q := hcc j (by simpa using hj)
        rw [add_add] at q
        rw [q, ← hu]
    obtain ⟨L, hL⟩ := lis_made a len m hl (by omega) (by omega) (fun v => by simp [enS]) each
    exact ⟨some a, len, m, L, rfl, hL, by omega⟩

theorem holder_n : Try.prog.cellsOf 29 = 7 := by kernel_rfl
theorem holder_cells {fuel : Nat} {e0 e1 e2 e3 e4 e5 e6 : Value} (hf : DataW.trod enc Try.prog W base (fun _ => true) held fuel 29 [e0, e1, e2, e3, e4, e5, e6] = some (d, p)) (hw : Rows.uptoBulk d ≤ 1048576) :
    ∃ v : HV, [e0, e1, e2, e3, e4, e5, e6] = enH v ∧ HIn W v := by
  have c0 : Try.prog.cellsOf 3 = 1 := by kernel_rfl
  have c1 : Try.prog.cellsOf 26 = 5 := by kernel_rfl
  have c2 : Try.prog.cellsOf 27 = 1 := by kernel_rfl
  obtain ⟨xs, n, _, hx, _, hxl, hF⟩ := DataW.trod_struct Try.underlying29 hf
  simp only [Prod.mk.injEq] at hx
  obtain ⟨hd, _⟩ := hx
  subst hd
  obtain ⟨x0, x1, x2, rfl⟩ : ∃ x0 x1 x2, xs = [x0, x1, x2] := by
    match xs, hxl with
    | [x0, x1, x2], _ => exact ⟨x0, x1, x2, rfl⟩
  have f0' : DataW.trod enc Try.prog W base (fun _ => true) held n 3 (([e0, e1, e2, e3, e4, e5, e6].drop 0).take (Try.prog.cellsOf 3)) = some x0 := hF 0 _ rfl
  rw [c0] at f0'
  have f0 : DataW.trod enc Try.prog W base (fun _ => true) held n 3 [e0] = some (x0.1, x0.2) := f0'
  have f1' : DataW.trod enc Try.prog W base (fun _ => true) held n 26 (([e0, e1, e2, e3, e4, e5, e6].drop 1).take (Try.prog.cellsOf 26)) = some x1 := hF 1 _ rfl
  rw [c1] at f1'
  have f1 : DataW.trod enc Try.prog W base (fun _ => true) held n 26 [e1, e2, e3, e4, e5] = some (x1.1, x1.2) := f1'
  have f2' : DataW.trod enc Try.prog W base (fun _ => true) held n 27 (([e0, e1, e2, e3, e4, e5, e6].drop 6).take (Try.prog.cellsOf 27)) = some x2 := hF 2 _ rfl
  rw [c2] at f2'
  have f2 : DataW.trod enc Try.prog W base (fun _ => true) held n 27 [e6] = some (x2.1, x2.2) := f2'
  obtain ⟨v0, q0, _⟩ := DataW.trod_int Try.underlying3 f0
  simp at q0
  subst q0
  simp only [Rows.uptoBulk, List.map_cons, List.map_nil, Rows.uptoBulkAll] at hw
  obtain ⟨V1, g1, w1⟩ := shard_cells f1 (by omega)
  obtain ⟨a2, l2, k2, L2, g2, w2, m2⟩ := shards_in f2 (by omega)
  simp at g2
  subst g2
  simp only [enS, List.cons.injEq, and_true] at g1
  obtain ⟨rfl, rfl, rfl, rfl, rfl⟩ := g1
  refine ⟨⟨v0, V1, a2, l2, k2, L2⟩, rfl, ⟨w1.1, ⟨w2.len, w2.le, w2.small, w2.nil, w2.row, fun a ha => (w2.each a ha).1⟩⟩, fun s hs => ?_, w1.2⟩
  rcases List.mem_cons.1 hs with h | h
  · rw [h]; exact w1.small
  · obtain ⟨t, ht, rfl⟩ := List.mem_map.1 h
    exact (w2.each t ht).small

theorem put_n : Try.prog.cellsOf 69 = 10 := by kernel_rfl
theorem put_cells {fuel : Nat} {e0 e1 e2 e3 e4 e5 e6 e7 e8 e9 : Value} (hf : DataW.trod enc Try.prog W base (fun _ => true) held fuel 69 [e0, e1, e2, e3, e4, e5, e6, e7, e8, e9] = some (d, p)) (hw : Rows.uptoBulk d ≤ 1048576) :
    ∃ v : PV, [e0, e1, e2, e3, e4, e5, e6, e7, e8, e9] = enP v ∧ PAt W (fun _ => True) v := by
  have c0 : Try.prog.cellsOf 67 = 7 := by kernel_rfl
  have c1 : Try.prog.cellsOf 36 = 3 := by kernel_rfl
  obtain ⟨xs, n, _, hx, _, hxl, hF⟩ := DataW.trod_struct Try.underlying69 hf
  simp only [Prod.mk.injEq] at hx
  obtain ⟨hd, _⟩ := hx
  subst hd
  obtain ⟨x0, x1, rfl⟩ : ∃ x0 x1, xs = [x0, x1] := by
    match xs, hxl with
    | [x0, x1], _ => exact ⟨x0, x1, rfl⟩
  have f0' : DataW.trod enc Try.prog W base (fun _ => true) held n 67 (([e0, e1, e2, e3, e4, e5, e6, e7, e8, e9].drop 0).take (Try.prog.cellsOf 67)) = some x0 := hF 0 _ rfl
  rw [c0] at f0'
  have f0 : DataW.trod enc Try.prog W base (fun _ => true) held n 67 [e0, e1, e2, e3, e4, e5, e6] = some (x0.1, x0.2) := f0'
  have f1' : DataW.trod enc Try.prog W base (fun _ => true) held n 36 (([e0, e1, e2, e3, e4, e5, e6, e7, e8, e9].drop 7).take (Try.prog.cellsOf 36)) = some x1 := hF 1 _ rfl
  rw [c1] at f1'
  have f1 : DataW.trod enc Try.prog W base (fun _ => true) held n 36 [e7, e8, e9] = some (x1.1, x1.2) := f1'
  simp only [Rows.uptoBulk, List.map_cons, List.map_nil, Rows.uptoBulkAll] at hw
  obtain ⟨V0, g0, w0⟩ := entry_cells f0 (by omega)
  obtain ⟨V1, g1, w1⟩ := chunk_cells f1 (by omega)
  simp only [enE, List.cons.injEq, and_true] at g0
  obtain ⟨rfl, rfl, rfl, rfl, rfl, rfl, rfl⟩ := g0
  simp only [enC, List.cons.injEq, and_true] at g1
  obtain ⟨rfl, rfl, rfl⟩ := g1
  exact ⟨⟨V0, V1⟩, rfl, w0, w1⟩

theorem puts_in {fuel : Nat} {cs : List Value} (hf : DataW.trod enc Try.prog W base (fun _ => true) held fuel 74 cs = some (d, p)) (hw : Rows.uptoBulk d ≤ 1048576) :
    ∃ a len cap L, cs = [.slice a len cap] ∧ Lis enP 10 (PAt) W (fun _ => True) a len cap L ∧ len ≤ 1048576 := by
  rcases open_slice Try.underlying74 hf with ⟨h1, h2⟩ | ⟨a, len, cap, m, n, DD, Pl, rfl, hb, hl, hm, hmm, hx, hcell⟩
  · exact ⟨none, 0, 0, [], h1, Lis.empty W _, by omega⟩
  · simp only [if_true] at hmm
    subst hmm
    simp only [Prod.mk.injEq] at hx
    obtain ⟨rfl, _⟩ := hx
    simp only [Rows.uptoBulk] at hw
    have hbk := bulk_each (H := H) ((List.range len).map DD)
    simp only [List.length_map, List.length_range] at hbk
    haveI : Inhabited PV := ⟨⟨⟨0, 0, 0, ByteArray.empty, 0, false, 0⟩, ⟨0, none, 0, 0, [], 0⟩⟩⟩
    have hc : Try.prog.cellsOf 69 = 10 := by kernel_rfl
    have each : ∀ i, i < len → ∃ v : PV, (∀ (j : Nat) (u : Value), (enP v)[j]? = some u → W.cell? (a.add (i * 10 + j)) = some u) ∧ (PAt) W (fun _ => True) v := fun i hi => by
      obtain ⟨cs', h1, h2⟩ := hcell i (by omega)
      rw [hc] at h1
      obtain ⟨_, hlen, hcc⟩ := World.cells?_some h1
      have hmem := bulk_mem (H := H) (d := DD i) (l := (List.range len).map DD) (List.mem_map.2 ⟨i, List.mem_range.2 hi, rfl⟩)
      match cs', hlen, hcc, h2 with
      | [e0, e1, e2, e3, e4, e5, e6, e7, e8, e9], _, hcc, h2 =>
        obtain ⟨v, hv, k⟩ := put_cells h2 (by omega)
        refine ⟨v, fun j u hu => ?_, k⟩
        rw [← hv] at hu
        have hj := (List.getElem?_eq_some_iff.1 hu).1
        have q := hcc j (by simpa using hj)
        rw [add_add] at q
        rw [q, ← hu]
    obtain ⟨L, hL⟩ := lis_made a len m hl (by omega) (by omega) (fun v => by simp [enP, enE]) each
    exact ⟨some a, len, m, L, rfl, hL, by omega⟩

theorem shard_arg {v : Value} (hv : ∃ cs, v = .agg cs ∧ cs.size = Try.prog.cellsOf 26) (h : DataW.Trod enc Try.prog W base (fun _ => true) held 26 v d p) (hw : Rows.uptoBulk d ≤ 1048576) : ∃ V : SV, v = vS V ∧ SIn W (fun _ => True) V := by
  obtain ⟨cs, rfl, hcs⟩ := hv
  obtain ⟨fuel, hf⟩ := h
  rw [show Try.prog.cellsOf 26 = 5 by kernel_rfl] at hcs
  obtain ⟨e0, e1, e2, e3, e4, rfl⟩ : ∃ e0 e1 e2 e3 e4, cs = #[e0, e1, e2, e3, e4] := by
    obtain ⟨l⟩ := cs
    match l, hcs with
    | [e0, e1, e2, e3, e4], _ => exact ⟨e0, e1, e2, e3, e4, rfl⟩
  change DataW.trod enc Try.prog W base (fun _ => true) held fuel 26 [e0, e1, e2, e3, e4] = some (d, p) at hf
  obtain ⟨V, hV, hin⟩ := shard_cells hf hw
  refine ⟨V, ?_, hin⟩
  have e1 : (#[e0, e1, e2, e3, e4] : Array Value) = (enS V).toArray := by rw [← hV]
  rw [e1]
  rfl

theorem holder_arg {v : Value} (hv : ∃ cs, v = .agg cs ∧ cs.size = Try.prog.cellsOf 29) (h : DataW.Trod enc Try.prog W base (fun _ => true) held 29 v d p) (hw : Rows.uptoBulk d ≤ 1048576) : ∃ V : HV, v = vH V ∧ HIn W V := by
  obtain ⟨cs, rfl, hcs⟩ := hv
  obtain ⟨fuel, hf⟩ := h
  rw [show Try.prog.cellsOf 29 = 7 by kernel_rfl] at hcs
  obtain ⟨e0, e1, e2, e3, e4, e5, e6, rfl⟩ : ∃ e0 e1 e2 e3 e4 e5 e6, cs = #[e0, e1, e2, e3, e4, e5, e6] := by
    obtain ⟨l⟩ := cs
    match l, hcs with
    | [e0, e1, e2, e3, e4, e5, e6], _ => exact ⟨e0, e1, e2, e3, e4, e5, e6, rfl⟩
  change DataW.trod enc Try.prog W base (fun _ => true) held fuel 29 [e0, e1, e2, e3, e4, e5, e6] = some (d, p) at hf
  obtain ⟨V, hV, hin⟩ := holder_cells hf hw
  refine ⟨V, ?_, hin⟩
  have e1 : (#[e0, e1, e2, e3, e4, e5, e6] : Array Value) = (enH V).toArray := by rw [← hV]
  rw [e1]
  rfl

theorem put_arg {v : Value} (hv : ∃ cs, v = .agg cs ∧ cs.size = Try.prog.cellsOf 69) (h : DataW.Trod enc Try.prog W base (fun _ => true) held 69 v d p) (hw : Rows.uptoBulk d ≤ 1048576) : ∃ V : PV, v = vP V ∧ PAt W (fun _ => True) V := by
  obtain ⟨cs, rfl, hcs⟩ := hv
  obtain ⟨fuel, hf⟩ := h
  rw [show Try.prog.cellsOf 69 = 10 by kernel_rfl] at hcs
  obtain ⟨e0, e1, e2, e3, e4, e5, e6, e7, e8, e9, rfl⟩ : ∃ e0 e1 e2 e3 e4 e5 e6 e7 e8 e9, cs = #[e0, e1, e2, e3, e4, e5, e6, e7, e8, e9] := by
    obtain ⟨l⟩ := cs
    match l, hcs with
    | [e0, e1, e2, e3, e4, e5, e6, e7, e8, e9], _ => exact ⟨e0, e1, e2, e3, e4, e5, e6, e7, e8, e9, rfl⟩
  change DataW.trod enc Try.prog W base (fun _ => true) held fuel 69 [e0, e1, e2, e3, e4, e5, e6, e7, e8, e9] = some (d, p) at hf
  obtain ⟨V, hV, hin⟩ := put_cells hf hw
  refine ⟨V, ?_, hin⟩
  have e1 : (#[e0, e1, e2, e3, e4, e5, e6, e7, e8, e9] : Array Value) = (enP V).toArray := by rw [← hV]
  rw [e1]
  rfl

theorem two_in {v : Value} (hv : ∃ cs, v = .agg cs ∧ cs.size = Try.prog.cellsOf 30) (h : DataW.Trod enc Try.prog W base (fun _ => true) held 30 v d p) :
    ∃ V U : Int, v = .agg #[.int .i64 V, .int .i64 U] := by
  obtain ⟨cs, rfl, hcs⟩ := hv
  obtain ⟨fuel, hf⟩ := h
  rw [show Try.prog.cellsOf 30 = 2 by kernel_rfl] at hcs
  have int_one : Try.prog.cellsOf 3 = 1 := by kernel_rfl
  obtain ⟨e0, e1, rfl⟩ : ∃ e0 e1, cs = #[e0, e1] := by
    obtain ⟨l⟩ := cs
    match l, hcs with
    | [e0, e1], _ => exact ⟨e0, e1, rfl⟩
  change DataW.trod enc Try.prog W base (fun _ => true) held fuel 30 [e0, e1] = some (d, p) at hf
  obtain ⟨xs, n, _, hx, _, hxl, hF⟩ := DataW.trod_array Try.underlying30 hf
  obtain ⟨x0, x1, rfl⟩ : ∃ x0 x1, xs = [x0, x1] := by
    match xs, hxl with
    | [x0, x1], _ => exact ⟨x0, x1, rfl⟩
  have f0' := hF 0 (by omega)
  have f1' := hF 1 (by omega)
  rw [int_one] at f0' f1'
  have f0 : DataW.trod enc Try.prog W base (fun _ => true) held n 3 [e0] = some (x0.1, x0.2) := f0'
  have f1 : DataW.trod enc Try.prog W base (fun _ => true) held n 3 [e1] = some (x1.1, x1.2) := f1'
  obtain ⟨v0, q0, _⟩ := DataW.trod_int Try.underlying3 f0
  obtain ⟨v1, q1, _⟩ := DataW.trod_int Try.underlying3 f1
  simp at q0 q1
  subst q0 q1
  exact ⟨v0, v1, rfl⟩

end

end Go.Proofs.Ytnfflmndejbepaa.Sh

/-
  5 texts of this proof, one behind the other: BaBump, BaAccV, BaCount, BaChosen, BaPick.
-/
import Derived.Test.YtfgfjfemaniaiaaJ04
import Derived.Test.YtfgfjfemaniaiaaJ02
import Derived.Test.YtfgfjfemaniaiaaJ01
import Derived.WideKeyEntry
import Derived.DeepKeys4
import Derived.Maps.OwnSet
import Derived.Maps.OwnOps
import Derived.Maps.RangeWalk
/-
  Bytes that are turned one by one.
  Conditions: none.
-/
namespace Go.Proofs.Ytfgfjfemaniaiaa.Ba
open Go.RowKit By Fl
set_option linter.unusedVariables false
set_option linter.unusedSimpArgs false
set_option maxRecDepth 100000

def atB (g : Nat) : Nat → Prop := fun k => k = g

structure Bm (w0 w : World) (g n : Nat) (d : List Nat) (i : Nat) : Prop where
  turns : Turns (atB g) w0 w
  rest : ∀ j, i ≤ j → j < n → w.cell? ⟨g, j, none⟩ = some (.int .u8 (gl d j : Int)) ∧ w.frozen? ⟨g, j, none⟩ = false

theorem Bm.start {w : World} {g n c : Nat} {d : List Nat} (h : Sl w (some ⟨g, 0, none⟩) n c d) (hf : ∀ j, w.frozen? ⟨g, j, none⟩ = false) : Bm w w g n d 0 := by
  refine ⟨Turns.refl _ _, fun j _ hj => ?_⟩
  rcases h.row with h0 | ⟨b, o, e, _, hc⟩
  · omega
  · injection e with e
    injection e with e1 e2 _
    subst e1
    subst e2
    have := hc j hj
    rw [Nat.zero_add] at this
    exact ⟨this, hf j⟩

theorem Bm.step {w0 w : World} {n g : Nat} {d : List Nat} {i : Nat} (h : Bm w0 w g n d i) (u : Value) : Bm w0 (w.setCell ⟨g, i, none⟩ u) g n d (i + 1) := by
  refine ⟨h.turns.setCell (p := ⟨g, i, none⟩) (.inl rfl) u, fun j hj hn => ?_⟩
  obtain ⟨h1, h2⟩ := h.rest j (by omega) hn
  refine ⟨(World.cell?_setCell_other _ _ _ _ (fun e => ?_)).trans h1, ?_⟩
  · injection e with _ e _
    omega
  · rw [World.frozen?_setCell]
    exact h2

theorem keept {G : Nat → Prop} {w v : World} {b o : Nat} {x : Value} (t : Turns G w v) (hb : ¬ G b) (h : w.cell? ⟨b, o, none⟩ = some x) : v.cell? ⟨b, o, none⟩ = some x :=
  (World.cell?_of_block (a := ⟨b, o, none⟩) (t.block b (cell_lt' h) hb)).trans h

theorem keeptf {G : Nat → Prop} {w v : World} {b o : Nat} (t : Turns G w v) (hb : ¬ G b) (hlt : b < w.heap.size) (h : w.frozen? ⟨b, o, none⟩ = false) : v.frozen? ⟨b, o, none⟩ = false := by
  rw [← h]
  unfold World.frozen?
  rw [t.block b hlt hb]

theorem keepn {g : Nat} {w v : World} {b o : Nat} {x : Value} (t : Turns (atB g) w v) (hb : b ≠ g) (h : w.cell? ⟨b, o, none⟩ = some x) : v.cell? ⟨b, o, none⟩ = some x := keept t hb h
theorem keepnf {g : Nat} {w v : World} {b o : Nat} (t : Turns (atB g) w v) (hb : b ≠ g) (hlt : b < w.heap.size) (h : w.frozen? ⟨b, o, none⟩ = false) : v.frozen? ⟨b, o, none⟩ = false := keeptf t hb hlt h

end Go.Proofs.Ytfgfjfemaniaiaa.Ba

/-
  An acceptor, and where its value lies.
  Conditions: none.
-/
namespace Go.Proofs.Ytfgfjfemaniaiaa.Ba
open Go.RowKit By Fl
set_option linter.unusedVariables false
set_option linter.unusedSimpArgs false
set_option maxRecDepth 100000

structure AccV where
  p : Bt
  a : Bt
  x : Option Addr
  n : Nat
  c : Nat
  d : List Nat

end Go.Proofs.Ytfgfjfemaniaiaa.Ba

/-
  Lists of acceptors as they lie in memory; a map by ballots: count.
  Conditions: none.
-/
namespace Go.Proofs.Ytfgfjfemaniaiaa.Ba
open Go.RowKit By Fl
set_option linter.unusedVariables false
set_option linter.unusedSimpArgs false
set_option maxRecDepth 100000

theorem st_mapentry {P : Program} {w w' : World} {ops : Array Oper} {o : Oper} {a : Act} {K : Act → World → Prop} {Q : Exit → Act → World → Prop} (hg : Region.wanted o (yielded ops a.tmps) = true) (m x : Operand) (t : TypeId)
    (ho : o.op = .mapEntry t m x) (v1 v2 v : Value) (hm : a.eval m = v1) (hx : a.eval x = v2) (hr : (Instr.mapEntry t v1 v2).run P w = .ok v w')
    (h : K (a.put o.dst v) w') : if Region.wanted o (yielded ops a.tmps) = true then Oper.wp P o a w K Q else K (a.put o.dst undef) w := by
  rw [if_pos hg]
  unfold Oper.wp
  simp only [execOp, ho, hm, hx, Sem.run_bind, hr, Result.andThen, Sem.run_pure]
  exact h

theorem st_entrystore {P : Program} {w w' : World} {ops : Array Oper} {o : Oper} {a : Act} {K : Act → World → Prop} {Q : Exit → Act → World → Prop} (hg : Region.wanted o (yielded ops a.tmps) = true) (m x v : Operand) (t : TypeId)
    (ho : o.op = .entryStore t m x v) (v1 v2 v3 : Value) (hm : a.eval m = v1) (hx : a.eval x = v2) (hv : a.eval v = v3) (hr : (Instr.entryStore t v1 v2 v3).run P w = .ok () w')
    (h : K (a.put o.dst undef) w') : if Region.wanted o (yielded ops a.tmps) = true then Oper.wp P o a w K Q else K (a.put o.dst undef) w := by
  rw [if_pos hg]
  unfold Oper.wp
  simp only [execOp, ho, hm, hx, hv, Sem.run_bind, hr, Result.andThen, Sem.run_pure]
  exact h

theorem st_lookup {P : Program} {w w' : World} {ops : Array Oper} {o : Oper} {a : Act} {K : Act → World → Prop} {Q : Exit → Act → World → Prop} (hg : Region.wanted o (yielded ops a.tmps) = true) (m x : Operand) (t : TypeId) (c : Bool)
    (ho : o.op = .lookup t m x c) (v1 v2 v : Value) (hm : a.eval m = v1) (hx : a.eval x = v2) (hr : (Instr.lookup t v1 v2 c).run P w = .ok v w')
    (h : K (a.put o.dst v) w') : if Region.wanted o (yielded ops a.tmps) = true then Oper.wp P o a w K Q else K (a.put o.dst undef) w := by
  rw [if_pos hg]
  unfold Oper.wp
  simp only [execOp, ho, hm, hx, Sem.run_bind, hr, Result.andThen, Sem.run_pure]
  exact h

section
variable {H : Type} {P : Program} {w : World} {t k e : TypeId} {R : Value → Option (DataW H × List MemPlace)} {b : Nat} {es : Array MapEntry} {clock : Nat}

/- An entry that is made ready for a store: as if what is there were stored again. -/
set_option maxHeartbeats 4000000 in
theorem entry_law (K : WideMaps.KeyLaw P k) (ht : P.underlying t = some (.map k e)) {z : Value} (hz : ∀ u : World, (zeroValue e).run P u = .ok z u) (hb : w.heap[b]? = some (.map es clock)) (F : WideElems.Fit P k R es clock)
    {key : Value} {kl : Lit} (hkey : keyOf P k key = some kl) :
    ∃ (v0 : Value) (st : Nat) (es1 : Array MapEntry) (c1 : Nat), (Instr.mapEntry t (.map (some b)) key).run P w = .ok (.tuple #[v0, goInt st]) (ChangeMaps.setBlock w b (.map es1 c1)) ∧ (Instr.mapUpdate t (.map (some b)) key v0).run P w = .ok () (ChangeMaps.setBlock w b (.map es1 c1)) ∧
      (Instr.lookup t (.map (some b)) key false).run P w = .ok v0 w ∧
      ∀ (val : Value), ∃ es' c', (Instr.entryStore t (.map (some b)) (goInt st) val).run P (ChangeMaps.setBlock w b (.map es1 c1)) = .ok () (ChangeMaps.setBlock w b (.map es' c')) ∧ (Instr.mapUpdate t (.map (some b)) key val).run P w = .ok () (ChangeMaps.setBlock w b (.map es' c')) := by
  obtain ⟨v0, st, es1, c1, h1, _, h3⟩ := WideElems.entry_then_store K ht hz hb F hkey
  have hs1 : (ChangeMaps.setBlock w b (.map es1 c1)).heap[b]? = some (.map es1 c1) := ChangeMaps.heap_setBlock_same hb _
  refine ⟨v0, st, es1, c1, h1, ?_, ?_, fun val => ?_⟩
  · rcases K.find w hkey es.toList F.keys with ⟨f1, f2⟩ | ⟨j, e0, f1, f2, f3⟩
    · have m1 : (Instr.mapEntry t (.map (some b)) key).run P w = .ok (.tuple #[z, goInt clock]) (ChangeMaps.setBlock w b (.map (es.push ⟨key, z, clock⟩) (clock + 1))) := by
        simp [Instr.mapEntry, run_underlying ht, MapKept.run_getObj_map hb, K.check w false hkey, f1, hz, MapKept.run_setObj_map _ hb, Result.andThen, ChangeMaps.setBlock]
      obtain ⟨e1, e2⟩ := Result.ok.inj (h1.symm.trans m1)
      simp at e1
      rw [e1.1, e2]
      simp [Instr.mapUpdate, run_underlying ht, MapKept.run_getObj_map hb, K.check w false hkey, f1, MapKept.run_setObj_map _ hb, Result.andThen, ChangeMaps.setBlock]
    · have hj : es[j]? = some e0 := by simpa using f2
      have m1 : (Instr.mapEntry t (.map (some b)) key).run P w = .ok (.tuple #[e0.val, goInt e0.born]) (ChangeMaps.setBlock w b (.map (es.modify j fun e => { e with key := key }) clock)) := by
        simp [Instr.mapEntry, run_underlying ht, MapKept.run_getObj_map hb, K.check w false hkey, f1, hj, f3, K.stays w hkey, MapKept.run_setObj_map _ hb, Result.andThen, ChangeMaps.setBlock]
      obtain ⟨e1, e2⟩ := Result.ok.inj (h1.symm.trans m1)
      simp at e1
      have e3 : (es.modify j fun e => { e with key := key }) = es.modify j fun e => { e with key := key, val := e0.val } := by
        apply Array.ext'
        rw [Array.toList_modify, Array.toList_modify, ChangeMaps.modify_eq_set _ _ _ _ f2, ChangeMaps.modify_eq_set _ _ _ _ f2]
      rw [e1.1, e2, e3]
      simp [Instr.mapUpdate, run_underlying ht, MapKept.run_getObj_map hb, K.check w false hkey, f1, hj, f3, K.stays w hkey, MapKept.run_setObj_map _ hb, Result.andThen, ChangeMaps.setBlock]
  · rcases K.find w hkey es.toList F.keys with ⟨f1, f2⟩ | ⟨j, e0, f1, f2, f3⟩
    · have m1 : (Instr.mapEntry t (.map (some b)) key).run P w = .ok (.tuple #[z, goInt clock]) (ChangeMaps.setBlock w b (.map (es.push ⟨key, z, clock⟩) (clock + 1))) := by
        simp [Instr.mapEntry, run_underlying ht, MapKept.run_getObj_map hb, K.check w false hkey, f1, hz, MapKept.run_setObj_map _ hb, Result.andThen, ChangeMaps.setBlock]
      obtain ⟨e1, e2⟩ := Result.ok.inj (h1.symm.trans m1)
      simp at e1
      rw [e1.1]
      simp [Instr.lookup, run_underlying ht, MapKept.run_getObj_map hb, K.check w _ hkey, f1, hz, Result.andThen]
    · have hj : es[j]? = some e0 := by simpa using f2
      have m1 : (Instr.mapEntry t (.map (some b)) key).run P w = .ok (.tuple #[e0.val, goInt e0.born]) (ChangeMaps.setBlock w b (.map (es.modify j fun e => { e with key := key }) clock)) := by
        simp [Instr.mapEntry, run_underlying ht, MapKept.run_getObj_map hb, K.check w false hkey, f1, hj, f3, K.stays w hkey, MapKept.run_setObj_map _ hb, Result.andThen, ChangeMaps.setBlock]
      obtain ⟨e1, e2⟩ := Result.ok.inj (h1.symm.trans m1)
      simp at e1
      rw [e1.1]
      simp [Instr.lookup, run_underlying ht, MapKept.run_getObj_map hb, K.check w _ hkey, f1, Result.andThen]
  · obtain ⟨es', c', q1, q2⟩ := h3 _ val hs1
    refine ⟨es', c', ?_, q2⟩
    rw [q1]
    simp [ChangeMaps.setBlock]

end


theorem wrap_ok {z : Int} (h0 : -1000000 ≤ z) (h1 : z ≤ 1000000) : IntKind.i64.wrap z = z := by
  unfold IntKind.wrap
  simp [IntKind.bits, IntKind.signed]
  omega

theorem wfi_small {z : Int} (h0 : -1000000 ≤ z) (h1 : z ≤ 1000000) : wfi z := by
  have e1 : IntKind.i64.min = -9223372036854775808 := by decide
  have e2 : IntKind.i64.max = 9223372036854775807 := by decide
  unfold wfi Lit.wf
  simp [e1, e2]
  omega

/- Keys that are ballots. -/
def blit (b : Bt) : Lit := .string (keyBytes [.int .i64 b.1, .int .i64 b.2])
theorem laidOut : laidOutB Try.prog = true := by kernel_rfl
theorem blaw0 : WideMaps.KeyLaw Try.prog 72 := deep_law_laid laidOut (m := 2) (by omega) (of_decide_eq_true (by kernel_rfl)) (by kernel_rfl) (by kernel_rfl)
theorem blaw : Maps.Keyed Try.prog 72 := Maps.Keyed.of_law blaw0

def bwf (b : Bt) : Prop := wfi b.1 ∧ wfi b.2

theorem key_lits (e0 e1 : Value) : Try.prog.keyLits (Try.prog.types.size + 1) 72 [e0, e1] = ((Try.prog.keyLits (159 + 1) 3 [e0]).bind fun a => (Try.prog.keyLits (159 + 1) 3 [e1]).bind fun b => some (a ++ b)) := by
  have h0 : Try.prog.types.size + 1 = 159 + 1 + 1 := by kernel_rfl
  have h2 : Try.prog.cellsOf 72 = 2 := by kernel_rfl
  have h3 : Try.prog.cellsOf 3 = 1 := by kernel_rfl
  rw [h0]
  conv => lhs; unfold Program.keyLits
  rw [Try.underlying72]
  simp [h2, h3]
  cases Try.prog.keyLits (159 + 1) 3 [e0] <;> cases Try.prog.keyLits (159 + 1) 3 [e1] <;> simp

theorem int_lits (e : Value) (l : List Lit) (h : Try.prog.keyLits (159 + 1) 3 [e] = some l) : ∃ z, e = .int .i64 z ∧ wfi z ∧ l = [.int .i64 z] := by
  unfold Program.keyLits at h
  rw [Try.underlying3] at h
  cases e <;> simp at h
  obtain ⟨⟨rfl, hw⟩, rfl⟩ := h
  exact ⟨_, rfl, hw, rfl⟩

theorem int_lits_mk {z : Int} (h : wfi z) : Try.prog.keyLits (159 + 1) 3 [.int .i64 z] = some [.int .i64 z] := by
  unfold Program.keyLits
  rw [Try.underlying3]
  unfold wfi at h
  simp [h]

theorem bk_key {b : Bt} (h : bwf b) : keyOf Try.prog 72 (bt b) = some (blit b) := by
  have h1 : Try.prog.keyType 72 = true := by kernel_rfl
  have h2 : (bt b).formed Try.prog 72 = true := by kernel_rfl
  have h3 : Try.prog.keyLits (Try.prog.types.size + 1) 72 (bt b).cells.toList = some [.int .i64 b.1, .int .i64 b.2] := by
    show Try.prog.keyLits (Try.prog.types.size + 1) 72 [.int .i64 b.1, .int .i64 b.2] = _
    rw [key_lits, int_lits_mk h.1, int_lits_mk h.2]
    rfl
  unfold keyOf
  rw [Try.underlying72]
  simp only [h1, h2, Bool.and_self, if_true, h3, Option.map_some]
  rfl

theorem bk_inj {a b : Bt} (ha : bwf a) (hb : bwf b) (h : blit a = blit b) : a = b := by
  have := blaw.inj (bk_key ha) (h ▸ bk_key hb)
  simp [bt] at this
  exact bt_ext this.1 this.2

theorem bk_inv {key : Value} {kl : Lit} (h : keyOf Try.prog 72 key = some kl) : ∃ b : Bt, key = bt b ∧ bwf b ∧ kl = blit b := by
  have hc : Try.prog.cellsOf 72 = 2 := by kernel_rfl
  unfold keyOf at h
  rw [Try.underlying72] at h
  dsimp only at h
  split at h
  · next hif =>
    simp only [Bool.and_eq_true] at hif
    have hf := hif.2
    cases key with
    | agg cs =>
      have hs : cs.size = 2 := by
        unfold Value.formed at hf
        rw [Try.underlying72, hc] at hf
        simpa using hf
      obtain ⟨e0, e1, rfl⟩ : ∃ e0 e1, cs = #[e0, e1] := by
        obtain ⟨l⟩ := cs
        match l, hs with
        | [e0, e1], _ => exact ⟨e0, e1, rfl⟩
      have hk : (Value.agg #[e0, e1]).cells.toList = [e0, e1] := rfl
      rw [hk, key_lits] at h
      cases k0 : Try.prog.keyLits (159 + 1) 3 [e0] with
      | none => rw [k0] at h; simp at h
      | some l0 =>
        cases k1 : Try.prog.keyLits (159 + 1) 3 [e1] with
        | none => rw [k0, k1] at h; simp at h
        | some l1 =>
          obtain ⟨z0, rfl, w0, rfl⟩ := int_lits _ _ k0
          obtain ⟨z1, rfl, w1, rfl⟩ := int_lits _ _ k1
          rw [k0, k1] at h
          simp at h
          exact ⟨(z0, z1), rfl, ⟨w0, w1⟩, h.symm⟩
    | _ => unfold Value.formed at hf; rw [Try.underlying72] at hf; cases hf
  · cases h

def updB (C : Bt → Int) (b : Bt) (v : Int) : Bt → Int := fun x => if x = b then v else C x

structure CtAt (w : World) (B lb nb : Nat) (D : DataW Value) (C : Bt → Int) : Prop where
  map : w.ownsMap Try.prog 72 (plainElem Try.prog 3) lb nb D
  cnt : ∀ b, bwf b → D.atKey (blit b) (.lit (.int .i64 0)) = .lit (.int .i64 (C b))
  bl : B ≤ lb

section
variable {w w' : World} {B lb nb : Nat} {D : DataW Value} {C : Bt → Int}

theorem CtAt.mb (h : CtAt w B lb nb D C) : Mb w lb := by
  obtain ⟨es, c, hb, _⟩ := h.map
  exact ⟨es, c, hb⟩

theorem CtAt.turns {G : Nat → Prop} (h : CtAt w B lb nb D C) (t : Turns G w w') (hl : ¬ G lb) : CtAt w' B lb nb D C := by
  obtain ⟨es, clock, hb, r⟩ := h.map
  exact ⟨⟨es, clock, (t.block lb h.map.lt hl).trans hb, r⟩, h.cnt, h.bl⟩

theorem CtAt.below (h : CtAt w B lb nb D C) (t : Below w.heap.size w w') : CtAt w' B lb nb D C := h.turns (Turns.of_below (F := fun _ => False) t) (fun h => h)

theorem CtAt.new (w : World) (B : Nat) (hB : B ≤ w.heap.size) : CtAt (w.alloc (.map #[] 0)) B w.heap.size 0 (.map []) (fun _ => 0) := ⟨World.ownsMap_made w _ _ _, fun _ _ => rfl, hB⟩

theorem zero_int (w : World) : (zeroValue 3).run Try.prog w = .ok (.int .i64 0) w := by kernel_rfl

theorem CtAt.look (h : CtAt w B lb nb D C) {b : Bt} (hb : bwf b) : (Instr.lookup 134 (.map (some lb)) (bt b) false).run Try.prog w = .ok (.int .i64 (C b)) w := by
  obtain ⟨c, h1, h2, _⟩ := h.map.lookup_int blaw Try.underlying134 Try.underlying3 (zero_int w) (bk_key hb)
  rw [h.cnt b hb] at h2
  injection h2 with h2
  injection h2 with _ h2
  rw [h1, h2]

theorem CtAt.entry (h : CtAt w B lb nb D C) (hn : nb < 1000000000) {b : Bt} (hb : bwf b) (v : Int) (hv : wfi v) :
    ∃ (v0 : Value) (st : Nat) (w1 w2 : World), (Instr.mapEntry 134 (.map (some lb)) (bt b)).run Try.prog w = .ok (.tuple #[v0, goInt st]) w1 ∧
      (Instr.lookup 134 (.map (some lb)) (bt b) false).run Try.prog w1 = .ok (.int .i64 (C b)) w1 ∧
      (Instr.entryStore 134 (.map (some lb)) (goInt st) (.int .i64 v)).run Try.prog w1 = .ok () w2 ∧
      Turns (fun k => k = lb) w w1 ∧ Turns (fun k => k = lb) w w2 ∧ ∃ D', CtAt w2 B lb (nb + 1) D' (updB C b v) := by
  have hM := h.map
  obtain ⟨es, clock, hbk, F, hsz, hD⟩ := h.map
  obtain ⟨v0, st, es1, c1, q1, q2, q3, q4⟩ := entry_law blaw0 Try.underlying134 zero_int hbk F (bk_key hb)
  rw [h.look hb] at q3
  injection q3 with q3 _
  subst q3
  obtain ⟨es', c', q5, q6⟩ := q4 (.int .i64 v)
  have tt : ∀ o, Turns (fun k => k = lb) w (ChangeMaps.setBlock w lb o) := fun o => ⟨rfl, rfl, rfl, by simp [ChangeMaps.setBlock], fun k _ hk => ChangeMaps.heap_setBlock_other hbk _ hk⟩
  have wc : wfi (C b) := by
    obtain ⟨c, h1, h2, h3⟩ := h.map.lookup_int blaw Try.underlying134 Try.underlying3 (zero_int w) (bk_key hb)
    rw [h.cnt b hb] at h2
    injection h2 with h2
    injection h2 with _ h2
    rw [h2]
    exact h3
  have put : ∀ (u : Int) (o : Obj), wfi u → (Instr.mapUpdate 134 (.map (some lb)) (bt b) (.int .i64 u)).run Try.prog w = .ok () (ChangeMaps.setBlock w lb o) → CtAt (ChangeMaps.setBlock w lb o) B lb (nb + 1) (D.put (blit b) (.lit (.int .i64 u))) (updB C b u) := fun u o hu hr => by
    obtain ⟨w', p1, p2, p3⟩ := hM.update blaw Try.underlying134 (by unfold maxLen; omega) (bk_key hb) (plainElem_int Try.underlying3 hu)
    rw [hr] at p1
    injection p1 with _ p1
    subst p1
    refine ⟨p2, fun x hx => ?_, h.bl⟩
    unfold updB
    by_cases e : x = b
    · rw [if_pos e, e, Maps.atKey_put_same hM.isMap (blaw.key (bk_key hb))]
    · rw [if_neg e, Maps.atKey_put_other (fun hh => e (bk_inj hx hb hh))]
      exact h.cnt x hx
  have l1 := put _ _ wc q2
  have e1 : updB C b (C b) b = C b := by simp [updB]
  have k1 := l1.look hb
  rw [e1] at k1
  exact ⟨_, st, _, _, q1, k1, q5, tt _, tt _, _, put _ _ hv q6⟩

end

/- A list of acceptors that is read. -/
structure Accs (w : World) (x : Option Addr) (n : Nat) (V : Nat → AccV) : Prop where
  row : n = 0 ∨ ∃ b o, x = some ⟨b, o, none⟩ ∧ b < w.heap.size ∧ ∀ i, i < n → w.cell? ⟨b, o + i * 5, none⟩ = some (.int .i64 (V i).p.1) ∧ w.cell? ⟨b, o + i * 5 + 1, none⟩ = some (.int .i64 (V i).p.2) ∧ w.cell? ⟨b, o + i * 5 + 2, none⟩ = some (.int .i64 (V i).a.1) ∧ w.cell? ⟨b, o + i * 5 + 3, none⟩ = some (.int .i64 (V i).a.2) ∧ w.cell? ⟨b, o + i * 5 + 4, none⟩ = some (.slice (V i).x (V i).n (V i).c)
  val : ∀ i, i < n → Sl w (V i).x (V i).n (V i).c (V i).d ∧ (V i).n ≤ 140737488355328
  wf : ∀ i, i < n → bwf (V i).a
  small : n ≤ 1000

theorem Accs.below {w w' : World} {x : Option Addr} {n : Nat} {V : Nat → AccV} (h : Accs w x n V) (t : Below w.heap.size w w') : Accs w' x n V := by
  refine ⟨?_, fun i hi => ⟨(h.val i hi).1.below t, (h.val i hi).2⟩, h.wf, h.small⟩
  rcases h.row with h0 | ⟨b, o, rfl, hb, hc⟩
  · exact .inl h0
  · refine .inr ⟨b, o, rfl, Nat.lt_of_lt_of_le hb t.size, fun i hi => ?_⟩
    obtain ⟨c0, c1, c2, c3, c4⟩ := hc i hi
    exact ⟨keep t c0, keep t c1, keep t c2, keep t c3, keep t c4⟩

def cntA (V : Nat → AccV) (k : Nat) (b : Bt) : Int := if b = z0 then 0 else (cnt (fun i => decide ((V i).a = b)) k : Nat)

theorem cntA_succ (V : Nat → AccV) (k : Nat) (b : Bt) : cntA V (k + 1) b = if (V k).a = b ∧ b ≠ z0 then cntA V k b + 1 else cntA V k b := by
  unfold cntA
  by_cases hz : b = z0
  · simp [hz]
  · by_cases hb : (V k).a = b
    · simp [hz, hb, cnt]
    · simp [hz, hb, cnt]

theorem cntA_le (V : Nat → AccV) (k : Nat) (b : Bt) : 0 ≤ cntA V k b ∧ cntA V k b ≤ k := by
  unfold cntA
  have := cnt_le (fun i => decide ((V i).a = b)) k
  split <;> omega

theorem zb_iff (b : Bt) : zb b = true ↔ b = z0 := by
  obtain ⟨b1, b2⟩ := b
  unfold zb z0
  simp

set_option maxHeartbeats 4000000 in
theorem count_any (x : Option Addr) (n c : Nat) (V : Nat → AccV) (w : World) (h : Accs w x n V) :
    Calls Try.prog 89 #[.slice x n c] w fun e w' => ∃ mb nb D, e = .returned (.map (some mb)) ∧ Hid (Below w.heap.size w w' ∧ CtAt w' w.heap.size mb nb D (cntA V n) ∧ nb ≤ n) := by
  have hsm := h.small
  have hnz : (n : Int) ≤ 1000 := by omega
  have HA : Hid (Accs w x n V) := h
  clear h
  have hmm := @run_makeMap Try.prog
  go_enter Try.func89, Try.ntmps89
  go_wp2_with fail
  go_loopw [9, 5] (fun i _ wr => ∃ k : Nat, k ≤ n ∧ i = .int .i64 k ∧ Hid (Below w.heap.size w wr ∧ ∃ nb D, CtAt wr w.heap.size w.heap.size nb D (cntA V k) ∧ nb ≤ k)) (fun i _ _ => n - (intOf i).toNat)
  case atStart =>
    have e0 : cntA V 0 = fun _ => 0 := by
      funext q
      simp [cntA, cnt]
    exact ⟨0, by omega, rfl, al _ _, 0, _, by rw [e0]; exact CtAt.new w _ (Nat.le_refl _), Nat.le_refl _⟩
  case round =>
    obtain ⟨k, hk, rfl, HR⟩ := hrel
    by_cases hlt : k < n
    · have hkn : (k : Int) < (n : Int) := by omega
      obtain ⟨B0, nb, D, hC, hnb⟩ := HR.out
      have hA := HA.out.below B0
      obtain ⟨b, o, rfl, hb, hc⟩ := hA.row.resolve_left (by omega)
      obtain ⟨c0, c1, c2, c3, c4⟩ := hc k hlt
      have hwf := hA.wf k hlt
      have hN := fun W => none_any (V k).a W
      have hlast : cntA V (k + 1) = if zb (V k).a = true then cntA V k else updB (cntA V k) (V k).a (cntA V k (V k).a + 1) := by
        funext q
        rw [cntA_succ]
        by_cases hz : zb (V k).a = true
        · rw [if_pos hz]
          have := (zb_iff _).1 hz
          rw [if_neg (fun e => e.2 (by rw [← e.1, this]))]
        · rw [if_neg hz]
          have hz2 : (V k).a ≠ z0 := fun e => hz ((zb_iff _).2 e)
          unfold updB
          by_cases e : q = (V k).a
          · subst e
            rw [if_pos ⟨rfl, hz2⟩, if_pos rfl]
          · rw [if_neg (fun h => e h.1.symm), if_neg e]
      have hcl := cntA_le V k (V k).a
      clear hA hc HA HR hb
      cases hz : zb (V k).a with
      | true =>
        rw [hz] at hN
        rw [hz, if_pos rfl] at hlast
        have HL : Hid (cntA V (k + 1) = cntA V k) := hlast
        have HC : Hid (CtAt wr w.heap.size w.heap.size nb D (cntA V k)) := hC
        clear hlast hC hz hwf hcl
        unfold bt at hN
        generalize (V k).p = p at *
        generalize (V k).a = a at *
        generalize (V k).x = vx at *
        generalize (V k).n = vn at *
        generalize (V k).c = vc at *
        obtain ⟨p1, p2⟩ := p
        obtain ⟨a1, a2⟩ := a
        dsimp only at *
        go_wp2_with (first
          | (
             go_at_call 95; refine (hN _).mono ?_; rintro e w1 ⟨rfl, hb1⟩; clear hN
             have B1 := on (al _ _) hb1
             clear hb1))
        go_roundw
        case rel => exact ⟨k + 1, by omega, by go_num, on B0 B1, nb, D, by rw [HL.out]; exact HC.out.below B1, by omega⟩
        case measure => simp [intOf]; omega
      | false =>
        rw [hz] at hN
        rw [hz, if_neg (by simp)] at hlast
        have HL : Hid (cntA V (k + 1) = updB (cntA V k) (V k).a (cntA V k (V k).a + 1)) := hlast
        have HE : Hid (∀ W, Below wr.heap.size wr W → ∃ (v0 : Value) (st : Nat) (w1 w2 : World), (Instr.lookup 134 (.map (some w.heap.size)) (bt (V k).a) false).run Try.prog W = .ok (.int .i64 (cntA V k (V k).a)) W ∧
            (Instr.mapEntry 134 (.map (some w.heap.size)) (bt (V k).a)).run Try.prog W = .ok (.tuple #[v0, .int .i64 (st : Int)]) w1 ∧
            (Instr.lookup 134 (.map (some w.heap.size)) (bt (V k).a) false).run Try.prog w1 = .ok (.int .i64 (cntA V k (V k).a)) w1 ∧
            (Instr.entryStore 134 (.map (some w.heap.size)) (.int .i64 (st : Int)) (.int .i64 (cntA V k (V k).a + 1))).run Try.prog w1 = .ok () w2 ∧
            Hid (Turns (fun j => j = w.heap.size) W w2 ∧ ∃ D', CtAt w2 w.heap.size w.heap.size (nb + 1) D' (cntA V (k + 1)))) := fun W hW => by
          obtain ⟨v0, st, w1, w2, q1, q2, q3, q4, q5, D', q6⟩ := (hC.below hW).entry (by omega) hwf (cntA V k (V k).a + 1) (wfi_small (by omega) (by omega))
          exact ⟨v0, st, w1, w2, (hC.below hW).look hwf, q1, q2, q3, q5, D', by rw [HL.out]; exact q6⟩
        have hwz : IntKind.i64.wrap (cntA V k (V k).a + 1) = cntA V k (V k).a + 1 := wrap_ok (by omega) (by omega)
        clear hlast hC hz hwf HL
        unfold bt at hN HE
        generalize cntA V k (V k).a = cc at *
        generalize (V k).p = p at *
        generalize (V k).a = a at *
        generalize (V k).x = vx at *
        generalize (V k).n = vn at *
        generalize (V k).c = vc at *
        obtain ⟨p1, p2⟩ := p
        obtain ⟨a1, a2⟩ := a
        dsimp only at *
        go_wp2_with (first
          | (
             go_at_call 95; refine (hN _).mono ?_; rintro e w1 ⟨rfl, hb1⟩; clear hN
             have k0 := keep hb1 (b := wr.heap.size) (o := 0) (x := .int .i64 p1) (by first | assumption | go_simp)
             have k1 := keep hb1 (b := wr.heap.size) (o := 1) (x := .int .i64 p2) (by first | assumption | go_simp)
             have k2 := keep hb1 (b := wr.heap.size) (o := 2) (x := .int .i64 a1) (by first | assumption | go_simp)
             have k3 := keep hb1 (b := wr.heap.size) (o := 3) (x := .int .i64 a2) (by first | assumption | go_simp)
             have k4 := keep hb1 (b := wr.heap.size) (o := 4) (x := .slice vx vn vc) (by first | assumption | go_simp)
             have B1 := on (al _ _) hb1
             clear hb1))
        have B2 : Below wr.heap.size wr w1.drew := on B1 (Below.refl _ _).drew
        obtain ⟨v0, st, w4, w5, hl2, hent, hl3, hst, HN⟩ := HE.out _ B2
        have m2 : w1.drew.cell? ⟨wr.heap.size, 2, none⟩ = some (.int .i64 a1) := k2
        have m3 : w1.drew.cell? ⟨wr.heap.size, 3, none⟩ = some (.int .i64 a2) := k3
        clear HE k0 k1 k2 k3 k4
        refine wp_region_held_drew (S := fun v => True) (by kernel_rfl) trivial (fun hHeld => ?_)
        generalize w1.drew = wD at *
        refine By.hk 0 ?_
        refine By.hk 1 ?_
        refine wpAnyH_ready (rs := [2]) (by kernel_rfl) (by simp) ?_
        refine AllReadyH.cons rfl (fun K hK => ?_) AllReadyH.nil
        go_simp
        refine hK.out _ _ trivial (fun hHeld => ?_)
        clear hK K
        refine wpAnyH_ready (rs := [3, 5]) (by kernel_rfl) (by simp) ?_
        refine AllReadyH.cons rfl (fun K hK => ?_) (AllReadyH.cons rfl (fun K hK => ?_) AllReadyH.nil)
        · refine st_lookup rfl _ _ 134 false rfl _ _ _ rfl rfl hl2 ?_
          (try simp only [Act.put, List.getElem_toArray, List.getElem_cons_succ, List.getElem_cons_zero, List.setIfInBounds_toArray, List.set_cons_zero, List.set_cons_succ])
          refine hK.out _ _ trivial (fun hHeld => ?_)
          clear hK K
          refine By.hk 4 ?_
          refine wpAnyH_ready (rs := [5]) (by kernel_rfl) (by simp) ?_
          refine AllReadyH.cons rfl (fun K hK => ?_) AllReadyH.nil
          refine st_mapentry rfl _ _ 134 rfl _ _ _ rfl rfl hent ?_
          (try simp only [Act.put, List.getElem_toArray, List.getElem_cons_succ, List.getElem_cons_zero, List.setIfInBounds_toArray, List.set_cons_zero, List.set_cons_succ])
          refine hK.out _ _ trivial (fun hHeld => ?_)
          clear hK K
          refine By.hk 6 ?_
          refine wpAnyH_ready (rs := [7]) (by kernel_rfl) (by simp) ?_
          refine AllReadyH.cons rfl (fun K hK => ?_) AllReadyH.nil
          refine st_entrystore rfl _ _ _ 134 rfl _ _ _ rfl rfl rfl hst ?_
          (try simp only [Act.put, List.getElem_toArray, List.getElem_cons_succ, List.getElem_cons_zero, List.setIfInBounds_toArray, List.set_cons_zero, List.set_cons_succ])
          refine hK.out _ _ trivial (fun hHeld => ?_)
          clear hK K
          refine wpAnyH_done (by kernel_rfl) ?_ _
          go_wp2_with fail
          go_roundw
          case rel => exact ⟨k + 1, by omega, by go_num, (on B0 B2).trans (HN.out.1.below (fun j hj => by omega) (on B0 B2).size), nb + 1, HN.out.2.choose, HN.out.2.choose_spec, by omega⟩
          case measure => simp [intOf]; omega
        · refine st_mapentry rfl _ _ 134 rfl _ _ _ rfl rfl hent ?_
          (try simp only [Act.put, List.getElem_toArray, List.getElem_cons_succ, List.getElem_cons_zero, List.setIfInBounds_toArray, List.set_cons_zero, List.set_cons_succ])
          refine hK.out _ _ trivial (fun hHeld => ?_)
          clear hK K
          refine By.hk 6 ?_
          refine wpAnyH_ready (rs := [3]) (by kernel_rfl) (by simp) ?_
          refine AllReadyH.cons rfl (fun K hK => ?_) AllReadyH.nil
          refine st_lookup rfl _ _ 134 false rfl _ _ _ rfl rfl hl3 ?_
          (try simp only [Act.put, List.getElem_toArray, List.getElem_cons_succ, List.getElem_cons_zero, List.setIfInBounds_toArray, List.set_cons_zero, List.set_cons_succ])
          refine hK.out _ _ trivial (fun hHeld => ?_)
          clear hK K
          refine By.hk 4 ?_
          refine wpAnyH_ready (rs := [7]) (by kernel_rfl) (by simp) ?_
          refine AllReadyH.cons rfl (fun K hK => ?_) AllReadyH.nil
          refine st_entrystore rfl _ _ _ 134 rfl _ _ _ rfl rfl rfl hst ?_
          (try simp only [Act.put, List.getElem_toArray, List.getElem_cons_succ, List.getElem_cons_zero, List.setIfInBounds_toArray, List.set_cons_zero, List.set_cons_succ])
          refine hK.out _ _ trivial (fun hHeld => ?_)
          clear hK K
          refine wpAnyH_done (by kernel_rfl) ?_ _
          go_wp2_with fail
          go_roundw
          case rel => exact ⟨k + 1, by omega, by go_num, (on B0 B2).trans (HN.out.1.below (fun j hj => by omega) (on B0 B2).size), nb + 1, HN.out.2.choose, HN.out.2.choose_spec, by omega⟩
          case measure => simp [intOf]; omega
    · obtain rfl : k = n := by omega
      go_wp2_with fail
      go_ret
      obtain ⟨B0, nb, D, hC, hnb⟩ := HR.out
      exact ⟨w.heap.size, nb, D, rfl, B0, hC, hnb⟩

end Go.Proofs.Ytfgfjfemaniaiaa.Ba

/-
  Which value is chosen: slices.IndexFunc at acceptors, valueOf, Chosen.
  Conditions: the list lies in memory.
-/
namespace Go.Proofs.Ytfgfjfemaniaiaa.Ba
open Go.RowKit By Fl
set_option linter.unusedVariables false
set_option linter.unusedSimpArgs false
set_option maxRecDepth 100000

def eqb (a b : Bt) : Bool := decide (a.1 = b.1) && decide (a.2 = b.2)
theorem eqb_iff (a b : Bt) : eqb a b = true ↔ a = b := by
  unfold eqb
  simp only [Bool.and_eq_true, decide_eq_true_eq]
  exact ⟨fun h => bt_ext h.1 h.2, fun h => by rw [h]; exact ⟨rfl, rfl⟩⟩

theorem clos_any (w : World) (bx : Nat) (p a b : Bt) (x : Option Addr) (n c : Nat) (h0 : w.cell? ⟨bx, 0, none⟩ = some (.int .i64 b.1)) (h1 : w.cell? ⟨bx, 1, none⟩ = some (.int .i64 b.2)) :
    Calls Try.prog 98 #[ac p a x n c, .pointer (some ⟨bx, 0, none⟩)] w fun e w' => e = .returned (.bool (eqb a b)) ∧ Below w.heap.size w w' := by
  have hE := fun W => eq_bt a.1 a.2 b.1 b.2 W
  have e0 : (decide (a.1 = b.1) && decide (a.2 = b.2)) = eqb a b := rfl
  rw [e0] at hE
  clear e0
  generalize eqb a b = t at *
  obtain ⟨p1, p2⟩ := p
  obtain ⟨a1, a2⟩ := a
  obtain ⟨b1, b2⟩ := b
  dsimp only [ac] at *
  have hlt := cell_lt' h0
  have k0 := fun o => keep (al w o) h0
  have k1 := fun o => keep (al w o) h1
  go_enter Try.func98, Try.ntmps98
  go_wp2_with fail
  go_ret
  exact ⟨rfl, al _ _⟩

theorem index_any (x : Option Addr) (n c bx : Nat) (V : Nat → AccV) (b : Bt) (w : World) (h : Accs w x n V) (h0 : w.cell? ⟨bx, 0, none⟩ = some (.int .i64 b.1)) (h1 : w.cell? ⟨bx, 1, none⟩ = some (.int .i64 b.2)) :
    Calls Try.prog 97 #[.slice x n c, .func (.func 98) #[] #[.pointer (some ⟨bx, 0, none⟩)]] w fun e w' => ∃ r : Int, e = .returned (.int .i64 r) ∧
      Hid (Below w.heap.size w w' ∧ ((r = -1 ∧ ∀ j, j < n → (V j).a ≠ b) ∨ ∃ k : Nat, r = k ∧ k < n ∧ (V k).a = b)) := by
  have hsm := h.small
  have hm : n ≤ 1000 := hsm
  have HA : Hid (Accs w x n V) := h
  have HB : Hid (w.cell? ⟨bx, 0, none⟩ = some (.int .i64 b.1) ∧ w.cell? ⟨bx, 1, none⟩ = some (.int .i64 b.2)) := ⟨h0, h1⟩
  clear h h0 h1 hsm
  go_enter Try.func97, Try.ntmps97
  go_wp2_with fail
  go_loopw [8, 5] (fun i _ wr => ∃ k : Nat, k ≤ n ∧ i = .int .i64 k ∧ Hid (Below w.heap.size w wr ∧ ∀ j, j < k → (V j).a ≠ b)) (fun i _ _ => n - (intOf i).toNat)
  case atStart => exact ⟨0, by omega, rfl, Below.refl _ _, fun j hj => by omega⟩
  case round =>
    obtain ⟨k, hk, rfl, HR⟩ := hrel
    by_cases hlt : k < n
    · have hkn : (k : Int) < (n : Int) := by omega
      have hA := HA.out.below HR.out.1
      obtain ⟨g, o, rfl, hb, hc⟩ := hA.row.resolve_left (by omega)
      obtain ⟨c0, c1, c2, c3, c4⟩ := hc k hlt
      have hC := clos_any wr bx (V k).p (V k).a b (V k).x (V k).n (V k).c (keep HR.out.1 HB.out.1) (keep HR.out.1 HB.out.2)
      clear hA hc hb HA
      cases ht : eqb (V k).a b with
      | true =>
        rw [ht] at hC
        have HT : Hid ((V k).a = b) := (eqb_iff _ _).1 ht
        clear ht
        dsimp only [ac] at hC
        generalize (V k).p.1 = p1 at *
        generalize (V k).p.2 = p2 at *
        generalize (V k).a.1 = a1 at *
        generalize (V k).a.2 = a2 at *
        generalize (V k).x = vx at *
        generalize (V k).n = vn at *
        generalize (V k).c = vc at *
        go_wp2_with (go_at_call 98; refine hC.mono ?_; rintro e w2 ⟨rfl, hb2⟩; clear hC)
        go_ret
        exact ⟨k, rfl, on HR.out.1 hb2, .inr ⟨k, rfl, hlt, HT.out⟩⟩
      | false =>
        rw [ht] at hC
        have HT : Hid ((V k).a ≠ b) := fun e => by rw [(eqb_iff _ _).2 e] at ht; cases ht
        clear ht
        dsimp only [ac] at hC
        generalize (V k).p.1 = p1 at *
        generalize (V k).p.2 = p2 at *
        generalize (V k).a.1 = a1 at *
        generalize (V k).a.2 = a2 at *
        generalize (V k).x = vx at *
        generalize (V k).n = vn at *
        generalize (V k).c = vc at *
        go_wp2_with (go_at_call 98; refine hC.mono ?_; rintro e w2 ⟨rfl, hb2⟩; clear hC)
        go_roundw
        case rel =>
          refine ⟨k + 1, by omega, by go_num, on HR.out.1 hb2, fun j hj => ?_⟩
          by_cases hjk : j = k
          · subst hjk
            exact HT.out
          · exact HR.out.2 j (by omega)
        case measure => simp [intOf]; omega
    · have hk2 : k = n := by omega
      subst hk2
      go_wp2_with fail
      go_ret
      exact ⟨-1, rfl, HR.out.1, .inl ⟨rfl, HR.out.2⟩⟩

theorem valueOf_any (x : Option Addr) (n c : Nat) (V : Nat → AccV) (b : Bt) (w : World) (h : Accs w x n V) (hex : ∃ j, j < n ∧ (V j).a = b) :
    Calls Try.prog 90 #[.slice x n c, bt b] w fun e w' => ∃ (k : Nat) (y : Option Addr) (cy : Nat), e = .returned (.slice y (V k).n cy) ∧ Hid (k < n ∧ (V k).a = b ∧ Vl w w' y (V k).n cy (V k).d) := by
  have hI := index_any x n c w.heap.size V b (w.alloc (.cells #[.int .i64 b.1, .int .i64 b.2] 72)) (h.below (al _ _)) (by go_simp) (by go_simp)
  have HX : Hid (∃ j, j < n ∧ (V j).a = b) := hex
  have HA : Hid (Accs w x n V) := h
  have hnz : (n : Int) ≤ 1000 := by have := h.small; omega
  clear h hex
  dsimp only [bt]
  generalize b.1 = b1 at *
  generalize b.2 = b2 at *
  go_enter Try.func90, Try.ntmps90
  go_wp2_with (first
    | (
       go_at_call 97; refine hI.mono ?_; rintro e w1 ⟨r, rfl, H1⟩; clear hI
       obtain ⟨hb1, hr⟩ := H1.out
       have B1 := on (al _ _) hb1
       have hr2 : ∃ k : Nat, r = k ∧ k < n ∧ (V k).a = b := by
         rcases hr with ⟨_, hr⟩ | hr
         · obtain ⟨j, hj, e⟩ := HX.out
           exact absurd e (hr j hj)
         · exact hr
       clear hr H1 hb1
       obtain ⟨k, rfl, hk, hkb⟩ := hr2
       have hA := HA.out.below B1
       obtain ⟨g, o, rfl, hb, hc⟩ := hA.row.resolve_left (by omega)
       have c4 := (hc k hk).2.2.2.2
       have hC := clone_vl (V k).x (V k).n (V k).c (V k).d w1 (hA.val k hk).1 (hA.val k hk).2
       have hkn : (k : Int) < (n : Int) := by omega
       clear hA hc hb HX HA)
    | (
       go_at_call 60; refine hC.mono ?_; rintro e w2 ⟨y, cy, rfl, H2⟩; clear hC))
  go_ret
  exact ⟨k, y, cy, rfl, hk, hkb, on B1 H2.out.1, H2.out.2.1, fun a ha => ⟨Nat.le_trans B1.size (H2.out.2.2 a ha).1, (H2.out.2.2 a ha).2⟩⟩

end Go.Proofs.Ytfgfjfemaniaiaa.Ba

/-
  Which value must be asked for: Pick.
  Conditions: the list lies in memory.
-/
namespace Go.Proofs.Ytfgfjfemaniaiaa.Ba
open Go.RowKit By Fl
set_option linter.unusedVariables false
set_option linter.unusedSimpArgs false
set_option maxRecDepth 100000

theorem ltb_iff (a b : Bt) : ltb a b = true ↔ lt a b := by
  unfold ltb lt
  by_cases h : a.1 = b.1
  · rw [if_pos h]
    simp only [decide_eq_true_eq]
    omega
  · rw [if_neg h]
    simp only [decide_eq_true_eq]
    omega

def Top (V : Nat → AccV) (k m : Nat) : Prop := (V m).a ≠ z0 ∧ ∀ j, j < k → (V j).a = z0 ∨ le (V j).a (V m).a
def Pk (V : Nat → AccV) (n : Nat) (d : List Nat) : Prop := (∀ i, i < n → (V i).a = z0) ∨ ∃ i, i < n ∧ d = (V i).d ∧ Top V n i

theorem Top.same {V : Nat → AccV} {k m : Nat} (h : Top V k m) (hk : (V k).a = z0 ∨ ¬ lt (V m).a (V k).a) : Top V (k + 1) m := by
  refine ⟨h.1, fun j hj => ?_⟩
  by_cases e : j = k
  · subst e
    rcases hk with hk | hk
    · exact .inl hk
    · exact .inr hk
  · exact h.2 j (by omega)

theorem Top.more {V : Nat → AccV} {k m : Nat} (h : Top V k m) (hz : (V k).a ≠ z0) (hk : lt (V m).a (V k).a) : Top V (k + 1) k := by
  refine ⟨hz, fun j hj => ?_⟩
  by_cases e : j = k
  · subst e
    exact .inr (le_refl _)
  · rcases h.2 j (by omega) with q | q
    · exact .inl q
    · exact .inr (le_trans q (lt_le hk))

theorem Top.first {V : Nat → AccV} {k : Nat} (h : ∀ j, j < k → (V j).a = z0) (hz : (V k).a ≠ z0) : Top V (k + 1) k := by
  refine ⟨hz, fun j hj => ?_⟩
  by_cases e : j = k
  · subst e
    exact .inr (le_refl _)
  · exact .inl (h j (by omega))

set_option maxHeartbeats 4000000 in
theorem pick_any (x : Option Addr) (n c : Nat) (V : Nat → AccV) (ox : Option Addr) (on_ oc : Nat) (ol : List Nat) (w : World) (h : Accs w x n V) (ho : Sl w ox on_ oc ol) (hon : on_ ≤ 140737488355328) :
    Calls Try.prog 91 #[.slice x n c, .slice ox on_ oc] w fun e w' => ∃ (y : Option Addr) (m cy : Nat) (d : List Nat), e = .returned (.slice y m cy) ∧ Hid (Vl w w' y m cy d ∧ m ≤ 140737488355328 ∧ Pk V n d) := by
  have HA : Hid (Accs w x n V) := h
  have HO : Hid (Sl w ox on_ oc ol ∧ on_ ≤ 140737488355328) := ⟨ho, hon⟩
  have hnz : (n : Int) ≤ 1000 := by have := h.small; omega
  clear h ho hon
  go_enter Try.func91, Try.ntmps91
  go_wp2_with fail
  go_loopw [5, 10, 6, 7] (fun hi i _ _ wr => ∃ k : Nat, k ≤ n ∧ i = .int .i64 k ∧ Hid (Below w.heap.size w wr) ∧ ((hi = .int .i64 (-1) ∧ Hid (∀ j, j < k → (V j).a = z0)) ∨ ∃ m : Nat, hi = .int .i64 m ∧ m < k ∧ Hid (Top V k m))) (fun _ i _ _ _ => n - (intOf i).toNat)
  case atStart => exact ⟨0, by omega, rfl, Below.refl _ _, .inl ⟨rfl, fun j hj => by omega⟩⟩
  case round =>
    obtain ⟨k, hk, rfl, HB, hhi⟩ := hrel
    by_cases hlt : k < n
    · have hkn : (k : Int) < (n : Int) := by omega
      have hA := HA.out.below HB.out
      obtain ⟨b, o, rfl, hb, hc⟩ := hA.row.resolve_left (by omega)
      obtain ⟨c0, c1, c2, c3, c4⟩ := hc k hlt
      have hN := fun W => none_any (V k).a W
      cases hz : zb (V k).a with
      | true =>
        rw [hz] at hN
        have HZ : Hid ((V k).a = z0) := (zb_iff _).1 hz
        clear hz hA hc hb HA HO
        dsimp only [bt] at hN
        generalize (V k).p.1 = p1 at *
        generalize (V k).p.2 = p2 at *
        generalize (V k).a.1 = a1 at *
        generalize (V k).a.2 = a2 at *
        generalize (V k).x = vx at *
        generalize (V k).n = vn at *
        generalize (V k).c = vc at *
        rcases hhi with ⟨rfl, HH⟩ | ⟨m, rfl, hm, HH⟩
        · go_wp2_with (first
            | (
               go_at_call 95; refine (hN _).mono ?_; rintro e w1 ⟨rfl, hb1⟩; clear hN
               have B1 := on (al _ _) hb1
               clear hb1))
          go_roundw
          case rel =>
            refine ⟨k + 1, by omega, by go_num, on HB.out B1, .inl ⟨rfl, fun j hj => ?_⟩⟩
            by_cases e : j = k
            · subst e
              exact HZ.out
            · exact HH.out j (by omega)
          case measure => simp [intOf]; omega
        · go_wp2_with (first
            | (
               go_at_call 95; refine (hN _).mono ?_; rintro e w1 ⟨rfl, hb1⟩; clear hN
               have B1 := on (al _ _) hb1
               clear hb1))
          go_roundw
          case rel => exact ⟨k + 1, by omega, by go_num, on HB.out B1, .inr ⟨m, rfl, by omega, HH.out.same (.inl HZ.out)⟩⟩
          case measure => simp [intOf]; omega
      | false =>
        rw [hz] at hN
        have HZ : Hid ((V k).a ≠ z0) := fun e => by rw [(zb_iff _).2 e] at hz; cases hz
        clear hz
        rcases hhi with ⟨rfl, HH⟩ | ⟨m, rfl, hm, HH⟩
        · clear hA hc hb HA HO
          dsimp only [bt] at hN
          generalize (V k).p.1 = p1 at *
          generalize (V k).p.2 = p2 at *
          generalize (V k).a.1 = a1 at *
          generalize (V k).a.2 = a2 at *
          generalize (V k).x = vx at *
          generalize (V k).n = vn at *
          generalize (V k).c = vc at *
          go_wp2_with (first
            | (
               go_at_call 95; refine (hN _).mono ?_; rintro e w1 ⟨rfl, hb1⟩; clear hN
               have B1 := on (al _ _) hb1
               clear hb1))
          refine wp_region_held_drew (S := fun v => True) (by kernel_rfl) trivial (fun hHeld => ?_)
          refine By.hk 0 ?_
          refine By.hk 1 ?_
          refine By.hk 2 ?_
          refine wpAnyH_take (i := 3) (v := undef) rfl (by kernel_rfl) (by kernel_rfl) (by kernel_rfl) (fun _ _ _ h => h) (Or.inr ⟨by rfl, rfl⟩) (by assumption) ?_
          (try simp only [Act.put, List.getElem_toArray, List.getElem_cons_succ, List.getElem_cons_zero, List.setIfInBounds_toArray, List.set_cons_zero, List.set_cons_succ])
          refine wpAnyH_take (i := 4) (v := undef) rfl (by kernel_rfl) (by kernel_rfl) (by kernel_rfl) (fun _ _ _ h => h) (Or.inr ⟨by rfl, rfl⟩) (by assumption) ?_
          (try simp only [Act.put, List.getElem_toArray, List.getElem_cons_succ, List.getElem_cons_zero, List.setIfInBounds_toArray, List.set_cons_zero, List.set_cons_succ])
          refine wpAnyH_take (i := 5) (v := undef) rfl (by kernel_rfl) (by kernel_rfl) (by kernel_rfl) (fun _ _ _ h => h) (Or.inr ⟨by rfl, rfl⟩) (by assumption) ?_
          (try simp only [Act.put, List.getElem_toArray, List.getElem_cons_succ, List.getElem_cons_zero, List.setIfInBounds_toArray, List.set_cons_zero, List.set_cons_succ])
          refine wpAnyH_take (i := 6) (v := undef) rfl (by kernel_rfl) (by kernel_rfl) (by kernel_rfl) (fun _ _ _ h => h) (Or.inr ⟨by rfl, rfl⟩) (by assumption) ?_
          (try simp only [Act.put, List.getElem_toArray, List.getElem_cons_succ, List.getElem_cons_zero, List.setIfInBounds_toArray, List.set_cons_zero, List.set_cons_succ])
          refine wpAnyH_take (i := 7) (v := undef) rfl (by kernel_rfl) (by kernel_rfl) (by kernel_rfl) (fun _ _ _ h => h) (Or.inr ⟨by rfl, rfl⟩) (by assumption) ?_
          (try simp only [Act.put, List.getElem_toArray, List.getElem_cons_succ, List.getElem_cons_zero, List.setIfInBounds_toArray, List.set_cons_zero, List.set_cons_succ])
          refine wpAnyH_take (i := 8) (v := undef) rfl (by kernel_rfl) (by kernel_rfl) (by kernel_rfl) (fun _ _ _ h => h) (Or.inr ⟨by rfl, rfl⟩) (by assumption) ?_
          (try simp only [Act.put, List.getElem_toArray, List.getElem_cons_succ, List.getElem_cons_zero, List.setIfInBounds_toArray, List.set_cons_zero, List.set_cons_succ])
          refine wpAnyH_take (i := 9) (v := undef) rfl (by kernel_rfl) (by kernel_rfl) (by kernel_rfl) (fun _ _ _ h => h) (Or.inr ⟨by rfl, rfl⟩) (by assumption) ?_
          (try simp only [Act.put, List.getElem_toArray, List.getElem_cons_succ, List.getElem_cons_zero, List.setIfInBounds_toArray, List.set_cons_zero, List.set_cons_succ])
          refine wpAnyH_take (i := 10) (v := undef) rfl (by kernel_rfl) (by kernel_rfl) (by kernel_rfl) (fun _ _ _ h => h) (Or.inr ⟨by rfl, rfl⟩) (by assumption) ?_
          (try simp only [Act.put, List.getElem_toArray, List.getElem_cons_succ, List.getElem_cons_zero, List.setIfInBounds_toArray, List.set_cons_zero, List.set_cons_succ])
          refine By.hk 11 ?_
          refine wpAnyH_done (by kernel_rfl) ?_ _
          go_wp2_with fail
          go_roundw
          case rel => exact ⟨k + 1, by omega, by go_num, on HB.out B1.drew, .inr ⟨k, rfl, by omega, Top.first HH.out HZ.out⟩⟩
          case measure => simp [intOf]; omega
        · have hmn : (m : Int) < (n : Int) := by omega
          have hm0 : ¬ (m : Int) < 0 := by omega
          obtain ⟨d0, d1, d2, d3, d4⟩ := hc m (by omega)
          have hL := fun W => less_any (V m).a (V k).a W
          have e0 : Hid (ltb (V m).a (V k).a = true ↔ lt (V m).a (V k).a) := ltb_iff _ _
          clear hA hc hb HA HO d0 d1 d4
          generalize ltb (V m).a (V k).a = t at *
          cases t with
          | true =>
            dsimp only [bt] at hN hL
            generalize (V k).p.1 = p1 at *
            generalize (V k).p.2 = p2 at *
            generalize (V m).a.1 = m1 at *
            generalize (V m).a.2 = m2 at *
            generalize (V k).a.1 = a1 at *
            generalize (V k).a.2 = a2 at *
            generalize (V k).x = vx at *
            generalize (V k).n = vn at *
            generalize (V k).c = vc at *
            go_wp2_with (first
              | (
                 go_at_call 95; refine (hN _).mono ?_; rintro e w1 ⟨rfl, hb1⟩; clear hN
                 have k0 := keep hb1 (b := wr.heap.size) (o := 0) (x := .int .i64 p1) (by first | assumption | go_simp)
                 have k1 := keep hb1 (b := wr.heap.size) (o := 1) (x := .int .i64 p2) (by first | assumption | go_simp)
                 have k2 := keep hb1 (b := wr.heap.size) (o := 2) (x := .int .i64 a1) (by first | assumption | go_simp)
                 have k3 := keep hb1 (b := wr.heap.size) (o := 3) (x := .int .i64 a2) (by first | assumption | go_simp)
                 have k4 := keep hb1 (b := wr.heap.size) (o := 4) (x := .slice vx vn vc) (by first | assumption | go_simp)
                 have B1 := on (al _ _) hb1
                 have q2 : w1.drew.cell? ⟨b, o + m * 5 + 2, none⟩ = some (.int .i64 m1) := keep B1.drew d2
                 have q3 : w1.drew.cell? ⟨b, o + m * 5 + 3, none⟩ = some (.int .i64 m2) := keep B1.drew d3
                 have j2 : w1.drew.cell? ⟨wr.heap.size, 2, none⟩ = some (.int .i64 a1) := k2
                 have j3 : w1.drew.cell? ⟨wr.heap.size, 3, none⟩ = some (.int .i64 a2) := k3
                 clear hb1 k0 k1 k2 k3 k4))
            clear c0 c1 c2 c3 c4 d2 d3
            refine wp_region_held_drew (S := fun v => v.cell? ⟨b, o + m * 5 + 2, none⟩ = some (.int .i64 m1) ∧ v.cell? ⟨b, o + m * 5 + 3, none⟩ = some (.int .i64 m2) ∧ v.cell? ⟨wr.heap.size, 2, none⟩ = some (.int .i64 a1) ∧ v.cell? ⟨wr.heap.size, 3, none⟩ = some (.int .i64 a2)) (by kernel_rfl) ⟨q2, q3, j2, j3⟩ (fun hHeld => ?_)
            have B2 : Below wr.heap.size wr w1.drew := B1.drew
            generalize w1.drew = wD at *
            refine By.hk 0 ?_
            refine By.hk 1 ?_
            refine By.hk 2 ?_
            refine By.hk 3 ?_
            refine By.hk 4 ?_
            refine By.hk 5 ?_
            refine By.hk 6 ?_
            refine By.hk 7 ?_
            refine By.hk 8 ?_
            refine By.hk 9 ?_
            refine wpAnyH_ready (rs := [10]) (by kernel_rfl) (by simp) ?_
            refine AllReadyH.cons rfl (fun K hK => ?_) AllReadyH.nil
            go_simp
            refine (hL _).mono ?_
            rintro e w2 ⟨rfl, hb2⟩
            have B3 := on B2 hb2
            refine hK.out _ _ ⟨keep hb2 q2, keep hb2 q3, keep hb2 j2, keep hb2 j3⟩ (fun hHeld => ?_)
            clear hK K
            refine By.hk 11 ?_
            refine wpAnyH_done (by kernel_rfl) ?_ _
            clear q2 q3 j2 j3 hb2
            go_wp2_with fail
            go_roundw
            case rel => exact ⟨k + 1, by omega, by go_num, on HB.out B3, .inr ⟨k, rfl, by omega, HH.out.more HZ.out (e0.out.1 (by simp))⟩⟩
            case measure => simp [intOf]; omega
          | false =>
            dsimp only [bt] at hN hL
            generalize (V k).p.1 = p1 at *
            generalize (V k).p.2 = p2 at *
            generalize (V m).a.1 = m1 at *
            generalize (V m).a.2 = m2 at *
            generalize (V k).a.1 = a1 at *
            generalize (V k).a.2 = a2 at *
            generalize (V k).x = vx at *
            generalize (V k).n = vn at *
            generalize (V k).c = vc at *
            go_wp2_with (first
              | (
                 go_at_call 95; refine (hN _).mono ?_; rintro e w1 ⟨rfl, hb1⟩; clear hN
                 have k0 := keep hb1 (b := wr.heap.size) (o := 0) (x := .int .i64 p1) (by first | assumption | go_simp)
                 have k1 := keep hb1 (b := wr.heap.size) (o := 1) (x := .int .i64 p2) (by first | assumption | go_simp)
                 have k2 := keep hb1 (b := wr.heap.size) (o := 2) (x := .int .i64 a1) (by first | assumption | go_simp)
                 have k3 := keep hb1 (b := wr.heap.size) (o := 3) (x := .int .i64 a2) (by first | assumption | go_simp)
                 have k4 := keep hb1 (b := wr.heap.size) (o := 4) (x := .slice vx vn vc) (by first | assumption | go_simp)
                 have B1 := on (al _ _) hb1
                 have q2 : w1.drew.cell? ⟨b, o + m * 5 + 2, none⟩ = some (.int .i64 m1) := keep B1.drew d2
                 have q3 : w1.drew.cell? ⟨b, o + m * 5 + 3, none⟩ = some (.int .i64 m2) := keep B1.drew d3
                 have j2 : w1.drew.cell? ⟨wr.heap.size, 2, none⟩ = some (.int .i64 a1) := k2
                 have j3 : w1.drew.cell? ⟨wr.heap.size, 3, none⟩ = some (.int .i64 a2) := k3
                 clear hb1 k0 k1 k2 k3 k4))
            clear c0 c1 c2 c3 c4 d2 d3
            refine wp_region_held_drew (S := fun v => v.cell? ⟨b, o + m * 5 + 2, none⟩ = some (.int .i64 m1) ∧ v.cell? ⟨b, o + m * 5 + 3, none⟩ = some (.int .i64 m2) ∧ v.cell? ⟨wr.heap.size, 2, none⟩ = some (.int .i64 a1) ∧ v.cell? ⟨wr.heap.size, 3, none⟩ = some (.int .i64 a2)) (by kernel_rfl) ⟨q2, q3, j2, j3⟩ (fun hHeld => ?_)
            have B2 : Below wr.heap.size wr w1.drew := B1.drew
            generalize w1.drew = wD at *
            refine By.hk 0 ?_
            refine By.hk 1 ?_
            refine By.hk 2 ?_
            refine By.hk 3 ?_
            refine By.hk 4 ?_
            refine By.hk 5 ?_
            refine By.hk 6 ?_
            refine By.hk 7 ?_
            refine By.hk 8 ?_
            refine By.hk 9 ?_
            refine wpAnyH_ready (rs := [10]) (by kernel_rfl) (by simp) ?_
            refine AllReadyH.cons rfl (fun K hK => ?_) AllReadyH.nil
            go_simp
            refine (hL _).mono ?_
            rintro e w2 ⟨rfl, hb2⟩
            have B3 := on B2 hb2
            refine hK.out _ _ ⟨keep hb2 q2, keep hb2 q3, keep hb2 j2, keep hb2 j3⟩ (fun hHeld => ?_)
            clear hK K
            refine By.hk 11 ?_
            refine wpAnyH_done (by kernel_rfl) ?_ _
            clear q2 q3 j2 j3 hb2
            go_wp2_with fail
            go_roundw
            case rel => exact ⟨k + 1, by omega, by go_num, on HB.out B3, .inr ⟨m, rfl, by omega, HH.out.same (.inr (fun hh => by have := e0.out.2 hh; cases this))⟩⟩
            case measure => simp [intOf]; omega
    · obtain rfl : k = n := by omega
      rcases hhi with ⟨rfl, HH⟩ | ⟨m, rfl, hm, HH⟩
      · have hC := clone_vl ox on_ oc ol wr (HO.out.1.below HB.out) HO.out.2
        go_wp2_with (first
          | (
             go_at_call 60; refine hC.mono ?_; rintro e w2 ⟨y, cy, rfl, H2⟩; clear hC))
        go_ret
        exact ⟨y, on_, cy, ol, rfl, ⟨on HB.out H2.out.1, H2.out.2.1, fun a ha => ⟨Nat.le_trans HB.out.size (H2.out.2.2 a ha).1, (H2.out.2.2 a ha).2⟩⟩, HO.out.2, .inl HH.out⟩
      · have hmn : (m : Int) < (k : Int) := by omega
        have hm0 : ¬ (m : Int) < 0 := by omega
        have hA := HA.out.below HB.out
        obtain ⟨b, o, rfl, hb, hc⟩ := hA.row.resolve_left (by omega)
        have c4 := (hc m (by omega)).2.2.2.2
        have hC := clone_vl (V m).x (V m).n (V m).c (V m).d wr (hA.val m hm).1 (hA.val m hm).2
        have HS : Hid ((V m).n ≤ 140737488355328) := (hA.val m hm).2
        clear hA hc hb
        go_wp2_with (first
          | (
             go_at_call 60; refine hC.mono ?_; rintro e w2 ⟨y, cy, rfl, H2⟩; clear hC))
        go_ret
        exact ⟨y, (V m).n, cy, (V m).d, rfl, ⟨on HB.out H2.out.1, H2.out.2.1, fun a ha => ⟨Nat.le_trans HB.out.size (H2.out.2.2 a ha).1, (H2.out.2.2 a ha).2⟩⟩, HS.out, .inr ⟨m, hm, rfl, HH.out⟩⟩

end Go.Proofs.Ytfgfjfemaniaiaa.Ba

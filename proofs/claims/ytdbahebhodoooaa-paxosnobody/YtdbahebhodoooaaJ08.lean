/-
  3 texts of this proof, one behind the other: BaCount, PxMap, PxMsg.
-/
import Derived.Test.YtdbahebhodoooaaJ06
import Derived.Test.YtdbahebhodoooaaJ07
import Derived.WideKeyEntry
import Derived.DeepKeys4
import Derived.Maps.OwnSet
import Derived.Maps.OwnOps
import Derived.Maps.Ext
/-
  Lists of acceptors as they lie in memory; a map by ballots: count.
  Conditions: none.
-/
namespace Go.Proofs.Ytdbahebhodoooaa.Ba
open Go.RowKit By Fl
set_option linter.unusedVariables false
set_option linter.unusedSimpArgs false
set_option maxRecDepth 100000

theorem st_mapentry {P : Program} {w w' : World} {ops : Array Oper} {o : Oper} {a : Act} {K : Act → World → Prop} {Q : Exit → Act → World → Prop} (hg : Region.wanted o (yielded ops a.tmps) = true) (m x : Operand) (t : TypeId)
    (ho : o.op = .mapEntry t m x) (v1 v2 v : Value) (hm : a.eval m = v1) (hx : a.eval x = v2) (hr : (Instr.mapEntry t v1 v2).run P w = .ok v w')
    (h : K (a.put o.dst v) w') : if Region.wanted o (yielded ops a.tmps) = true then Oper.wp P o a w K Q else K (a.put o.dst undef) w := by
  rw [if_pos hg]
  unfold Oper.wp
  simp only [execOp, ho, hm, hx, Sem.run_bind, hr, Result.andThen, Sem.run_pure]
  exact h

theorem st_entrystore {P : Program} {w w' : World} {ops : Array Oper} {o : Oper} {a : Act} {K : Act → World → Prop} {Q : Exit → Act → World → Prop} (hg : Region.wanted o (yielded ops a.tmps) = true) (m x v : Operand) (t : TypeId)
    (ho : o.op = .entryStore t m x v) (v1 v2 v3 : Value) (hm : a.eval m = v1) (hx : a.eval x = v2) (hv : a.eval v = v3) (hr : (Instr.entryStore t v1 v2 v3).run P w = .ok () w')
    (h : K (a.put o.dst undef) w') : if Region.wanted o (yielded ops a.tmps) = true then Oper.wp P o a w K Q else K (a.put o.dst undef) w := by
  rw [if_pos hg]
  unfold Oper.wp
  simp only [execOp, ho, hm, hx, hv, Sem.run_bind, hr, Result.andThen, Sem.run_pure]
  exact h

theorem st_lookup {P : Program} {w w' : World} {ops : Array Oper} {o : Oper} {a : Act} {K : Act → World → Prop} {Q : Exit → Act → World → Prop} (hg : Region.wanted o (yielded ops a.tmps) = true) (m x : Operand) (t : TypeId) (c : Bool)
    (ho : o.op = .lookup t m x c) (v1 v2 v : Value) (hm : a.eval m = v1) (hx : a.eval x = v2) (hr : (Instr.lookup t v1 v2 c).run P w = .ok v w')
    (h : K (a.put o.dst v) w') : if Region.wanted o (yielded ops a.tmps) = true then Oper.wp P o a w K Q else K (a.put o.dst undef) w := by
  rw [if_pos hg]
  unfold Oper.wp
  simp only [execOp, ho, hm, hx, Sem.run_bind, hr, Result.andThen, Sem.run_pure]
  exact h

section
variable {H : Type} {P : Program} {w : World} {t k e : TypeId} {R : Value → Option (DataW H × List MemPlace)} {b : Nat} {es : Array MapEntry} {clock : Nat}

/- An entry that is made ready for a store: as if what is there were stored again. -/
set_option maxHeartbeats 4000000 in
theorem entry_law (K : WideMaps.KeyLaw P k) (ht : P.underlying t = some (.map k e)) {z : Value} (hz : ∀ u : World, (zeroValue e).run P u = .ok z u) (hb : w.heap[b]? = some (.map es clock)) (F : WideElems.Fit P k R es clock)
    {key : Value} {kl : Lit} (hkey : keyOf P k key = some kl) :
    ∃ (v0 : Value) (st : Nat) (es1 : Array MapEntry) (c1 : Nat), (Instr.mapEntry t (.map (some b)) key).run P w = .ok (.tuple #[v0, goInt st]) (ChangeMaps.setBlock w b (.map es1 c1)) ∧ (Instr.mapUpdate t (.map (some b)) key v0).run P w = .ok () (ChangeMaps.setBlock w b (.map es1 c1)) ∧
      (Instr.lookup t (.map (some b)) key false).run P w = .ok v0 w ∧
      ∀ (val : Value), ∃ es' c', (Instr.entryStore t (.map (some b)) (goInt st) val).run P (ChangeMaps.setBlock w b (.map es1 c1)) = .ok () (ChangeMaps.setBlock w b (.map es' c')) ∧ (Instr.mapUpdate t (.map (some b)) key val).run P w = .ok () (ChangeMaps.setBlock w b (.map es' c')) := by
  obtain ⟨v0, st, es1, c1, h1, _, h3⟩ := WideElems.entry_then_store K ht hz hb F hkey
  have hs1 : (ChangeMaps.setBlock w b (.map es1 c1)).heap[b]? = some (.map es1 c1) := ChangeMaps.heap_setBlock_same hb _
  refine ⟨v0, st, es1, c1, h1, ?_, ?_, fun val => ?_⟩
  · rcases K.find w hkey es.toList F.keys with ⟨f1, f2⟩ | ⟨j, e0, f1, f2, f3⟩
    · have m1 : (Instr.mapEntry t (.map (some b)) key).run P w = .ok (.tuple #[z, goInt clock]) (ChangeMaps.setBlock w b (.map (es.push ⟨key, z, clock⟩) (clock + 1))) := by
        simp [Instr.mapEntry, run_underlying ht, MapKept.run_getObj_map hb, K.check w false hkey, f1, hz, MapKept.run_setObj_map _ hb, Result.andThen, ChangeMaps.setBlock]
      obtain ⟨e1, e2⟩ := Result.ok.inj (h1.symm.trans m1)
      simp at e1
      rw [e1.1, e2]
      simp [Instr.mapUpdate, run_underlying ht, MapKept.run_getObj_map hb, K.check w false hkey, f1, MapKept.run_setObj_map _ hb, Result.andThen, ChangeMaps.setBlock]
    · have hj : es[j]? = some e0 := by simpa using f2
      have m1 : (Instr.mapEntry t (.map (some b)) key).run P w = .ok (.tuple #[e0.val, goInt e0.born]) (ChangeMaps.setBlock w b (.map (es.modify j fun e => { e with key := key }) clock)) := by
        simp [Instr.mapEntry, run_underlying ht, MapKept.run_getObj_map hb, K.check w false hkey, f1, hj, f3, K.stays w hkey, MapKept.run_setObj_map _ hb, Result.andThen, ChangeMaps.setBlock]
      obtain ⟨e1, e2⟩ := Result.ok.inj (h1.symm.trans m1)
      simp at e1
      have e3 : (es.modify j fun e => { e with key := key }) = es.modify j fun e => { e with key := key, val := e0.val } := by
        apply Array.ext'
        rw [Array.toList_modify, Array.toList_modify, ChangeMaps.modify_eq_set _ _ _ _ f2, ChangeMaps.modify_eq_set _ _ _ _ f2]
      rw [e1.1, e2, e3]
      simp [Instr.mapUpdate, run_underlying ht, MapKept.run_getObj_map hb, K.check w false hkey, f1, hj, f3, K.stays w hkey, MapKept.run_setObj_map _ hb, Result.andThen, ChangeMaps.setBlock]
  · rcases K.find w hkey es.toList F.keys with ⟨f1, f2⟩ | ⟨j, e0, f1, f2, f3⟩
    · have m1 : (Instr.mapEntry t (.map (some b)) key).run P w = .ok (.tuple #[z, goInt clock]) (ChangeMaps.setBlock w b (.map (es.push ⟨key, z, clock⟩) (clock + 1))) := by
        simp [Instr.mapEntry, run_underlying ht, MapKept.run_getObj_map hb, K.check w false hkey, f1, hz, MapKept.run_setObj_map _ hb, Result.andThen, ChangeMaps.setBlock]
      obtain ⟨e1, e2⟩ := Result.ok.inj (h1.symm.trans m1)
      simp at e1
      rw [e1.1]
      simp [Instr.lookup, run_underlying ht, MapKept.run_getObj_map hb, K.check w _ hkey, f1, hz, Result.andThen]
    · have hj : es[j]? = some e0 := by simpa using f2
      have m1 : (Instr.mapEntry t (.map (some b)) key).run P w = .ok (.tuple #[e0.val, goInt e0.born]) (ChangeMaps.setBlock w b (.map (es.modify j fun e => { e with key := key }) clock)) := by
        simp [Instr.mapEntry, run_underlying ht, MapKept.run_getObj_map hb, K.check w false hkey, f1, hj, f3, K.stays w hkey, MapKept.run_setObj_map _ hb, Result.andThen, ChangeMaps.setBlock]
      obtain ⟨e1, e2⟩ := Result.ok.inj (h1.symm.trans m1)
      simp at e1
      rw [e1.1]
      simp [Instr.lookup, run_underlying ht, MapKept.run_getObj_map hb, K.check w _ hkey, f1, Result.andThen]
  · obtain ⟨es', c', q1, q2⟩ := h3 _ val hs1
    refine ⟨es', c', ?_, q2⟩
    rw [q1]
    simp [ChangeMaps.setBlock]

end


theorem wrap_ok {z : Int} (h0 : -1000000 ≤ z) (h1 : z ≤ 1000000) : IntKind.i64.wrap z = z := by
  unfold IntKind.wrap
  simp [IntKind.bits, IntKind.signed]
  omega

theorem wfi_small {z : Int} (h0 : -1000000 ≤ z) (h1 : z ≤ 1000000) : wfi z := by
  have e1 : IntKind.i64.min = -9223372036854775808 := by decide
  have e2 : IntKind.i64.max = 9223372036854775807 := by decide
  unfold wfi Lit.wf
  simp [e1, e2]
  omega

/- Keys that are ballots. -/
def blit (b : Bt) : Lit := .string (keyBytes [.int .i64 b.1, .int .i64 b.2])
theorem laidOut : laidOutB Try.prog = true := by kernel_rfl
theorem blaw0 : WideMaps.KeyLaw Try.prog 72 := deep_law_laid laidOut (m := 2) (by omega) (of_decide_eq_true (by kernel_rfl)) (by kernel_rfl) (by kernel_rfl)
theorem blaw : Maps.Keyed Try.prog 72 := Maps.Keyed.of_law blaw0

def bwf (b : Bt) : Prop := wfi b.1 ∧ wfi b.2

theorem key_lits (e0 e1 : Value) : Try.prog.keyLits (Try.prog.types.size + 1) 72 [e0, e1] = ((Try.prog.keyLits (159 + 1) 3 [e0]).bind fun a => (Try.prog.keyLits (159 + 1) 3 [e1]).bind fun b => some (a ++ b)) := by
  have h0 : Try.prog.types.size + 1 = 159 + 1 + 1 := by kernel_rfl
  have h2 : Try.prog.cellsOf 72 = 2 := by kernel_rfl
  have h3 : Try.prog.cellsOf 3 = 1 := by kernel_rfl
  rw [h0]
  conv => lhs; unfold Program.keyLits
  rw [Try.underlying72]
  simp [h2, h3]
  cases Try.prog.keyLits (159 + 1) 3 [e0] <;> cases Try.prog.keyLits (159 + 1) 3 [e1] <;> simp

theorem int_lits (e : Value) (l : List Lit) (h : Try.prog.keyLits (159 + 1) 3 [e] = some l) : ∃ z, e = .int .i64 z ∧ wfi z ∧ l = [.int .i64 z] := by
  unfold Program.keyLits at h
  rw [Try.underlying3] at h
  cases e <;> simp at h
  obtain ⟨⟨rfl, hw⟩, rfl⟩ := h
  exact ⟨_, rfl, hw, rfl⟩

theorem int_lits_mk {z : Int} (h : wfi z) : Try.prog.keyLits (159 + 1) 3 [.int .i64 z] = some [.int .i64 z] := by
  unfold Program.keyLits
  rw [Try.underlying3]
  unfold wfi at h
  simp [h]

theorem bk_key {b : Bt} (h : bwf b) : keyOf Try.prog 72 (bt b) = some (blit b) := by
  have h1 : Try.prog.keyType 72 = true := by kernel_rfl
  have h2 : (bt b).formed Try.prog 72 = true := by kernel_rfl
  have h3 : Try.prog.keyLits (Try.prog.types.size + 1) 72 (bt b).cells.toList = some [.int .i64 b.1, .int .i64 b.2] := by
    show Try.prog.keyLits (Try.prog.types.size + 1) 72 [.int .i64 b.1, .int .i64 b.2] = _
    rw [key_lits, int_lits_mk h.1, int_lits_mk h.2]
    rfl
  unfold keyOf
  rw [Try.underlying72]
  simp only [h1, h2, Bool.and_self, if_true, h3, Option.map_some]
  rfl

theorem bk_inj {a b : Bt} (ha : bwf a) (hb : bwf b) (h : blit a = blit b) : a = b := by
  have := blaw.inj (bk_key ha) (h ▸ bk_key hb)
  simp [bt] at this
  exact bt_ext this.1 this.2

theorem bk_inv {key : Value} {kl : Lit} (h : keyOf Try.prog 72 key = some kl) : ∃ b : Bt, key = bt b ∧ bwf b ∧ kl = blit b := by
  have hc : Try.prog.cellsOf 72 = 2 := by kernel_rfl
  unfold keyOf at h
  rw [Try.underlying72] at h
  dsimp only at h
  split at h
  · next hif =>
    simp only [Bool.and_eq_true] at hif
    have hf := hif.2
    cases key with
    | agg cs =>
      have hs : cs.size = 2 := by
        unfold Value.formed at hf
        rw [Try.underlying72, hc] at hf
        simpa using hf
      obtain ⟨e0, e1, rfl⟩ : ∃ e0 e1, cs = #[e0, e1] := by
        obtain ⟨l⟩ := cs
        match l, hs with
        | [e0, e1], _ => exact ⟨e0, e1, rfl⟩
      have hk : (Value.agg #[e0, e1]).cells.toList = [e0, e1] := rfl
      rw [hk, key_lits] at h
      cases k0 : Try.prog.keyLits (159 + 1) 3 [e0] with
      | none => rw [k0] at h; simp at h
      | some l0 =>
        cases k1 : Try.prog.keyLits (159 + 1) 3 [e1] with
        | none => rw [k0, k1] at h; simp at h
        | some l1 =>
          obtain ⟨z0, rfl, w0, rfl⟩ := int_lits _ _ k0
          obtain ⟨z1, rfl, w1, rfl⟩ := int_lits _ _ k1
          rw [k0, k1] at h
          simp at h
          exact ⟨(z0, z1), rfl, ⟨w0, w1⟩, h.symm⟩
    | _ => unfold Value.formed at hf; rw [Try.underlying72] at hf; cases hf
  · cases h

def updB (C : Bt → Int) (b : Bt) (v : Int) : Bt → Int := fun x => if x = b then v else C x

structure CtAt (w : World) (B lb nb : Nat) (D : DataW Value) (C : Bt → Int) : Prop where
  map : w.ownsMap Try.prog 72 (plainElem Try.prog 3) lb nb D
  cnt : ∀ b, bwf b → D.atKey (blit b) (.lit (.int .i64 0)) = .lit (.int .i64 (C b))
  bl : B ≤ lb

section
variable {w w' : World} {B lb nb : Nat} {D : DataW Value} {C : Bt → Int}

theorem CtAt.mb (h : CtAt w B lb nb D C) : Mb w lb := by
  obtain ⟨es, c, hb, _⟩ := h.map
  exact ⟨es, c, hb⟩

theorem CtAt.turns {G : Nat → Prop} (h : CtAt w B lb nb D C) (t : Turns G w w') (hl : ¬ G lb) : CtAt w' B lb nb D C := by
  obtain ⟨es, clock, hb, r⟩ := h.map
  exact ⟨⟨es, clock, (t.block lb h.map.lt hl).trans hb, r⟩, h.cnt, h.bl⟩

theorem CtAt.below (h : CtAt w B lb nb D C) (t : Below w.heap.size w w') : CtAt w' B lb nb D C := h.turns (Turns.of_below (F := fun _ => False) t) (fun h => h)

theorem CtAt.new (w : World) (B : Nat) (hB : B ≤ w.heap.size) : CtAt (w.alloc (.map #[] 0)) B w.heap.size 0 (.map []) (fun _ => 0) := ⟨World.ownsMap_made w _ _ _, fun _ _ => rfl, hB⟩

theorem zero_int (w : World) : (zeroValue 3).run Try.prog w = .ok (.int .i64 0) w := by kernel_rfl

theorem CtAt.look (h : CtAt w B lb nb D C) {b : Bt} (hb : bwf b) : (Instr.lookup 134 (.map (some lb)) (bt b) false).run Try.prog w = .ok (.int .i64 (C b)) w := by
  obtain ⟨c, h1, h2, _⟩ := h.map.lookup_int blaw Try.underlying134 Try.underlying3 (zero_int w) (bk_key hb)
  rw [h.cnt b hb] at h2
  injection h2 with h2
  injection h2 with _ h2
  rw [h1, h2]

theorem CtAt.entry (h : CtAt w B lb nb D C) (hn : nb < 1000000000) {b : Bt} (hb : bwf b) (v : Int) (hv : wfi v) :
    ∃ (v0 : Value) (st : Nat) (w1 w2 : World), (Instr.mapEntry 134 (.map (some lb)) (bt b)).run Try.prog w = .ok (.tuple #[v0, goInt st]) w1 ∧
      (Instr.lookup 134 (.map (some lb)) (bt b) false).run Try.prog w1 = .ok (.int .i64 (C b)) w1 ∧
      (Instr.entryStore 134 (.map (some lb)) (goInt st) (.int .i64 v)).run Try.prog w1 = .ok () w2 ∧
      Turns (fun k => k = lb) w w1 ∧ Turns (fun k => k = lb) w w2 ∧ ∃ D', CtAt w2 B lb (nb + 1) D' (updB C b v) := by
  have hM := h.map
  obtain ⟨es, clock, hbk, F, hsz, hD⟩ := h.map
  obtain ⟨v0, st, es1, c1, q1, q2, q3, q4⟩ := entry_law blaw0 Try.underlying134 zero_int hbk F (bk_key hb)
  rw [h.look hb] at q3
  injection q3 with q3 _
  subst q3
  obtain ⟨es', c', q5, q6⟩ := q4 (.int .i64 v)
  have tt : ∀ o, Turns (fun k => k = lb) w (ChangeMaps.setBlock w lb o) := fun o => ⟨rfl, rfl, rfl, by simp [ChangeMaps.setBlock], fun k _ hk => ChangeMaps.heap_setBlock_other hbk _ hk⟩
  have wc : wfi (C b) := by
    obtain ⟨c, h1, h2, h3⟩ := h.map.lookup_int blaw Try.underlying134 Try.underlying3 (zero_int w) (bk_key hb)
    rw [h.cnt b hb] at h2
    injection h2 with h2
    injection h2 with _ h2
    rw [h2]
    exact h3
  have put : ∀ (u : Int) (o : Obj), wfi u → (Instr.mapUpdate 134 (.map (some lb)) (bt b) (.int .i64 u)).run Try.prog w = .ok () (ChangeMaps.setBlock w lb o) → CtAt (ChangeMaps.setBlock w lb o) B lb (nb + 1) (D.put (blit b) (.lit (.int .i64 u))) (updB C b u) := fun u o hu hr => by
    obtain ⟨w', p1, p2, p3⟩ := hM.update blaw Try.underlying134 (by unfold maxLen; omega) (bk_key hb) (plainElem_int Try.underlying3 hu)
    rw [hr] at p1
    injection p1 with _ p1
    subst p1
    refine ⟨p2, fun x hx => ?_, h.bl⟩
    unfold updB
    by_cases e : x = b
    · rw [if_pos e, e, Maps.atKey_put_same hM.isMap (blaw.key (bk_key hb))]
    · rw [if_neg e, Maps.atKey_put_other (fun hh => e (bk_inj hx hb hh))]
      exact h.cnt x hx
  have l1 := put _ _ wc q2
  have e1 : updB C b (C b) b = C b := by simp [updB]
  have k1 := l1.look hb
  rw [e1] at k1
  exact ⟨_, st, _, _, q1, k1, q5, tt _, tt _, _, put _ _ hv q6⟩

end

/- A list of acceptors that is read. -/
structure Accs (w : World) (x : Option Addr) (n : Nat) (V : Nat → AccV) : Prop where
  row : n = 0 ∨ ∃ b o, x = some ⟨b, o, none⟩ ∧ b < w.heap.size ∧ ∀ i, i < n → w.cell? ⟨b, o + i * 5, none⟩ = some (.int .i64 (V i).p.1) ∧ w.cell? ⟨b, o + i * 5 + 1, none⟩ = some (.int .i64 (V i).p.2) ∧ w.cell? ⟨b, o + i * 5 + 2, none⟩ = some (.int .i64 (V i).a.1) ∧ w.cell? ⟨b, o + i * 5 + 3, none⟩ = some (.int .i64 (V i).a.2) ∧ w.cell? ⟨b, o + i * 5 + 4, none⟩ = some (.slice (V i).x (V i).n (V i).c)
  val : ∀ i, i < n → Sl w (V i).x (V i).n (V i).c (V i).d ∧ (V i).n ≤ 140737488355328
  wf : ∀ i, i < n → bwf (V i).a
  small : n ≤ 1000

theorem Accs.below {w w' : World} {x : Option Addr} {n : Nat} {V : Nat → AccV} (h : Accs w x n V) (t : Below w.heap.size w w') : Accs w' x n V := by
  refine ⟨?_, fun i hi => ⟨(h.val i hi).1.below t, (h.val i hi).2⟩, h.wf, h.small⟩
  rcases h.row with h0 | ⟨b, o, rfl, hb, hc⟩
  · exact .inl h0
  · refine .inr ⟨b, o, rfl, Nat.lt_of_lt_of_le hb t.size, fun i hi => ?_⟩
    obtain ⟨c0, c1, c2, c3, c4⟩ := hc i hi
    exact ⟨keep t c0, keep t c1, keep t c2, keep t c3, keep t c4⟩

def cntA (V : Nat → AccV) (k : Nat) (b : Bt) : Int := if b = z0 then 0 else (cnt (fun i => decide ((V i).a = b)) k : Nat)

theorem cntA_succ (V : Nat → AccV) (k : Nat) (b : Bt) : cntA V (k + 1) b = if (V k).a = b ∧ b ≠ z0 then cntA V k b + 1 else cntA V k b := by
  unfold cntA
  by_cases hz : b = z0
  · simp [hz]
  · by_cases hb : (V k).a = b
    · simp [hz, hb, cnt]
    · simp [hz, hb, cnt]

theorem cntA_le (V : Nat → AccV) (k : Nat) (b : Bt) : 0 ≤ cntA V k b ∧ cntA V k b ≤ k := by
  unfold cntA
  have := cnt_le (fun i => decide ((V i).a = b)) k
  split <;> omega

theorem zb_iff (b : Bt) : zb b = true ↔ b = z0 := by
  obtain ⟨b1, b2⟩ := b
  unfold zb z0
  simp

set_option maxHeartbeats 4000000 in
theorem count_any (x : Option Addr) (n c : Nat) (V : Nat → AccV) (w : World) (h : Accs w x n V) :
    Calls Try.prog 89 #[.slice x n c] w fun e w' => ∃ mb nb D, e = .returned (.map (some mb)) ∧ Hid (Below w.heap.size w w' ∧ CtAt w' w.heap.size mb nb D (cntA V n) ∧ nb ≤ n) := by
  have hsm := h.small
  have hnz : (n : Int) ≤ 1000 := by omega
  have HA : Hid (Accs w x n V) := h
  clear h
  have hmm := @run_makeMap Try.prog
  go_enter Try.func89, Try.ntmps89
  go_wp2_with fail
  go_loopw [9, 5] (fun i _ wr => ∃ k : Nat, k ≤ n ∧ i = .int .i64 k ∧ Hid (Below w.heap.size w wr ∧ ∃ nb D, CtAt wr w.heap.size w.heap.size nb D (cntA V k) ∧ nb ≤ k)) (fun i _ _ => n - (intOf i).toNat)
  case atStart =>
    have e0 : cntA V 0 = fun _ => 0 := by
      funext q
      simp [cntA, cnt]
    exact ⟨0, by omega, rfl, al _ _, 0, _, by rw [e0]; exact CtAt.new w _ (Nat.le_refl _), Nat.le_refl _⟩
  case round =>
    obtain ⟨k, hk, rfl, HR⟩ := hrel
    by_cases hlt : k < n
    · have hkn : (k : Int) < (n : Int) := by omega
      obtain ⟨B0, nb, D, hC, hnb⟩ := HR.out
      have hA := HA.out.below B0
      obtain ⟨b, o, rfl, hb, hc⟩ := hA.row.resolve_left (by omega)
      obtain ⟨c0, c1, c2, c3, c4⟩ := hc k hlt
      have hwf := hA.wf k hlt
      have hN := fun W => none_any (V k).a W
      have hlast : cntA V (k + 1) = if zb (V k).a = true then cntA V k else updB (cntA V k) (V k).a (cntA V k (V k).a + 1) := by
        funext q
        rw [cntA_succ]
        by_cases hz : zb (V k).a = true
        · rw [if_pos hz]
          have := (zb_iff _).1 hz
          rw [if_neg (fun e => e.2 (by rw [← e.1, this]))]
        · rw [if_neg hz]
          have hz2 : (V k).a ≠ z0 := fun e => hz ((zb_iff _).2 e)
          unfold updB
          by_cases e : q = (V k).a
          · subst e
            rw [if_pos ⟨rfl, hz2⟩, if_pos rfl]
          · rw [if_neg (fun h => e h.1.symm), if_neg e]
      have hcl := cntA_le V k (V k).a
      clear hA hc HA HR hb
      cases hz : zb (V k).a with
      | true =>
        rw [hz] at hN
        rw [hz, if_pos rfl] at hlast
        have HL : Hid (cntA V (k + 1) = cntA V k) := hlast
        have HC : Hid (CtAt wr w.heap.size w.heap.size nb D (cntA V k)) := hC
        clear hlast hC hz hwf hcl
        unfold bt at hN
        generalize (V k).p = p at *
        generalize (V k).a = a at *
        generalize (V k).x = vx at *
        generalize (V k).n = vn at *
        generalize (V k).c = vc at *
        obtain ⟨p1, p2⟩ := p
        obtain ⟨a1, a2⟩ := a
        dsimp only at *
        go_wp2_with (first
          | (
             go_at_call 95; refine (hN _).mono ?_; rintro e w1 ⟨rfl, hb1⟩; clear hN
             have B1 := on (al _ _) hb1
             clear hb1))
        go_roundw
        case rel => exact ⟨k + 1, by omega, by go_num, on B0 B1, nb, D, by rw [HL.out]; exact HC.out.below B1, by omega⟩
        case measure => simp [intOf]; omega
      | false =>
        rw [hz] at hN
        rw [hz, if_neg (by simp)] at hlast
        have HL : Hid (cntA V (k + 1) = updB (cntA V k) (V k).a (cntA V k (V k).a + 1)) := hlast
        have HE : Hid (∀ W, Below wr.heap.size wr W → ∃ (v0 : Value) (st : Nat) (w1 w2 : World), (Instr.lookup 134 (.map (some w.heap.size)) (bt (V k).a) false).run Try.prog W = .ok (.int .i64 (cntA V k (V k).a)) W ∧
            (Instr.mapEntry 134 (.map (some w.heap.size)) (bt (V k).a)).run Try.prog W = .ok (.tuple #[v0, .int .i64 (st : Int)]) w1 ∧
            (Instr.lookup 134 (.map (some w.heap.size)) (bt (V k).a) false).run Try.prog w1 = .ok (.int .i64 (cntA V k (V k).a)) w1 ∧
            (Instr.entryStore 134 (.map (some w.heap.size)) (.int .i64 (st : Int)) (.int .i64 (cntA V k (V k).a + 1))).run Try.prog w1 = .ok () w2 ∧
            Hid (Turns (fun j => j = w.heap.size) W w2 ∧ ∃ D', CtAt w2 w.heap.size w.heap.size (nb + 1) D' (cntA V (k + 1)))) := fun W hW => by
          obtain ⟨v0, st, w1, w2, q1, q2, q3, q4, q5, D', q6⟩ := (hC.below hW).entry (by omega) hwf (cntA V k (V k).a + 1) (wfi_small (by omega) (by omega))
          exact ⟨v0, st, w1, w2, (hC.below hW).look hwf, q1, q2, q3, q5, D', by rw [HL.out]; exact q6⟩
        have hwz : IntKind.i64.wrap (cntA V k (V k).a + 1) = cntA V k (V k).a + 1 := wrap_ok (by omega) (by omega)
        clear hlast hC hz hwf HL
        unfold bt at hN HE
        generalize cntA V k (V k).a = cc at *
        generalize (V k).p = p at *
        generalize (V k).a = a at *
        generalize (V k).x = vx at *
        generalize (V k).n = vn at *
        generalize (V k).c = vc at *
        obtain ⟨p1, p2⟩ := p
        obtain ⟨a1, a2⟩ := a
        dsimp only at *
        go_wp2_with (first
          | (
             go_at_call 95; refine (hN _).mono ?_; rintro e w1 ⟨rfl, hb1⟩; clear hN
             have k0 := keep hb1 (b := wr.heap.size) (o := 0) (x := .int .i64 p1) (by first | assumption | go_simp)
             have k1 := keep hb1 (b := wr.heap.size) (o := 1) (x := .int .i64 p2) (by first | assumption | go_simp)
             have k2 := keep hb1 (b := wr.heap.size) (o := 2) (x := .int .i64 a1) (by first | assumption | go_simp)
             have k3 := keep hb1 (b := wr.heap.size) (o := 3) (x := .int .i64 a2) (by first | assumption | go_simp)
             have k4 := keep hb1 (b := wr.heap.size) (o := 4) (x := .slice vx vn vc) (by first | assumption | go_simp)
             have B1 := on (al _ _) hb1
             clear hb1))
        have B2 : Below wr.heap.size wr w1.drew := on B1 (Below.refl _ _).drew
        obtain ⟨v0, st, w4, w5, hl2, hent, hl3, hst, HN⟩ := HE.out _ B2
        have m2 : w1.drew.cell? ⟨wr.heap.size, 2, none⟩ = some (.int .i64 a1) := k2
        have m3 : w1.drew.cell? ⟨wr.heap.size, 3, none⟩ = some (.int .i64 a2) := k3
        clear HE k0 k1 k2 k3 k4
        refine wp_region_held_drew (S := fun v => True) (by kernel_rfl) trivial (fun hHeld => ?_)
        generalize w1.drew = wD at *
        refine wpAnyH_take (i := 0) (v := ?_) rfl (by kernel_rfl) (by kernel_rfl) (by kernel_rfl) (fun _ _ _ h => h) (Or.inl ⟨by rfl, ?_⟩) (by assumption) ?_
        case refine_2 => (intro w hSw; (try dsimp only at hSw); go_simp; (try with_reducible rfl))
        (try simp only [Act.put, List.getElem_toArray, List.getElem_cons_succ, List.getElem_cons_zero, List.setIfInBounds_toArray, List.set_cons_zero, List.set_cons_succ])
        refine wpAnyH_take (i := 1) (v := ?_) rfl (by kernel_rfl) (by kernel_rfl) (by kernel_rfl) (fun _ _ _ h => h) (Or.inl ⟨by rfl, ?_⟩) (by assumption) ?_
        case refine_2 => (intro w hSw; (try dsimp only at hSw); go_simp; (try with_reducible rfl))
        (try simp only [Act.put, List.getElem_toArray, List.getElem_cons_succ, List.getElem_cons_zero, List.setIfInBounds_toArray, List.set_cons_zero, List.set_cons_succ])
        refine wpAnyH_ready (rs := [2]) (by kernel_rfl) (by simp) ?_
        refine AllReadyH.cons rfl (fun K hK => ?_) AllReadyH.nil
        go_simp
        refine hK.out _ _ trivial (fun hHeld => ?_)
        clear hK K
        refine wpAnyH_ready (rs := [3, 5]) (by kernel_rfl) (by simp) ?_
        refine AllReadyH.cons rfl (fun K hK => ?_) (AllReadyH.cons rfl (fun K hK => ?_) AllReadyH.nil)
        · refine st_lookup rfl _ _ 134 false rfl _ _ _ rfl rfl hl2 ?_
          (try simp only [Act.put, List.getElem_toArray, List.getElem_cons_succ, List.getElem_cons_zero, List.setIfInBounds_toArray, List.set_cons_zero, List.set_cons_succ])
          refine hK.out _ _ trivial (fun hHeld => ?_)
          clear hK K
          refine wpAnyH_take (i := 4) (v := ?_) rfl (by kernel_rfl) (by kernel_rfl) (by kernel_rfl) (fun _ _ _ h => h) (Or.inl ⟨by rfl, ?_⟩) (by assumption) ?_
          case refine_2 => (intro w hSw; (try dsimp only at hSw); go_simp; (try with_reducible rfl))
          (try simp only [Act.put, List.getElem_toArray, List.getElem_cons_succ, List.getElem_cons_zero, List.setIfInBounds_toArray, List.set_cons_zero, List.set_cons_succ])
          refine wpAnyH_ready (rs := [5]) (by kernel_rfl) (by simp) ?_
          refine AllReadyH.cons rfl (fun K hK => ?_) AllReadyH.nil
          refine st_mapentry rfl _ _ 134 rfl _ _ _ rfl rfl hent ?_
          (try simp only [Act.put, List.getElem_toArray, List.getElem_cons_succ, List.getElem_cons_zero, List.setIfInBounds_toArray, List.set_cons_zero, List.set_cons_succ])
          refine hK.out _ _ trivial (fun hHeld => ?_)
          clear hK K
          refine wpAnyH_take (i := 6) (v := ?_) rfl (by kernel_rfl) (by kernel_rfl) (by kernel_rfl) (fun _ _ _ h => h) (Or.inl ⟨by rfl, ?_⟩) (by assumption) ?_
          case refine_2 => (intro w hSw; (try dsimp only at hSw); go_simp; (try with_reducible rfl))
          (try simp only [Act.put, List.getElem_toArray, List.getElem_cons_succ, List.getElem_cons_zero, List.setIfInBounds_toArray, List.set_cons_zero, List.set_cons_succ])
          refine wpAnyH_ready (rs := [7]) (by kernel_rfl) (by simp) ?_
          refine AllReadyH.cons rfl (fun K hK => ?_) AllReadyH.nil
          refine st_entrystore rfl _ _ _ 134 rfl _ _ _ rfl rfl rfl hst ?_
          (try simp only [Act.put, List.getElem_toArray, List.getElem_cons_succ, List.getElem_cons_zero, List.setIfInBounds_toArray, List.set_cons_zero, List.set_cons_succ])
          refine hK.out _ _ trivial (fun hHeld => ?_)
          clear hK K
          refine wpAnyH_done (by kernel_rfl) ?_ _
          go_wp2_with fail
          go_roundw
          case rel => exact ⟨k + 1, by omega, by go_num, (on B0 B2).trans (HN.out.1.below (fun j hj => by omega) (on B0 B2).size), nb + 1, HN.out.2.choose, HN.out.2.choose_spec, by omega⟩
          case measure => simp [intOf]; omega
        · refine st_mapentry rfl _ _ 134 rfl _ _ _ rfl rfl hent ?_
          (try simp only [Act.put, List.getElem_toArray, List.getElem_cons_succ, List.getElem_cons_zero, List.setIfInBounds_toArray, List.set_cons_zero, List.set_cons_succ])
          refine hK.out _ _ trivial (fun hHeld => ?_)
          clear hK K
          refine wpAnyH_take (i := 6) (v := ?_) rfl (by kernel_rfl) (by kernel_rfl) (by kernel_rfl) (fun _ _ _ h => h) (Or.inl ⟨by rfl, ?_⟩) (by assumption) ?_
          case refine_2 => (intro w hSw; (try dsimp only at hSw); go_simp; (try with_reducible rfl))
          (try simp only [Act.put, List.getElem_toArray, List.getElem_cons_succ, List.getElem_cons_zero, List.setIfInBounds_toArray, List.set_cons_zero, List.set_cons_succ])
          refine wpAnyH_ready (rs := [3]) (by kernel_rfl) (by simp) ?_
          refine AllReadyH.cons rfl (fun K hK => ?_) AllReadyH.nil
          refine st_lookup rfl _ _ 134 false rfl _ _ _ rfl rfl hl3 ?_
          (try simp only [Act.put, List.getElem_toArray, List.getElem_cons_succ, List.getElem_cons_zero, List.setIfInBounds_toArray, List.set_cons_zero, List.set_cons_succ])
          refine hK.out _ _ trivial (fun hHeld => ?_)
          clear hK K
          refine wpAnyH_take (i := 4) (v := ?_) rfl (by kernel_rfl) (by kernel_rfl) (by kernel_rfl) (fun _ _ _ h => h) (Or.inl ⟨by rfl, ?_⟩) (by assumption) ?_
          case refine_2 => (intro w hSw; (try dsimp only at hSw); go_simp; (try with_reducible rfl))
          (try simp only [Act.put, List.getElem_toArray, List.getElem_cons_succ, List.getElem_cons_zero, List.setIfInBounds_toArray, List.set_cons_zero, List.set_cons_succ])
          refine wpAnyH_ready (rs := [7]) (by kernel_rfl) (by simp) ?_
          refine AllReadyH.cons rfl (fun K hK => ?_) AllReadyH.nil
          refine st_entrystore rfl _ _ _ 134 rfl _ _ _ rfl rfl rfl hst ?_
          (try simp only [Act.put, List.getElem_toArray, List.getElem_cons_succ, List.getElem_cons_zero, List.setIfInBounds_toArray, List.set_cons_zero, List.set_cons_succ])
          refine hK.out _ _ trivial (fun hHeld => ?_)
          clear hK K
          refine wpAnyH_done (by kernel_rfl) ?_ _
          go_wp2_with fail
          go_roundw
          case rel => exact ⟨k + 1, by omega, by go_num, (on B0 B2).trans (HN.out.1.below (fun j hj => by omega) (on B0 B2).size), nb + 1, HN.out.2.choose, HN.out.2.choose_spec, by omega⟩
          case measure => simp [intOf]; omega
    · obtain rfl : k = n := by omega
      go_wp2_with fail
      go_ret
      obtain ⟨B0, nb, D, hC, hnb⟩ := HR.out
      exact ⟨w.heap.size, nb, D, rfl, B0, hC, hnb⟩

end Go.Proofs.Ytdbahebhodoooaa.Ba

/-
  A map from numbers to acceptors as it lies in memory.
  Conditions: none.
-/
namespace Go.Proofs.Ytdbahebhodoooaa.Px
open Go.RowKit Wi By Fl Ba
set_option linter.unusedVariables false
set_option linter.unusedSimpArgs false
set_option maxRecDepth 100000

/- A list of bytes that nobody writes. -/
structure Sv (w : World) (x : Option Addr) (n c : Nat) (d : List Nat) : Prop where
  sl : Fl.Sl w x n c d
  sm : n ≤ 5000
  tb : ∀ a, x = some a → Tb w a.block 5

theorem Sv.turns {w w' : World} {G : Nat → Prop} {x : Option Addr} {n c : Nat} {d : List Nat} (h : Sv w x n c d) (t : Turns G w w') (hG : ∀ k, G k → ¬ Tb w k 5) : Sv w' x n c d :=
  ⟨h.sl.turns t (fun _ a ha hg => hG _ hg (h.tb a ha)), h.sm, fun a ha => (h.tb a ha).of_heap (t.block _ (h.tb a ha).lt (fun hg => hG _ hg (h.tb a ha)))⟩
theorem Sv.below {w w' : World} {x : Option Addr} {n c : Nat} {d : List Nat} (h : Sv w x n c d) (b : Below w.heap.size w w') : Sv w' x n c d := h.turns (Turns.of_below (F := fun _ => False) b) (fun _ h => h.elim)
theorem Sv.nil (w : World) : Sv w none 0 0 [] := ⟨Fl.Sl.empty w, by omega, fun a ha => by cases ha⟩
theorem vl_sv {w w' : World} {x : Option Addr} {n c : Nat} {d : List Nat} (h : Vl w w' x n c d) (hn : n ≤ 5000) : Sv w' x n c d := ⟨h.2.1, hn, fun a ha => (h.2.2 a ha).2⟩

theorem wfi_all {a : Int} (h1 : -9223372036854775808 ≤ a) (h2 : a ≤ 9223372036854775807) : wfi a := by
  have e1 : IntKind.i64.min = -9223372036854775808 := by decide
  have e2 : IntKind.i64.max = 9223372036854775807 := by decide
  unfold wfi Lit.wf
  simp [e1, e2]
  omega

def hva (v : Value) : Option (DataW Value × List MemPlace) := some (.held v, [])
def av (v : AccV) : Value := ac v.p v.a v.x v.n v.c
def acOf (v : AccV) : Ac := ⟨v.p, v.a, v.d⟩

theorem hva_inv {v : Value} {z : DataW Value × List MemPlace} (h : hva v = some z) : z = (.held v, []) := by
  injection h with h
  exact h.symm

theorem ilaw : Maps.Keyed Try.prog 3 := Maps.int_keyed Try.underlying3
def ilit (k : Nat) : Lit := .int .i64 (k : Int)
theorem ikey {k : Nat} (h : k < 4294967296) : keyOf Try.prog 3 (.int .i64 (k : Int)) = some (ilit k) := by
  have hw : wfi (k : Int) := wfi_all (by omega) (by omega)
  unfold keyOf mapKey ilit
  rw [Try.underlying3]
  unfold wfi at hw
  simp [hw]
theorem ilit_inj {a b : Nat} (h : ilit a = ilit b) : a = b := by
  unfold ilit at h
  injection h with _ h
  omega
theorem ilit_key (k : Nat) (h : k < 4294967296) : WideAt.IsKeyLit (ilit k) := ilaw.key (ikey h)
theorem azero (w : World) : (zeroValue 74).run Try.prog w = .ok (ac z0 z0 none 0 0) w := by kernel_rfl

/- An acceptor in memory. -/
structure AvOk (w : World) (v : AccV) : Prop where
  sv : Sv w v.x v.n v.c v.d
  p : bwf v.p
  a : bwf v.a

theorem AvOk.turns {w w' : World} {G : Nat → Prop} {v : AccV} (h : AvOk w v) (t : Turns G w w') (hG : ∀ k, G k → ¬ Tb w k 5) : AvOk w' v := ⟨h.sv.turns t hG, h.p, h.a⟩

def noAv : AccV := ⟨z0, z0, none, 0, 0, []⟩
theorem z0_wf : bwf z0 := ⟨wfi_all (a := 0) (by omega) (by omega), wfi_all (a := 0) (by omega) (by omega)⟩
theorem noAv_ok (w : World) : AvOk w noAv := ⟨Sv.nil w, z0_wf, z0_wf⟩

structure ApAt (w : World) (mb nb : Nat) (D : DataW Value) (M : Nat → Ac) : Prop where
  own : w.ownsMap Try.prog 3 hva mb nb D
  val : ∀ k, k < 4294967296 → (Maps.has D (ilit k) = false ∧ M k = noAc) ∨ ∃ v : AccV, (∀ z, D.atKey (ilit k) z = .held (av v)) ∧ AvOk w v ∧ M k = acOf v

section
variable {w w' : World} {mb nb : Nat} {D : DataW Value} {M : Nat → Ac}

theorem ApAt.isM (h : ApAt w mb nb D M) : Mb w mb := by
  obtain ⟨es, c, hb, _⟩ := h.own
  exact ⟨es, c, hb⟩
theorem ApAt.lt (h : ApAt w mb nb D M) : mb < w.heap.size := h.own.lt

theorem ApAt.turns {G : Nat → Prop} (h : ApAt w mb nb D M) (t : Turns G w w') (hm : ¬ G mb) (hG : ∀ k, G k → ¬ Tb w k 5) : ApAt w' mb nb D M := by
  obtain ⟨es, clock, hb, r⟩ := h.own
  refine ⟨⟨es, clock, (t.block mb h.own.lt hm).trans hb, r⟩, fun k hk => ?_⟩
  rcases h.val k hk with q | ⟨v, q1, q2, q3⟩
  · exact .inl q
  · exact .inr ⟨v, q1, q2.turns t hG, q3⟩

theorem ApAt.below (h : ApAt w mb nb D M) (b : Below w.heap.size w w') : ApAt w' mb nb D M := h.turns (Turns.of_below (F := fun _ => False) b) (fun h => h) (fun _ h => h.elim)

theorem ApAt.new (w : World) : ApAt (w.alloc (.map #[] 0)) w.heap.size 0 (.map []) (fun _ => noAc) :=
  ⟨World.ownsMap_made w _ _ _, fun _ _ => .inl ⟨rfl, rfl⟩⟩

theorem ApAt.look (h : ApAt w mb nb D M) (k : Nat) (hk : k < 4294967296) : ∃ v : AccV, (Instr.lookup 60 (.map (some mb)) (.int .i64 (k : Int)) false).run Try.prog w = .ok (av v) w ∧ AvOk w v ∧ M k = acOf v := by
  obtain ⟨v, ps, h1, h2⟩ := h.own.lookup (t := 60) (e := 74) ilaw Try.underlying60 (azero w) rfl (ikey hk)
  have h3 := congrArg Prod.fst (hva_inv h2)
  dsimp only at h3
  rcases h.val k hk with ⟨q1, q2⟩ | ⟨u, q1, q2, q3⟩
  · rw [Maps.atKey_of_not_has q1] at h3
    injection h3 with h3
    exact ⟨noAv, by rw [h1, ← h3]; rfl, noAv_ok w, q2⟩
  · rw [q1] at h3
    injection h3 with h3
    exact ⟨u, by rw [h1, ← h3], q2, q3⟩

def upA (M : Nat → Ac) (k : Nat) (a : Ac) : Nat → Ac := fun i => if i = k then a else M i

theorem mb_not_u8 (h : Mb w mb) : ∀ i, atB mb i → ¬ Tb w i 5 := fun i hi tb => by
  have e : i = mb := hi
  subst e
  exact tb.not_map h

theorem grown_at {w1 : World} {g : Nat} (h3 : w.grownBy w1 (some g)) : Turns (atB g) w w1 := ⟨h3.os, h3.tape, h3.output, h3.size, fun i hi hr => h3.block i hi (fun e => hr (by injection e))⟩

theorem ApAt.put (h : ApAt w mb nb D M) (k : Nat) (hk : k < 4294967296) (hn : nb < 4000000000000000000) (v : AccV) (hv : AvOk w v) :
    ∃ w1 D', (Instr.mapUpdate 60 (.map (some mb)) (.int .i64 (k : Int)) (av v)).run Try.prog w = .ok () w1 ∧ Hid (ApAt w1 mb (nb + 1) D' (upA M k (acOf v)) ∧ Turns (atB mb) w w1) := by
  obtain ⟨w1, h1, h2, h3⟩ := h.own.update (t := 60) (e := 74) ilaw Try.underlying60 (by unfold maxLen; omega) (ikey hk) (val := av v) (d := .held (av v)) (ps := []) rfl
  have t := grown_at h3
  have hG := mb_not_u8 h.isM
  refine ⟨w1, _, h1, ⟨h2, fun i hi => ?_⟩, t⟩
  unfold upA
  by_cases e : i = k
  · subst e
    rw [if_pos rfl]
    exact .inr ⟨v, fun z => Maps.atKey_put_same h.own.isMap (ilit_key i hi) _ z, hv.turns t hG, rfl⟩
  · rw [if_neg e]
    rcases h.val i hi with ⟨q1, q2⟩ | ⟨u, q1, q2, q3⟩
    · exact .inl ⟨by rw [Maps.has_put_other (fun h => e (ilit_inj h))]; exact q1, q2⟩
    · exact .inr ⟨u, fun z => by rw [Maps.atKey_put_other (fun h => e (ilit_inj h))]; exact q1 z, q2.turns t hG, q3⟩

theorem ApAt.del (h : ApAt w mb nb D M) (k : Nat) (hk : k < 4294967296) (ty : TypeId) :
    ∃ w1 D', (Builtin.delete_ #[60, 3] ty #[.map (some mb), .int .i64 (k : Int)]).run Try.prog w = .ok (.tuple #[]) w1 ∧ Hid (ApAt w1 mb nb D' (upA M k noAc) ∧ Turns (atB mb) w w1) := by
  obtain ⟨w1, h1, h2, h3⟩ := h.own.drop (t := 60) (e := 74) ilaw Try.underlying60 (ikey hk) ty
  have t := grown_at h3.grown
  have hG := mb_not_u8 h.isM
  refine ⟨w1, _, h1, ⟨h2, fun i hi => ?_⟩, t⟩
  unfold upA
  by_cases e : i = k
  · subst e
    rw [if_pos rfl]
    exact .inl ⟨Maps.has_del_same, rfl⟩
  · rw [if_neg e]
    rcases h.val i hi with ⟨q1, q2⟩ | ⟨u, q1, q2, q3⟩
    · exact .inl ⟨by rw [Maps.has_del_other (fun h => e (ilit_inj h))]; exact q1, q2⟩
    · exact .inr ⟨u, fun z => by rw [Maps.atKey_del_other (fun h => e (ilit_inj h))]; exact q1 z, q2.turns t hG, q3⟩

end

end Go.Proofs.Ytdbahebhodoooaa.Px

/-
  Package paxos: seals; how ballots and messages are written.
  Conditions: what is written lies in memory.
-/
namespace Go.Proofs.Ytdbahebhodoooaa.Px
open Go.RowKit Wi By Fl Ba
set_option linter.unusedVariables false
set_option linter.unusedSimpArgs false
set_option maxRecDepth 100000

theorem fold_take (s : Nat) (l : List Nat) (k : Nat) (h : k < l.length) : (l.take (k + 1)).foldl sealStep s = sealStep ((l.take k).foldl sealStep s) (Fl.gl l k) := by
  rw [List.take_add_one, List.getElem?_eq_getElem h, List.foldl_append, Option.toList_some, List.foldl_cons, List.foldl_nil]
  simp [Fl.gl, h]

theorem fnv_take (l : List Nat) (k : Nat) (h : k < l.length) : fnv (l.take (k + 1)) = sealStep (fnv (l.take k)) (Fl.gl l k) := fold_take _ l k h

theorem xor_lt64 {a b : Nat} (ha : a < 18446744073709551616) (hb : b < 256) : a ^^^ b < 18446744073709551616 := Nat.xor_lt_two_pow (n := 64) ha (by omega)

theorem mul_wrap (a : Nat) : IntKind.u64.wrap ((a : Int) * 1099511628211) = ((a * 1099511628211 % 18446744073709551616 : Nat) : Int) := by
  simp [IntKind.wrap, IntKind.bits, IntKind.signed]

theorem seal_any (x : Option Addr) (n c : Nat) (l : List Nat) (w : World) (hl : Fl.Sl w x n c l) (hn : n ≤ 140737488355328) :
    Calls Try.prog 79 #[.slice x n c] w fun e w' => e = .returned (.int .u64 (fnv l : Nat)) ∧ w' = w := by
  have HL : Hid (Fl.Sl w x n c l) := hl
  clear hl
  go_enter Try.func79, Try.ntmps79
  go_wp2_with fail
  go_loopw [3, 5, 8] (fun s _ i wr => ∃ k : Nat, k ≤ n ∧ i = .int .i64 k ∧ s = .int .u64 (fnv (l.take k) : Nat) ∧ wr = w) (fun _ _ i _ => n - (intOf i).toNat)
  case atStart => exact ⟨0, by omega, rfl, rfl, rfl⟩
  case round =>
    obtain ⟨k, hk, rfl, rfl, hw⟩ := hrel
    subst hw
    by_cases hlt : k < n
    · have hkn : (k : Int) < (n : Int) := by omega
      obtain ⟨b, o, rfl, hb, hc⟩ := HL.out.row.resolve_left (by omega)
      have hck := hc k hlt
      have hv := Fl.gl_lt HL.out.lt k
      have hs := fnv_lt (l.take k)
      have hx := u64_xor_nat (fnv (l.take k)) (Fl.gl l k) hs (by omega)
      have hm := mul_wrap (fnv (l.take k) ^^^ Fl.gl l k)
      have HS : Hid (fnv (l.take (k + 1)) = (fnv (l.take k) ^^^ Fl.gl l k) * 1099511628211 % 18446744073709551616) := fnv_take l k (by rw [HL.out.len]; exact hlt)
      have hx2 := xor_lt64 hs hv
      clear HL hc hb
      generalize fnv (l.take k) = s at *
      generalize Fl.gl l k = v at *
      generalize s ^^^ v = xv at *
      generalize xv * 1099511628211 % 18446744073709551616 = mv at *
      go_wp2_with fail
      go_roundw
      case rel => exact ⟨k + 1, by omega, by go_num, by rw [HS.out], trivial⟩
      case measure => simp [intOf]; omega
    · obtain rfl : k = n := by omega
      go_wp2_with fail
      go_ret
      rw [List.take_of_length_le (by rw [HL.out.len]; exact Nat.le_refl _)]
      exact ⟨rfl, rfl⟩

theorem sealed_any (x : Option Addr) (n c : Nat) (l : List Nat) (w : World) (hl : Fl.Sl w x n c l) (hn : n ≤ 140737488340000) :
    Calls Try.prog 59 #[.slice x n c] w fun e w' => ∃ y m cy, e = .returned (.slice y m cy) ∧ Hid (m = n + 8 ∧ Vl w w' y m cy (sealed l)) := by
  have hS := seal_any x n c l w hl (by omega)
  have hF := fx8W x n c l (fnv l) w hl (fnv_lt l) (by omega)
  unfold sealed
  generalize fnv l = f at *
  clear hl
  go_enter Try.func59, Try.ntmps59
  go_wp2_with (first
    | (
       go_at_call 79; refine hS.mono ?_; rintro e w' ⟨rfl, hw⟩; subst w'; clear hS)
    | (
       go_at_call 78; refine hF.mono ?_; rintro e w1 ⟨y, m, cy, rfl, H1⟩; clear hF))
  go_ret
  exact ⟨y, m, cy, rfl, H1.out⟩

theorem wrap_u64 {a : Nat} (h : a < 18446744073709551616) : IntKind.u64.wrap (a : Int) = (a : Int) := by
  simp [IntKind.wrap, IntKind.bits, IntKind.signed]
  omega

set_option maxHeartbeats 800000 in
theorem wbal_any (x : Option Addr) (n c : Nat) (l : List Nat) (b : Bt) (hb1 : 0 ≤ b.1 ∧ b.1 < 9223372036854775808) (hb2 : 0 ≤ b.2 ∧ b.2 < 9223372036854775808) (w : World) (hl : Fl.Sl w x n c l) (hn : n ≤ 140737488340000) :
    Calls Try.prog 87 #[.slice x n c, bt b] w fun e w' => ∃ y m cy, e = .returned (.slice y m cy) ∧ Hid (m ≤ n + 20 ∧ Vl w w' y m cy (l ++ wBal b)) := by
  obtain ⟨r, m⟩ := b
  dsimp only [bt] at *
  obtain ⟨R, rfl⟩ : ∃ R : Nat, r = R := ⟨r.toNat, by omega⟩
  obtain ⟨M, rfl⟩ : ∃ M : Nat, m = M := ⟨m.toNat, by omega⟩
  have HE : Hid (l ++ wBal ((R : Int), (M : Int)) = l ++ uv R ++ uv M) := by
    show l ++ (uv R ++ uv M) = _
    simp
  have u1 := uv_ten (n := R) (by omega)
  have u2 := uv_ten (n := M) (by omega)
  have hU1 := fun W h => uvW x n c l R W h (by omega) (by omega)
  have HU : Hid ((uv R).length ≤ 10 ∧ (uv M).length ≤ 10) := ⟨u1, u2⟩
  have i1 : (R : Int) < 9223372036854775808 := by omega
  have i2 : (M : Int) < 9223372036854775808 := by omega
  have HM : Hid (M < 9223372036854775808 ∧ n ≤ 140737488340000) := ⟨by omega, hn⟩
  have hD : Fl.Sl (w.alloc (.cells #[.int .i64 (R : Int), .int .i64 (M : Int)] 72)).drew x n c l := hl.below (on (al _ _) (Below.refl _ _).drew)
  have wr1 := wrap_u64 (a := R) (by omega)
  have wr2 := wrap_u64 (a := M) (by omega)
  clear u1 u2 hb1 hb2 hn
  go_enter Try.func87, Try.ntmps87
  go_wp2_with fail
  have k0 : (w.alloc (.cells #[.int .i64 (R : Int), .int .i64 (M : Int)] 72)).drew.cell? ⟨w.heap.size, 0, none⟩ = some (.int .i64 (R : Int)) := by go_simp
  have k1 : (w.alloc (.cells #[.int .i64 (R : Int), .int .i64 (M : Int)] 72)).drew.cell? ⟨w.heap.size, 1, none⟩ = some (.int .i64 (M : Int)) := by go_simp
  have bD : Below w.heap.size w (w.alloc (.cells #[.int .i64 (R : Int), .int .i64 (M : Int)] 72)).drew := on (al _ _) (Below.refl _ _).drew
  refine wp_region_held_drew (S := fun v => v.cell? ⟨w.heap.size, 0, none⟩ = some (.int .i64 (R : Int)) ∧ v.cell? ⟨w.heap.size, 1, none⟩ = some (.int .i64 (M : Int))) (by kernel_rfl) ⟨k0, k1⟩ (fun hHeld => ?_)
  generalize (w.alloc (.cells #[.int .i64 (R : Int), .int .i64 (M : Int)] 72)).drew = wD at *
  refine wpAnyH_take (i := 0) (v := ?_) rfl (by kernel_rfl) (by kernel_rfl) (by kernel_rfl) (fun _ _ _ h => h) (Or.inl ⟨by rfl, ?_⟩) (by assumption) ?_
  case refine_2 => (intro w hSw; (try dsimp only at hSw); go_simp; (try with_reducible rfl))
  (try simp only [Act.put, List.getElem_toArray, List.getElem_cons_succ, List.getElem_cons_zero, List.setIfInBounds_toArray, List.set_cons_zero, List.set_cons_succ])
  refine wpAnyH_take (i := 1) (v := ?_) rfl (by kernel_rfl) (by kernel_rfl) (by kernel_rfl) (fun _ _ _ h => h) (Or.inl ⟨by rfl, ?_⟩) (by assumption) ?_
  case refine_2 => (intro w hSw; (try dsimp only at hSw); go_simp; (try with_reducible rfl))
  (try simp only [Act.put, List.getElem_toArray, List.getElem_cons_succ, List.getElem_cons_zero, List.setIfInBounds_toArray, List.set_cons_zero, List.set_cons_succ])
  refine wpAnyH_take (i := 2) (v := ?_) rfl (by kernel_rfl) (by kernel_rfl) (by kernel_rfl) (fun _ _ _ h => h) (Or.inl ⟨by rfl, ?_⟩) (by assumption) ?_
  case refine_2 => (intro w hSw; (try dsimp only at hSw); go_simp; (try with_reducible rfl))
  (try simp only [Act.put, List.getElem_toArray, List.getElem_cons_succ, List.getElem_cons_zero, List.setIfInBounds_toArray, List.set_cons_zero, List.set_cons_succ])
  refine wpAnyH_take (i := 3) (v := ?_) rfl (by kernel_rfl) (by kernel_rfl) (by kernel_rfl) (fun _ _ _ h => h) (Or.inl ⟨by rfl, ?_⟩) (by assumption) ?_
  case refine_2 => (intro w hSw; (try dsimp only at hSw); go_simp; (try with_reducible rfl))
  (try simp only [Act.put, List.getElem_toArray, List.getElem_cons_succ, List.getElem_cons_zero, List.setIfInBounds_toArray, List.set_cons_zero, List.set_cons_succ])
  refine wpAnyH_take (i := 5) (v := ?_) rfl (by kernel_rfl) (by kernel_rfl) (by kernel_rfl) (fun _ _ _ h => h) (Or.inl ⟨by rfl, ?_⟩) (by assumption) ?_
  case refine_2 => (intro w hSw; (try dsimp only at hSw); go_simp; (try with_reducible rfl))
  (try simp only [Act.put, List.getElem_toArray, List.getElem_cons_succ, List.getElem_cons_zero, List.setIfInBounds_toArray, List.set_cons_zero, List.set_cons_succ])
  refine wpAnyH_take (i := 6) (v := ?_) rfl (by kernel_rfl) (by kernel_rfl) (by kernel_rfl) (fun _ _ _ h => h) (Or.inl ⟨by rfl, ?_⟩) (by assumption) ?_
  case refine_2 => (intro w hSw; (try dsimp only at hSw); go_simp; (try with_reducible rfl))
  (try simp only [Act.put, List.getElem_toArray, List.getElem_cons_succ, List.getElem_cons_zero, List.setIfInBounds_toArray, List.set_cons_zero, List.set_cons_succ])
  refine wpAnyH_take (i := 7) (v := ?_) rfl (by kernel_rfl) (by kernel_rfl) (by kernel_rfl) (fun _ _ _ h => h) (Or.inl ⟨by rfl, ?_⟩) (by assumption) ?_
  case refine_2 => (intro w hSw; (try dsimp only at hSw); go_simp; (try with_reducible rfl))
  (try simp only [Act.put, List.getElem_toArray, List.getElem_cons_succ, List.getElem_cons_zero, List.setIfInBounds_toArray, List.set_cons_zero, List.set_cons_succ])
  refine wpAnyH_ready (rs := [4]) (by kernel_rfl) (by simp) ?_
  refine AllReadyH.cons rfl (fun K hK => ?_) AllReadyH.nil
  go_simp
  refine (hU1 _ hD).mono ?_
  rintro e w1 ⟨y1, m1, c1, rfl, H1⟩
  have hU2 := uvW y1 m1 c1 _ M w1 H1.out.2.2.1 (by have := HM.out.1; omega) (by have := H1.out.1; have := HU.out.1; have := HM.out.2; omega)
  refine hK.out _ _ ⟨keep H1.out.2.1 k0, keep H1.out.2.1 k1⟩ (fun hHeld => ?_)
  clear hK K
  refine wpAnyH_ready (rs := [8]) (by kernel_rfl) (by simp) ?_
  refine AllReadyH.cons rfl (fun K hK => ?_) AllReadyH.nil
  go_simp
  refine hU2.mono ?_
  rintro e w2 ⟨y2, m2, c2, rfl, H2⟩
  refine hK.out _ _ ⟨keep (on H1.out.2.1 H2.out.2.1) k0, keep (on H1.out.2.1 H2.out.2.1) k1⟩ (fun hHeld => ?_)
  clear hK K
  refine wpAnyH_take (i := 9) (v := ?_) rfl (by kernel_rfl) (by kernel_rfl) (by kernel_rfl) (fun _ _ _ h => h) (Or.inl ⟨by rfl, ?_⟩) (by assumption) ?_
  case refine_2 => (intro w hSw; (try dsimp only at hSw); go_simp; (try with_reducible rfl))
  (try simp only [Act.put, List.getElem_toArray, List.getElem_cons_succ, List.getElem_cons_zero, List.setIfInBounds_toArray, List.set_cons_zero, List.set_cons_succ])
  refine wpAnyH_done (by kernel_rfl) ?_ _
  go_wp2_with fail
  go_ret
  refine ⟨y2, m2, c2, rfl, ?_, ?_⟩
  · have := H1.out.1; have := H2.out.1; have := HU.out; omega
  · rw [HE.out]
    exact Vl.on bD (Vl.on H1.out.2.1 H2.out.2)

end Go.Proofs.Ytdbahebhodoooaa.Px

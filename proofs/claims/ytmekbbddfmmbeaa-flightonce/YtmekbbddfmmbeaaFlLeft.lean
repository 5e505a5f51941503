/-
  The statement's own count of what was posted, a map by messages, as it lies in memory: an entry made, read, written.
  Conditions: none.
-/
import Derived.Test.YtmekbbddfmmbeaaFlAwake
import Derived.WideKeyEntry
import Derived.Maps.OwnOps
namespace Go.Proofs.Ytmekbbddfmmbeaa.Fl
open Go.RowKit By
set_option linter.unusedVariables false
set_option linter.unusedSimpArgs false
set_option maxRecDepth 100000

def mky (a b : Int) (s : ByteArray) : Value := .agg #[.int .i64 a, .int .i64 b, .string s]
def mlit (a b : Int) (s : ByteArray) : Lit := .string (keyBytes [.int .i64 a, .int .i64 b, .string s.data.toList])

theorem mlaw0 : WideMaps.KeyLaw Try.prog 39 := deep_law_laid laidOut (m := 2) (by omega) (of_decide_eq_true (by kernel_rfl)) (by kernel_rfl) (by kernel_rfl)
theorem mlaw : Maps.Keyed Try.prog 39 := Maps.Keyed.of_law mlaw0

theorem mk_key {a b : Int} {s : ByteArray} (ha : wfi a) (hb : wfi b) (hs : s.size ≤ 140737488355328) : keyOf Try.prog 39 (mky a b s) = some (mlit a b s) := by
  have h1 : Try.prog.keyType 39 = true := by kernel_rfl
  have h2 : (mky a b s).formed Try.prog 39 = true := by kernel_rfl
  have hs2 : s.size ≤ maxLen := by unfold maxLen; omega
  have h3 : Try.prog.keyLits (Try.prog.types.size + 1) 39 (mky a b s).cells.toList = some [.int .i64 a, .int .i64 b, .string s.data.toList] := by
    unfold wfi at ha hb
    have e0 : Try.prog.types.size + 1 = 83 + 1 + 1 := by kernel_rfl
    have e2 : Try.prog.cellsOf 39 = 3 := by kernel_rfl
    have e3 : Try.prog.cellsOf 3 = 1 := by kernel_rfl
    have e4 : Try.prog.cellsOf 9 = 1 := by kernel_rfl
    rw [e0]
    unfold Program.keyLits
    rw [Try.underlying39]
    simp [mky, Value.cells, e2]
    unfold Program.keyLits
    simp [Try.underlying3, Try.underlying9, e3, e4, ha, hb, hs2]
  unfold keyOf
  rw [Try.underlying39]
  simp only [h1, h2, Bool.and_self, if_true, h3, Option.map_some]
  rfl

theorem mk_inj {a b c d : Int} {s t : ByteArray} (ha : wfi a) (hb : wfi b) (hs : s.size ≤ 140737488355328) (hc : wfi c) (hd : wfi d) (ht : t.size ≤ 140737488355328) (h : mlit a b s = mlit c d t) : a = c ∧ b = d ∧ s = t := by
  have := mlaw.inj (mk_key ha hb hs) (h ▸ mk_key hc hd ht)
  simp [mky] at this
  exact this

section
variable {H : Type} {P : Program} {w : World} {t k e : TypeId} {R : Value → Option (DataW H × List MemPlace)} {b : Nat} {es : Array MapEntry} {clock : Nat}

/- An entry that is made ready for a store: as if what is there were stored again. -/
set_option maxHeartbeats 4000000 in
theorem entry_law (K : WideMaps.KeyLaw P k) (ht : P.underlying t = some (.map k e)) {z : Value} (hz : ∀ u : World, (zeroValue e).run P u = .ok z u) (hb : w.heap[b]? = some (.map es clock)) (F : WideElems.Fit P k R es clock)
    {key : Value} {kl : Lit} (hkey : keyOf P k key = some kl) :
    ∃ (v0 : Value) (st : Nat) (es1 : Array MapEntry) (c1 : Nat), (Instr.mapEntry t (.map (some b)) key).run P w = .ok (.tuple #[v0, goInt st]) (ChangeMaps.setBlock w b (.map es1 c1)) ∧ (Instr.mapUpdate t (.map (some b)) key v0).run P w = .ok () (ChangeMaps.setBlock w b (.map es1 c1)) ∧
      (Instr.lookup t (.map (some b)) key false).run P w = .ok v0 w ∧
      ∀ (val : Value), ∃ es' c', (Instr.entryStore t (.map (some b)) (goInt st) val).run P (ChangeMaps.setBlock w b (.map es1 c1)) = .ok () (ChangeMaps.setBlock w b (.map es' c')) ∧ (Instr.mapUpdate t (.map (some b)) key val).run P w = .ok () (ChangeMaps.setBlock w b (.map es' c')) := by
  obtain ⟨v0, st, es1, c1, h1, _, h3⟩ := WideElems.entry_then_store K ht hz hb F hkey
  have hs1 : (ChangeMaps.setBlock w b (.map es1 c1)).heap[b]? = some (.map es1 c1) := ChangeMaps.heap_setBlock_same hb _
  refine ⟨v0, st, es1, c1, h1, ?_, ?_, fun val => ?_⟩
  · rcases K.find w hkey es.toList F.keys with ⟨f1, f2⟩ | ⟨j, e0, f1, f2, f3⟩
    · have m1 : (Instr.mapEntry t (.map (some b)) key).run P w = .ok (.tuple #[z, goInt clock]) (ChangeMaps.setBlock w b (.map (es.push ⟨key, z, clock⟩) (clock + 1))) := by
        simp [Instr.mapEntry, run_underlying ht, MapKept.run_getObj_map hb, K.check w false hkey, f1, hz, MapKept.run_setObj_map _ hb, Result.andThen, ChangeMaps.setBlock]
      obtain ⟨e1, e2⟩ := Result.ok.inj (h1.symm.trans m1)
      simp at e1
      rw [e1.1, e2]
      simp [Instr.mapUpdate, run_underlying ht, MapKept.run_getObj_map hb, K.check w false hkey, f1, MapKept.run_setObj_map _ hb, Result.andThen, ChangeMaps.setBlock]
    · have hj : es[j]? = some e0 := by simpa using f2
      have m1 : (Instr.mapEntry t (.map (some b)) key).run P w = .ok (.tuple #[e0.val, goInt e0.born]) (ChangeMaps.setBlock w b (.map (es.modify j fun e => { e with key := key }) clock)) := by
        simp [Instr.mapEntry, run_underlying ht, MapKept.run_getObj_map hb, K.check w false hkey, f1, hj, f3, K.stays w hkey, MapKept.run_setObj_map _ hb, Result.andThen, ChangeMaps.setBlock]
      obtain ⟨e1, e2⟩ := Result.ok.inj (h1.symm.trans m1)
      simp at e1
      have e3 : (es.modify j fun e => { e with key := key }) = es.modify j fun e => { e with key := key, val := e0.val } := by
        apply Array.ext'
        rw [Array.toList_modify, Array.toList_modify, ChangeMaps.modify_eq_set _ _ _ _ f2, ChangeMaps.modify_eq_set _ _ _ _ f2]
      rw [e1.1, e2, e3]
      simp [Instr.mapUpdate, run_underlying ht, MapKept.run_getObj_map hb, K.check w false hkey, f1, hj, f3, K.stays w hkey, MapKept.run_setObj_map _ hb, Result.andThen, ChangeMaps.setBlock]
  · rcases K.find w hkey es.toList F.keys with ⟨f1, f2⟩ | ⟨j, e0, f1, f2, f3⟩
    · have m1 : (Instr.mapEntry t (.map (some b)) key).run P w = .ok (.tuple #[z, goInt clock]) (ChangeMaps.setBlock w b (.map (es.push ⟨key, z, clock⟩) (clock + 1))) := by
        simp [Instr.mapEntry, run_underlying ht, MapKept.run_getObj_map hb, K.check w false hkey, f1, hz, MapKept.run_setObj_map _ hb, Result.andThen, ChangeMaps.setBlock]
      obtain ⟨e1, e2⟩ := Result.ok.inj (h1.symm.trans m1)
      simp at e1
      rw [e1.1]
      simp [Instr.lookup, run_underlying ht, MapKept.run_getObj_map hb, K.check w _ hkey, f1, hz, Result.andThen]
    · have hj : es[j]? = some e0 := by simpa using f2
      have m1 : (Instr.mapEntry t (.map (some b)) key).run P w = .ok (.tuple #[e0.val, goInt e0.born]) (ChangeMaps.setBlock w b (.map (es.modify j fun e => { e with key := key }) clock)) := by
        simp [Instr.mapEntry, run_underlying ht, MapKept.run_getObj_map hb, K.check w false hkey, f1, hj, f3, K.stays w hkey, MapKept.run_setObj_map _ hb, Result.andThen, ChangeMaps.setBlock]
      obtain ⟨e1, e2⟩ := Result.ok.inj (h1.symm.trans m1)
      simp at e1
      rw [e1.1]
      simp [Instr.lookup, run_underlying ht, MapKept.run_getObj_map hb, K.check w _ hkey, f1, Result.andThen]
  · obtain ⟨es', c', q1, q2⟩ := h3 _ val hs1
    refine ⟨es', c', ?_, q2⟩
    rw [q1]
    simp [ChangeMaps.setBlock]

end

def updC (C : Int → Int → ByteArray → Int) (a b : Int) (s : ByteArray) (v : Int) : Int → Int → ByteArray → Int := fun x y t => if x = a ∧ y = b ∧ t = s then v else C x y t

structure LfAt (w : World) (B lb nb : Nat) (D : DataW Value) (C : Int → Int → ByteArray → Int) : Prop where
  map : w.ownsMap Try.prog 39 (plainElem Try.prog 3) lb nb D
  cnt : ∀ a b s, wfi a → wfi b → s.size ≤ 140737488355328 → D.atKey (mlit a b s) (.lit (.int .i64 0)) = .lit (.int .i64 (C a b s))
  bl : B ≤ lb

section
variable {w w' : World} {B lb nb : Nat} {D : DataW Value} {C : Int → Int → ByteArray → Int}

theorem LfAt.mb (h : LfAt w B lb nb D C) : Mb w lb := by
  obtain ⟨es, c, hb, _⟩ := h.map
  exact ⟨es, c, hb⟩

theorem LfAt.turns {G : Nat → Prop} (h : LfAt w B lb nb D C) (t : Turns G w w') (hl : ¬ G lb) : LfAt w' B lb nb D C := by
  obtain ⟨es, clock, hb, r⟩ := h.map
  exact ⟨⟨es, clock, (t.block lb h.map.lt hl).trans hb, r⟩, h.cnt, h.bl⟩

theorem LfAt.below (h : LfAt w B lb nb D C) (t : Below w.heap.size w w') : LfAt w' B lb nb D C := h.turns (Turns.of_below (F := fun _ => False) t) (fun h => h)

theorem LfAt.new (w : World) (B : Nat) (hB : B ≤ w.heap.size) : LfAt (w.alloc (.map #[] 0)) B w.heap.size 0 (.map []) (fun _ _ _ => 0) := ⟨World.ownsMap_made w _ _ _, fun _ _ _ _ _ _ => rfl, hB⟩

theorem zero_int (w : World) : (zeroValue 3).run Try.prog w = .ok (.int .i64 0) w := by kernel_rfl

theorem LfAt.look (h : LfAt w B lb nb D C) {a b : Int} {s : ByteArray} (ha : wfi a) (hb : wfi b) (hs : s.size ≤ 140737488355328) : (Instr.lookup 42 (.map (some lb)) (mky a b s) false).run Try.prog w = .ok (.int .i64 (C a b s)) w := by
  obtain ⟨c, h1, h2, _⟩ := h.map.lookup_int mlaw Try.underlying42 Try.underlying3 (zero_int w) (mk_key ha hb hs)
  rw [h.cnt a b s ha hb hs] at h2
  injection h2 with h2
  injection h2 with _ h2
  rw [h1, h2]

theorem LfAt.entry (h : LfAt w B lb nb D C) (hn : nb < 1000000000) {a b : Int} {s : ByteArray} (ha : wfi a) (hb : wfi b) (hs : s.size ≤ 140737488355328) (v : Int) (hv : wfi v) :
    ∃ (v0 : Value) (st : Nat) (w1 w2 : World), (Instr.mapEntry 42 (.map (some lb)) (mky a b s)).run Try.prog w = .ok (.tuple #[v0, goInt st]) w1 ∧
      (Instr.lookup 42 (.map (some lb)) (mky a b s) false).run Try.prog w1 = .ok (.int .i64 (C a b s)) w1 ∧
      (Instr.entryStore 42 (.map (some lb)) (goInt st) (.int .i64 v)).run Try.prog w1 = .ok () w2 ∧
      Turns (fun k => k = lb) w w1 ∧ Turns (fun k => k = lb) w w2 ∧ ∃ D', LfAt w2 B lb (nb + 1) D' (updC C a b s v) := by
  have hM := h.map
  obtain ⟨es, clock, hbk, F, hsz, hD⟩ := h.map
  obtain ⟨v0, st, es1, c1, q1, q2, q3, q4⟩ := entry_law mlaw0 Try.underlying42 zero_int hbk F (mk_key ha hb hs)
  rw [h.look ha hb hs] at q3
  injection q3 with q3 _
  subst q3
  obtain ⟨es', c', q5, q6⟩ := q4 (.int .i64 v)
  have tt : ∀ o, Turns (fun k => k = lb) w (ChangeMaps.setBlock w lb o) := fun o => ⟨rfl, rfl, rfl, by simp [ChangeMaps.setBlock], fun k _ hk => ChangeMaps.heap_setBlock_other hbk _ hk⟩
  have wc : wfi (C a b s) := by
    obtain ⟨c, h1, h2, h3⟩ := h.map.lookup_int mlaw Try.underlying42 Try.underlying3 (zero_int w) (mk_key ha hb hs)
    rw [h.cnt a b s ha hb hs] at h2
    injection h2 with h2
    injection h2 with _ h2
    rw [h2]
    exact h3
  have put : ∀ (u : Int) (o : Obj), wfi u → (Instr.mapUpdate 42 (.map (some lb)) (mky a b s) (.int .i64 u)).run Try.prog w = .ok () (ChangeMaps.setBlock w lb o) → LfAt (ChangeMaps.setBlock w lb o) B lb (nb + 1) (D.put (mlit a b s) (.lit (.int .i64 u))) (updC C a b s u) := fun u o hu hr => by
    obtain ⟨w', p1, p2, p3⟩ := hM.update mlaw Try.underlying42 (by unfold maxLen; omega) (mk_key ha hb hs) (plainElem_int Try.underlying3 hu)
    rw [hr] at p1
    injection p1 with _ p1
    subst p1
    refine ⟨p2, fun x y t hx hy ht => ?_, h.bl⟩
    unfold updC
    by_cases e : x = a ∧ y = b ∧ t = s
    · rw [if_pos e, e.1, e.2.1, e.2.2, Maps.atKey_put_same hM.isMap (mlaw.key (mk_key ha hb hs))]
    · rw [if_neg e, Maps.atKey_put_other (fun hh => e (mk_inj hx hy ht ha hb hs hh))]
      exact h.cnt x y t hx hy ht
  have l1 := put _ _ wc q2
  have e1 : updC C a b s (C a b s) a b s = C a b s := by simp [updC]
  have k1 := l1.look ha hb hs
  rw [e1] at k1
  exact ⟨_, st, _, _, q1, k1, q5, tt _, tt _, _, put _ _ hv q6⟩

end

end Go.Proofs.Ytmekbbddfmmbeaa.Fl

/-
  The theorem of delivery, plainly: what is on its way is no more than what the count says; each act keeps it.
  Conditions: none.
-/
import Derived.Test.YtmekbbddfmmbeaaFlLeft
import Derived.Test.YtmekbbddfmmbeaaFlItem
namespace Go.Proofs.Ytmekbbddfmmbeaa.Fl
open Go.RowKit By
set_option linter.unusedVariables false
set_option linter.unusedSimpArgs false
set_option maxRecDepth 100000

theorem st_mapentry {P : Program} {w w' : World} {ops : Array Oper} {o : Oper} {a : Act} {K : Act → World → Prop} {Q : Exit → Act → World → Prop} (hg : Region.wanted o (yielded ops a.tmps) = true) (m x : Operand) (t : TypeId)
    (ho : o.op = .mapEntry t m x) (v1 v2 v : Value) (hm : a.eval m = v1) (hx : a.eval x = v2) (hr : (Instr.mapEntry t v1 v2).run P w = .ok v w')
    (h : K (a.put o.dst v) w') : if Region.wanted o (yielded ops a.tmps) = true then Oper.wp P o a w K Q else K (a.put o.dst undef) w := by
  rw [if_pos hg]
  unfold Oper.wp
  simp only [execOp, ho, hm, hx, Sem.run_bind, hr, Result.andThen, Sem.run_pure]
  exact h

theorem st_entrystore {P : Program} {w w' : World} {ops : Array Oper} {o : Oper} {a : Act} {K : Act → World → Prop} {Q : Exit → Act → World → Prop} (hg : Region.wanted o (yielded ops a.tmps) = true) (m x v : Operand) (t : TypeId)
    (ho : o.op = .entryStore t m x v) (v1 v2 v3 : Value) (hm : a.eval m = v1) (hx : a.eval x = v2) (hv : a.eval v = v3) (hr : (Instr.entryStore t v1 v2 v3).run P w = .ok () w')
    (h : K (a.put o.dst undef) w') : if Region.wanted o (yielded ops a.tmps) = true then Oper.wp P o a w K Q else K (a.put o.dst undef) w := by
  rw [if_pos hg]
  unfold Oper.wp
  simp only [execOp, ho, hm, hx, hv, Sem.run_bind, hr, Result.andThen, Sem.run_pure]
  exact h

theorem st_lookup {P : Program} {w w' : World} {ops : Array Oper} {o : Oper} {a : Act} {K : Act → World → Prop} {Q : Exit → Act → World → Prop} (hg : Region.wanted o (yielded ops a.tmps) = true) (m x : Operand) (t : TypeId) (c : Bool)
    (ho : o.op = .lookup t m x c) (v1 v2 v : Value) (hm : a.eval m = v1) (hx : a.eval x = v2) (hr : (Instr.lookup t v1 v2 c).run P w = .ok v w')
    (h : K (a.put o.dst v) w') : if Region.wanted o (yielded ops a.tmps) = true then Oper.wp P o a w K Q else K (a.put o.dst undef) w := by
  rw [if_pos hg]
  unfold Oper.wp
  simp only [execOp, ho, hm, hx, Sem.run_bind, hr, Result.andThen, Sem.run_pure]
  exact h

def isM (a b : Int) (s : ByteArray) (m : MV) : Bool := decide (m.fr = a ∧ m.to = b ∧ str m.d = s)
def cntL (a b : Int) (s : ByteArray) (L : List MV) : Nat := (L.filter (isM a b s)).length

theorem cnt_snoc (a b : Int) (s : ByteArray) (L : List MV) (m : MV) : cntL a b s (L ++ [m]) = cntL a b s L + (if m.fr = a ∧ m.to = b ∧ str m.d = s then 1 else 0) := by
  unfold cntL
  rw [List.filter_append, List.length_append]
  by_cases h : m.fr = a ∧ m.to = b ∧ str m.d = s
  · simp [isM, h]
  · simp [isM, h]

theorem cnt_del (a b : Int) (s : ByteArray) (L : List MV) (k : Nat) (m : MV) (hm : L[k]? = some m) : cntL a b s L = cntL a b s (del L k) + (if m.fr = a ∧ m.to = b ∧ str m.d = s then 1 else 0) := by
  have hk : k < L.length := (List.getElem?_eq_some_iff.1 hm).1
  have e : L = L.take k ++ m :: L.drop (k + 1) := by
    have h1 := (List.take_append_drop k L).symm
    have h2 : L.drop k = m :: L.drop (k + 1) := by
      rw [List.drop_eq_getElem_cons hk]
      have := (List.getElem?_eq_some_iff.1 hm).2
      rw [this]
    rw [h2] at h1
    exact h1
  unfold cntL del
  conv => lhs; rw [e]
  rw [List.filter_append, List.filter_append, List.filter_cons, List.length_append, List.length_append]
  by_cases h : m.fr = a ∧ m.to = b ∧ str m.d = s
  · simp [isM, h]
    omega
  · simp [isM, h]

structure Once (w0 w : World) (p lb k : Nat) (L : List MV) : Prop where
  bel : Below w0.heap.size w0 w
  fl : ∃ mb D R nb Dl C, FlAt w w0.heap.size p mb 0 D R L (fun _ _ => false) ∧ LfAt w w0.heap.size lb nb Dl C ∧ lb ≠ mb ∧ nb ≤ k ∧ ∀ a b s, (cntL a b s L : Int) ≤ C a b s ∧ C a b s ≤ k
  len : L.length ≤ k

theorem Once.below {w0 w w' : World} {p lb k : Nat} {L : List MV} (h : Once w0 w p lb k L) (t : Below w.heap.size w w') : Once w0 w' p lb k L := by
  obtain ⟨mb, D, R, nb, Dl, C, h1, h2, h3, h4, h5⟩ := h.fl
  exact ⟨h.bel.trans (t.mono h.bel.size), ⟨mb, D, R, nb, Dl, C, h1.below t, h2.below t, h3, h4, h5⟩, h.len⟩

theorem Once.more {w0 w : World} {p lb k : Nat} {L : List MV} (h : Once w0 w p lb k L) : Once w0 w p lb (k + 1) L := by
  obtain ⟨mb, D, R, nb, Dl, C, h1, h2, h3, h4, h5⟩ := h.fl
  exact ⟨h.bel, ⟨mb, D, R, nb, Dl, C, h1, h2, h3, by omega, fun a b s => ⟨(h5 a b s).1, by have := (h5 a b s).2; omega⟩⟩, by have := h.len; omega⟩

/- The count is turned beside the flight. -/
theorem turn_left {w w2 : World} {B p mb : Nat} {D : DataW Value} {R : Value} {L : List MV} {lb nb : Nat} {Dl : DataW Value} {C : Int → Int → ByteArray → Int} (h : FlAt w B p mb 0 D R L (fun _ _ => false)) (hl : LfAt w B lb nb Dl C) (hne : lb ≠ mb) (t : Turns (fun k => k = lb) w w2) : FlAt w2 B p mb 0 D R L (fun _ _ => false) := by
  refine h.turns t (fun e => ?_) (fun e => hne e.symm) (fun g hg e => ?_) (fun m hm a ha e => ?_)
  · have := hl.mb
    rw [← e] at this
    exact h.obj.tb.not_map this
  · have := hl.mb
    rw [← e] at this
    exact (h.own.tb hg).2.not_map this
  · have := hl.mb
    rw [← e] at this
    exact ((h.dat m hm).tb a ha).not_map this

theorem left_far {w : World} {B p mb : Nat} {D : DataW Value} {R : Value} {L : List MV} {S : Int → Int → Bool} {lb nb : Nat} {Dl : DataW Value} {C : Int → Int → ByteArray → Int} (h : FlAt w B p mb 0 D R L S) (hl : LfAt w B lb nb Dl C) (hne : lb ≠ mb) : ¬ fp p mb R lb := fun e => by
  rcases e with rfl | rfl | e
  · exact h.obj.tb.not_map hl.mb
  · exact hne rfl
  · exact (h.own.tb e).2.not_map hl.mb

/- What the count's statements do in a world, for one message: it is read, its entry is made, it is written. -/
structure Ent (w0 w : World) (p lb k : Nat) (L : List MV) (f t : Int) (s : ByteArray) (dl cc : Int) (v0 : Value) (st : Nat) (w1 w2 : World) : Prop where
  look : (Instr.lookup 42 (.map (some lb)) (.agg #[.int .i64 f, .int .i64 t, .string s]) false).run Try.prog w = .ok (.int .i64 cc) w
  ent : (Instr.mapEntry 42 (.map (some lb)) (.agg #[.int .i64 f, .int .i64 t, .string s])).run Try.prog w = .ok (.tuple #[v0, .int .i64 (st : Int)]) w1
  look1 : (Instr.lookup 42 (.map (some lb)) (.agg #[.int .i64 f, .int .i64 t, .string s]) false).run Try.prog w1 = .ok (.int .i64 cc) w1
  store : (Instr.entryStore 42 (.map (some lb)) (.int .i64 (st : Int)) (.int .i64 (cc + dl))).run Try.prog w1 = .ok () w2
  t1 : Turns (fun j => j = lb) w w1
  t2 : Turns (fun j => j = lb) w w2
  lo : dl = -1 → 0 < cc
  l0 : 0 ≤ cc
  hi : cc ≤ k
  once : Once w0 w2 p lb (k + 1) L
  mapb : Mb w lb

theorem ent_make {w0 w : World} {B p mb lb nb k : Nat} {D Dl : DataW Value} {R : Value} {L : List MV} {C : Int → Int → ByteArray → Int} (hB : B = w0.heap.size) (hb : Below w0.heap.size w0 w) (h : FlAt w B p mb 0 D R L (fun _ _ => false)) (hl : LfAt w B lb nb Dl C) (hne : lb ≠ mb) (hnb : nb ≤ k) (hk : k ≤ 1000) (hlen : L.length ≤ k + 1)
    (f t : Int) (s : ByteArray) (hf : wfi f) (ht : wfi t) (hs : s.size ≤ 140737488355328) (dl : Int) (hdl : dl = 1 ∨ dl = -1) (h0 : ∀ a b s, 0 ≤ C a b s ∧ C a b s ≤ k) (hlo : dl = -1 → 0 < C f t s)
    (hcnt : ∀ a b u, (cntL a b u L : Int) ≤ updC C f t s (C f t s + dl) a b u) : ∃ v0 st w1 w2, Ent w0 w p lb k L f t s dl (C f t s) v0 st w1 w2 := by
  subst hB
  obtain ⟨c0, c1⟩ := h0 f t s
  have hwv : wfi (C f t s + dl) := by
    have e1 : IntKind.i64.min = -9223372036854775808 := by decide
    have e2 : IntKind.i64.max = 9223372036854775807 := by decide
    unfold wfi Lit.wf
    simp [e1, e2]
    omega
  obtain ⟨v0, st, w1, w2, q1, q2, q3, t1, t2, D', q4⟩ := hl.entry (by omega) hf ht hs (C f t s + dl) hwv
  refine ⟨v0, st, w1, w2, hl.look hf ht hs, q1, q2, q3, t1, t2, hlo, c0, c1, ⟨hb.trans (t2.below (fun j hj => by rw [hj]; exact hl.bl) hb.size), ⟨mb, D, R, nb + 1, D', _, turn_left h hl hne t2, q4, hne, by omega, fun a b u => ⟨hcnt a b u, ?_⟩⟩, hlen⟩, hl.mb⟩
  unfold updC
  have := h0 a b u
  split
  · omega
  · omega

end Go.Proofs.Ytmekbbddfmmbeaa.Fl

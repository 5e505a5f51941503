/-
  4 texts of this proof, one behind the other: PxDecode3, PxNode, PxSmall, PxProp.
-/
import Derived.Test.YtdbahebhodoooaaJ11
import Derived.Test.YtdbahebhodoooaaJ09
import Derived.Test.YtdbahebhodoooaaJ01
/-
  Package paxos: decode, whatever the bytes are.
  Conditions: the bytes lie in memory.
-/
namespace Go.Proofs.Ytdbahebhodoooaa.Px
open Go.RowKit Wi By Fl Ba
set_option linter.unusedVariables false
set_option linter.unusedSimpArgs false
set_option maxRecDepth 100000

theorem dec_unsealed (x : Option Addr) (nn c : Nat) (l : List Nat) (n fr : Nat) (w : World) (hl : Fl.Sl w x nn c l) (hnn : nn ≤ 140737488351232) (hse : isSealed l = false) :
    Calls Try.prog 29 #[.slice x nn c, .int .i64 fr, .int .i64 n] w fun e w' => e = .returned (.tuple #[mv noMs none 0 none 0, .bool false]) ∧ Hid (Below w.heap.size w w') := by
  have hUn := fun (W : World) (h : Below w.heap.size w W) => unsealed_any x nn c l W (hl.below h) hnn
  rw [hse] at hUn
  clear hl hse hnn
  go_enter Try.func29, Try.ntmps29
  go_wp2_with (first
    | (
       go_at_call 38; refine (hUn _ (al _ _)).mono ?_; rintro e w1 ⟨y1, m1, c1, rfl, H1⟩; clear hUn
       have r0 := keep H1.out.1 (b := w.heap.size) (o := 0) (x := .int .i64 0) (by first | assumption | go_simp)
       have r1 := keep H1.out.1 (b := w.heap.size) (o := 1) (x := .int .i64 0) (by first | assumption | go_simp)
       have r2 := keep H1.out.1 (b := w.heap.size) (o := 2) (x := .int .i64 0) (by first | assumption | go_simp)
       have r3 := keep H1.out.1 (b := w.heap.size) (o := 3) (x := .int .i64 0) (by first | assumption | go_simp)
       have r4 := keep H1.out.1 (b := w.heap.size) (o := 4) (x := .int .i64 0) (by first | assumption | go_simp)
       have r5 := keep H1.out.1 (b := w.heap.size) (o := 5) (x := .int .i64 0) (by first | assumption | go_simp)
       have r6 := keep H1.out.1 (b := w.heap.size) (o := 6) (x := .slice none 0 0) (by first | assumption | go_simp)
       have r7 := keep H1.out.1 (b := w.heap.size) (o := 7) (x := .int .i64 0) (by first | assumption | go_simp)
       have r8 := keep H1.out.1 (b := w.heap.size) (o := 8) (x := .slice none 0 0) (by first | assumption | go_simp)
       have f0 := keepf H1.out.1 (b := w.heap.size) (o := 0) (by first | (simp <;> omega) | exact cell_lt' (a := ⟨w.heap.size, 0, none⟩) (by assumption) | (simp; exact cell_lt' (a := ⟨w.heap.size, 0, none⟩) (by assumption))) (by first | assumption | go_simp)
       have f1 := keepf H1.out.1 (b := w.heap.size) (o := 1) (by first | (simp <;> omega) | exact cell_lt' (a := ⟨w.heap.size, 1, none⟩) (by assumption) | (simp; exact cell_lt' (a := ⟨w.heap.size, 1, none⟩) (by assumption))) (by first | assumption | go_simp)
       have f2 := keepf H1.out.1 (b := w.heap.size) (o := 2) (by first | (simp <;> omega) | exact cell_lt' (a := ⟨w.heap.size, 2, none⟩) (by assumption) | (simp; exact cell_lt' (a := ⟨w.heap.size, 2, none⟩) (by assumption))) (by first | assumption | go_simp)
       have f3 := keepf H1.out.1 (b := w.heap.size) (o := 3) (by first | (simp <;> omega) | exact cell_lt' (a := ⟨w.heap.size, 3, none⟩) (by assumption) | (simp; exact cell_lt' (a := ⟨w.heap.size, 3, none⟩) (by assumption))) (by first | assumption | go_simp)
       have f4 := keepf H1.out.1 (b := w.heap.size) (o := 4) (by first | (simp <;> omega) | exact cell_lt' (a := ⟨w.heap.size, 4, none⟩) (by assumption) | (simp; exact cell_lt' (a := ⟨w.heap.size, 4, none⟩) (by assumption))) (by first | assumption | go_simp)
       have f5 := keepf H1.out.1 (b := w.heap.size) (o := 5) (by first | (simp <;> omega) | exact cell_lt' (a := ⟨w.heap.size, 5, none⟩) (by assumption) | (simp; exact cell_lt' (a := ⟨w.heap.size, 5, none⟩) (by assumption))) (by first | assumption | go_simp)
       have f6 := keepf H1.out.1 (b := w.heap.size) (o := 6) (by first | (simp <;> omega) | exact cell_lt' (a := ⟨w.heap.size, 6, none⟩) (by assumption) | (simp; exact cell_lt' (a := ⟨w.heap.size, 6, none⟩) (by assumption))) (by first | assumption | go_simp)
       have f7 := keepf H1.out.1 (b := w.heap.size) (o := 7) (by first | (simp <;> omega) | exact cell_lt' (a := ⟨w.heap.size, 7, none⟩) (by assumption) | (simp; exact cell_lt' (a := ⟨w.heap.size, 7, none⟩) (by assumption))) (by first | assumption | go_simp)
       have f8 := keepf H1.out.1 (b := w.heap.size) (o := 8) (by first | (simp <;> omega) | exact cell_lt' (a := ⟨w.heap.size, 8, none⟩) (by assumption) | (simp; exact cell_lt' (a := ⟨w.heap.size, 8, none⟩) (by assumption))) (by first | assumption | go_simp)
       have B1 := on (al _ _) H1.out.1))
  refine bodyPost_ret (v := .tuple #[mv noMs none 0 none 0, .bool false]) ?_ rfl ⟨rfl, ?_⟩
  · rw [results_cell2 rfl]
    dsimp only [mv, noMs, noAc, z0, List.length_nil]
    go_simp
  · show Below _ _ _
    repeat (first | with_reducible exact B1 | (with_reducible refine Below.setCell ?_ (by first | (simp; done) | (simp; omega) | omega) _) | (with_reducible refine Below.alloc ?_ (by first | (simp; done) | (simp; omega) | omega) _))

theorem rNum_b (t : Nat) (l : List Nat) (e : Nat) : (rNum (t : Int) l e).1 ≤ t := by
  have := rNum_le (t : Int) l e
  omega

theorem decode_any (x : Option Addr) (nn c : Nat) (l : List Nat) (n fr : Nat) (hn7 : n ≤ 7) (w : World) (hl : Fl.Sl w x nn c l) (hnn : nn ≤ 140737488351232) :
    Calls Try.prog 29 #[.slice x nn c, .int .i64 fr, .int .i64 n] w fun e w' =>
      match decM n fr l with
      | none => e = .returned (.tuple #[mv noMs none 0 none 0, .bool false]) ∧ Hid (Below w.heap.size w w')
      | some m => ∃ x c y cy, e = .returned (.tuple #[mv m x c y cy, .bool true]) ∧ Hid (Below w.heap.size w w' ∧ MGot w w' m x c y cy) := by
  have hlen := hl.len
  unfold decM
  rw [hlen]
  cases hse : isSealed l with
  | false =>
    rw [if_neg (fun h => by cases h.1)]
    exact dec_unsealed x nn c l n fr w hl hnn hse
  | true =>
    unfold rMsg
    dsimp only
    generalize hA : rNum ((n : Int) - 1) (l.take (nn - 8)) 0 = A
    generalize hK : rNum 5 A.2.1 A.2.2 = K
    generalize hU : rNum 2147483647 K.2.1 K.2.2 = U
    have hUb : U.1 ≤ 2147483647 := by rw [← hU]; exact rNum_b 2147483647 _ _
    unfold rRest
    have neq : ∀ {o : Nat}, o ≠ 0 → ((o : Int) != 0) = true := fun {o} h => by simp; omega
    have neqf : ∀ {a : Nat}, a ≠ fr → (((a : Nat) : Int) != (fr : Int)) = true := fun {a} h => by simp; omega
    by_cases h4 : K.1 = 4
    · rw [if_pos h4, h4]
      dsimp only
      by_cases ho : rDone U.2.1 U.2.2 = 0
      · by_cases hf : A.1 = fr
        · cases hm : mayM ⟨4, U.1, noAc, 0, []⟩ fr n with
          | true =>
            rw [if_pos ⟨rfl, ho, hf, rfl⟩]
            exact dec_k4_yes x nn c l n fr hn7 w hl hnn hse A hA K hK U hU hUb h4 ho hf hm
          | false =>
            rw [if_neg (fun h => by cases h.2.2.2)]
            exact dec_k4_may x nn c l n fr hn7 w hl hnn hse A hA K hK U hU hUb h4 ho hf hm
        · rw [if_neg (fun h => hf h.2.2.1)]
          exact dec_k4_from x nn c l n fr hn7 w hl hnn hse A hA K hK U hU hUb h4 ho (neqf hf)
      · rw [if_neg (fun h => ho h.2.1)]
        exact dec_k4_done x nn c l n fr hn7 w hl hnn hse A hA K hK U hU hUb h4 _ rfl (neq ho)
    · rw [if_neg h4]
      by_cases h5 : K.1 = 5
      · rw [if_pos h5, h5]
        generalize hT : rNum 2147483647 U.2.1 U.2.2 = T
        have hTb : T.1 ≤ 2147483647 := by rw [← hT]; exact rNum_b 2147483647 _ _
        generalize hQ : rDcs n (told U.1 T.1).toNat T.2.1 T.2.2 = Q
        have hQl : Q.1.length ≤ 64 := by
          rw [← hQ]
          have := rDcs_len n (told U.1 T.1).toNat T.2.1 T.2.2
          have h6 : told U.1 T.1 ≤ 64 := by unfold told; omega
          omega
        dsimp only
        by_cases ho : rDone Q.2.1 Q.2.2 = 0
        · by_cases hf : A.1 = fr
          · cases hm : mayM ⟨5, U.1, noAc, T.1, Q.1⟩ fr n with
            | true =>
              rw [if_pos ⟨rfl, ho, hf, rfl⟩]
              exact dec_k5_yes x nn c l n fr hn7 w hl hnn hse A hA K hK U hU hUb T hT hTb Q hQ hQl h5 ho hf hm
            | false =>
              rw [if_neg (fun h => by cases h.2.2.2)]
              exact dec_k5_may x nn c l n fr hn7 w hl hnn hse A hA K hK U hU hUb T hT hTb Q hQ hQl h5 ho hf hm
          · rw [if_neg (fun h => hf h.2.2.1)]
            exact dec_k5_from x nn c l n fr hn7 w hl hnn hse A hA K hK U hU hUb T hT hTb Q hQ hQl h5 ho (neqf hf)
        · rw [if_neg (fun h => ho h.2.1)]
          exact dec_k5_done x nn c l n fr hn7 w hl hnn hse A hA K hK U hU hUb T hT hTb Q hQ hQl h5 _ rfl (neq ho)
      · rw [if_neg h5]
        generalize hP : rBal n U.2.1 U.2.2 = P
        generalize hR : rBal n P.2.1 P.2.2 = R
        generalize hY : rBy 4104 R.2.1 R.2.2 = Y
        have hYl : Y.1.length ≤ 4104 := by rw [← hY]; exact rBy_len 4104 _ _
        have k4 : ((K.1 : Int) == 4) = false := by simp; omega
        have k5 : ((K.1 : Int) == 5) = false := by simp; omega
        dsimp only
        by_cases ho : rDone Y.2.1 Y.2.2 = 0
        · by_cases hf : A.1 = fr
          · cases hm : mayM ⟨K.1, U.1, ⟨P.1, R.1, Y.1⟩, 0, []⟩ fr n with
            | true =>
              rw [if_pos ⟨rfl, ho, hf, rfl⟩]
              exact dec_ko_yes x nn c l n fr hn7 w hl hnn hse A hA K hK U hU hUb K.1 k4 k5 rfl P hP R hR Y hY hYl ho hf hm
            | false =>
              rw [if_neg (fun h => by cases h.2.2.2)]
              exact dec_ko_may x nn c l n fr hn7 w hl hnn hse A hA K hK U hU hUb K.1 k4 k5 rfl P hP R hR Y hY hYl ho hf hm
          · rw [if_neg (fun h => hf h.2.2.1)]
            exact dec_ko_from x nn c l n fr hn7 w hl hnn hse A hA K hK U hU hUb K.1 k4 k5 rfl P hP R hR Y hY hYl ho (neqf hf)
        · rw [if_neg (fun h => ho h.2.1)]
          exact dec_ko_done x nn c l n fr hn7 w hl hnn hse A hA K hK U hU hUb K.1 k4 k5 rfl P hP R hR Y hY hYl _ rfl (neq ho)

end Go.Proofs.Ytdbahebhodoooaa.Px

/-
  A monitor as it lies in memory; the smallest calls.
  Conditions: none.
-/
namespace Go.Proofs.Ytdbahebhodoooaa.Px
open Go.RowKit Wi By Fl Ba
set_option linter.unusedVariables false
set_option linter.unusedSimpArgs false
set_option maxRecDepth 100000

/- A monitor, plainly. -/
structure Bd where
  num : Nat
  bal : Bt
  val : List Nat
  told : Nat → Ac

structure Nd where
  id : Nat
  n : Nat
  dec : List Dc
  acc : Nat → Ac
  ser : Nat
  wait : List Dc
  bid : Option Bd
  turn : Nat

/- Where it lies. -/
structure Lb where
  bp : Nat
  tb : Nat
  tn : Nat
  tD : DataW Value
  x : Option Addr
  n : Nat
  c : Nat

structure Ln where
  p : Nat
  mb : Nat
  nb : Nat
  D : DataW Value
  Rd : Value
  Rw : Value
  b : Option Lb

def bidV (b : Option Lb) : Value := .pointer (b.map fun l => ⟨l.bp, 0, none⟩)

def obj8 (g : Ln) (st : Nd) : Nat → Value := fun k => if k = 0 then .int .i64 st.id else if k = 1 then .int .i64 st.n else if k = 2 then g.Rd else if k = 3 then .map (some g.mb) else if k = 4 then .int .i64 st.ser else if k = 5 then g.Rw else if k = 6 then bidV g.b else .int .i64 st.turn

def obj6 (l : Lb) (b : Bd) : Nat → Value := fun k => if k = 0 then .int .i64 b.num else if k = 1 then .int .i64 b.bal.1 else if k = 2 then .int .i64 b.bal.2 else if k = 3 then .slice l.x l.n l.c else .map (some l.tb)

def fpb (b : Option Lb) : Nat → Prop := fun k => ∃ l, b = some l ∧ (k = l.bp ∨ k = l.tb)
def fp (g : Ln) : Nat → Prop := fun k => k = g.p ∨ k = g.mb ∨ g.Rd.ownBlock = some k ∨ g.Rw.ownBlock = some k ∨ fpb g.b k

structure BdAt (w : World) (l : Lb) (b : Bd) : Prop where
  obj : Blk w l.bp 96 5 (obj6 l b)
  val : Sv w l.x l.n l.c b.val
  told : ApAt w l.tb l.tn l.tD b.told
  wf : bwf b.bal

structure NdAt (w : World) (B : Nat) (g : Ln) (st : Nd) : Prop where
  obj : Blk w g.p 63 8 (obj8 g st)
  dec : OwnD w B g.Rd st.dec
  wait : OwnD w B g.Rw st.wait
  ne : ∀ k, g.Rd.ownBlock = some k → g.Rw.ownBlock ≠ some k
  acc : ApAt w g.mb g.nb g.D st.acc
  bid : (g.b = none ∧ st.bid = none) ∨ ∃ l b, g.b = some l ∧ st.bid = some b ∧ BdAt w l b ∧ l.tb ≠ g.mb
  low : ∀ k, fp g k → B ≤ k
  dl : st.dec.length ≤ 80000
  wl : st.wait.length ≤ 80000
  dok : ∀ d ∈ st.dec, DOk d
  wok : ∀ d ∈ st.wait, DOk d

section
variable {w w' : World} {B : Nat} {g : Ln} {st : Nd}

/- None of its blocks is one of bytes. -/
theorem NdAt.u8 (h : NdAt w B g st) : ∀ k, fp g k → k < w.heap.size ∧ ¬ Tb w k 5 := fun k hk => by
  rcases hk with rfl | rfl | hk | hk | ⟨l, hl, hk⟩
  · exact ⟨h.obj.lt, fun t => by have := t.same h.obj.tb; revert this; decide⟩
  · exact ⟨h.acc.lt, fun t => t.not_map h.acc.isM⟩
  · exact ⟨(h.dec.tb hk).2.lt, fun t => by have := t.same (h.dec.tb hk).2; revert this; decide⟩
  · exact ⟨(h.wait.tb hk).2.lt, fun t => by have := t.same (h.wait.tb hk).2; revert this; decide⟩
  · rcases h.bid with ⟨q, _⟩ | ⟨l', b, q1, q2, q3, q4⟩
    · rw [hl] at q
      cases q
    · rw [hl] at q1
      injection q1 with q1
      subst q1
      rcases hk with rfl | rfl
      · exact ⟨q3.obj.lt, fun t => by have := t.same q3.obj.tb; revert this; decide⟩
      · exact ⟨q3.told.lt, fun t => t.not_map q3.told.isM⟩

theorem BdAt.turns {l : Lb} {b : Bd} {G : Nat → Prop} (h : BdAt w l b) (t : Turns G w w') (h1 : ¬ G l.bp) (h2 : ¬ G l.tb) (hu : ∀ k, G k → ¬ Tb w k 5) : BdAt w' l b :=
  ⟨t.blk h.obj h1, h.val.turns t hu, h.told.turns t h2 hu, h.wf⟩

theorem NdAt.turns {G : Nat → Prop} (h : NdAt w B g st) (t : Turns G w w') (hf : ∀ k, fp g k → ¬ G k) (hu : ∀ k, G k → ¬ Tb w k 5) : NdAt w' B g st := by
  refine ⟨t.blk h.obj (hf _ (.inl rfl)), h.dec.turns t (fun k hk => hf k (.inr (.inr (.inl hk)))), h.wait.turns t (fun k hk => hf k (.inr (.inr (.inr (.inl hk))))), h.ne, h.acc.turns t (hf _ (.inr (.inl rfl))) hu, ?_, h.low, h.dl, h.wl, h.dok, h.wok⟩
  rcases h.bid with q | ⟨l, b, q1, q2, q3, q4⟩
  · exact .inl q
  · exact .inr ⟨l, b, q1, q2, q3.turns t (hf _ (.inr (.inr (.inr (.inr ⟨l, q1, .inl rfl⟩))))) (hf _ (.inr (.inr (.inr (.inr ⟨l, q1, .inr rfl⟩))))) hu, q4⟩

theorem NdAt.below (h : NdAt w B g st) (b : Below w.heap.size w w') : NdAt w' B g st := h.turns (Turns.of_below (F := fun _ => False) b) (fun _ _ h => h) (fun _ h => h.elim)

theorem NdAt.c (h : NdAt w B g st) (k : Nat) (hk : k < 8) : w.cell? ⟨g.p, k, none⟩ = some (obj8 g st k) := h.obj.cell hk
theorem NdAt.c0 (h : NdAt w B g st) : w.cell? ⟨g.p, 0, none⟩ = some (.int .i64 st.id) := h.c 0 (by omega)
theorem NdAt.c1 (h : NdAt w B g st) : w.cell? ⟨g.p, 1, none⟩ = some (.int .i64 st.n) := h.c 1 (by omega)
theorem NdAt.c2 (h : NdAt w B g st) : w.cell? ⟨g.p, 2, none⟩ = some g.Rd := h.c 2 (by omega)
theorem NdAt.c3 (h : NdAt w B g st) : w.cell? ⟨g.p, 3, none⟩ = some (.map (some g.mb)) := h.c 3 (by omega)
theorem NdAt.c4 (h : NdAt w B g st) : w.cell? ⟨g.p, 4, none⟩ = some (.int .i64 st.ser) := h.c 4 (by omega)
theorem NdAt.c5 (h : NdAt w B g st) : w.cell? ⟨g.p, 5, none⟩ = some g.Rw := h.c 5 (by omega)
theorem NdAt.c6 (h : NdAt w B g st) : w.cell? ⟨g.p, 6, none⟩ = some (bidV g.b) := h.c 6 (by omega)
theorem NdAt.c7 (h : NdAt w B g st) : w.cell? ⟨g.p, 7, none⟩ = some (.int .i64 st.turn) := h.c 7 (by omega)
theorem NdAt.fz (h : NdAt w B g st) (k : Nat) : w.frozen? ⟨g.p, k, none⟩ = false := h.obj.frozen k

theorem NdAt.rd (h : NdAt w B g st) : ∃ x c, g.Rd = .slice x st.dec.length c ∧ st.dec.length ≤ c := by
  obtain ⟨x, c, e, h1, _⟩ := h.dec.form
  exact ⟨x, c, e, h1⟩
theorem NdAt.rw_ (h : NdAt w B g st) : ∃ x c, g.Rw = .slice x st.wait.length c ∧ st.wait.length ≤ c := by
  obtain ⟨x, c, e, h1, _⟩ := h.wait.form
  exact ⟨x, c, e, h1⟩

/- Its parts lie apart. -/
theorem NdAt.pm (h : NdAt w B g st) : g.p ≠ g.mb := fun e => h.obj.tb.not_map (e ▸ h.acc.isM)
theorem NdAt.pd (h : NdAt w B g st) : g.Rd.ownBlock ≠ some g.p := fun e => by have := (h.dec.tb e).2.same h.obj.tb; revert this; decide
theorem NdAt.pw (h : NdAt w B g st) : g.Rw.ownBlock ≠ some g.p := fun e => by have := (h.wait.tb e).2.same h.obj.tb; revert this; decide
theorem NdAt.md (h : NdAt w B g st) : g.Rd.ownBlock ≠ some g.mb := fun e => (h.dec.tb e).2.not_map h.acc.isM
theorem NdAt.mw (h : NdAt w B g st) : g.Rw.ownBlock ≠ some g.mb := fun e => (h.wait.tb e).2.not_map h.acc.isM

end

/- How often its maps were written. -/
def gnb (g : Ln) : Nat := g.nb + (match g.b with | some l => l.tn | none => 0)

/- A call that turns a monitor. -/
def Goes (w w' : World) (B : Nat) (g : Ln) (st' : Nd) (k : Nat) : Prop := ∃ g', g'.p = g.p ∧ NdAt w' B g' st' ∧ Turns (fp g) w w' ∧ gnb g' ≤ gnb g + k ∧ ∀ k, fp g' k → fp g k ∨ w.heap.size ≤ k

theorem Goes.same {w w' : World} {B : Nat} {g : Ln} {st : Nd} (h : NdAt w B g st) (b : Below w.heap.size w w') : Goes w w' B g st 0 :=
  ⟨g, rfl, h.below b, Turns.of_below b, Nat.le_refl _, fun k hk => .inl hk⟩

theorem Goes.mono {w w' : World} {B : Nat} {g : Ln} {st : Nd} {k k' : Nat} (h : Goes w w' B g st k) (hk : k ≤ k') : Goes w w' B g st k' := by
  obtain ⟨g1, a1, a2, a3, a4, a5⟩ := h
  exact ⟨g1, a1, a2, a3, by omega, a5⟩

theorem Goes.trans {w w1 w2 : World} {B : Nat} {g g1 : Ln} {st2 : Nd} {k1 k2 : Nat} (e : g1.p = g.p) (t : Turns (fp g) w w1) (hk : gnb g1 ≤ gnb g + k1) (hf : ∀ k, fp g1 k → fp g k ∨ w.heap.size ≤ k) (h2 : Goes w1 w2 B g1 st2 k2) : Goes w w2 B g st2 (k1 + k2) := by
  obtain ⟨g2, a1, a2, a3, a4, a5⟩ := h2
  refine ⟨g2, a1.trans e, a2, t.more a3 hf, by omega, fun k hk => ?_⟩
  rcases a5 k hk with q | q
  · exact hf k q
  · exact .inr (Nat.le_trans t.size q)

theorem Goes.then {w w' w2 : World} {B : Nat} {g : Ln} {st : Nd} {k : Nat} (h : Goes w w' B g st k) (b : Below w'.heap.size w' w2) : Goes w w2 B g st k := by
  obtain ⟨g1, a1, a2, a3, a4, a5⟩ := h
  exact Goes.trans (k2 := 0) a1 a3 a4 a5 (Goes.same a2 b)

section
variable {w w' w3 : World} {B : Nat} {g : Ln} {st : Nd}

theorem p_not_u8 (h : NdAt w B g st) : ∀ k, atB g.p k → ¬ Tb w k 5 := fun k hk => by
  have e : k = g.p := hk
  subst e
  exact (h.u8 _ (.inl rfl)).2

/- A plain field is written. -/
theorem NdAt.put (h : NdAt w B g st) (k : Nat) (u : Value) (st' : Nd) (he : ∀ j, j < 8 → upd (obj8 g st) k u j = obj8 g st' j) (e1 : st'.dec = st.dec) (e2 : st'.acc = st.acc) (e3 : st'.wait = st.wait) (e4 : st'.bid = st.bid) :
    NdAt (w.setCell ⟨g.p, k, none⟩ u) B g st' ∧ Turns (atB g.p) w (w.setCell ⟨g.p, k, none⟩ u) := by
  have t : Turns (atB g.p) w (w.setCell ⟨g.p, k, none⟩ u) := turns_put (Turns.refl _ _) k u
  have hu := p_not_u8 h
  refine ⟨⟨(h.obj.set k u).congr he, ?_, ?_, h.ne, ?_, ?_, h.low, by rw [e1]; exact h.dl, by rw [e3]; exact h.wl, by rw [e1]; exact h.dok, by rw [e3]; exact h.wok⟩, t⟩
  · rw [e1]
    exact h.dec.turns t (fun q hq e => h.pd (by have e' : q = g.p := e; rw [← e']; exact hq))
  · rw [e3]
    exact h.wait.turns t (fun q hq e => h.pw (by have e' : q = g.p := e; rw [← e']; exact hq))
  · rw [e2]
    exact h.acc.turns t (fun e => h.pm (by have e' : g.mb = g.p := e; exact e'.symm)) hu
  · rw [e4]
    rcases h.bid with q | ⟨l, b, q1, q2, q3, q4⟩
    · exact .inl q
    · refine .inr ⟨l, b, q1, q2, q3.turns t (fun e => ?_) (fun e => ?_) hu, q4⟩
      · have e' : l.bp = g.p := e
        have := q3.obj.tb.same (e' ▸ h.obj.tb)
        revert this
        decide
      · have e' : l.tb = g.p := e
        exact h.obj.tb.not_map (e' ▸ q3.told.isM)

end

end Go.Proofs.Ytdbahebhodoooaa.Px

/-
  A monitor's small calls: New, Len, Pending, Get, Crash.
  Conditions: the monitor is one that New gave ('NdAt').
-/
namespace Go.Proofs.Ytdbahebhodoooaa.Px
open Go.RowKit Wi By Fl Ba
set_option linter.unusedVariables false
set_option linter.unusedSimpArgs false
set_option maxRecDepth 100000

def fresh (id n : Nat) : Nd := ⟨id, n, [], fun _ => noAc, 0, [], none, 0⟩

section
variable {w w' : World} {B : Nat} {g : Ln} {st : Nd}

theorem made_yes (h : NdAt w B g st) : Calls Try.prog 26 #[.pointer (some ⟨g.p, 0, none⟩)] w fun e w' => e = .returned (.bool true) ∧ w' = w := by
  have c3 := h.c3
  have he : ∀ w : World, (binOp .neq 60 (.map (some g.mb)) (.map none)).run Try.prog w = .ok (.bool true) w := fun _ => by kernel_rfl
  clear h
  go_enter Try.func26, Try.ntmps26
  go_wp2_with fail
  go_ret
  exact ⟨rfl, rfl⟩

theorem len_any (h : NdAt w B g st) : Calls Try.prog 12 #[.pointer (some ⟨g.p, 0, none⟩)] w fun e w' => e = .returned (.int .i64 st.dec.length) ∧ w' = w := by
  have c2 := h.c2
  obtain ⟨x, c, e, _⟩ := h.rd
  rw [e] at c2
  clear h e
  generalize st.dec.length = n at *
  go_enter Try.func12, Try.ntmps12
  go_wp2_with fail
  go_ret
  exact ⟨rfl, rfl⟩

theorem pending_any (h : NdAt w B g st) : Calls Try.prog 14 #[.pointer (some ⟨g.p, 0, none⟩)] w fun e w' => e = .returned (.int .i64 st.wait.length) ∧ w' = w := by
  have c5 := h.c5
  obtain ⟨x, c, e, _⟩ := h.rw_
  rw [e] at c5
  clear h e
  generalize st.wait.length = n at *
  go_enter Try.func14, Try.ntmps14
  go_wp2_with fail
  go_ret
  exact ⟨rfl, rfl⟩

theorem get_yes (h : NdAt w B g st) (k : Nat) (d : Dc) (hd : st.dec[k]? = some d) : Calls Try.prog 24 #[.pointer (some ⟨g.p, 0, none⟩), .int .i64 ((k + 1 : Nat) : Int)] w fun e w' => ∃ y m cy, e = .returned (.tuple #[.slice y m cy, .bool true]) ∧ Hid (m = d.val.size ∧ Vl w w' y m cy (nat d.val)) := by
  have hL := len_any h
  have c2 := h.c2
  have hk := (List.getElem?_eq_some_iff.1 hd).1
  obtain ⟨b, c, e, hnc, _, _, _⟩ := h.dec.there (fun e => by rw [e] at hk; simp at hk)
  have hdl := h.dl
  have ho := h.dec
  rw [e] at c2 ho
  have q2 := ho.cell drow.len hd (j := 2) (v := .string d.val) rfl
  obtain ⟨cc, W1, hcv, HV⟩ := conv_text d.val w
  clear h ho e hd
  generalize d.val = s at *
  generalize st.dec.length = n at *
  have i1 : ¬ ((k + 1 : Nat) : Int) < 1 := by omega
  have i2 : ¬ (n : Int) < ((k + 1 : Nat) : Int) := by omega
  have i3 : ((k + 1 : Nat) : Int) - 1 = (k : Int) := by omega
  have i4 : (k : Int) < (n : Int) := by omega
  have i5 : (n : Int) ≤ 80000 := by omega
  obtain ⟨j, hj⟩ : ∃ j, j = k + 1 := ⟨_, rfl⟩
  rw [← hj] at i1 i2 i3 ⊢
  clear hj
  go_enter Try.func24, Try.ntmps24
  go_wp2_with (first
    | (
       go_at_call 12; refine hL.mono ?_; rintro e w' ⟨rfl, hw⟩; subst w'; clear hL))
  go_ret2
  exact ⟨_, _, _, rfl, rfl, HV.out⟩

theorem get_no (h : NdAt w B g st) (i : Int) (hi : i < 1 ∨ (st.dec.length : Int) < i) : Calls Try.prog 24 #[.pointer (some ⟨g.p, 0, none⟩), .int .i64 i] w fun e w' => e = .returned (.tuple #[.slice none 0 0, .bool false]) ∧ w' = w := by
  have hL := len_any h
  clear h
  generalize st.dec.length = n at *
  by_cases h1 : i < 1
  · go_enter Try.func24, Try.ntmps24
    go_wp2_with fail
    go_ret2
    exact ⟨rfl, rfl⟩
  · have h2 : (n : Int) < i := by omega
    clear hi
    go_enter Try.func24, Try.ntmps24
    go_wp2_with (first
      | (
         go_at_call 12; refine hL.mono ?_; rintro e w' ⟨rfl, hw⟩; subst w'; clear hL))
    go_ret2
    exact ⟨rfl, rfl⟩

def crashed (st : Nd) : Nd := { st with wait := [], bid := none, turn := 0 }

theorem NdAt.crash (h : NdAt w B g st) : Goes w (((w.setCell ⟨g.p, 5, none⟩ (.slice none 0 0)).setCell ⟨g.p, 6, none⟩ (.pointer none)).setCell ⟨g.p, 7, none⟩ (.int .i64 0)) B g (crashed st) 0 := by
  have t : Turns (atB g.p) w (((w.setCell ⟨g.p, 5, none⟩ (.slice none 0 0)).setCell ⟨g.p, 6, none⟩ (.pointer none)).setCell ⟨g.p, 7, none⟩ (.int .i64 0)) := turns_put (turns_put (turns_put (Turns.refl _ _) 5 _) 6 _) 7 _
  have hu := p_not_u8 h
  have hf : ∀ k, fp { g with Rw := .slice none 0 0, b := none } k → fp g k := fun k hk => by
    rcases hk with q | q | q | q | ⟨l, q, _⟩
    · exact .inl q
    · exact .inr (.inl q)
    · exact .inr (.inr (.inl q))
    · cases q
    · cases q
  refine ⟨{ g with Rw := .slice none 0 0, b := none }, rfl, ⟨(((h.obj.set 5 _).set 6 _).set 7 _).congr (fun j hj => ?_), ?_, Own.nil _ _ _ _ _, fun k _ e => (by cases e), ?_, .inl ⟨rfl, rfl⟩, fun k hk => h.low k (hf k hk), h.dl, Nat.zero_le _, h.dok, fun d hd => (by cases hd)⟩, t.weak (fun k hk => .inl hk), ?_, fun k hk => .inl (hf k hk)⟩
  · rcases j with _ | _ | _ | _ | _ | _ | _ | _ | j <;> first | rfl | omega
  · exact h.dec.turns t (fun q hq e => h.pd (by have e' : q = g.p := e; rw [← e']; exact hq))
  · exact h.acc.turns t (fun e => h.pm (by have e' : g.mb = g.p := e; exact e'.symm)) hu
  · show g.nb + 0 ≤ gnb g + 0
    unfold gnb
    omega

theorem crash_any (h : NdAt w B g st) : Calls Try.prog 23 #[.pointer (some ⟨g.p, 0, none⟩)] w fun e w' => e = .returned (.tuple #[]) ∧ Hid (Goes w w' B g (crashed st) 0) := by
  have hM := made_yes h
  have c5 := h.c5
  have c6 := h.c6
  have c7 := h.c7
  have f5 := h.fz 5
  have f6 := h.fz 6
  have f7 := h.fz 7
  have HC := hid h.crash
  clear h
  generalize g.Rw = Rw at *
  generalize bidV g.b = bv at *
  go_enter Try.func23, Try.ntmps23
  go_wp2_with (first
    | (
       go_at_call 26; refine hM.mono ?_; rintro e w' ⟨rfl, hw⟩; subst w'; clear hM))
  refine bodyPost_end (results_none rfl _ _ _) rfl ?_
  exact ⟨rfl, HC.out⟩

theorem new_no (id n : Int) (w : World) (h : n < 1 ∨ 7 < n ∨ id < 0 ∨ n ≤ id) : Calls Try.prog 21 #[.int .i64 id, .int .i64 n] w fun e w' => e = .returned (.tuple #[.pointer none, .int .i64 1]) ∧ w' = w := by
  by_cases h1 : n < 1
  · clear h
    go_enter Try.func21, Try.ntmps21
    go_wp2_with fail
    go_ret2
    exact ⟨rfl, rfl⟩
  · by_cases h2 : 7 < n
    · clear h
      go_enter Try.func21, Try.ntmps21
      go_wp2_with fail
      go_ret2
      exact ⟨rfl, rfl⟩
    · by_cases h3 : id < 0
      · clear h
        go_enter Try.func21, Try.ntmps21
        go_wp2_with fail
        go_ret2
        exact ⟨rfl, rfl⟩
      · have h4 : n ≤ id := by omega
        clear h
        go_enter Try.func21, Try.ntmps21
        go_wp2_with fail
        go_ret2
        exact ⟨rfl, rfl⟩

theorem new_yes (id n : Nat) (w : World) (h1 : 1 ≤ n) (h2 : n ≤ 7) (h3 : id < n) : Calls Try.prog 21 #[.int .i64 id, .int .i64 n] w fun e w' => e = .returned (.tuple #[.pointer (some ⟨w.heap.size + 1, 0, none⟩), .int .i64 0]) ∧ Hid (Below w.heap.size w w' ∧ ∃ g, g.p = w.heap.size + 1 ∧ NdAt w' w.heap.size g (fresh id n) ∧ gnb g = 0) := by
  have i1 : ¬ (n : Int) < 1 := by omega
  have i2 : ¬ 7 < (n : Int) := by omega
  have i3 : ¬ (id : Int) < 0 := by omega
  have i4 : ¬ (n : Int) ≤ (id : Int) := by omega
  have hmm := @run_makeMap Try.prog
  have HN : Hid (NdAt ((w.alloc (.map #[] 0)).alloc (.cells #[.int .i64 id, .int .i64 n, .slice none 0 0, .map (some w.heap.size), .int .i64 0, .slice none 0 0, .pointer none, .int .i64 0] 63)) w.heap.size ⟨w.heap.size + 1, w.heap.size, 0, .map [], .slice none 0 0, .slice none 0 0, none⟩ (fresh id n)) := by
    refine ⟨?_, Own.nil _ _ _ _ _, Own.nil _ _ _ _ _, fun k _ e => (by cases e), ?_, .inl ⟨rfl, rfl⟩, fun k hk => ?_, Nat.zero_le _, Nat.zero_le _, fun d hd => (by cases hd), fun d hd => (by cases hd)⟩
    · have e : (w.alloc (.map #[] 0)).heap.size = w.heap.size + 1 := by simp
      rw [← e]
      exact Blk.new _ _ 8 _ _ rfl
    · exact (ApAt.new w).below (al _ _)
    · rcases hk with rfl | rfl | q | q | ⟨l, q, _⟩
      · show w.heap.size ≤ w.heap.size + 1; omega
      · exact Nat.le_refl _
      · cases q
      · cases q
      · cases q
  clear h1 h2 h3
  go_enter Try.func21, Try.ntmps21
  go_wp2_with fail
  go_ret2
  exact ⟨rfl, on (al _ _) (al _ _), _, rfl, HN.out, rfl⟩

end

end Go.Proofs.Ytdbahebhodoooaa.Px

/-
  A monitor's rows are written: Propose.
  Conditions: the monitor is one that New gave ('NdAt').
-/
namespace Go.Proofs.Ytdbahebhodoooaa.Px
open Go.RowKit Wi By Fl Ba
set_option linter.unusedVariables false
set_option linter.unusedSimpArgs false
set_option maxRecDepth 100000

theorem ready_append {P : Program} {w w' : World} {ops : Array Oper} {o : Oper} {a : Act} {K : Act → World → Prop} {Q : Exit → Act → World → Prop} {v' : Value} (hg : Region.wanted o (yielded ops a.tmps) = true) (s x : Operand) (t : TypeId)
    (ho : o.op = .call { callee := .builtin .append, args := #[s, x], argTypes := #[t, t] }) (v1 v2 : Value) (hs : a.eval s = v1) (hx : a.eval x = v2) (hr : (Builtin.append_ #[t, t] o.type #[v1, v2]).run P w = .ok v' w')
    (h : K (a.put o.dst v') w') : if Region.wanted o (yielded ops a.tmps) = true then Oper.wp P o a w K Q else K (a.put o.dst undef) w := by
  rw [if_pos hg]
  unfold Oper.wp execOp
  simp only [ho, resolve, invoke, builtin, Sem.run_bind, Sem.run_pure, Result.andThen_ok, List.map_toArray, List.map_cons, List.map_nil, hs, hx, hr]
  exact h

section
variable {w w3 : World} {B : Nat} {g : Ln} {st : Nd}

theorem wrap_i64 {z : Int} (h0 : -9223372036854775808 ≤ z) (h1 : z ≤ 9223372036854775807) : IntKind.i64.wrap z = z := by
  unfold IntKind.wrap
  simp [IntKind.bits, IntKind.signed]
  omega

theorem NdAt.obj_keep (h : NdAt w B g st) {G : Nat → Prop} (T : Turns G w w3) (hp : ¬ G g.p) : Blk w3 g.p 63 8 (obj8 g st) := T.blk h.obj hp

/- The row of what waits is another now. -/
theorem NdAt.setW (h : NdAt w B g st) (T : Turns (fun k => g.Rw.ownBlock = some k) w w3) (R' : Value) (L' : List Dc) (ho : OwnD w3 B R' L') (hR : ∀ k, R'.ownBlock = some k → g.Rw.ownBlock = some k ∨ w.heap.size ≤ k) (hl : L'.length ≤ 80000) (hok : ∀ d ∈ L', DOk d) :
    Goes w (w3.setCell ⟨g.p, 5, none⟩ R') B g { st with wait := L' } 0 := by
  have b3 := h.obj_keep T (fun e => h.pw e)
  have t0 : Turns (atB g.p) w3 (w3.setCell ⟨g.p, 5, none⟩ R') := turns_put (Turns.refl _ _) 5 _
  have t1 : Turns (fun k => k = g.p ∨ g.Rw.ownBlock = some k) w (w3.setCell ⟨g.p, 5, none⟩ R') := (T.weak (fun k e => .inr e)).trans (t0.weak (fun k e => .inl e))
  have hu : ∀ k, (k = g.p ∨ g.Rw.ownBlock = some k) → ¬ Tb w k 5 := fun k hk => (h.u8 k (by rcases hk with q | q; exact .inl q; exact .inr (.inr (.inr (.inl q))))).2
  have hf : ∀ k, fp { g with Rw := R' } k → fp g k ∨ w.heap.size ≤ k := fun k hk => by
    rcases hk with q | q | q | q | q
    · exact .inl (.inl q)
    · exact .inl (.inr (.inl q))
    · exact .inl (.inr (.inr (.inl q)))
    · rcases hR k q with r | r
      · exact .inl (.inr (.inr (.inr (.inl r))))
      · exact .inr r
    · exact .inl (.inr (.inr (.inr (.inr q))))
  refine ⟨{ g with Rw := R' }, rfl, ⟨(b3.set 5 R').congr (fun j hj => ?_), ?_, ?_, fun k hk e => ?_, ?_, ?_, fun k hk => ?_, h.dl, hl, h.dok, hok⟩, ⟨t1.os, t1.tape, t1.output, t1.size, fun k hk hn => t1.block k hk (fun e => hn (by rcases e with e | e; exact .inl e; exact .inr (.inr (.inr (.inl e)))))⟩, Nat.le_refl _, hf⟩
  · rcases j with _ | _ | _ | _ | _ | _ | _ | _ | j <;> first | rfl | omega
  · exact h.dec.turns t1 (fun q hq e => by
      rcases e with e | e
      · exact h.pd (by rw [← e]; exact hq)
      · exact h.ne q hq e)
  · exact ho.turns t0 (fun q hq e => by
      have e' : q = g.p := e
      subst e'
      have := (ho.tb hq).2.same b3.tb
      revert this
      decide)
  · rcases hR k e with r | r
    · exact h.ne k hk r
    · have := (h.dec.tb hk).2.lt
      omega
  · exact h.acc.turns t1 (fun e => by
      rcases e with e | e
      · exact h.pm e.symm
      · exact h.mw e) hu
  · rcases h.bid with q | ⟨l, b, q1, q2, q3, q4⟩
    · exact .inl q
    · refine .inr ⟨l, b, q1, q2, q3.turns t1 (fun e => ?_) (fun e => ?_) hu, q4⟩
      · rcases e with e | e
        · have := q3.obj.tb.same (e ▸ h.obj.tb)
          revert this
          decide
        · have := q3.obj.tb.same (h.wait.tb e).2
          revert this
          decide
      · rcases e with e | e
        · exact h.obj.tb.not_map (e ▸ q3.told.isM)
        · exact (h.wait.tb e).2.not_map q3.told.isM
  · rcases hf k hk with q | q
    · exact h.low k q
    · exact Nat.le_trans (h.low _ (.inl rfl)) (Nat.le_trans (Nat.le_of_lt h.obj.lt) q)

/- The row of decrees is another now. -/
theorem NdAt.setD (h : NdAt w B g st) (T : Turns (fun k => g.Rd.ownBlock = some k) w w3) (R' : Value) (L' : List Dc) (ho : OwnD w3 B R' L') (hR : ∀ k, R'.ownBlock = some k → g.Rd.ownBlock = some k ∨ w.heap.size ≤ k) (hl : L'.length ≤ 80000) (hok : ∀ d ∈ L', DOk d) :
    NdAt (w3.setCell ⟨g.p, 2, none⟩ R') B { g with Rd := R' } { st with dec := L' } ∧ Goes w (w3.setCell ⟨g.p, 2, none⟩ R') B g { st with dec := L' } 0 := by
  have b3 := h.obj_keep T (fun e => h.pd e)
  have t0 : Turns (atB g.p) w3 (w3.setCell ⟨g.p, 2, none⟩ R') := turns_put (Turns.refl _ _) 2 _
  have t1 : Turns (fun k => k = g.p ∨ g.Rd.ownBlock = some k) w (w3.setCell ⟨g.p, 2, none⟩ R') := (T.weak (fun k e => .inr e)).trans (t0.weak (fun k e => .inl e))
  have hu : ∀ k, (k = g.p ∨ g.Rd.ownBlock = some k) → ¬ Tb w k 5 := fun k hk => (h.u8 k (by rcases hk with q | q; exact .inl q; exact .inr (.inr (.inl q)))).2
  have hf : ∀ k, fp { g with Rd := R' } k → fp g k ∨ w.heap.size ≤ k := fun k hk => by
    rcases hk with q | q | q | q | q
    · exact .inl (.inl q)
    · exact .inl (.inr (.inl q))
    · rcases hR k q with r | r
      · exact .inl (.inr (.inr (.inl r)))
      · exact .inr r
    · exact .inl (.inr (.inr (.inr (.inl q))))
    · exact .inl (.inr (.inr (.inr (.inr q))))
  have key : NdAt (w3.setCell ⟨g.p, 2, none⟩ R') B { g with Rd := R' } { st with dec := L' } := by
    refine ⟨(b3.set 2 R').congr (fun j hj => ?_), ?_, ?_, fun k hk e => ?_, ?_, ?_, fun k hk => ?_, hl, h.wl, hok, h.wok⟩
    · rcases j with _ | _ | _ | _ | _ | _ | _ | _ | j <;> first | rfl | omega
    · exact ho.turns t0 (fun q hq e => by
        have e' : q = g.p := e
        subst e'
        have := (ho.tb hq).2.same b3.tb
        revert this
        decide)
    · exact h.wait.turns t1 (fun q hq e => by
        rcases e with e | e
        · exact h.pw (by rw [← e]; exact hq)
        · exact h.ne q e hq)
    · rcases hR k hk with r | r
      · exact h.ne k r e
      · have := (h.wait.tb e).2.lt
        omega
    · exact h.acc.turns t1 (fun e => by
        rcases e with e | e
        · exact h.pm e.symm
        · exact h.md e) hu
    · rcases h.bid with q | ⟨l, b, q1, q2, q3, q4⟩
      · exact .inl q
      · refine .inr ⟨l, b, q1, q2, q3.turns t1 (fun e => ?_) (fun e => ?_) hu, q4⟩
        · rcases e with e | e
          · have := q3.obj.tb.same (e ▸ h.obj.tb)
            revert this
            decide
          · have := q3.obj.tb.same (h.dec.tb e).2
            revert this
            decide
        · rcases e with e | e
          · exact h.obj.tb.not_map (e ▸ q3.told.isM)
          · exact (h.dec.tb e).2.not_map q3.told.isM
    · rcases hf k hk with q | q
      · exact h.low k q
      · exact Nat.le_trans (h.low _ (.inl rfl)) (Nat.le_trans (Nat.le_of_lt h.obj.lt) q)
  exact ⟨key, { g with Rd := R' }, rfl, key, ⟨t1.os, t1.tape, t1.output, t1.size, fun k hk hn => t1.block k hk (fun e => hn (by rcases e with e | e; exact .inl e; exact .inr (.inr (.inl e))))⟩, Nat.le_refl _, hf⟩

theorem prop_long (h : NdAt w B g st) (x : Option Addr) (n c : Nat) (hn : 4096 < n) : Calls Try.prog 16 #[.pointer (some ⟨g.p, 0, none⟩), .slice x n c] w fun e w' => e = .returned (.int .i64 3) ∧ w' = w := by
  have hM := made_yes h
  have i1 : (4096 : Int) < (n : Int) := by omega
  clear h hn
  go_enter Try.func16, Try.ntmps16
  go_wp2_with (first
    | (
       go_at_call 26; refine hM.mono ?_; rintro e w' ⟨rfl, hw⟩; subst w'; clear hM))
  go_ret
  exact ⟨rfl, rfl⟩

theorem prop_full (h : NdAt w B g st) (x : Option Addr) (n c : Nat) (hn : n ≤ 4096) (hw : 256 ≤ st.wait.length) : Calls Try.prog 16 #[.pointer (some ⟨g.p, 0, none⟩), .slice x n c] w fun e w' => e = .returned (.int .i64 2) ∧ w' = w := by
  have hM := made_yes h
  have c5 := h.c5
  obtain ⟨y, cy, e, _⟩ := h.rw_
  rw [e] at c5
  have i1 : (n : Int) ≤ 4096 := by omega
  have i2 : (256 : Int) ≤ (st.wait.length : Int) := by omega
  clear h e hw
  generalize st.wait.length = m at *
  go_enter Try.func16, Try.ntmps16
  go_wp2_with (first
    | (
       go_at_call 26; refine hM.mono ?_; rintro e w' ⟨rfl, hw⟩; subst w'; clear hM))
  go_ret
  exact ⟨rfl, rfl⟩

def proposed (st : Nd) (v : ByteArray) : Nd := { st with ser := st.ser + 1, wait := st.wait ++ [⟨st.id, st.ser + 1, v⟩] }

set_option maxHeartbeats 3200000 in
theorem prop_yes (h : NdAt w B g st) (x : Option Addr) (n c : Nat) (l : List Nat) (hl : Fl.Sl w x n c l) (hx : n ≠ 0 → ∀ a, x = some a → ¬ fp g a.block) (hn : n ≤ 4096) (hw : st.wait.length < 256) (hser : st.ser < 1000000000000) (hid_ : st.id < 7) :
    Calls Try.prog 16 #[.pointer (some ⟨g.p, 0, none⟩), .slice x n c] w fun e w' => e = .returned (.int .i64 0) ∧ Hid (Goes w w' B g (proposed st (str l)) 0) := by
  have hM := made_yes h
  have c5 := h.c5
  have c4 := h.c4
  have f4 := h.fz 4
  obtain ⟨y, cy, e, hmc⟩ := h.rw_
  have i1 : (n : Int) ≤ 4096 := by omega
  have i2 : ¬ (256 : Int) ≤ (st.wait.length : Int) := by omega
  obtain ⟨k1, t1⟩ := h.put 4 (.int .i64 ((st.ser + 1 : Nat) : Int)) { st with ser := st.ser + 1 } (fun j hj => by rcases j with _ | _ | _ | _ | _ | _ | _ | _ | j <;> first | rfl | omega) rfl rfl rfl rfl
  have t1' : Turns (fp g) w (w.setCell ⟨g.p, 4, none⟩ (.int .i64 ((st.ser + 1 : Nat) : Int))) := t1.weak fun k hk => .inl hk
  have hl1 : Fl.Sl (w.setCell ⟨g.p, 4, none⟩ (.int .i64 ((st.ser + 1 : Nat) : Int))) x n c l := hl.turns t1 (fun hn0 a ha e2 => hx hn0 a ha (.inl e2))
  have i3 : (st.ser : Int) + 1 = ((st.ser + 1 : Nat) : Int) := by omega
  have wz : IntKind.i64.wrap ((st.ser + 1 : Nat) : Int) = ((st.ser + 1 : Nat) : Int) := wrap_i64 (by omega) (by omega)
  have hD : Below (w.setCell ⟨g.p, 4, none⟩ (.int .i64 ((st.ser + 1 : Nat) : Int))).heap.size (w.setCell ⟨g.p, 4, none⟩ (.int .i64 ((st.ser + 1 : Nat) : Int))) (w.setCell ⟨g.p, 4, none⟩ (.int .i64 ((st.ser + 1 : Nat) : Int))).drew := (Below.refl _ _).drew
  have k2 := k1.below hD
  have hl2 := hl1.below hD
  have hsz : (str l).size ≤ 4096 := by rw [str_size, hl.len]; exact hn
  have HU : Hid (∃ x' c' w3, (Builtin.append_ #[59, 59] 59 #[g.Rw, .slice (some ⟨(w.setCell ⟨g.p, 4, none⟩ (.int .i64 ((st.ser + 1 : Nat) : Int))).drew.heap.size, 0, none⟩) 1 1]).run Try.prog ((w.setCell ⟨g.p, 4, none⟩ (.int .i64 ((st.ser + 1 : Nat) : Int))).drew.alloc (.cells #[.int .i64 (st.id : Int), .int .i64 ((st.ser + 1 : Nat) : Int), .string (str l)] 68)) = .ok (.slice x' (st.wait.length + 1) c') w3 ∧
      w3.cell? ⟨g.p, 5, none⟩ = some g.Rw ∧ w3.frozen? ⟨g.p, 5, none⟩ = false ∧ w3.cell? ⟨g.p, 0, none⟩ = some (.int .i64 st.id) ∧ w3.cell? ⟨g.p, 4, none⟩ = some (.int .i64 ((st.ser + 1 : Nat) : Int)) ∧ (convert 35 9 (.slice x n c)).run Try.prog w3 = .ok (.string (str l)) w3 ∧ Hid (Goes w (w3.setCell ⟨g.p, 5, none⟩ (.slice x' (st.wait.length + 1) c')) B g (proposed st (str l)) 0)) := by
    obtain ⟨x', c', w3, hap, HP⟩ := push_dc k2.wait (Nat.le_trans (k2.low _ (.inl rfl)) (Nat.le_of_lt k2.obj.lt)) ⟨st.id, st.ser + 1, str l⟩ (by have : st.wait.length < 256 := hw; show st.wait.length ≤ 90000; omega)
    have b3 := k2.obj_keep HP.out.2.1 (fun e => k2.pw e)
    have hs3 : Fl.Sl w3 x n c l := hl2.turns HP.out.2.1 (fun hn0 a ha e2 => hx hn0 a ha (.inr (.inr (.inr (.inl e2)))))
    refine ⟨x', c', w3, hap, b3.cell (k := 5) (by omega), b3.frozen 5, b3.cell (k := 0) (by omega), b3.cell (k := 4) (by omega), conv_sl hs3, ?_⟩
    have hG := k2.setW HP.out.2.1 _ _ HP.out.1 HP.out.2.2 (by simp; omega) (fun d hd => by
      rcases List.mem_append.1 hd with q | q
      · exact k2.wok d q
      · simp at q
        subst q
        exact ⟨by show st.id < _; omega, by show st.ser + 1 < _; omega, hsz⟩)
    exact Goes.trans (g1 := g) (k1 := 0) (k2 := 0) rfl (t1'.trans (Turns.of_below hD)) (Nat.le_refl _) (fun k hk => .inl hk) hG
  have s5 : (w.setCell ⟨g.p, 4, none⟩ (.int .i64 ((st.ser + 1 : Nat) : Int))).drew.cell? ⟨g.p, 5, none⟩ = some g.Rw := k2.c5
  have s0 : (w.setCell ⟨g.p, 4, none⟩ (.int .i64 ((st.ser + 1 : Nat) : Int))).drew.cell? ⟨g.p, 0, none⟩ = some (.int .i64 st.id) := k2.c0
  have s4 : (w.setCell ⟨g.p, 4, none⟩ (.int .i64 ((st.ser + 1 : Nat) : Int))).drew.cell? ⟨g.p, 4, none⟩ = some (.int .i64 ((st.ser + 1 : Nat) : Int)) := k2.c4
  have sc := conv_sl hl2
  have sc2 := fun o => conv_sl (hl2.below (al _ o))
  have hpl : g.p < (w.setCell ⟨g.p, 4, none⟩ (.int .i64 ((st.ser + 1 : Nat) : Int))).drew.heap.size := k2.obj.lt
  clear h hl hx hn hw hser hid_ k1 t1 t1' hl1 hD k2 hl2 hsz
  rw [e] at HU c5 s5
  clear e
  generalize ((st.ser + 1 : Nat) : Int) = z at *
  generalize st.wait.length = m at *
  generalize proposed st (str l) = st2 at *
  generalize st.ser = sr at *
  generalize str l = sl at *
  go_enter Try.func16, Try.ntmps16
  go_wp2_with (first
    | (
       go_at_call 26; refine hM.mono ?_; rintro e w' ⟨rfl, hw⟩; subst w'; clear hM))
  obtain ⟨x', c', w3, hap, u5, v5, u0, u4, uc, HG⟩ := HU.out
  clear HU c4 c5 f4
  refine wp_region_last (fun v => v.cell? ⟨g.p, 5, none⟩ = some (.slice y m cy) ∧ v.cell? ⟨g.p, 0, none⟩ = some (.int .i64 st.id) ∧ v.cell? ⟨g.p, 4, none⟩ = some (.int .i64 z) ∧ (convert 35 9 (.slice x n c)).run Try.prog v = .ok (.string sl) v) 20 (by kernel_rfl) ⟨s5, s0, s4, sc⟩ (fun hS => ?_)
  generalize (w.setCell ⟨g.p, 4, none⟩ (.int .i64 z)).drew = wD at *
  refine wpAnyL_take (i := 0) (v := ?_) rfl (by kernel_rfl) (by kernel_rfl) (by kernel_rfl) (by kernel_rfl) (fun _ _ _ h => h) hS (Or.inl ⟨by rfl, ?_⟩) ?_
  case refine_2 => (intro w hSw; (try dsimp only at hSw); go_simp; (try with_reducible rfl))
  (try simp only [Act.put, List.setIfInBounds_toArray, List.set_cons_zero, List.set_cons_succ])
  refine wpAnyL_take (i := 1) (v := ?_) rfl (by kernel_rfl) (by kernel_rfl) (by kernel_rfl) (by kernel_rfl) (fun _ _ _ h => h) hS (Or.inl ⟨by rfl, ?_⟩) ?_
  case refine_2 => (intro w hSw; (try dsimp only at hSw); go_simp; (try with_reducible rfl))
  (try simp only [Act.put, List.setIfInBounds_toArray, List.set_cons_zero, List.set_cons_succ])
  refine wpAnyL_take (i := 2) (v := ?_) rfl (by kernel_rfl) (by kernel_rfl) (by kernel_rfl) (by kernel_rfl) (fun _ _ _ h => h) hS (Or.inl ⟨by rfl, ?_⟩) ?_
  case refine_2 => (intro w hSw; (try dsimp only at hSw); go_simp; (try with_reducible rfl))
  (try simp only [Act.put, List.setIfInBounds_toArray, List.set_cons_zero, List.set_cons_succ])
  refine wpAnyL_take (i := 3) (v := ?_) rfl (by kernel_rfl) (by kernel_rfl) (by kernel_rfl) (by kernel_rfl) (fun _ _ _ h => h) hS (Or.inl ⟨by rfl, ?_⟩) ?_
  case refine_2 => (intro w hSw; (try dsimp only at hSw); go_simp; (try with_reducible rfl))
  (try simp only [Act.put, List.setIfInBounds_toArray, List.set_cons_zero, List.set_cons_succ])
  refine wpAnyL_take (i := 4) (v := ?_) rfl (by kernel_rfl) (by kernel_rfl) (by kernel_rfl) (by kernel_rfl) (fun _ _ _ h => h) hS (Or.inl ⟨by rfl, ?_⟩) ?_
  case refine_2 => (intro w hSw; (try dsimp only at hSw); go_simp; (try with_reducible rfl))
  (try simp only [Act.put, List.setIfInBounds_toArray, List.set_cons_zero, List.set_cons_succ])
  refine wpAnyL_take (i := 5) (v := ?_) rfl (by kernel_rfl) (by kernel_rfl) (by kernel_rfl) (by kernel_rfl) (fun _ _ _ h => h) hS (Or.inl ⟨by rfl, ?_⟩) ?_
  case refine_2 => (intro w hSw; (try dsimp only at hSw); go_simp; (try with_reducible rfl))
  (try simp only [Act.put, List.setIfInBounds_toArray, List.set_cons_zero, List.set_cons_succ])
  refine wpAnyL_take (i := 6) (v := ?_) rfl (by kernel_rfl) (by kernel_rfl) (by kernel_rfl) (by kernel_rfl) (fun _ _ _ h => h) hS (Or.inl ⟨by rfl, ?_⟩) ?_
  case refine_2 => (intro w hSw; (try dsimp only at hSw); go_simp; (try with_reducible rfl))
  (try simp only [Act.put, List.setIfInBounds_toArray, List.set_cons_zero, List.set_cons_succ])
  refine wpAnyL_take (i := 7) (v := ?_) rfl (by kernel_rfl) (by kernel_rfl) (by kernel_rfl) (by kernel_rfl) (fun _ _ _ h => h) hS (Or.inl ⟨by rfl, ?_⟩) ?_
  case refine_2 => (intro w hSw; (try dsimp only at hSw); go_simp; (try with_reducible rfl))
  (try simp only [Act.put, List.setIfInBounds_toArray, List.set_cons_zero, List.set_cons_succ])
  refine wpAnyL_take (i := 8) (v := ?_) rfl (by kernel_rfl) (by kernel_rfl) (by kernel_rfl) (by kernel_rfl) (fun _ _ _ h => h) hS (Or.inl ⟨by rfl, ?_⟩) ?_
  case refine_2 => (intro w hSw; (try dsimp only at hSw); go_simp; (try with_reducible rfl))
  (try simp only [Act.put, List.setIfInBounds_toArray, List.set_cons_zero, List.set_cons_succ])
  refine wpAnyL_take (i := 9) (v := ?_) rfl (by kernel_rfl) (by kernel_rfl) (by kernel_rfl) (by kernel_rfl) (fun _ _ _ h => h) hS (Or.inl ⟨by rfl, ?_⟩) ?_
  case refine_2 => (intro w hSw; (try dsimp only at hSw); go_simp; (try with_reducible rfl))
  (try simp only [Act.put, List.setIfInBounds_toArray, List.set_cons_zero, List.set_cons_succ])
  refine wpAnyL_take (i := 10) (v := ?_) rfl (by kernel_rfl) (by kernel_rfl) (by kernel_rfl) (by kernel_rfl) (fun _ _ _ h => h) hS (Or.inl ⟨by rfl, ?_⟩) ?_
  case refine_2 => (intro w hSw; (try dsimp only at hSw); go_simp; (try with_reducible rfl))
  (try simp only [Act.put, List.setIfInBounds_toArray, List.set_cons_zero, List.set_cons_succ])
  refine wpAnyL_take (i := 11) (v := ?_) rfl (by kernel_rfl) (by kernel_rfl) (by kernel_rfl) (by kernel_rfl) (fun _ _ _ h => h) hS (Or.inl ⟨by rfl, ?_⟩) ?_
  case refine_2 => (intro w hSw; (try dsimp only at hSw); go_simp; (try with_reducible rfl))
  (try simp only [Act.put, List.setIfInBounds_toArray, List.set_cons_zero, List.set_cons_succ])
  refine wpAnyL_take (i := 12) (v := ?_) rfl (by kernel_rfl) (by kernel_rfl) (by kernel_rfl) (by kernel_rfl) (fun _ _ _ h => h) hS (Or.inl ⟨by rfl, ?_⟩) ?_
  case refine_2 => (intro w hSw; (try dsimp only at hSw); go_simp; (try with_reducible rfl))
  (try simp only [Act.put, List.setIfInBounds_toArray, List.set_cons_zero, List.set_cons_succ])
  refine wpAnyL_take (i := 13) (v := ?_) rfl (by kernel_rfl) (by kernel_rfl) (by kernel_rfl) (by kernel_rfl) (fun _ _ _ h => h) hS (Or.inl ⟨by rfl, ?_⟩) ?_
  case refine_2 => (intro w hSw; (try dsimp only at hSw); go_simp; (try with_reducible rfl))
  (try simp only [Act.put, List.setIfInBounds_toArray, List.set_cons_zero, List.set_cons_succ])
  refine wpAnyL_take (i := 14) (v := ?_) rfl (by kernel_rfl) (by kernel_rfl) (by kernel_rfl) (by kernel_rfl) (fun _ _ _ h => h) hS (Or.inl ⟨by rfl, ?_⟩) ?_
  case refine_2 => (intro w hSw; (try dsimp only at hSw); go_simp; (try with_reducible rfl))
  (try simp only [Act.put, List.setIfInBounds_toArray, List.set_cons_zero, List.set_cons_succ])
  refine wpAnyL_take (i := 15) (v := ?_) rfl (by kernel_rfl) (by kernel_rfl) (by kernel_rfl) (by kernel_rfl) (fun _ _ _ h => h) hS (Or.inl ⟨by rfl, ?_⟩) ?_
  case refine_2 => (intro w hSw; (try dsimp only at hSw); go_simp; (try with_reducible rfl))
  (try simp only [Act.put, List.setIfInBounds_toArray, List.set_cons_zero, List.set_cons_succ])
  refine wpAnyL_one (i := 16) (by kernel_rfl) rfl (fun K hK => ?_)
  go_simp
  refine hK.out _ _ (fun _ => ⟨keep (al _ _) s5, keep (al _ _) s0, keep (al _ _) s4, sc2 _⟩) ?_
  clear hK K
  refine wpAnyL_one (i := 17) (by kernel_rfl) rfl (fun K hK => ?_)
  refine ready_append rfl _ _ 59 rfl _ _ rfl rfl hap ?_
  (try simp only [Act.put, List.getElem_toArray, List.getElem_cons_succ, List.getElem_cons_zero, List.setIfInBounds_toArray, List.set_cons_zero, List.set_cons_succ])
  refine hK.out _ _ (fun _ => ⟨u5, u0, u4, uc⟩) ?_
  clear hK K
  refine wpAnyL_one (i := 18) (by kernel_rfl) rfl (fun K hK => ?_)
  go_simp
  refine hK.out _ _ (fun _ => ⟨u5, u0, u4, uc⟩) ?_
  clear hK K
  refine wpAnyL_one (i := 19) (by kernel_rfl) rfl (fun K hK => ?_)
  go_simp
  refine hK.out _ _ (fun _ => ⟨u5, u0, u4, uc⟩) ?_
  clear hK K
  refine wpAnyL_one (i := 20) (by kernel_rfl) rfl (fun K hK => ?_)
  go_simp
  refine hK.out _ _ (fun h => absurd rfl h) ?_
  clear hK K
  refine wpAnyL_done (by kernel_rfl) ?_ _
  go_wp2_with fail
  go_ret
  exact ⟨rfl, HG.out⟩

end

end Go.Proofs.Ytdbahebhodoooaa.Px

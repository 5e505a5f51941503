/-
  7 texts of this proof, one behind the other: PxStates, AtPlain, AtMem, AtQuiet, PxAsk3, PxMail2, PxAsk4.
-/
import Derived.Test.YtfgfjfemaniaiaaJ01
import Derived.Test.YtfgfjfemaniaiaaJ11
import Derived.Test.YtfgfjfemaniaiaaJ02
import Derived.Laws.StructEq
import Derived.BigQuiet
import Derived.Test.YtfgfjfemaniaiaaJ15
import Derived.Test.YtfgfjfemaniaiaaJ12
/-
  What all monitors promised and accepted, as far as it is known: states.
  Conditions: the monitor is one that New gave ('NdAt'), with a bid.
-/
namespace Go.Proofs.Ytfgfjfemaniaiaa.Px
open Go.RowKit Wi By Fl Ba
set_option linter.unusedVariables false
set_option linter.unusedSimpArgs false
set_option maxRecDepth 100000

def stA (st : Nd) (b : Bd) (i : Nat) : Ac := if i = st.id then st.acc b.num else b.told i

structure StL (w wr : World) (n k : Nat) (told : Nat → Ac) (V : Nat → AccV) : Prop where
  t : Turns (atB w.heap.size) w wr
  arr : Arr wr w.heap.size 74 n (fun i => accC (V i))
  ok : ∀ i, i < n → AvOk wr (V i) ∧ acOf (V i) = if i < k then told i else noAc

theorem acc_not_u8 {w : World} {g : Nat} (h : Tb w g 74) : ∀ i, atB g i → ¬ Tb w i 5 := fun i hi t => by
  have e : i = g := hi
  subst e
  have := t.same h
  revert this
  decide

theorem StL.step {w wr : World} {n k : Nat} {told : Nat → Ac} {V : Nat → AccV} (h : StL w wr n k told V) (hk : k < n) (v : AccV) (hv : AvOk wr v) (he : told k = acOf v) :
    StL w (w5 wr w.heap.size (k * 5) (.int .i64 v.p.1) (.int .i64 v.p.2) (.int .i64 v.a.1) (.int .i64 v.a.2) (.slice v.x v.n v.c)) n (k + 1) told (up V k v) := by
  have t5 := w5_turns wr w.heap.size (k * 5) (.int .i64 v.p.1) (.int .i64 v.p.2) (.int .i64 v.a.1) (.int .i64 v.a.2) (.slice v.x v.n v.c)
  have hu := acc_not_u8 h.arr.tb
  refine ⟨h.t.trans t5, ?_, fun i hi => ?_⟩
  · refine (w5_arr h.arr k hk (accC v) _ _ _ _ _ rfl rfl rfl rfl rfl).congr (fun i j _ _ => ?_)
    unfold up
    by_cases e : i = k <;> simp [e]
  · by_cases e : i = k
    · subst e
      rw [up_same, if_pos (by omega)]
      exact ⟨hv.turns t5 hu, he.symm⟩
    · rw [up_other _ _ e]
      refine ⟨(h.ok i hi).1.turns t5 hu, ?_⟩
      rw [(h.ok i hi).2]
      by_cases e2 : i < k
      · rw [if_pos e2, if_pos (by omega)]
      · rw [if_neg e2, if_neg (by omega)]

theorem arr_accs {w : World} {g n : Nat} {V : Nat → AccV} (h : Arr w g 74 n (fun i => accC (V i))) (hn : n ≤ 1000) (hv : ∀ i, i < n → AvOk w (V i)) : Accs w (some ⟨g, 0, none⟩) n V := by
  refine ⟨.inr ⟨g, 0, rfl, h.tb.lt, fun i hi => ?_⟩, fun i hi => ⟨(hv i hi).sv.sl, by have := (hv i hi).sv.sm; omega⟩, fun i hi => (hv i hi).a, hn⟩
  rw [Nat.zero_add]
  exact ⟨h.cell i 0 hi (by omega), h.cell i 1 hi (by omega), h.cell i 2 hi (by omega), h.cell i 3 hi (by omega), h.cell i 4 hi (by omega)⟩

section
variable {w : World} {B : Nat} {g : Ln} {st : Nd}

set_option maxHeartbeats 3200000 in
theorem states_any (h : NdAt w B g st) (b : Bd) (hb : st.bid = some b) (hn : st.n ≤ 7) (hid_ : st.id < st.n) (hnum : b.num < 4294967296) :
    Calls Try.prog 71 #[.pointer (some ⟨g.p, 0, none⟩)] w fun e w' => ∃ (V : Nat → AccV), e = .returned (.slice (some ⟨w.heap.size, 0, none⟩) st.n st.n) ∧ Hid (Below w.heap.size w w' ∧ Accs w' (some ⟨w.heap.size, 0, none⟩) st.n V ∧ ∀ i, i < st.n → AvOk w' (V i) ∧ acOf (V i) = stA st b i) := by
  rcases h.bid with ⟨_, q⟩ | ⟨l, b', q1, q2, q3, q4⟩
  · rw [hb] at q
    cases q
  rw [hb] at q2
  injection q2 with q2
  subst q2
  have hpl := h.obj.lt
  have hbl := q3.obj.lt
  have hml := h.acc.lt
  have htl := q3.told.lt
  have c1 := h.c1
  have c0 := h.c0
  have c3 := h.c3
  have c6 : w.cell? ⟨g.p, 6, none⟩ = some (.pointer (some ⟨l.bp, 0, none⟩)) := by rw [h.c6, q1]; rfl
  have d0 : w.cell? ⟨l.bp, 0, none⟩ = some (.int .i64 b.num) := q3.obj.cell (k := 0) (by omega)
  have d4 : w.cell? ⟨l.bp, 4, none⟩ = some (.map (some l.tb)) := q3.obj.cell (k := 4) (by omega)
  have hmk := make_acc st.n hn w
  have HT : Hid (ApAt w l.tb l.tn l.tD b.told ∧ ApAt w g.mb g.nb g.D st.acc) := ⟨q3.told, h.acc⟩
  have HS : Hid (∀ i, stA st b i = if i = st.id then st.acc b.num else b.told i) := fun i => rfl
  have H0 : Hid (StL w (w.alloc (.cells (madeCells accZ (st.n * 5)) 74)) st.n 0 b.told (fun _ => noAv)) := by
    refine ⟨(Turns.refl _ w).alloc _, (arr_new w _ accZ rfl st.n).congr (fun k j _ hj => ?_), fun i hi => ⟨noAv_ok _, rfl⟩⟩
    match j, hj with
    | 0, _ => rfl
    | 1, _ => rfl
    | 2, _ => rfl
    | 3, _ => rfl
    | 4, _ => rfl
  have nI : (st.n : Int) ≤ 7 := by omega
  have idI : (st.id : Int) < (st.n : Int) := by omega
  have Hn : Hid (st.n ≤ 7 ∧ st.id < st.n ∧ b.num < 4294967296) := ⟨hn, hid_, hnum⟩
  clear h hb q1 q3 hn hid_ hnum q4
  generalize stA st b = SA at *
  generalize b.told = told at *
  generalize b.num = num at *
  generalize st.acc = acc at *
  generalize st.n = n at *
  generalize st.id = id at *
  go_enter Try.func71, Try.ntmps71
  go_wp2_with fail
  go_loopw [12, 4] (fun i _ wr => ∃ (k : Nat) (V : Nat → AccV), k ≤ n ∧ i = .int .i64 k ∧ Hid (StL w wr n k told V)) (fun i _ _ => n - (intOf i).toNat)
  case atStart => exact ⟨0, _, by omega, rfl, H0.out⟩
  case round =>
    clear H0
    obtain ⟨k, V, hk, rfl, HR⟩ := hrel
    have T := HR.out.t
    have p6 := keept T (fun e => by have e2 : g.p = w.heap.size := e; omega) c6
    have e4 := keept T (fun e => by have e2 : l.bp = w.heap.size := e; omega) d4
    by_cases hlt : k < n
    · have hkn : (k : Int) < (n : Int) := by omega
      obtain ⟨v, v1, v2, v3⟩ := HT.out.1.lookAll k (by have := Hn.out.1; omega)
      have hlk := v3 wr (T.block _ htl (fun e => by have e2 : l.tb = w.heap.size := e; omega))
      have a0 := HR.out.arr.cell k 0 hlt (by omega)
      have a1 := HR.out.arr.cell k 1 hlt (by omega)
      have a2 := HR.out.arr.cell k 2 hlt (by omega)
      have a3 := HR.out.arr.cell k 3 hlt (by omega)
      have a4 := HR.out.arr.cell k 4 hlt (by omega)
      rw [Nat.add_zero] at a0
      have fz := HR.out.arr.frz
      have g0 := fz (k * 5)
      have g1 := fz (k * 5 + 1)
      have g2 := fz (k * 5 + 2)
      have g3 := fz (k * 5 + 3)
      have g4 := fz (k * 5 + 4)
      have HN : Hid (StL w (w5 wr w.heap.size (k * 5) (.int .i64 v.p.1) (.int .i64 v.p.2) (.int .i64 v.a.1) (.int .i64 v.a.2) (.slice v.x v.n v.c)) n (k + 1) told (up V k v)) := by
        refine HR.out.step hlt v (v1.turns T (fun i hi t => ?_)) v2
        have e2 : i = w.heap.size := hi
        have := t.lt
        omega
      unfold w5 at HN
      dsimp only [av, ac] at hlk
      clear HR v1 v2 v3 fz T c0 c1 c3 c6 d0 d4 hmk HT
      generalize accC (V k) 0 = o0 at *
      generalize accC (V k) 1 = o1 at *
      generalize accC (V k) 2 = o2 at *
      generalize accC (V k) 3 = o3 at *
      generalize accC (V k) 4 = o4 at *
      generalize v.p.1 = u0 at *
      generalize v.p.2 = u1 at *
      generalize v.a.1 = u2 at *
      generalize v.a.2 = u3 at *
      generalize v.x = ux at *
      generalize v.n = un at *
      generalize v.c = uc at *
      go_wp2_with fail
      go_roundw
      case rel => exact ⟨k + 1, _, by omega, by go_num, HN.out⟩
      case measure => simp [intOf]; omega
    · obtain rfl : k = n := by omega
      have bD : Below wr.heap.size wr wr.drew := (Below.refl _ _).drew
      have T2 := T.trans (Turns.of_below bD)
      have s0 := keept T2 (fun e => by have e2 : g.p = w.heap.size := e; omega) c0
      have s3 := keept T2 (fun e => by have e2 : g.p = w.heap.size := e; omega) c3
      have s6 := keept T2 (fun e => by have e2 : g.p = w.heap.size := e; omega) c6
      have s7 := keept T2 (fun e => by have e2 : l.bp = w.heap.size := e; omega) d0
      obtain ⟨v, v1, v2, v3⟩ := HT.out.2.lookAll num Hn.out.2.2
      have hlk := v3 wr.drew (T2.block _ hml (fun e => by have e2 : g.mb = w.heap.size := e; omega))
      have hA := HR.out.arr.below bD
      have hidn := Hn.out.2.1
      have a0 := hA.cell id 0 hidn (by omega)
      have a1 := hA.cell id 1 hidn (by omega)
      have a2 := hA.cell id 2 hidn (by omega)
      have a3 := hA.cell id 3 hidn (by omega)
      have a4 := hA.cell id 4 hidn (by omega)
      rw [Nat.add_zero] at a0
      have g0 := hA.frz (id * 5)
      have g1 := hA.frz (id * 5 + 1)
      have g2 := hA.frz (id * 5 + 2)
      have g3 := hA.frz (id * 5 + 3)
      have g4 := hA.frz (id * 5 + 4)
      have t5 := w5_turns wr.drew w.heap.size (id * 5) (.int .i64 v.p.1) (.int .i64 v.p.2) (.int .i64 v.a.1) (.int .i64 v.a.2) (.slice v.x v.n v.c)
      have n0 := keept t5 (fun e => by have e2 : g.p = w.heap.size := e; omega) s0
      have n3 := keept t5 (fun e => by have e2 : g.p = w.heap.size := e; omega) s3
      have n6 := keept t5 (fun e => by have e2 : g.p = w.heap.size := e; omega) s6
      have n7 := keept t5 (fun e => by have e2 : l.bp = w.heap.size := e; omega) s7
      have n8 := v3 _ ((t5.block _ (by have := T2.size; omega) (fun e => by have e2 : g.mb = w.heap.size := e; omega)).trans (T2.block _ hml (fun e => by have e2 : g.mb = w.heap.size := e; omega)))
      have HN : Hid (Below w.heap.size w (w5 wr.drew w.heap.size (id * 5) (.int .i64 v.p.1) (.int .i64 v.p.2) (.int .i64 v.a.1) (.int .i64 v.a.2) (.slice v.x v.n v.c)) ∧ Accs (w5 wr.drew w.heap.size (id * 5) (.int .i64 v.p.1) (.int .i64 v.p.2) (.int .i64 v.a.1) (.int .i64 v.a.2) (.slice v.x v.n v.c)) (some ⟨w.heap.size, 0, none⟩) k (up V id v) ∧ ∀ i, i < k → AvOk (w5 wr.drew w.heap.size (id * 5) (.int .i64 v.p.1) (.int .i64 v.p.2) (.int .i64 v.a.1) (.int .i64 v.a.2) (.slice v.x v.n v.c)) (up V id v i) ∧ acOf (up V id v i) = SA i) := by
        have hu := acc_not_u8 hA.tb
        have hok : ∀ i, i < k → AvOk (w5 wr.drew w.heap.size (id * 5) (.int .i64 v.p.1) (.int .i64 v.p.2) (.int .i64 v.a.1) (.int .i64 v.a.2) (.slice v.x v.n v.c)) (up V id v i) ∧ acOf (up V id v i) = SA i := fun i hi => by
          rw [HS.out i]
          by_cases e : i = id
          · subst e
            rw [up_same, if_pos rfl]
            exact ⟨(v1.turns T2 (fun j hj t => by have e2 : j = w.heap.size := hj; have := t.lt; omega)).turns t5 hu, v2.symm⟩
          · rw [up_other _ _ e, if_neg e]
            refine ⟨((HR.out.ok i hi).1.turns (Turns.of_below (F := fun _ => False) bD) (fun _ h => h.elim)).turns t5 hu, ?_⟩
            rw [(HR.out.ok i hi).2, if_pos hi]
        refine ⟨(T2.trans t5).below (fun j hj => by have e2 : j = w.heap.size := hj; omega) (Nat.le_refl _), arr_accs ((w5_arr hA id hidn (accC v) _ _ _ _ _ rfl rfl rfl rfl rfl).congr (fun i j _ _ => ?_)) (by have := Hn.out.1; omega) (fun i hi => (hok i hi).1), hok⟩
        unfold up
        by_cases e : i = id <;> simp [e]
      have pne : g.p ≠ w.heap.size := by omega
      have bne : l.bp ≠ w.heap.size := by omega
      unfold w5 at HN n0 n3 n6 n7 n8
      dsimp only [av, ac] at hlk n8
      clear HR v1 v2 v3 hA t5 T T2 c0 c1 c3 c6 d0 d4 hmk HT p6 e4 HS
      generalize accC (V id) 0 = o0 at *
      generalize accC (V id) 1 = o1 at *
      generalize accC (V id) 2 = o2 at *
      generalize accC (V id) 3 = o3 at *
      generalize accC (V id) 4 = o4 at *
      generalize v.p.1 = u0 at *
      generalize v.p.2 = u1 at *
      generalize v.a.1 = u2 at *
      generalize v.a.2 = u3 at *
      generalize v.x = ux at *
      generalize v.n = un at *
      generalize v.c = uc at *
      go_wp2_with fail
      refine wp_region_held_drew (S := fun q => q.cell? ⟨g.p, 0, none⟩ = some (.int .i64 id) ∧ q.cell? ⟨g.p, 3, none⟩ = some (.map (some g.mb)) ∧ q.cell? ⟨g.p, 6, none⟩ = some (.pointer (some ⟨l.bp, 0, none⟩)) ∧ q.cell? ⟨l.bp, 0, none⟩ = some (.int .i64 num) ∧ (Instr.lookup 60 (.map (some g.mb)) (.int .i64 (num : Int)) false).run Try.prog q = .ok (.agg #[.int .i64 u0, .int .i64 u1, .int .i64 u2, .int .i64 u3, .slice ux un uc]) q) (by kernel_rfl) ⟨s0, s3, s6, s7, hlk⟩ (fun hHeld => ?_)
      generalize wr.drew = wD at *
      refine By.hk 0 ?_
      refine By.hk 1 ?_
      refine By.hk 2 ?_
      refine By.hk 3 ?_
      refine By.hk 4 ?_
      refine By.hk 5 ?_
      refine By.hk 6 ?_
      refine By.hk 7 ?_
      refine By.hk 8 ?_
      refine By.hk 9 ?_
      refine By.hk 10 ?_
      refine By.hk 11 ?_
      refine By.hk 12 ?_
      refine By.hk 13 ?_
      refine By.hk 14 ?_
      refine By.hk 15 ?_
      refine By.hk 16 ?_
      refine By.hk 17 ?_
      refine wpAnyH_ready (rs := [18]) (by kernel_rfl) (by simp) ?_
      refine AllReadyH.cons rfl (fun K hK => ?_) AllReadyH.nil
      go_simp
      refine hK.out _ _ ⟨n0, n3, n6, n7, n8⟩ (fun hHeld => ?_)
      clear hK K
      refine wpAnyH_done (by kernel_rfl) ?_ _
      go_wp2_with fail
      go_ret
      exact ⟨_, rfl, HN.out⟩

end

end Go.Proofs.Ytfgfjfemaniaiaa.Px

/-
  Package atlas plainly: pools, OSDs, maps and changes that may be, what a change makes of a map.
  Conditions: none.
-/
namespace Go.Proofs.Ytfgfjfemaniaiaa.At
open Go.RowKit By Fl
set_option linter.unusedVariables false
set_option linter.unusedSimpArgs false
set_option maxRecDepth 100000

structure Osd where
  id : Int
  up : Bool
  inn : Bool
  wt : Int
  life : Int
  boot : Int
  host : Int
  rack : Int

structure Pool where
  k : Int
  m : Int
  pgs : Int
  dom : Int

structure Mp where
  ep : Int
  pool : Pool
  osds : List Osd

structure Ch where
  kind : Int
  osd : Osd

def eqO (a b : Osd) : Bool := decide (a.id = b.id) && (a.up == b.up) && (a.inn == b.inn) && decide (a.wt = b.wt) && decide (a.life = b.life) && decide (a.boot = b.boot) && decide (a.host = b.host) && decide (a.rack = b.rack)
def eqP (a b : Pool) : Bool := decide (a.k = b.k) && decide (a.m = b.m) && decide (a.pgs = b.pgs) && decide (a.dom = b.dom)
def eqC (a b : Ch) : Bool := decide (a.kind = b.kind) && eqO a.osd b.osd

theorem eqO_iff (a b : Osd) : eqO a b = true ↔ a = b := by
  cases a; cases b
  simp [eqO, and_assoc]
theorem eqP_iff (a b : Pool) : eqP a b = true ↔ a = b := by
  cases a; cases b
  simp [eqP, and_assoc]
theorem eqC_iff (a b : Ch) : eqC a b = true ↔ a = b := by
  cases a; cases b
  simp [eqC, eqO_iff]

def eqL : List Osd → List Osd → Bool
  | [], [] => true
  | a :: l, b :: r => eqO a b && eqL l r
  | _, _ => false

theorem eqL_iff : ∀ a b : List Osd, eqL a b = true ↔ a = b
  | [], [] => by simp [eqL]
  | [], b :: r => by simp [eqL]
  | a :: l, [] => by simp [eqL]
  | a :: l, b :: r => by simp [eqL, eqO_iff, eqL_iff l r]

def eqM (a b : Mp) : Bool := decide (a.ep = b.ep) && eqP a.pool b.pool && eqL a.osds b.osds

theorem eqM_iff (a b : Mp) : eqM a b = true ↔ a = b := by
  cases a; cases b
  simp [eqM, eqP_iff, eqL_iff, and_assoc]

def wi (n a b : Int) : Bool := decide (a ≤ n) && decide (n ≤ b)
def poolB (p : Pool) : Bool := decide (1 ≤ p.k) && wi p.m 1 (32 - p.k) && wi p.pgs 1 32 && wi p.dom 0 2
def least (u : Bool) : Int := if u then 1 else 0
def osdB (o : Osd) : Bool := wi o.id 0 999 && wi o.host 0 999 && wi o.rack 0 999 && wi o.wt 0 16777216 && wi o.life (least o.up) 2147483647 && wi o.boot (least o.up) 2147483647
def mvB (o x : Osd) : Bool := decide (x.host = o.host) && !decide (x.rack = o.rack)
def movedB (L : List Osd) (o : Osd) : Bool := L.any (mvB o)
def lowB (a b : Osd) : Bool := decide (b.id < a.id) && !mvB a b
def goodB (L : List Osd) : Bool := (List.range L.length).all fun i => match L[i]? with | some a => osdB a && (L.take i).all (lowB a) | none => true
def osdsB (L : List Osd) : Bool := decide (L.length ≤ 64) && goodB L
def mayM (m : Mp) : Bool := wi m.ep 0 1048576 && poolB m.pool && osdsB m.osds

def noO (id : Int) : Osd := ⟨id, false, false, 0, 0, 0, 0, 0⟩
def noP : Pool := ⟨0, 0, 0, 0⟩
def noM : Mp := ⟨0, noP, []⟩
def noC : Ch := ⟨0, noO 0⟩

def upB (o : Osd) : Bool := eqO o ⟨o.id, false, false, 0, o.life, o.boot, 0, 0⟩ && (wi o.id 0 999 && wi o.life 1 2147483647 && wi o.boot 1 2147483647)
def idB (o : Osd) : Bool := eqO o (noO o.id) && wi o.id 0 999
def wtB (o : Osd) : Bool := eqO o ⟨o.id, false, false, o.wt, 0, 0, 0, 0⟩ && (wi o.id 0 999 && wi o.wt 0 16777216)
def mayK (k : Int) (o : Osd) : Bool := if k = 1 then osdB o else if k = 2 then upB o else if k = 6 then wtB o else idB o
def mayC (c : Ch) : Bool := wi c.kind 1 6 && mayK c.kind c.osd

def isId (id : Int) (x : Osd) : Bool := decide (x.id = id)
def overId (id : Int) (x : Osd) : Bool := decide (id < x.id)
def idx (p : Osd → Bool) (L : List Osd) : Int := match L.findIdx? p with | some k => (k : Int) | none => -1
def ins (o : Osd) (L : List Osd) : List Osd := match L.findIdx? (overId o.id) with | some k => L.take k ++ o :: L.drop k | none => L ++ [o]

def setUp (o x : Osd) : Osd := ⟨x.id, true, x.inn, x.wt, o.life, o.boot, x.host, x.rack⟩
def setDown (o x : Osd) : Osd := ⟨x.id, false, x.inn, x.wt, x.life, x.boot, x.host, x.rack⟩
def setIn (o x : Osd) : Osd := ⟨x.id, x.up, true, x.wt, x.life, x.boot, x.host, x.rack⟩
def setOut (o x : Osd) : Osd := ⟨x.id, x.up, false, x.wt, x.life, x.boot, x.host, x.rack⟩
def setWt (o x : Osd) : Osd := ⟨x.id, x.up, x.inn, o.wt, x.life, x.boot, x.host, x.rack⟩
def byK (k : Int) (o x : Osd) : Osd := if k = 2 then setUp o x else if k = 3 then setDown o x else if k = 4 then setIn o x else if k = 5 then setOut o x else setWt o x

def turnP (L : List Osd) (id : Int) (f : Osd → Osd) : Int × List Osd :=
  match L.findIdx? (isId id) with
  | none => (4, L)
  | some k => match L[k]? with
    | none => (4, L)
    | some x => if eqO (f x) x then (6, L) else (0, L.set k (f x))

def addP (L : List Osd) (o : Osd) : Int × List Osd :=
  if (L.findIdx? (isId o.id)).isSome then (6, L) else if 64 ≤ L.length then (2, L) else if movedB L o then (1, L) else (0, ins o L)

def doP (k : Int) (L : List Osd) (o : Osd) : Int × List Osd := if k = 1 then addP L o else turnP L o.id (byK k o)

def advP (m : Mp) (c : Ch) : Int × Mp :=
  if mayC c = false ∨ m.ep = 1048576 then (1, m) else if (doP c.kind m.osds c.osd).1 = 0 then (0, ⟨m.ep + 1, m.pool, (doP c.kind m.osds c.osd).2⟩) else ((doP c.kind m.osds c.osd).1, m)

def foldP (m : Mp) : List Ch → List Int × Mp
  | [] => ([], m)
  | c :: l => ((advP m c).1 :: (foldP (advP m c).2 l).1, (foldP (advP m c).2 l).2)

theorem foldP_snoc : ∀ (l : List Ch) (m : Mp) (c : Ch), foldP m (l ++ [c]) = ((foldP m l).1 ++ [(advP (foldP m l).2 c).1], (advP (foldP m l).2 c).2)
  | [], m, c => by simp [foldP]
  | d :: l, m, c => by simp [foldP, foldP_snoc l]

theorem foldP_len : ∀ (l : List Ch) (m : Mp), (foldP m l).1.length = l.length
  | [], m => by simp [foldP]
  | d :: l, m => by simp [foldP, foldP_len l]

/- What goodB says. -/
def Good (L : List Osd) : Prop := ∀ (i : Nat) (a : Osd), L[i]? = some a → osdB a = true ∧ ∀ (k : Nat) (b : Osd), k < i → L[k]? = some b → lowB a b = true

theorem goodB_iff (L : List Osd) : goodB L = true ↔ Good L := by
  unfold goodB Good
  rw [List.all_eq_true]
  constructor
  · intro h i a ha
    have hi := (List.getElem?_eq_some_iff.1 ha).1
    have := h i (List.mem_range.2 hi)
    rw [ha] at this
    simp only [Bool.and_eq_true, List.all_eq_true] at this
    refine ⟨this.1, fun k b hk hb => this.2 b ?_⟩
    have hkl := (List.getElem?_eq_some_iff.1 hb).1
    rw [List.mem_iff_getElem?]
    exact ⟨k, by rw [List.getElem?_take, if_pos hk]; exact hb⟩
  · intro h i hi
    rw [List.mem_range] at hi
    rw [List.getElem?_eq_getElem hi]
    obtain ⟨h1, h2⟩ := h i L[i] (List.getElem?_eq_getElem hi)
    simp only [Bool.and_eq_true, List.all_eq_true]
    refine ⟨h1, fun b hb => ?_⟩
    obtain ⟨k, hk⟩ := List.mem_iff_getElem?.1 hb
    rw [List.getElem?_take] at hk
    split at hk
    · rename_i hki
      exact h2 k b hki hk
    · cases hk

theorem goodB_false {L : List Osd} {i : Nat} {a : Osd} (ha : L[i]? = some a) (h : osdB a = false ∨ ∃ k b, k < i ∧ L[k]? = some b ∧ lowB a b = false) : goodB L = false := by
  cases hg : goodB L with
  | false => rfl
  | true =>
    obtain ⟨h1, h2⟩ := (goodB_iff L).1 hg i a ha
    rcases h with h | ⟨k, b, hk, hb, h⟩
    · rw [h1] at h; cases h
    · rw [h2 k b hk hb] at h; cases h

theorem wi_iff (n a b : Int) : wi n a b = true ↔ a ≤ n ∧ n ≤ b := by simp [wi]
theorem wi_false (n a b : Int) : wi n a b = false ↔ n < a ∨ b < n := by
  rw [← Bool.not_eq_true, wi_iff]
  omega

theorem lowB_iff (a b : Osd) : lowB a b = true ↔ b.id < a.id ∧ (b.host = a.host → b.rack = a.rack) := by
  simp only [lowB, mvB, Bool.and_eq_true, decide_eq_true_eq, Bool.not_eq_true', Bool.and_eq_false_iff, decide_eq_false_iff_not, Bool.not_eq_false']
  constructor
  · rintro ⟨h1, h2⟩
    exact ⟨h1, fun h => h2.resolve_left (fun k => k h)⟩
  · rintro ⟨h1, h2⟩
    refine ⟨h1, ?_⟩
    by_cases h : b.host = a.host
    · exact .inr (h2 h)
    · exact .inl h

theorem moved_iff (L : List Osd) (o : Osd) : movedB L o = true ↔ ∃ x ∈ L, x.host = o.host ∧ x.rack ≠ o.rack := by
  simp [movedB, mvB]
theorem moved_no (L : List Osd) (o : Osd) : movedB L o = false ↔ ∀ x ∈ L, x.host = o.host → x.rack = o.rack := by
  simp [movedB, mvB]

/- Where the first one is. -/
theorem idx_hit {p : Osd → Bool} {L : List Osd} {k : Nat} {a : Osd} (hk : L[k]? = some a) (ha : p a = true) (hj : ∀ (j : Nat) (b : Osd), j < k → L[j]? = some b → p b = false) : L.findIdx? p = some k := by
  obtain ⟨hlt, e⟩ := List.getElem?_eq_some_iff.1 hk
  rw [List.findIdx?_eq_some_iff_getElem]
  refine ⟨hlt, by rw [e]; exact ha, fun j hji => ?_⟩
  have := hj j L[j] hji (List.getElem?_eq_getElem _)
  simp [this]

theorem idx_miss {p : Osd → Bool} {L : List Osd} (h : ∀ (j : Nat) (b : Osd), L[j]? = some b → p b = false) : L.findIdx? p = none := by
  rw [List.findIdx?_eq_none_iff]
  intro x hx
  obtain ⟨k, hk⟩ := List.mem_iff_getElem?.1 hx
  exact h k x hk

theorem idx_some {p : Osd → Bool} {L : List Osd} {k : Nat} (h : L.findIdx? p = some k) : ∃ a, L[k]? = some a ∧ p a = true ∧ ∀ (j : Nat) (b : Osd), j < k → L[j]? = some b → p b = false := by
  rw [List.findIdx?_eq_some_iff_getElem] at h
  obtain ⟨hlt, ha, hj⟩ := h
  refine ⟨L[k], List.getElem?_eq_getElem hlt, ha, fun j b hjk hb => ?_⟩
  have := hj j hjk
  obtain ⟨hl, e⟩ := List.getElem?_eq_some_iff.1 hb
  rw [e] at this
  simpa using this

theorem idx_none {p : Osd → Bool} {L : List Osd} (h : L.findIdx? p = none) (j : Nat) (b : Osd) (hb : L[j]? = some b) : p b = false := by
  rw [List.findIdx?_eq_none_iff] at h
  exact h b (List.mem_of_getElem? hb)

end Go.Proofs.Ytfgfjfemaniaiaa.At

/-
  Pools, OSDs, maps and changes as they lie in memory; lists of OSDs that are read.
  Conditions: none.
-/
namespace Go.Proofs.Ytfgfjfemaniaiaa.At
open Go.RowKit By Fl
set_option linter.unusedVariables false
set_option linter.unusedSimpArgs false
set_option maxRecDepth 100000

def wfi (a : Int) : Prop := (Lit.int .i64 a).wf = true

theorem keep {w v : World} {b o : Nat} {x : Value} (hb : Below w.heap.size w v) (h : w.cell? ⟨b, o, none⟩ = some x) : v.cell? ⟨b, o, none⟩ = some x := (hb.cell (p := ⟨b, o, none⟩) (cell_lt' h)).trans h
theorem keepf {w v : World} {b o : Nat} (hb : Below w.heap.size w v) (hlt : b < w.heap.size) (h : w.frozen? ⟨b, o, none⟩ = false) : v.frozen? ⟨b, o, none⟩ = false := by
  rw [← h]
  exact World.frozen?_of_block (a := ⟨b, o, none⟩) (hb.block b hlt)
theorem on {a b c : World} (h : Below a.heap.size a b) (k : Below b.heap.size b c) : Below a.heap.size a c := h.trans (k.mono h.size)
theorem al (w : World) (o : Obj) : Below w.heap.size w (w.alloc o) := (Below.refl _ w).alloc (Nat.le_refl _) _

def enO (o : Osd) : List Value := [.int .i64 o.id, .bool o.up, .bool o.inn, .int .i64 o.wt, .int .i64 o.life, .int .i64 o.boot, .int .i64 o.host, .int .i64 o.rack]
def enP (p : Pool) : List Value := [.int .i64 p.k, .int .i64 p.m, .int .i64 p.pgs, .int .i64 p.dom]
def enC (c : Ch) : List Value := [.int .i64 c.kind, .int .i64 c.osd.id, .bool c.osd.up, .bool c.osd.inn, .int .i64 c.osd.wt, .int .i64 c.osd.life, .int .i64 c.osd.boot, .int .i64 c.osd.host, .int .i64 c.osd.rack]
def vO (o : Osd) : Value := .agg #[.int .i64 o.id, .bool o.up, .bool o.inn, .int .i64 o.wt, .int .i64 o.life, .int .i64 o.boot, .int .i64 o.host, .int .i64 o.rack]
def vP (p : Pool) : Value := .agg #[.int .i64 p.k, .int .i64 p.m, .int .i64 p.pgs, .int .i64 p.dom]
def vC (c : Ch) : Value := .agg #[.int .i64 c.kind, .int .i64 c.osd.id, .bool c.osd.up, .bool c.osd.inn, .int .i64 c.osd.wt, .int .i64 c.osd.life, .int .i64 c.osd.boot, .int .i64 c.osd.host, .int .i64 c.osd.rack]
def vM (ep : Int) (p : Pool) (x : Option Addr) (n c : Nat) : Value := .agg #[.int .i64 ep, .int .i64 p.k, .int .i64 p.m, .int .i64 p.pgs, .int .i64 p.dom, .slice x n c]

/- A list of OSDs that is read. -/
structure Os (w : World) (x : Option Addr) (n c : Nat) (L : List Osd) : Prop where
  len : L.length = n
  le : n ≤ c
  small : n ≤ 140737488351232
  nil : x = none → n = 0 ∧ c = 0
  row : n = 0 ∨ ∃ b o, x = some ⟨b, o, none⟩ ∧ b < w.heap.size ∧ ∀ (k : Nat) (a : Osd), L[k]? = some a → ∀ (j : Nat) (v : Value), (enO a)[j]? = some v → w.cell? ⟨b, o + k * 8 + j, none⟩ = some v

theorem Os.below {w w' : World} {x : Option Addr} {n c : Nat} {L : List Osd} (h : Os w x n c L) (hb : Below w.heap.size w w') : Os w' x n c L := by
  refine ⟨h.len, h.le, h.small, h.nil, ?_⟩
  rcases h.row with h0 | ⟨b, o, h1, h2, h3⟩
  · exact .inl h0
  · exact .inr ⟨b, o, h1, Nat.lt_of_lt_of_le h2 hb.size, fun k a hk j v hv => keep hb (h3 k a hk j v hv)⟩

theorem Os.turns {w w' : World} {G : Nat → Prop} {x : Option Addr} {n c : Nat} {L : List Osd} (h : Os w x n c L) (t : Turns G w w') (hx : n ≠ 0 → ∀ a, x = some a → ¬ G a.block) : Os w' x n c L := by
  refine ⟨h.len, h.le, h.small, h.nil, ?_⟩
  rcases h.row with h0 | ⟨b, o, h1, h2, h3⟩
  · exact .inl h0
  · by_cases h0 : n = 0
    · exact .inl h0
    · exact .inr ⟨b, o, h1, Nat.lt_of_lt_of_le h2 t.size, fun k a hk j v hv => (World.cell?_of_block (a := ⟨b, o + k * 8 + j, none⟩) (t.block b h2 (hx h0 _ h1))).trans (h3 k a hk j v hv)⟩

theorem Os.take {w : World} {x : Option Addr} {n c k : Nat} {L : List Osd} (h : Os w x n c L) (hk : k ≤ n) : Os w x k c (L.take k) := by
  have hl := h.len
  refine ⟨by rw [List.length_take]; omega, by have := h.le; omega, by have := h.small; omega, fun e => by have := h.nil e; omega, ?_⟩
  rcases h.row with h0 | ⟨b, o, h1, h2, h3⟩
  · exact .inl (by omega)
  · refine .inr ⟨b, o, h1, h2, fun q a hq j v hv => h3 q a ?_ j v hv⟩
    rw [List.getElem?_take] at hq
    split at hq
    · exact hq
    · cases hq

/- Its k-th one. -/
theorem Os.at {w : World} {b o n c k : Nat} {L : List Osd} {a : Osd} (h : ∀ (k : Nat) (a : Osd), L[k]? = some a → ∀ (j : Nat) (v : Value), (enO a)[j]? = some v → w.cell? ⟨b, o + k * 8 + j, none⟩ = some v) (hk : L[k]? = some a) :
    w.cell? ⟨b, o + k * 8, none⟩ = some (.int .i64 a.id) ∧ w.cell? ⟨b, o + k * 8 + 1, none⟩ = some (.bool a.up) ∧ w.cell? ⟨b, o + k * 8 + 2, none⟩ = some (.bool a.inn) ∧ w.cell? ⟨b, o + k * 8 + 3, none⟩ = some (.int .i64 a.wt) ∧
    w.cell? ⟨b, o + k * 8 + 4, none⟩ = some (.int .i64 a.life) ∧ w.cell? ⟨b, o + k * 8 + 5, none⟩ = some (.int .i64 a.boot) ∧ w.cell? ⟨b, o + k * 8 + 6, none⟩ = some (.int .i64 a.host) ∧ w.cell? ⟨b, o + k * 8 + 7, none⟩ = some (.int .i64 a.rack) :=
  ⟨h k a hk 0 _ rfl, h k a hk 1 _ rfl, h k a hk 2 _ rfl, h k a hk 3 _ rfl, h k a hk 4 _ rfl, h k a hk 5 _ rfl, h k a hk 6 _ rfl, h k a hk 7 _ rfl⟩

end Go.Proofs.Ytfgfjfemaniaiaa.At

/-
  A region that draws its order, whose operations only read, and whose callees read and lay blocks of their own: walked once.
  Conditions: none.
-/
namespace Go.Proofs.Ytfgfjfemaniaiaa.At
open Go.RowKit By Fl
set_option linter.unusedVariables false
set_option linter.unusedSimpArgs false
set_option maxRecDepth 100000

/- A world in which all that lay in w lies unturned. -/
structure After (w : World) where
  W : World
  h : Below w.heap.size w W

theorem After.ne (w : World) : Nonempty (After w) := ⟨⟨w, Below.refl _ _⟩⟩

theorem wp_region_after {P : Program} {id : Nat} {Q : Exit → Act → World → Prop} {a : Act} {w : World} {l : List Oper} (hm : P.follows .mixedOrders = true) (hB : Region.lexB .any l.toArray = true)
    (h : wpQuiet P l.toArray (fun w' => ∃ p : After w, w' = p.W) (fun a' => ∀ w', (∃ p : After w, w' = p.W) → Q .normal a' w') l a) : (Code.region id l.toArray true).wp P Q a w :=
  wp_region_quiet (C := fun w' => ∃ p : After w, w' = p.W) hm hB ⟨⟨w.drew, (Below.refl _ _).drew⟩, rfl⟩ (by simpa using h)

theorem Calls.after_of {P : Program} {f : FuncId} {args : Array Value} {w : World} {p : After w} {v : Value}
    (h : Calls P f args p.W fun e w' => e = .returned v ∧ Below p.W.heap.size p.W w') : Calls P f args p.W fun e w'' => e = .returned v ∧ ∃ q : After w, w'' = q.W :=
  h.mono fun _ w' ⟨he, hb⟩ => ⟨he, ⟨w', on p.h hb⟩, rfl⟩

theorem Calls.after_same {P : Program} {f : FuncId} {args : Array Value} {w : World} {p : After w} {v : Value}
    (h : Calls P f args p.W fun e w' => e = .returned v ∧ w' = p.W) : Calls P f args p.W fun e w'' => e = .returned v ∧ ∃ q : After w, w'' = q.W :=
  h.mono fun _ w' ⟨he, hb⟩ => ⟨he, p, hb⟩

theorem After.cell {w : World} {b o : Nat} {v : Value} (h : w.cell? ⟨b, o, none⟩ = some v) (p : After w) : p.W.cell? ⟨b, o, none⟩ = some v := keep p.h h

theorem results_cell1 {fn : Func} {p : Tmp} {ty : TypeId} (h : fn.results = #[.cell p ty]) (tmps : Array Value) (P : Program) (w : World) :
    (results fn tmps).run P w = ((asAddr (tmps.getD p undef)).run P w).andThen fun a w₁ => (loadVar ty a).run P w₁ := by
  simp only [results, h]
  simp [Sem.run_bind, Result.andThen]

end Go.Proofs.Ytfgfjfemaniaiaa.At

/-
  Package paxos: answered.
  Conditions: none.
-/
namespace Go.Proofs.Ytfgfjfemaniaiaa.Px
open Go.RowKit Wi By Fl Ba
set_option linter.unusedVariables false
set_option linter.unusedSimpArgs false
set_option maxRecDepth 100000

def answB (b : Bd) (k : Nat) : Bool := if b.val = [] then (b.told k).p == b.bal else (b.told k).a == b.bal

theorem beqB (a b : Bt) : (a == b) = (a.1 == b.1 && a.2 == b.2) := by
  obtain ⟨a1, a2⟩ := a
  obtain ⟨b1, b2⟩ := b
  rfl

theorem field_p (a b c d : Int) (x : Option Addr) (n k : Nat) (w : World) : (Instr.field 74 (.agg #[.int .i64 a, .int .i64 b, .int .i64 c, .int .i64 d, .slice x n k]) 0).run Try.prog w = .ok (.agg #[.int .i64 a, .int .i64 b]) w := by kernel_rfl
theorem field_a (a b c d : Int) (x : Option Addr) (n k : Nat) (w : World) : (Instr.field 74 (.agg #[.int .i64 a, .int .i64 b, .int .i64 c, .int .i64 d, .slice x n k]) 1).run Try.prog w = .ok (.agg #[.int .i64 c, .int .i64 d]) w := by kernel_rfl

section
variable {w : World} {l : Lb} {b : Bd}

set_option maxHeartbeats 1600000 in
theorem answered_any (h : BdAt w l b) (k : Nat) (hk : k < 7) :
    Calls Try.prog 55 #[.pointer (some ⟨l.bp, 0, none⟩), .int .i64 (k : Int)] w fun e w' => e = .returned (.bool (answB b k)) ∧ Below w.heap.size w w' := by
  have d1 := h.c1
  have d2 := h.c2
  have d3 := h.c3
  have d4 := h.c4
  obtain ⟨v, v1, v2, v3⟩ := h.told.lookAll k (by omega)
  have bD : Below w.heap.size w w.drew := (Below.refl _ _).drew
  have hlk := v3 w.drew rfl
  have htb := h.told.lt
  have hpl := h.obj.lt
  have hln := h.val.sl.len
  unfold answB
  rw [v2]
  obtain ⟨⟨vp1, vp2⟩, ⟨va1, va2⟩, vx, vn, vc, vd⟩ := v
  unfold acOf
  dsimp only
  obtain ⟨num, ⟨b1, b2⟩, val, told⟩ := b
  dsimp only at d1 d2 d3 d4 hln ⊢
  rw [beqB, beqB]
  dsimp only
  dsimp only [av, ac] at hlk
  clear h v1 v2 v3
  generalize l.bp = p at *
  generalize l.tb = tb at *
  have e1 := keep bD d1
  have e2 := keep bD d2
  have e4 := keep bD d4
  have HB := hid bD
  have hf0 := fun v => field_p vp1 vp2 va1 va2 vx vn vc v
  have hf1 := fun v => field_a vp1 vp2 va1 va2 vx vn vc v
  clear bD
  by_cases hv : val = []
  · have hn : l.n = 0 := by rw [← hln, hv]; rfl
    rw [if_pos hv]
    rw [hn] at d3
    clear hln hv hn
    by_cases h1 : vp1 = b1
    · subst h1
      by_cases h2 : vp2 = b2
      · subst h2
        have hres : (vp1 == vp1 && vp2 == vp2) = true := by simp
        rw [hres]
        go_enter Try.func55, Try.ntmps55
        go_wp2_with fail
        refine wp_region_held_drew (S := fun v => v.cell? ⟨p, 1, none⟩ = some (.int .i64 vp1) ∧ v.cell? ⟨p, 2, none⟩ = some (.int .i64 vp2) ∧ v.cell? ⟨p, 4, none⟩ = some (.map (some tb)) ∧ (Instr.lookup 60 (.map (some tb)) (.int .i64 (k : Int)) false).run Try.prog v = .ok (.agg #[.int .i64 vp1, .int .i64 vp2, .int .i64 va1, .int .i64 va2, .slice vx vn vc]) v) (by kernel_rfl) ⟨e1, e2, e4, hlk⟩ (fun hHeld => ?_)
        refine By.hk 0 ?_
        refine By.hk 1 ?_
        refine By.hk 2 ?_
        refine By.hk 3 ?_
        refine By.hk 4 ?_
        refine By.hk 5 ?_
        refine By.hk 6 ?_
        refine By.hk 7 ?_
        refine By.hk 8 ?_
        refine By.hk 9 ?_
        refine By.hk 10 ?_
        refine By.hk 11 ?_
        refine By.hk 12 ?_
        refine wpAnyH_done (by kernel_rfl) ?_ _
        clear hHeld
        go_wp2_with fail
        go_ret
        exact ⟨rfl, HB.out⟩
      · have hres : (vp1 == vp1 && vp2 == b2) = false := by simp [h2]
        rw [hres]
        go_enter Try.func55, Try.ntmps55
        go_wp2_with fail
        refine wp_region_held_drew (S := fun v => v.cell? ⟨p, 1, none⟩ = some (.int .i64 vp1) ∧ v.cell? ⟨p, 2, none⟩ = some (.int .i64 b2) ∧ v.cell? ⟨p, 4, none⟩ = some (.map (some tb)) ∧ (Instr.lookup 60 (.map (some tb)) (.int .i64 (k : Int)) false).run Try.prog v = .ok (.agg #[.int .i64 vp1, .int .i64 vp2, .int .i64 va1, .int .i64 va2, .slice vx vn vc]) v) (by kernel_rfl) ⟨e1, e2, e4, hlk⟩ (fun hHeld => ?_)
        refine By.hk 0 ?_
        refine By.hk 1 ?_
        refine By.hk 2 ?_
        refine By.hk 3 ?_
        refine By.hk 4 ?_
        refine By.hk 5 ?_
        refine By.hk 6 ?_
        refine By.hk 7 ?_
        refine By.hk 8 ?_
        refine By.hk 9 ?_
        refine By.hk 10 ?_
        refine By.hk 11 ?_
        refine By.hk 12 ?_
        refine wpAnyH_done (by kernel_rfl) ?_ _
        clear hHeld
        go_wp2_with fail
        go_ret
        exact ⟨rfl, HB.out⟩
    · have hres : (vp1 == b1 && vp2 == b2) = false := by simp [h1]
      rw [hres]
      go_enter Try.func55, Try.ntmps55
      go_wp2_with fail
      refine wp_region_held_drew (S := fun v => v.cell? ⟨p, 1, none⟩ = some (.int .i64 b1) ∧ v.cell? ⟨p, 2, none⟩ = some (.int .i64 b2) ∧ v.cell? ⟨p, 4, none⟩ = some (.map (some tb)) ∧ (Instr.lookup 60 (.map (some tb)) (.int .i64 (k : Int)) false).run Try.prog v = .ok (.agg #[.int .i64 vp1, .int .i64 vp2, .int .i64 va1, .int .i64 va2, .slice vx vn vc]) v) (by kernel_rfl) ⟨e1, e2, e4, hlk⟩ (fun hHeld => ?_)
      refine By.hk 0 ?_
      refine By.hk 1 ?_
      refine By.hk 2 ?_
      refine By.hk 3 ?_
      refine By.hk 4 ?_
      refine By.hk 5 ?_
      refine By.hk 6 ?_
      refine By.hk 7 ?_
      refine By.hk 8 ?_
      refine By.hk 9 ?_
      refine By.hk 10 ?_
      refine By.hk 11 ?_
      refine By.hk 12 ?_
      refine wpAnyH_done (by kernel_rfl) ?_ _
      clear hHeld
      go_wp2_with fail
      go_ret
      exact ⟨rfl, HB.out⟩
  · have hn : ¬ (l.n : Int) = 0 := fun e => hv (List.eq_nil_of_length_eq_zero (by rw [hln]; omega))
    rw [if_neg hv]
    clear hln hv
    by_cases h1 : va1 = b1
    · subst h1
      by_cases h2 : va2 = b2
      · subst h2
        have hres : (va1 == va1 && va2 == va2) = true := by simp
        rw [hres]
        go_enter Try.func55, Try.ntmps55
        go_wp2_with fail
        refine wp_region_held_drew (S := fun v => v.cell? ⟨p, 1, none⟩ = some (.int .i64 va1) ∧ v.cell? ⟨p, 2, none⟩ = some (.int .i64 va2) ∧ v.cell? ⟨p, 4, none⟩ = some (.map (some tb)) ∧ (Instr.lookup 60 (.map (some tb)) (.int .i64 (k : Int)) false).run Try.prog v = .ok (.agg #[.int .i64 vp1, .int .i64 vp2, .int .i64 va1, .int .i64 va2, .slice vx vn vc]) v) (by kernel_rfl) ⟨e1, e2, e4, hlk⟩ (fun hHeld => ?_)
        refine By.hk 0 ?_
        refine By.hk 1 ?_
        refine By.hk 2 ?_
        refine By.hk 3 ?_
        refine By.hk 4 ?_
        refine By.hk 5 ?_
        refine By.hk 6 ?_
        refine By.hk 7 ?_
        refine By.hk 8 ?_
        refine By.hk 9 ?_
        refine By.hk 10 ?_
        refine By.hk 11 ?_
        refine By.hk 12 ?_
        refine wpAnyH_done (by kernel_rfl) ?_ _
        clear hHeld
        go_wp2_with fail
        go_ret
        exact ⟨rfl, HB.out⟩
      · have hres : (va1 == va1 && va2 == b2) = false := by simp [h2]
        rw [hres]
        go_enter Try.func55, Try.ntmps55
        go_wp2_with fail
        refine wp_region_held_drew (S := fun v => v.cell? ⟨p, 1, none⟩ = some (.int .i64 va1) ∧ v.cell? ⟨p, 2, none⟩ = some (.int .i64 b2) ∧ v.cell? ⟨p, 4, none⟩ = some (.map (some tb)) ∧ (Instr.lookup 60 (.map (some tb)) (.int .i64 (k : Int)) false).run Try.prog v = .ok (.agg #[.int .i64 vp1, .int .i64 vp2, .int .i64 va1, .int .i64 va2, .slice vx vn vc]) v) (by kernel_rfl) ⟨e1, e2, e4, hlk⟩ (fun hHeld => ?_)
        refine By.hk 0 ?_
        refine By.hk 1 ?_
        refine By.hk 2 ?_
        refine By.hk 3 ?_
        refine By.hk 4 ?_
        refine By.hk 5 ?_
        refine By.hk 6 ?_
        refine By.hk 7 ?_
        refine By.hk 8 ?_
        refine By.hk 9 ?_
        refine By.hk 10 ?_
        refine By.hk 11 ?_
        refine By.hk 12 ?_
        refine wpAnyH_done (by kernel_rfl) ?_ _
        clear hHeld
        go_wp2_with fail
        go_ret
        exact ⟨rfl, HB.out⟩
    · have hres : (va1 == b1 && va2 == b2) = false := by simp [h1]
      rw [hres]
      go_enter Try.func55, Try.ntmps55
      go_wp2_with fail
      refine wp_region_held_drew (S := fun v => v.cell? ⟨p, 1, none⟩ = some (.int .i64 b1) ∧ v.cell? ⟨p, 2, none⟩ = some (.int .i64 b2) ∧ v.cell? ⟨p, 4, none⟩ = some (.map (some tb)) ∧ (Instr.lookup 60 (.map (some tb)) (.int .i64 (k : Int)) false).run Try.prog v = .ok (.agg #[.int .i64 vp1, .int .i64 vp2, .int .i64 va1, .int .i64 va2, .slice vx vn vc]) v) (by kernel_rfl) ⟨e1, e2, e4, hlk⟩ (fun hHeld => ?_)
      refine By.hk 0 ?_
      refine By.hk 1 ?_
      refine By.hk 2 ?_
      refine By.hk 3 ?_
      refine By.hk 4 ?_
      refine By.hk 5 ?_
      refine By.hk 6 ?_
      refine By.hk 7 ?_
      refine By.hk 8 ?_
      refine By.hk 9 ?_
      refine By.hk 10 ?_
      refine By.hk 11 ?_
      refine By.hk 12 ?_
      refine wpAnyH_done (by kernel_rfl) ?_ _
      clear hHeld
      go_wp2_with fail
      go_ret
      exact ⟨rfl, HB.out⟩

end

end Go.Proofs.Ytfgfjfemaniaiaa.Px

/-
  Mails that are sent: what they hold.
  Conditions: none.
-/
namespace Go.Proofs.Ytfgfjfemaniaiaa.Px
open Go.RowKit Wi By Fl Ba
set_option linter.unusedVariables false
set_option linter.unusedSimpArgs false
set_option maxRecDepth 100000

/- Bytes that nobody writes. -/
structure Bm (w : World) (x : Option Addr) (n c : Nat) (l : List Nat) : Prop where
  sl : Fl.Sl w x n c l
  sm : n ≤ 500000
  tb : ∀ a, x = some a → Tb w a.block 5

theorem Bm.turns {w w' : World} {G : Nat → Prop} {x : Option Addr} {n c : Nat} {d : List Nat} (h : Bm w x n c d) (t : Turns G w w') (hG : ∀ k, G k → ¬ Tb w k 5) : Bm w' x n c d :=
  ⟨h.sl.turns t (fun _ a ha hg => hG _ hg (h.tb a ha)), h.sm, fun a ha => (h.tb a ha).of_heap (t.block _ (h.tb a ha).lt (fun hg => hG _ hg (h.tb a ha)))⟩
theorem Bm.below {w w' : World} {x : Option Addr} {n c : Nat} {d : List Nat} (h : Bm w x n c d) (b : Below w.heap.size w w') : Bm w' x n c d := h.turns (Turns.of_below (F := fun _ => False) b) (fun _ h => h.elim)

theorem bm_of_vl {w w' : World} {x : Option Addr} {n c : Nat} {l : List Nat} (h : Vl w w' x n c l) (hn : n ≤ 500000) : Bm w' x n c l := ⟨h.2.1, hn, fun a ha => (h.2.2 a ha).2⟩

/- A row of mails, each with its message. -/
structure Mls (w : World) (B : Nat) (R : Value) (n id : Nat) (P : Ms → Prop) : Prop where
  own : ∃ L : List MlV, OwnMl w B R L ∧ L.length ≤ 1000 ∧ ∀ m ∈ L, 0 ≤ m.dst ∧ m.dst < n ∧ m.dst ≠ id ∧ ∃ msg, P msg ∧ Bm w m.x m.n m.c (encM msg id)

def MlsK (w : World) (B : Nat) (R : Value) (n id k : Nat) (P : Ms → Prop) : Prop := ∃ L : List MlV, OwnMl w B R L ∧ L.length ≤ k ∧ ∀ m ∈ L, 0 ≤ m.dst ∧ m.dst < n ∧ m.dst ≠ id ∧ ∃ msg, P msg ∧ Bm w m.x m.n m.c (encM msg id)

section
variable {w w' : World} {B : Nat} {R : Value} {n id k : Nat} {P : Ms → Prop}

theorem MlsK.nil (w : World) (B n id : Nat) (P : Ms → Prop) : MlsK w B (.slice none 0 0) n id 0 P := ⟨[], Own.nil _ _ _ _ _, Nat.le_refl _, fun m hm => by cases hm⟩

theorem MlsK.mono {k' : Nat} {P' : Ms → Prop} (h : MlsK w B R n id k P) (hk : k ≤ k') (hP : ∀ m, P m → P' m) : MlsK w B R n id k' P' := by
  obtain ⟨L, h1, h2, h3⟩ := h
  exact ⟨L, h1, by omega, fun m hm => by obtain ⟨a, b, c, u, d, e⟩ := h3 m hm; exact ⟨a, b, c, u, hP u d, e⟩⟩

theorem MlsK.below (h : MlsK w B R n id k P) (b : Below w.heap.size w w') : MlsK w' B R n id k P := by
  obtain ⟨L, h1, h2, h3⟩ := h
  exact ⟨L, h1.below b, h2, fun m hm => by obtain ⟨a, e, c, u, d, f⟩ := h3 m hm; exact ⟨a, e, c, u, d, f.below b⟩⟩

theorem mail_not_u8 {L : List MlV} (h : OwnMl w B R L) : ∀ j, R.ownBlock = some j → ¬ Tb w j 5 := fun j hj tb => by
  have := tb.same (h.tb hj).2
  revert this
  decide

/- One mail more. -/
theorem MlsK.push (h : MlsK w B R n id k P) (hB : B ≤ w.heap.size) (hk : k ≤ 1000) (dst : Int) (x : Option Addr) (l c : Nat) (msg : Ms) (hd : 0 ≤ dst ∧ dst < n ∧ dst ≠ id) (hP : P msg) (hb : Bm w x l c (encM msg id)) :
    ∃ R' W', (Builtin.append_ #[49, 49] 49 #[R, .slice (some ⟨w.heap.size, 0, none⟩) 1 1]).run Try.prog (w.alloc (.cells #[.int .i64 dst, .slice x l c] 70)) = .ok R' W' ∧ Hid (MlsK W' B R' n id (k + 1) P ∧ Turns (fun j => R.ownBlock = some j) w W') := by
  obtain ⟨L, h1, h2, h3⟩ := h
  have bx := al w (.cells #[.int .i64 dst, .slice x l c] 70)
  have ob := heap_alloc_new w (.cells #[.int .i64 dst, .slice x l c] 70)
  have hlt : w.heap.size < (w.alloc (.cells #[.int .i64 dst, .slice x l c] 70)).heap.size := by simp
  obtain ⟨x', c', W', hr, H⟩ := (h1.below bx).push mrow (by omega) ⟨w.heap.size, 0, none⟩ 1 1 [⟨dst, x, l, c⟩] rfl (fun j u hj => by
    rw [add_at, Nat.zero_add]
    have : ([.int .i64 dst, .slice x l c] : List Value)[j]? = some u := by simpa [flat, encMl] using hj
    simp only [World.cell?, ob]
    simpa using this) (by omega)
  have T := (Turns.of_below (F := fun j => R.ownBlock = some j) bx).trans H.out.2.1
  refine ⟨_, W', hr, ⟨_, H.out.1, by simp; omega, fun m hm => ?_⟩, T⟩
  rcases List.mem_append.1 hm with hm | hm
  · obtain ⟨a, e, c, u, d, f⟩ := h3 m hm
    exact ⟨a, e, c, u, d, f.turns T (mail_not_u8 h1)⟩
  · simp at hm
    subst hm
    exact ⟨hd.1, hd.2.1, hd.2.2, msg, hP, hb.turns T (mail_not_u8 h1)⟩

end

end Go.Proofs.Ytfgfjfemaniaiaa.Px

/-
  Package paxos: ask: who did not answer yet is asked.
  Conditions: the monitor is one that New gave ('NdAt'), with a bid.
-/
namespace Go.Proofs.Ytfgfjfemaniaiaa.Px
open Go.RowKit Wi By Fl Ba
set_option linter.unusedVariables false
set_option linter.unusedSimpArgs false
set_option maxRecDepth 100000

/- What a bid asks for. -/
def reqM (b : Bd) : Ms := if b.val = [] then ⟨1, b.num, ⟨b.bal, z0, []⟩, 0, []⟩ else ⟨2, b.num, ⟨b.bal, b.bal, b.val⟩, 0, []⟩

theorem dcsAt_nil (w : World) : DcsAt w none [] := by
  first
    | exact ⟨fun i d hd => by simp at hd⟩
    | exact fun i d hd => by simp at hd
    | exact .inl rfl

section
variable {w : World} {B : Nat} {g : Ln} {st : Nd} {l : Lb} {b : Bd}

theorem BdAt.below {w' : World} (h : BdAt w l b) (k : Below w.heap.size w w') : BdAt w' l b := h.turns (Turns.of_below (F := fun _ => False) k) (fun h => h) (fun h => h) (fun _ h => h.elim)

theorem request_any (h : BdAt w l b) (hnum : b.num < 4294967296) (hb : BOk b.bal) :
    Calls Try.prog 56 #[.pointer (some ⟨l.bp, 0, none⟩)] w fun e w' => ∃ x c, e = .returned (mv (reqM b) x c none 0) ∧ Hid (Below w.heap.size w w' ∧ MOk w' (reqM b) x c none) := by
  have hz : BOk z0 := ⟨by decide, by decide, by decide, by decide⟩
  by_cases hv : b.val = []
  · have e : reqM b = ⟨1, b.num, ⟨b.bal, z0, []⟩, 0, []⟩ := if_pos hv
    rw [e]
    refine (request_prep h b.num b.bal.1 b.bal.2 rfl rfl hv).mono fun e w' ⟨a1, a2⟩ => ⟨none, 0, a1, a2.out, ⟨by show (1 : Nat) < _; omega, by show b.num < _; omega, by show (0 : Nat) < _; omega, hb, hz, Fl.Sl.empty _, by show (0 : Nat) ≤ _; omega, dcsAt_nil _, by show (0 : Nat) ≤ _; omega, fun d hd => by cases hd⟩⟩
  · have e : reqM b = ⟨2, b.num, ⟨b.bal, b.bal, b.val⟩, 0, []⟩ := if_neg hv
    rw [e]
    have hln : b.val.length = l.n := h.val.sl.len
    refine (request_acc h b.num b.bal.1 b.bal.2 rfl rfl hv).mono fun e w' ⟨a1, a2⟩ => ⟨l.x, l.c, ?_, a2.out, ⟨by show (2 : Nat) < _; omega, by show b.num < _; omega, by show (0 : Nat) < _; omega, hb, hb, ?_, ?_, dcsAt_nil _, by show (0 : Nat) ≤ _; omega, fun d hd => by cases hd⟩⟩
    · rw [a1]
      unfold mv
      dsimp only
      rw [hln]
      rfl
    · show Fl.Sl w' l.x b.val.length l.c b.val
      rw [hln]
      exact (h.val.below a2.out).sl
    · show b.val.length ≤ 5000
      rw [hln]
      exact h.val.sm

set_option maxHeartbeats 3200000 in
theorem ask_any (h : NdAt w B g st) (b : Bd) (hb : st.bid = some b) (hn : st.n ≤ 7) (hid_ : st.id < st.n) (hnum : b.num < 4294967296) (hbk : BOk b.bal) :
    Calls Try.prog 36 #[.pointer (some ⟨g.p, 0, none⟩)] w fun e w' => ∃ R, e = .returned R ∧ Hid (Below w.heap.size w w' ∧ MlsK w' w.heap.size R st.n st.id 7 (fun m => m = reqM b)) := by
  rcases h.bid with ⟨_, q⟩ | ⟨l, b', q1, q2, q3, q4⟩
  · rw [hb] at q
    cases q
  rw [hb] at q2
  injection q2 with q2
  subst q2
  have c0 := h.c0
  have c1 := h.c1
  have c6 : w.cell? ⟨g.p, 6, none⟩ = some (.pointer (some ⟨l.bp, 0, none⟩)) := by rw [h.c6, q1]; rfl
  have HBd := hid q3
  have HNd := hid h
  have HQ := hid (And.intro hnum (And.intro hbk (And.intro hn hid_)))
  have nI : (st.n : Int) ≤ 7 := by omega
  clear h hb q1 q3 hnum hbk hn hid_ q4
  obtain ⟨N, hN⟩ : ∃ N, N = st.n := ⟨_, rfl⟩
  obtain ⟨I, hI⟩ : ∃ I, I = st.id := ⟨_, rfl⟩
  have HNI := hid (And.intro hN hI)
  rw [← hN] at c1 nI ⊢
  rw [← hI] at c0 ⊢
  clear hN hI
  go_enter Try.func36, Try.ntmps36
  go_wp2_with fail
  go_loopw [9, 3, 4] (fun i out _ wr => ∃ k : Nat, k ≤ N ∧ i = .int .i64 k ∧ Hid (Below w.heap.size w wr ∧ MlsK wr w.heap.size out N I k (fun m => m = reqM b))) (fun i _ _ _ => N - (intOf i).toNat)
  case atStart => exact ⟨0, by omega, rfl, Below.refl _ _, MlsK.nil _ _ _ _ _⟩
  case round =>
    obtain ⟨k, hk, rfl, HR⟩ := hrel
    have e0 := keep HR.out.1 c0
    have e6 := keep HR.out.1 c6
    by_cases hlt : k < N
    · have hkn : (k : Int) < (N : Int) := by omega
      have hAn := answered_any (HBd.out.below HR.out.1) k (by omega)
      by_cases hkI : k = I
      · subst hkI
        clear hAn
        go_wp2_with fail
        go_roundw
        case rel => exact ⟨k + 1, by omega, by go_num, HR.out.1, HR.out.2.mono (by omega) (fun _ h => h)⟩
        case measure => simp [intOf]; omega
      · have hkI2 : ¬ (k : Int) = (I : Int) := by omega
        cases ha : answB b k with
        | true =>
          rw [ha] at hAn
          go_wp2_with (
             go_at_call 55; refine hAn.mono ?_; rintro e w1 ⟨rfl, hb1⟩; clear hAn)
          go_roundw
          case rel => exact ⟨k + 1, by omega, by go_num, on HR.out.1 hb1, (HR.out.2.below hb1).mono (by omega) (fun _ h => h)⟩
          case measure => simp [intOf]; omega
        | false =>
          rw [ha] at hAn
          have HRq : Hid (∀ W, Below w.heap.size w W → Calls Try.prog 56 #[.pointer (some ⟨l.bp, 0, none⟩)] W fun e w' => ∃ x c, e = .returned (mv (reqM b) x c none 0) ∧ Hid (Below W.heap.size W w' ∧ MOk w' (reqM b) x c none)) := fun W bW => request_any (HBd.out.below bW) HQ.out.1 HQ.out.2.1
          have HSn : Hid (∀ W x c, Below w.heap.size w W → MOk W (reqM b) x c none → Calls Try.prog 50 #[.pointer (some ⟨g.p, 0, none⟩), .int .i64 (k : Int), mv (reqM b) x c none 0] W fun e w' => ∃ z ln cz, e = .returned (.agg #[.int .i64 (k : Int), .slice z ln cz]) ∧ Hid (ln ≤ 500000 ∧ Vl W w' z ln cz (encM (reqM b) st.id))) := fun W x c bW hm => send_any (HNd.out.below bW) (by have := HQ.out.2.2; omega) (k : Int) (reqM b) x none c 0 hm
          generalize reqM b = rm at *
          unfold mv at *
          go_wp2_with (first
            | (
               go_at_call 55; refine hAn.mono ?_; rintro e w1 ⟨rfl, hb1⟩; clear hAn
               have f6 := keep hb1 e6
               have hRq := HRq.out w1 (on HR.out.1 hb1)
               have HB1 := hid (on HR.out.1 hb1)
               have HM1 := hid (HR.out.2.below hb1)
               clear HRq hb1)
            | (
               go_at_call 56; refine hRq.mono ?_; rintro e w2 ⟨x2, c2, rfl, H2⟩; clear hRq
               have hSn := HSn.out w2 x2 c2 (on HB1.out H2.out.1) H2.out.2
               clear HSn)
            | (
               go_at_call 50; refine hSn.mono ?_; rintro e w3 ⟨z3, n3, c3, rfl, H3⟩; clear hSn
               have b3 := on (on HB1.out H2.out.1) H3.out.2.1
               obtain ⟨R4, W4, hr4, H4⟩ := ((HM1.out.below H2.out.1).below H3.out.2.1).push b3.size (by omega) (k : Int) z3 n3 c3 rm ⟨by omega, by omega, by omega⟩ rfl (by rw [HNI.out.2]; exact bm_of_vl H3.out.2 H3.out.1)
               have HB3 := hid b3
               clear b3)
            | (
               at_builtin; refine wpList_append_run rfl _ _ 49 rfl _ _ rfl rfl hr4 ?_; clear hr4))
          have B4 : Below w.heap.size w W4 := HB3.out.trans (H4.out.2.below (B := w.heap.size) (fun j hj => by obtain ⟨L, h1, _⟩ := HM1.out; exact (h1.tb hj).1) HB3.out.size)
          go_roundw
          case rel => exact ⟨k + 1, by omega, by go_num, B4, H4.out.1⟩
          case measure => simp [intOf]; omega
    · obtain rfl : k = N := by omega
      have hkn : ¬ (k : Int) < (k : Int) := by omega
      go_wp2_with fail
      go_ret
      exact ⟨_, rfl, HR.out.1, HR.out.2.mono (by omega) (fun _ h => h)⟩

end

end Go.Proofs.Ytfgfjfemaniaiaa.Px

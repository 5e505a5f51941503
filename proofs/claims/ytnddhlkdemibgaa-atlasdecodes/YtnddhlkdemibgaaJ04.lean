/-
  7 texts of this proof, one behind the other: AtPlain, AtMem, AtQuiet, AtFunc, AtBox, AtTurn, AtNums.
-/
import Derived.Test.YtnddhlkdemibgaaJ01
import Derived.Laws.StructEq
import Derived.BigQuiet
import Derived.Shelf.Abstract
import Derived.Laws.MakeOwn
import Derived.Laws.OwnMore
/-
  Package atlas plainly: pools, OSDs, maps and changes that may be, what a change makes of a map.
  Conditions: none.
-/
namespace Go.Proofs.Ytnddhlkdemibgaa.At
open Go.RowKit By Fl
set_option linter.unusedVariables false
set_option linter.unusedSimpArgs false
set_option maxRecDepth 100000

structure Osd where
  id : Int
  up : Bool
  inn : Bool
  wt : Int
  life : Int
  boot : Int
  host : Int
  rack : Int

structure Pool where
  k : Int
  m : Int
  pgs : Int
  dom : Int

structure Mp where
  ep : Int
  pool : Pool
  osds : List Osd

structure Ch where
  kind : Int
  osd : Osd

def eqO (a b : Osd) : Bool := decide (a.id = b.id) && (a.up == b.up) && (a.inn == b.inn) && decide (a.wt = b.wt) && decide (a.life = b.life) && decide (a.boot = b.boot) && decide (a.host = b.host) && decide (a.rack = b.rack)
def eqP (a b : Pool) : Bool := decide (a.k = b.k) && decide (a.m = b.m) && decide (a.pgs = b.pgs) && decide (a.dom = b.dom)
def eqC (a b : Ch) : Bool := decide (a.kind = b.kind) && eqO a.osd b.osd

theorem eqO_iff (a b : Osd) : eqO a b = true ↔ a = b := by
  cases a; cases b
  simp [eqO, and_assoc]
theorem eqP_iff (a b : Pool) : eqP a b = true ↔ a = b := by
  cases a; cases b
  simp [eqP, and_assoc]
theorem eqC_iff (a b : Ch) : eqC a b = true ↔ a = b := by
  cases a; cases b
  simp [eqC, eqO_iff]

def eqL : List Osd → List Osd → Bool
  | [], [] => true
  | a :: l, b :: r => eqO a b && eqL l r
  | _, _ => false

theorem eqL_iff : ∀ a b : List Osd, eqL a b = true ↔ a = b
  | [], [] => by simp [eqL]
  | [], b :: r => by simp [eqL]
  | a :: l, [] => by simp [eqL]
  | a :: l, b :: r => by simp [eqL, eqO_iff, eqL_iff l r]

def eqM (a b : Mp) : Bool := decide (a.ep = b.ep) && eqP a.pool b.pool && eqL a.osds b.osds

theorem eqM_iff (a b : Mp) : eqM a b = true ↔ a = b := by
  cases a; cases b
  simp [eqM, eqP_iff, eqL_iff, and_assoc]

def wi (n a b : Int) : Bool := decide (a ≤ n) && decide (n ≤ b)
def poolB (p : Pool) : Bool := decide (1 ≤ p.k) && wi p.m 1 (32 - p.k) && wi p.pgs 1 32 && wi p.dom 0 2
def least (u : Bool) : Int := if u then 1 else 0
def osdB (o : Osd) : Bool := wi o.id 0 999 && wi o.host 0 999 && wi o.rack 0 999 && wi o.wt 0 16777216 && wi o.life (least o.up) 2147483647 && wi o.boot (least o.up) 2147483647
def mvB (o x : Osd) : Bool := decide (x.host = o.host) && !decide (x.rack = o.rack)
def movedB (L : List Osd) (o : Osd) : Bool := L.any (mvB o)
def lowB (a b : Osd) : Bool := decide (b.id < a.id) && !mvB a b
def goodB (L : List Osd) : Bool := (List.range L.length).all fun i => match L[i]? with | some a => osdB a && (L.take i).all (lowB a) | none => true
def osdsB (L : List Osd) : Bool := decide (L.length ≤ 64) && goodB L
def mayM (m : Mp) : Bool := wi m.ep 0 1048576 && poolB m.pool && osdsB m.osds

def noO (id : Int) : Osd := ⟨id, false, false, 0, 0, 0, 0, 0⟩
def noP : Pool := ⟨0, 0, 0, 0⟩
def noM : Mp := ⟨0, noP, []⟩
def noC : Ch := ⟨0, noO 0⟩

def upB (o : Osd) : Bool := eqO o ⟨o.id, false, false, 0, o.life, o.boot, 0, 0⟩ && (wi o.id 0 999 && wi o.life 1 2147483647 && wi o.boot 1 2147483647)
def idB (o : Osd) : Bool := eqO o (noO o.id) && wi o.id 0 999
def wtB (o : Osd) : Bool := eqO o ⟨o.id, false, false, o.wt, 0, 0, 0, 0⟩ && (wi o.id 0 999 && wi o.wt 0 16777216)
def mayK (k : Int) (o : Osd) : Bool := if k = 1 then osdB o else if k = 2 then upB o else if k = 6 then wtB o else idB o
def mayC (c : Ch) : Bool := wi c.kind 1 6 && mayK c.kind c.osd

def isId (id : Int) (x : Osd) : Bool := decide (x.id = id)
def overId (id : Int) (x : Osd) : Bool := decide (id < x.id)
def idx (p : Osd → Bool) (L : List Osd) : Int := match L.findIdx? p with | some k => (k : Int) | none => -1
def ins (o : Osd) (L : List Osd) : List Osd := match L.findIdx? (overId o.id) with | some k => L.take k ++ o :: L.drop k | none => L ++ [o]

def setUp (o x : Osd) : Osd := ⟨x.id, true, x.inn, x.wt, o.life, o.boot, x.host, x.rack⟩
def setDown (o x : Osd) : Osd := ⟨x.id, false, x.inn, x.wt, x.life, x.boot, x.host, x.rack⟩
def setIn (o x : Osd) : Osd := ⟨x.id, x.up, true, x.wt, x.life, x.boot, x.host, x.rack⟩
def setOut (o x : Osd) : Osd := ⟨x.id, x.up, false, x.wt, x.life, x.boot, x.host, x.rack⟩
def setWt (o x : Osd) : Osd := ⟨x.id, x.up, x.inn, o.wt, x.life, x.boot, x.host, x.rack⟩
def byK (k : Int) (o x : Osd) : Osd := if k = 2 then setUp o x else if k = 3 then setDown o x else if k = 4 then setIn o x else if k = 5 then setOut o x else setWt o x

def turnP (L : List Osd) (id : Int) (f : Osd → Osd) : Int × List Osd :=
  match L.findIdx? (isId id) with
  | none => (4, L)
  | some k => match L[k]? with
    | none => (4, L)
    | some x => if eqO (f x) x then (6, L) else (0, L.set k (f x))

def addP (L : List Osd) (o : Osd) : Int × List Osd :=
  if (L.findIdx? (isId o.id)).isSome then (6, L) else if 64 ≤ L.length then (2, L) else if movedB L o then (1, L) else (0, ins o L)

def doP (k : Int) (L : List Osd) (o : Osd) : Int × List Osd := if k = 1 then addP L o else turnP L o.id (byK k o)

def advP (m : Mp) (c : Ch) : Int × Mp :=
  if mayC c = false ∨ m.ep = 1048576 then (1, m) else if (doP c.kind m.osds c.osd).1 = 0 then (0, ⟨m.ep + 1, m.pool, (doP c.kind m.osds c.osd).2⟩) else ((doP c.kind m.osds c.osd).1, m)

def foldP (m : Mp) : List Ch → List Int × Mp
  | [] => ([], m)
  | c :: l => ((advP m c).1 :: (foldP (advP m c).2 l).1, (foldP (advP m c).2 l).2)

theorem foldP_snoc : ∀ (l : List Ch) (m : Mp) (c : Ch), foldP m (l ++ [c]) = ((foldP m l).1 ++ [(advP (foldP m l).2 c).1], (advP (foldP m l).2 c).2)
  | [], m, c => by simp [foldP]
  | d :: l, m, c => by simp [foldP, foldP_snoc l]

theorem foldP_len : ∀ (l : List Ch) (m : Mp), (foldP m l).1.length = l.length
  | [], m => by simp [foldP]
  | d :: l, m => by simp [foldP, foldP_len l]

/- What goodB says. -/
def Good (L : List Osd) : Prop := ∀ (i : Nat) (a : Osd), L[i]? = some a → osdB a = true ∧ ∀ (k : Nat) (b : Osd), k < i → L[k]? = some b → lowB a b = true

theorem goodB_iff (L : List Osd) : goodB L = true ↔ Good L := by
  unfold goodB Good
  rw [List.all_eq_true]
  constructor
  · intro h i a ha
    have hi := (List.getElem?_eq_some_iff.1 ha).1
    have := h i (List.mem_range.2 hi)
    rw [ha] at this
    simp only [Bool.and_eq_true, List.all_eq_true] at this
    refine ⟨this.1, fun k b hk hb => this.2 b ?_⟩
    have hkl := (List.getElem?_eq_some_iff.1 hb).1
    rw [List.mem_iff_getElem?]
    exact ⟨k, by rw [List.getElem?_take, if_pos hk]; exact hb⟩
  · intro h i hi
    rw [List.mem_range] at hi
    rw [List.getElem?_eq_getElem hi]
    obtain ⟨h1, h2⟩ := h i L[i] (List.getElem?_eq_getElem hi)
    simp only [Bool.and_eq_true, List.all_eq_true]
    refine ⟨h1, fun b hb => ?_⟩
    obtain ⟨k, hk⟩ := List.mem_iff_getElem?.1 hb
    rw [List.getElem?_take] at hk
    split at hk
    · rename_i hki
      exact h2 k b hki hk
    · cases hk

theorem goodB_false {L : List Osd} {i : Nat} {a : Osd} (ha : L[i]? = some a) (h : osdB a = false ∨ ∃ k b, k < i ∧ L[k]? = some b ∧ lowB a b = false) : goodB L = false := by
  cases hg : goodB L with
  | false => rfl
  | true =>
    obtain ⟨h1, h2⟩ := (goodB_iff L).1 hg i a ha
    rcases h with h | ⟨k, b, hk, hb, h⟩
    · rw [h1] at h; cases h
    · rw [h2 k b hk hb] at h; cases h

theorem wi_iff (n a b : Int) : wi n a b = true ↔ a ≤ n ∧ n ≤ b := by simp [wi]
theorem wi_false (n a b : Int) : wi n a b = false ↔ n < a ∨ b < n := by
  rw [← Bool.not_eq_true, wi_iff]
  omega

theorem lowB_iff (a b : Osd) : lowB a b = true ↔ b.id < a.id ∧ (b.host = a.host → b.rack = a.rack) := by
  simp only [lowB, mvB, Bool.and_eq_true, decide_eq_true_eq, Bool.not_eq_true', Bool.and_eq_false_iff, decide_eq_false_iff_not, Bool.not_eq_false']
  constructor
  · rintro ⟨h1, h2⟩
    exact ⟨h1, fun h => h2.resolve_left (fun k => k h)⟩
  · rintro ⟨h1, h2⟩
    refine ⟨h1, ?_⟩
    by_cases h : b.host = a.host
    · exact .inr (h2 h)
    · exact .inl h

theorem moved_iff (L : List Osd) (o : Osd) : movedB L o = true ↔ ∃ x ∈ L, x.host = o.host ∧ x.rack ≠ o.rack := by
  simp [movedB, mvB]
theorem moved_no (L : List Osd) (o : Osd) : movedB L o = false ↔ ∀ x ∈ L, x.host = o.host → x.rack = o.rack := by
  simp [movedB, mvB]

/- Where the first one is. -/
theorem idx_hit {p : Osd → Bool} {L : List Osd} {k : Nat} {a : Osd} (hk : L[k]? = some a) (ha : p a = true) (hj : ∀ (j : Nat) (b : Osd), j < k → L[j]? = some b → p b = false) : L.findIdx? p = some k := by
  obtain ⟨hlt, e⟩ := List.getElem?_eq_some_iff.1 hk
  rw [List.findIdx?_eq_some_iff_getElem]
  refine ⟨hlt, by rw [e]; exact ha, fun j hji => ?_⟩
  have := hj j L[j] hji (List.getElem?_eq_getElem _)
  simp [this]

theorem idx_miss {p : Osd → Bool} {L : List Osd} (h : ∀ (j : Nat) (b : Osd), L[j]? = some b → p b = false) : L.findIdx? p = none := by
  rw [List.findIdx?_eq_none_iff]
  intro x hx
  obtain ⟨k, hk⟩ := List.mem_iff_getElem?.1 hx
  exact h k x hk

theorem idx_some {p : Osd → Bool} {L : List Osd} {k : Nat} (h : L.findIdx? p = some k) : ∃ a, L[k]? = some a ∧ p a = true ∧ ∀ (j : Nat) (b : Osd), j < k → L[j]? = some b → p b = false := by
  rw [List.findIdx?_eq_some_iff_getElem] at h
  obtain ⟨hlt, ha, hj⟩ := h
  refine ⟨L[k], List.getElem?_eq_getElem hlt, ha, fun j b hjk hb => ?_⟩
  have := hj j hjk
  obtain ⟨hl, e⟩ := List.getElem?_eq_some_iff.1 hb
  rw [e] at this
  simpa using this

theorem idx_none {p : Osd → Bool} {L : List Osd} (h : L.findIdx? p = none) (j : Nat) (b : Osd) (hb : L[j]? = some b) : p b = false := by
  rw [List.findIdx?_eq_none_iff] at h
  exact h b (List.mem_of_getElem? hb)

end Go.Proofs.Ytnddhlkdemibgaa.At

/-
  Pools, OSDs, maps and changes as they lie in memory; lists of OSDs that are read.
  Conditions: none.
-/
namespace Go.Proofs.Ytnddhlkdemibgaa.At
open Go.RowKit By Fl
set_option linter.unusedVariables false
set_option linter.unusedSimpArgs false
set_option maxRecDepth 100000

def wfi (a : Int) : Prop := (Lit.int .i64 a).wf = true

theorem keep {w v : World} {b o : Nat} {x : Value} (hb : Below w.heap.size w v) (h : w.cell? ⟨b, o, none⟩ = some x) : v.cell? ⟨b, o, none⟩ = some x := (hb.cell (p := ⟨b, o, none⟩) (cell_lt' h)).trans h
theorem keepf {w v : World} {b o : Nat} (hb : Below w.heap.size w v) (hlt : b < w.heap.size) (h : w.frozen? ⟨b, o, none⟩ = false) : v.frozen? ⟨b, o, none⟩ = false := by
  rw [← h]
  exact World.frozen?_of_block (a := ⟨b, o, none⟩) (hb.block b hlt)
theorem on {a b c : World} (h : Below a.heap.size a b) (k : Below b.heap.size b c) : Below a.heap.size a c := h.trans (k.mono h.size)
theorem al (w : World) (o : Obj) : Below w.heap.size w (w.alloc o) := (Below.refl _ w).alloc (Nat.le_refl _) _

def enO (o : Osd) : List Value := [.int .i64 o.id, .bool o.up, .bool o.inn, .int .i64 o.wt, .int .i64 o.life, .int .i64 o.boot, .int .i64 o.host, .int .i64 o.rack]
def enP (p : Pool) : List Value := [.int .i64 p.k, .int .i64 p.m, .int .i64 p.pgs, .int .i64 p.dom]
def enC (c : Ch) : List Value := [.int .i64 c.kind, .int .i64 c.osd.id, .bool c.osd.up, .bool c.osd.inn, .int .i64 c.osd.wt, .int .i64 c.osd.life, .int .i64 c.osd.boot, .int .i64 c.osd.host, .int .i64 c.osd.rack]
def vO (o : Osd) : Value := .agg #[.int .i64 o.id, .bool o.up, .bool o.inn, .int .i64 o.wt, .int .i64 o.life, .int .i64 o.boot, .int .i64 o.host, .int .i64 o.rack]
def vP (p : Pool) : Value := .agg #[.int .i64 p.k, .int .i64 p.m, .int .i64 p.pgs, .int .i64 p.dom]
def vC (c : Ch) : Value := .agg #[.int .i64 c.kind, .int .i64 c.osd.id, .bool c.osd.up, .bool c.osd.inn, .int .i64 c.osd.wt, .int .i64 c.osd.life, .int .i64 c.osd.boot, .int .i64 c.osd.host, .int .i64 c.osd.rack]
def vM (ep : Int) (p : Pool) (x : Option Addr) (n c : Nat) : Value := .agg #[.int .i64 ep, .int .i64 p.k, .int .i64 p.m, .int .i64 p.pgs, .int .i64 p.dom, .slice x n c]

/- A list of OSDs that is read. -/
structure Os (w : World) (x : Option Addr) (n c : Nat) (L : List Osd) : Prop where
  len : L.length = n
  le : n ≤ c
  small : n ≤ 140737488351232
  nil : x = none → n = 0 ∧ c = 0
  row : n = 0 ∨ ∃ b o, x = some ⟨b, o, none⟩ ∧ b < w.heap.size ∧ ∀ (k : Nat) (a : Osd), L[k]? = some a → ∀ (j : Nat) (v : Value), (enO a)[j]? = some v → w.cell? ⟨b, o + k * 8 + j, none⟩ = some v

theorem Os.below {w w' : World} {x : Option Addr} {n c : Nat} {L : List Osd} (h : Os w x n c L) (hb : Below w.heap.size w w') : Os w' x n c L := by
  refine ⟨h.len, h.le, h.small, h.nil, ?_⟩
  rcases h.row with h0 | ⟨b, o, h1, h2, h3⟩
  · exact .inl h0
  · exact .inr ⟨b, o, h1, Nat.lt_of_lt_of_le h2 hb.size, fun k a hk j v hv => keep hb (h3 k a hk j v hv)⟩

theorem Os.turns {w w' : World} {G : Nat → Prop} {x : Option Addr} {n c : Nat} {L : List Osd} (h : Os w x n c L) (t : Turns G w w') (hx : n ≠ 0 → ∀ a, x = some a → ¬ G a.block) : Os w' x n c L := by
  refine ⟨h.len, h.le, h.small, h.nil, ?_⟩
  rcases h.row with h0 | ⟨b, o, h1, h2, h3⟩
  · exact .inl h0
  · by_cases h0 : n = 0
    · exact .inl h0
    · exact .inr ⟨b, o, h1, Nat.lt_of_lt_of_le h2 t.size, fun k a hk j v hv => (World.cell?_of_block (a := ⟨b, o + k * 8 + j, none⟩) (t.block b h2 (hx h0 _ h1))).trans (h3 k a hk j v hv)⟩

theorem Os.take {w : World} {x : Option Addr} {n c k : Nat} {L : List Osd} (h : Os w x n c L) (hk : k ≤ n) : Os w x k c (L.take k) := by
  have hl := h.len
  refine ⟨by rw [List.length_take]; omega, by have := h.le; omega, by have := h.small; omega, fun e => by have := h.nil e; omega, ?_⟩
  rcases h.row with h0 | ⟨b, o, h1, h2, h3⟩
  · exact .inl (by omega)
  · refine .inr ⟨b, o, h1, h2, fun q a hq j v hv => h3 q a ?_ j v hv⟩
    rw [List.getElem?_take] at hq
    split at hq
    · exact hq
    · cases hq

/- Its k-th one. -/
theorem Os.at {w : World} {b o n c k : Nat} {L : List Osd} {a : Osd} (h : ∀ (k : Nat) (a : Osd), L[k]? = some a → ∀ (j : Nat) (v : Value), (enO a)[j]? = some v → w.cell? ⟨b, o + k * 8 + j, none⟩ = some v) (hk : L[k]? = some a) :
    w.cell? ⟨b, o + k * 8, none⟩ = some (.int .i64 a.id) ∧ w.cell? ⟨b, o + k * 8 + 1, none⟩ = some (.bool a.up) ∧ w.cell? ⟨b, o + k * 8 + 2, none⟩ = some (.bool a.inn) ∧ w.cell? ⟨b, o + k * 8 + 3, none⟩ = some (.int .i64 a.wt) ∧
    w.cell? ⟨b, o + k * 8 + 4, none⟩ = some (.int .i64 a.life) ∧ w.cell? ⟨b, o + k * 8 + 5, none⟩ = some (.int .i64 a.boot) ∧ w.cell? ⟨b, o + k * 8 + 6, none⟩ = some (.int .i64 a.host) ∧ w.cell? ⟨b, o + k * 8 + 7, none⟩ = some (.int .i64 a.rack) :=
  ⟨h k a hk 0 _ rfl, h k a hk 1 _ rfl, h k a hk 2 _ rfl, h k a hk 3 _ rfl, h k a hk 4 _ rfl, h k a hk 5 _ rfl, h k a hk 6 _ rfl, h k a hk 7 _ rfl⟩

theorem orow : Row 24 28 8 56 enO := by
  have hi : (Try.prog.info? 28).map (fun i => (i.zero, i.size, i.bytes)) = some (some (.agg #[.int .i64 0, .bool false, .bool false, .int .i64 0, .int .i64 0, .int .i64 0, .int .i64 0, .int .i64 0]), 8, 56) := by kernel_rfl
  obtain ⟨i0, h1, h2, h3, h4⟩ := info_parts hi
  exact ⟨Try.underlying24, ⟨i0, _, h1, h2, h3, h4, rfl⟩, by decide, by decide, fun a => rfl, fun a v hv => by simp [enO] at hv; rcases hv with rfl | rfl | rfl | rfl | rfl | rfl | rfl | rfl <;> rfl⟩

/- A list of one's own is one that is read. -/
theorem own_os {w : World} {B : Nat} {x : Option Addr} {n c : Nat} {L : List Osd} (h : Own w B 28 8 enO (.slice x n c) L) (hs : L.length ≤ 140737488351232) : Os w x n c L := by
  obtain ⟨x', c', e, h1, h2, h3⟩ := h.form
  injection e with e1 e2 e3
  subst e1 e2 e3
  refine ⟨rfl, h1, hs, h2, ?_⟩
  by_cases h0 : L.length = 0
  · exact .inl h0
  · cases x with
    | none => exact .inl (h2 rfl).1
    | some ad =>
      obtain ⟨g, rfl, hB, hg⟩ := h3 ad rfl
      exact .inr ⟨g, 0, rfl, hg, fun k a hk j v hv => by rw [Nat.zero_add]; exact h.cell orow.len hk hv⟩

theorem eq_osd (a b : Osd) (w : World) : (binOp .eql 28 (vO a) (vO b)).run Try.prog w = .ok (.bool (eqO a b)) w := by
  obtain ⟨a0, a1, a2, a3, a4, a5, a6, a7⟩ := a
  obtain ⟨b0, b1, b2, b3, b4, b5, b6, b7⟩ := b
  unfold vO eqO
  dsimp only
  go_simp
  by_cases e0 : a0 = b0 <;> by_cases e1 : a1 = b1 <;> by_cases e2 : a2 = b2 <;> by_cases e3 : a3 = b3 <;> by_cases e4 : a4 = b4 <;> by_cases e5 : a5 = b5 <;> by_cases e6 : a6 = b6 <;> by_cases e7 : a7 = b7 <;> simp [e0, e1, e2, e3, e4, e5, e6, e7]

end Go.Proofs.Ytnddhlkdemibgaa.At

/-
  A region that draws its order, whose operations only read, and whose callees read and lay blocks of their own: walked once.
  Conditions: none.
-/
namespace Go.Proofs.Ytnddhlkdemibgaa.At
open Go.RowKit By Fl
set_option linter.unusedVariables false
set_option linter.unusedSimpArgs false
set_option maxRecDepth 100000

/- A world in which all that lay in w lies unturned. -/
structure After (w : World) where
  W : World
  h : Below w.heap.size w W

theorem After.ne (w : World) : Nonempty (After w) := ⟨⟨w, Below.refl _ _⟩⟩

theorem wp_region_after {P : Program} {id : Nat} {Q : Exit → Act → World → Prop} {a : Act} {w : World} {l : List Oper} (hm : P.follows .mixedOrders = true) (hB : Region.lexB .any l.toArray = true)
    (h : wpQuiet P l.toArray (fun w' => ∃ p : After w, w' = p.W) (fun a' => ∀ w', (∃ p : After w, w' = p.W) → Q .normal a' w') l a) : (Code.region id l.toArray true).wp P Q a w :=
  wp_region_quiet (C := fun w' => ∃ p : After w, w' = p.W) hm hB ⟨⟨w.drew, (Below.refl _ _).drew⟩, rfl⟩ (by simpa using h)

theorem Calls.after_of {P : Program} {f : FuncId} {args : Array Value} {w : World} {p : After w} {v : Value}
    (h : Calls P f args p.W fun e w' => e = .returned v ∧ Below p.W.heap.size p.W w') : Calls P f args p.W fun e w'' => e = .returned v ∧ ∃ q : After w, w'' = q.W :=
  h.mono fun _ w' ⟨he, hb⟩ => ⟨he, ⟨w', on p.h hb⟩, rfl⟩

theorem Calls.after_same {P : Program} {f : FuncId} {args : Array Value} {w : World} {p : After w} {v : Value}
    (h : Calls P f args p.W fun e w' => e = .returned v ∧ w' = p.W) : Calls P f args p.W fun e w'' => e = .returned v ∧ ∃ q : After w, w'' = q.W :=
  h.mono fun _ w' ⟨he, hb⟩ => ⟨he, p, hb⟩

theorem After.cell {w : World} {b o : Nat} {v : Value} (h : w.cell? ⟨b, o, none⟩ = some v) (p : After w) : p.W.cell? ⟨b, o, none⟩ = some v := keep p.h h

theorem results_cell1 {fn : Func} {p : Tmp} {ty : TypeId} (h : fn.results = #[.cell p ty]) (tmps : Array Value) (P : Program) (w : World) :
    (results fn tmps).run P w = ((asAddr (tmps.getD p undef)).run P w).andThen fun a w₁ => (loadVar ty a).run P w₁ := by
  simp only [results, h]
  simp [Sem.run_bind, Result.andThen]

end Go.Proofs.Ytnddhlkdemibgaa.At

/-
  slices.IndexFunc and slices.ContainsFunc at OSDs, whatever is asked of each; seat, moved.
  Conditions: the list lies in memory.
-/
namespace Go.Proofs.Ytnddhlkdemibgaa.At
open Go.RowKit By Fl
set_option linter.unusedVariables false
set_option linter.unusedSimpArgs false
set_option maxRecDepth 100000

/- What is asked of each: it answers p, and turns nothing. -/
def Pr (g : Nat) (lb : Array Value) (p : Osd → Bool) (w : World) : Prop :=
  ∀ (W : World) (x : Osd), Below w.heap.size w W → Calls Try.prog g (#[vO x] ++ lb) W fun e w' => e = .returned (.bool (p x)) ∧ Below W.heap.size W w'

theorem Pr.below {g : Nat} {lb : Array Value} {p : Osd → Bool} {w w' : World} (h : Pr g lb p w) (hb : Below w.heap.size w w') : Pr g lb p w' := fun W x hW => h W x (on hb hW)

theorem index_any {w : World} {x : Option Addr} {n c : Nat} {L : List Osd} (p : Osd → Bool) (g : Nat) (lb : Array Value) (eg : ∀ args w, (callFunc g args).run Try.prog w = .ok (.enter g args) w) (h : Os w x n c L) (hp : Pr g lb p w) :
    Calls Try.prog 54 #[.slice x n c, .func (.func g) #[] lb] w fun e w' => e = .returned (.int .i64 (idx p L)) ∧ Below w.heap.size w w' := by
  have hm := h.small
  have HO : Hid (Os w x n c L) := h
  have HP : Hid (Pr g lb p w) := hp
  clear h hp
  go_enter Try.func54, Try.ntmps54
  go_wp2_with fail
  go_loopw [8, 5] (fun i _ wr => ∃ k : Nat, k ≤ n ∧ i = .int .i64 k ∧ Hid (Below w.heap.size w wr ∧ ∀ (j : Nat) (m : Osd), j < k → L[j]? = some m → p m = false)) (fun i _ _ => n - (intOf i).toNat)
  case atStart => exact ⟨0, by omega, rfl, Below.refl _ _, fun j m hj => by omega⟩
  case round =>
    obtain ⟨k, hk, rfl, HR⟩ := hrel
    by_cases hlt : k < n
    · have hkn : (k : Int) < (n : Int) := by omega
      have hlen := HO.out.len
      obtain ⟨m, hLm⟩ : ∃ m, L[k]? = some m := ⟨L[k]'(by omega), List.getElem?_eq_getElem (by omega)⟩
      have ho := HO.out.below HR.out.1
      rcases ho.row with h0 | ⟨b, o, rfl, hbl, hcell⟩
      · omega
      obtain ⟨k0, k1, k2, k3, k4, k5, k6, k7⟩ := Os.at (n := n) (c := c) hcell hLm
      have hc := HP.out wr m HR.out.1
      have HM : Hid (L[k]? = some m) := hLm
      clear hLm ho hcell hlen
      obtain ⟨t, ht⟩ : ∃ t, t = p m := ⟨_, rfl⟩
      rw [← ht] at hc
      have HT : Hid (t = p m) := ht
      clear ht
      obtain ⟨id, up, inn, wt, life, boot, host, rack⟩ := m
      unfold vO at hc
      dsimp only at k0 k1 k2 k3 k4 k5 k6 k7 hc
      cases t with
      | true =>
        go_wp2_with (go_at_fn g; refine hc.mono ?_; rintro e w2 ⟨rfl, hb2⟩; clear hc)
        go_ret
        exact ⟨by unfold idx; rw [idx_hit HM.out HT.out.symm HR.out.2]; rfl, on HR.out.1 hb2⟩
      | false =>
        go_wp2_with (go_at_fn g; refine hc.mono ?_; rintro e w2 ⟨rfl, hb2⟩; clear hc)
        go_roundw
        case rel =>
          refine ⟨k + 1, by omega, by go_num, on HR.out.1 hb2, fun j m' hj e => ?_⟩
          by_cases hjk : j = k
          · subst hjk
            have := Option.some.inj (HM.out.symm.trans e)
            rw [← this]
            exact HT.out.symm
          · exact HR.out.2 j m' (by omega) e
        case measure => simp [intOf]; omega
    · have hk2 : k = n := by omega
      subst hk2
      go_wp2_with fail
      go_ret
      refine ⟨?_, HR.out.1⟩
      unfold idx
      rw [idx_miss fun j m e => HR.out.2 j m (by
        have := (List.getElem?_eq_some_iff.1 e).1
        have := HO.out.len
        omega) e]
      rfl

theorem idx_any (p : Osd → Bool) (L : List Osd) : L.any p = decide (0 ≤ idx p L) := by
  unfold idx
  cases h : L.findIdx? p with
  | none =>
    rw [List.findIdx?_eq_none_iff] at h
    simp only [Bool.eq_false_iff] at *
    have : L.any p = false := by
      rw [List.any_eq_false]
      intro x hx e
      exact h x hx e
    rw [this]
    rfl
  | some k =>
    obtain ⟨a, ha, hp, _⟩ := idx_some h
    have : L.any p = true := List.any_eq_true.2 ⟨a, List.mem_of_getElem? ha, hp⟩
    rw [this]
    simp

theorem contains_any {w : World} {x : Option Addr} {n c : Nat} {L : List Osd} (p : Osd → Bool) (g : Nat) (lb : Array Value) (eg : ∀ args w, (callFunc g args).run Try.prog w = .ok (.enter g args) w) (h : Os w x n c L) (hp : Pr g lb p w) :
    Calls Try.prog 77 #[.slice x n c, .func (.func g) #[] lb] w fun e w' => e = .returned (.bool (L.any p)) ∧ Below w.heap.size w w' := by
  have hI := index_any p g lb eg h hp
  rw [idx_any]
  generalize idx p L = r at hI ⊢
  clear h hp
  go_enter Try.func77, Try.ntmps77
  go_wp2_with (go_at_call 54; refine hI.mono ?_; rintro e w2 ⟨rfl, hb2⟩)
  go_ret
  exact ⟨rfl, hb2⟩

theorem seat_clos (w : World) (bx : Nat) (id : Int) (hb : w.cell? ⟨bx, 0, none⟩ = some (.int .i64 id)) : Pr 55 #[.pointer (some ⟨bx, 0, none⟩)] (isId id) w := by
  intro W x hW
  obtain ⟨i, up, inn, wt, life, boot, host, rack⟩ := x
  have h1 := keep hW hb
  have hlt := cell_lt' h1
  have h2 := fun o => keep (al W o) h1
  clear hb hW
  unfold vO isId
  dsimp only
  show Calls Try.prog 55 #[.agg #[.int .i64 i, .bool up, .bool inn, .int .i64 wt, .int .i64 life, .int .i64 boot, .int .i64 host, .int .i64 rack], .pointer (some ⟨bx, 0, none⟩)] W _
  go_enter Try.func55, Try.ntmps55
  go_wp2_with fail
  go_ret
  exact ⟨rfl, al _ _⟩

theorem moved_clos (w : World) (bx : Nat) (h r : Int) (hb : w.cell? ⟨bx, 6, none⟩ = some (.int .i64 h)) (hr : w.cell? ⟨bx, 7, none⟩ = some (.int .i64 r)) (o : Osd) (eh : o.host = h) (er : o.rack = r) : Pr 78 #[.pointer (some ⟨bx, 0, none⟩)] (mvB o) w := by
  intro W x hW
  obtain ⟨i, up, inn, wt, life, boot, host, rack⟩ := x
  have h1 := keep hW hb
  have h3 := keep hW hr
  have hlt := cell_lt' h1
  have h2 := fun o => keep (al W o) h1
  have h4 := fun o => keep (al W o) h3
  unfold vO mvB
  rw [eh, er]
  clear hb hr hW eh er
  dsimp only
  show Calls Try.prog 78 #[.agg #[.int .i64 i, .bool up, .bool inn, .int .i64 wt, .int .i64 life, .int .i64 boot, .int .i64 host, .int .i64 rack], .pointer (some ⟨bx, 0, none⟩)] W _
  go_enter Try.func78, Try.ntmps78
  go_wp2_with fail
  all_goals (go_ret; exact ⟨by by_cases e : rack = r <;> simp_all, al _ _⟩)

theorem add_clos (w : World) (bx : Nat) (id : Int) (hb : w.cell? ⟨bx, 0, none⟩ = some (.int .i64 id)) : Pr 79 #[.pointer (some ⟨bx, 0, none⟩)] (overId id) w := by
  intro W x hW
  obtain ⟨i, up, inn, wt, life, boot, host, rack⟩ := x
  have h1 := keep hW hb
  have hlt := cell_lt' h1
  have h2 := fun o => keep (al W o) h1
  clear hb hW
  unfold vO overId
  dsimp only
  show Calls Try.prog 79 #[.agg #[.int .i64 i, .bool up, .bool inn, .int .i64 wt, .int .i64 life, .int .i64 boot, .int .i64 host, .int .i64 rack], .pointer (some ⟨bx, 0, none⟩)] W _
  go_enter Try.func79, Try.ntmps79
  go_wp2_with fail
  go_ret
  exact ⟨rfl, al _ _⟩

theorem seat_any {w : World} {x : Option Addr} {n c : Nat} {L : List Osd} (id : Int) (h : Os w x n c L) :
    Calls Try.prog 33 #[.slice x n c, .int .i64 id] w fun e w' => e = .returned (.int .i64 (idx (isId id) L)) ∧ Below w.heap.size w w' := by
  have b0 := al w (.cells #[.int .i64 id] 3)
  have hI := index_any (isId id) 55 #[.pointer (some ⟨w.heap.size, 0, none⟩)] (enters_of Try.func55 (by kernel_rfl) rfl) (h.below b0) (seat_clos _ w.heap.size id (by go_simp))
  generalize idx (isId id) L = r at hI ⊢
  clear h
  go_enter Try.func33, Try.ntmps33
  go_wp2_with (go_at_call 54; refine hI.mono ?_; rintro e w2 ⟨rfl, hb2⟩)
  go_ret
  exact ⟨rfl, on b0 hb2⟩

theorem moved_any {w : World} {x : Option Addr} {n c : Nat} {L : List Osd} (o : Osd) (h : Os w x n c L) :
    Calls Try.prog 57 #[.slice x n c, vO o] w fun e w' => e = .returned (.bool (movedB L o)) ∧ Below w.heap.size w w' := by
  have b0 := al w (.cells #[.int .i64 o.id, .bool o.up, .bool o.inn, .int .i64 o.wt, .int .i64 o.life, .int .i64 o.boot, .int .i64 o.host, .int .i64 o.rack] 28)
  have hI := contains_any (mvB o) 78 #[.pointer (some ⟨w.heap.size, 0, none⟩)] (enters_of Try.func78 (by kernel_rfl) rfl) (h.below b0) (moved_clos _ w.heap.size o.host o.rack (by go_simp) (by go_simp) o rfl rfl)
  unfold movedB
  generalize L.any (mvB o) = r at hI ⊢
  clear h
  obtain ⟨i, up, inn, wt, life, boot, host, rack⟩ := o
  unfold vO
  dsimp only at b0 hI ⊢
  go_enter Try.func57, Try.ntmps57
  go_wp2_with (go_at_call 77; refine hI.mono ?_; rintro e w2 ⟨rfl, hb2⟩)
  go_ret
  exact ⟨rfl, on b0 hb2⟩

end Go.Proofs.Ytnddhlkdemibgaa.At

/-
  One OSD, and one map, that are written: where they lie; what setUp, setDown, setIn, setOut, setWeight do to one.
  Conditions: none.
-/
namespace Go.Proofs.Ytnddhlkdemibgaa.At
open Go.RowKit By Fl
set_option linter.unusedVariables false
set_option linter.unusedSimpArgs false
set_option maxRecDepth 100000

theorem heap_set {w : World} {a j : Nat} {cs : Array Value} {t : TypeId} (h : w.heap[a]? = some (.cells cs t (0, 0))) (v : Value) : (w.setCell ⟨a, j, none⟩ v).heap[a]? = some (.cells (cs.setIfInBounds j v) t (0, 0)) := by
  rw [setCell_eq_setRow w a j cs t (0, 0) v h]
  exact setRow_heap w a cs _ t (0, 0) h

theorem cell_heap {w : World} {a j : Nat} {cs : Array Value} {t : TypeId} (h : w.heap[a]? = some (.cells cs t (0, 0))) {v : Value} (hv : cs[j]? = some v) : w.cell? ⟨a, j, none⟩ = some v := by
  simp only [World.cell?, h]
  simpa using hv

theorem fr_heap {w : World} {a : Nat} {cs : Array Value} {t : TypeId} (h : w.heap[a]? = some (.cells cs t (0, 0))) (j : Nat) : w.frozen? ⟨a, j, none⟩ = false := by
  simp [World.frozen?, h]

def OBox (w : World) (a : Nat) (o : Osd) : Prop := w.heap[a]? = some (.cells #[.int .i64 o.id, .bool o.up, .bool o.inn, .int .i64 o.wt, .int .i64 o.life, .int .i64 o.boot, .int .i64 o.host, .int .i64 o.rack] 28 (0, 0))

theorem OBox.lt {w : World} {a : Nat} {o : Osd} (h : OBox w a o) : a < w.heap.size := (Array.getElem?_eq_some_iff.1 h).1

theorem OBox.at {w : World} {a : Nat} {o : Osd} (h : OBox w a o) : w.cell? ⟨a, 0, none⟩ = some (.int .i64 o.id) ∧ w.cell? ⟨a, 1, none⟩ = some (.bool o.up) ∧ w.cell? ⟨a, 2, none⟩ = some (.bool o.inn) ∧ w.cell? ⟨a, 3, none⟩ = some (.int .i64 o.wt) ∧
    w.cell? ⟨a, 4, none⟩ = some (.int .i64 o.life) ∧ w.cell? ⟨a, 5, none⟩ = some (.int .i64 o.boot) ∧ w.cell? ⟨a, 6, none⟩ = some (.int .i64 o.host) ∧ w.cell? ⟨a, 7, none⟩ = some (.int .i64 o.rack) :=
  ⟨cell_heap h rfl, cell_heap h rfl, cell_heap h rfl, cell_heap h rfl, cell_heap h rfl, cell_heap h rfl, cell_heap h rfl, cell_heap h rfl⟩

theorem OBox.turns {G : Nat → Prop} {w w' : World} {a : Nat} {o : Osd} (h : OBox w a o) (t : Turns G w w') (hg : ¬ G a) : OBox w' a o := (t.block a h.lt hg).trans h

theorem turns_put {w w' : World} {a : Nat} (t : Turns (fun k => k = a) w w') (j : Nat) (v : Value) : Turns (fun k => k = a) w (w'.setCell ⟨a, j, none⟩ v) := t.setCell (p := ⟨a, j, none⟩) (.inl rfl) v

/- What is done to one of them. -/
def Does (g : Nat) (lb : Array Value) (f : Osd → Osd) (w : World) : Prop :=
  ∀ (W : World) (a : Nat) (x : Osd), Below w.heap.size w W → w.heap.size ≤ a → OBox W a x → Calls Try.prog g (#[.pointer (some ⟨a, 0, none⟩)] ++ lb) W fun e w' => e = .returned (.tuple #[]) ∧ Hid (OBox w' a (f x) ∧ Turns (fun k => k = a) W w')

theorem Does.below {g : Nat} {lb : Array Value} {f : Osd → Osd} {w w' : World} (h : Does g lb f w) (hb : Below w.heap.size w w') : Does g lb f w' := fun W a x hW ha hx => h W a x (on hb hW) (Nat.le_trans hb.size ha) hx

theorem down_clos (o : Osd) (w : World) : Does 83 #[] (setDown o) w := by
  intro W a x hW ha hx
  have HX := hid hx
  obtain ⟨k0, k1, k2, k3, k4, k5, k6, k7⟩ := hx.at
  have f1 := fr_heap hx 1
  clear hx hW ha
  show Calls Try.prog 83 #[.pointer (some ⟨a, 0, none⟩)] W _
  go_enter Try.func83, Try.ntmps83
  go_wp2_with fail
  go_end0
  refine ⟨rfl, ?_, turns_put (Turns.refl _ _) _ _⟩
  exact heap_set HX.out _

theorem in_clos (o : Osd) (w : World) : Does 84 #[] (setIn o) w := by
  intro W a x hW ha hx
  have HX := hid hx
  obtain ⟨k0, k1, k2, k3, k4, k5, k6, k7⟩ := hx.at
  have f1 := fr_heap hx 2
  clear hx hW ha
  show Calls Try.prog 84 #[.pointer (some ⟨a, 0, none⟩)] W _
  go_enter Try.func84, Try.ntmps84
  go_wp2_with fail
  go_end0
  refine ⟨rfl, ?_, turns_put (Turns.refl _ _) _ _⟩
  exact heap_set HX.out _

theorem out_clos (o : Osd) (w : World) : Does 85 #[] (setOut o) w := by
  intro W a x hW ha hx
  have HX := hid hx
  obtain ⟨k0, k1, k2, k3, k4, k5, k6, k7⟩ := hx.at
  have f1 := fr_heap hx 2
  clear hx hW ha
  show Calls Try.prog 85 #[.pointer (some ⟨a, 0, none⟩)] W _
  go_enter Try.func85, Try.ntmps85
  go_wp2_with fail
  go_end0
  refine ⟨rfl, ?_, turns_put (Turns.refl _ _) _ _⟩
  exact heap_set HX.out _

theorem weight_clos (o : Osd) (w : World) (bx : Nat) (wt : Int) (hb : w.cell? ⟨bx, 3, none⟩ = some (.int .i64 wt)) (ho : o.wt = wt) : Does 86 #[.pointer (some ⟨bx, 0, none⟩)] (setWt o) w := by
  intro W a x hW ha hx
  have HX := hid hx
  obtain ⟨k0, k1, k2, k3, k4, k5, k6, k7⟩ := hx.at
  have f1 := fr_heap hx 3
  have q := keep hW hb
  have hne : bx ≠ a := by have := cell_lt' hb; simp at this; omega
  have HO := hid ho
  clear hx hW ha hb ho
  show Calls Try.prog 86 #[.pointer (some ⟨a, 0, none⟩), .pointer (some ⟨bx, 0, none⟩)] W _
  go_enter Try.func86, Try.ntmps86
  go_wp2_with fail
  go_end0
  refine ⟨rfl, ?_, turns_put (Turns.refl _ _) _ _⟩
  rw [← HO.out]
  exact heap_set HX.out _

theorem up_clos (o : Osd) (w : World) (bx : Nat) (life boot : Int) (hb : w.cell? ⟨bx, 4, none⟩ = some (.int .i64 life)) (hb2 : w.cell? ⟨bx, 5, none⟩ = some (.int .i64 boot)) (ho : o.life = life) (ho2 : o.boot = boot) : Does 82 #[.pointer (some ⟨bx, 0, none⟩)] (setUp o) w := by
  intro W a x hW ha hx
  have HX := hid hx
  obtain ⟨k0, k1, k2, k3, k4, k5, k6, k7⟩ := hx.at
  have f1 := fr_heap hx 1
  have f4 := fr_heap hx 4
  have f5 := fr_heap hx 5
  have q := keep hW hb
  have q2 := keep hW hb2
  have hne : bx ≠ a := by have := cell_lt' hb; simp at this; omega
  have HO := hid (show o.life = life ∧ o.boot = boot from ⟨ho, ho2⟩)
  clear hx hW ha hb hb2 ho ho2
  show Calls Try.prog 82 #[.pointer (some ⟨a, 0, none⟩), .pointer (some ⟨bx, 0, none⟩)] W _
  go_enter Try.func82, Try.ntmps82
  go_wp2_with fail
  go_region
  go_wp2_with fail
  go_end0
  refine ⟨rfl, ?_, (turns_put (turns_put (turns_put (Turns.refl _ _) _ _) _ _) _ _).drew⟩
  rw [← HO.out.1, ← HO.out.2]
  exact heap_set (heap_set (heap_set HX.out _) _) _

end Go.Proofs.Ytnddhlkdemibgaa.At

/-
  Package atlas: turn, and what each kind of change but ChangeAdd does to a map's OSDs.
  Conditions: the map is one's own.
-/
namespace Go.Proofs.Ytnddhlkdemibgaa.At
open Go.RowKit By Fl
set_option linter.unusedVariables false
set_option linter.unusedSimpArgs false
set_option maxRecDepth 100000

structure MapAt (w : World) (B p : Nat) (m : Mp) (R : Value) : Prop where
  blk : w.heap[p]? = some (.cells #[.int .i64 m.ep, .int .i64 m.pool.k, .int .i64 m.pool.m, .int .i64 m.pool.pgs, .int .i64 m.pool.dom, R] 26 (0, 0))
  own : Own w B 28 8 enO R m.osds
  small : m.osds.length ≤ 64

theorem MapAt.lt {w : World} {B p : Nat} {m : Mp} {R : Value} (h : MapAt w B p m R) : p < w.heap.size := (Array.getElem?_eq_some_iff.1 h.blk).1

theorem MapAt.apart {w : World} {B p : Nat} {m : Mp} {R : Value} (h : MapAt w B p m R) {g : Nat} (hg : R.ownBlock = some g) : g ≠ p := fun e => by
  subst e
  have := (h.own.tb hg).2.same ⟨_, _, h.blk⟩
  cases this

theorem MapAt.turns {G : Nat → Prop} {w w' : World} {B p : Nat} {m : Mp} {R : Value} (h : MapAt w B p m R) (t : Turns G w w') (h1 : ¬ G p) (h2 : ∀ g, R.ownBlock = some g → ¬ G g) : MapAt w' B p m R :=
  ⟨(t.block p h.lt h1).trans h.blk, h.own.turns t h2, h.small⟩

theorem MapAt.below {w w' : World} {B p : Nat} {m : Mp} {R : Value} (h : MapAt w B p m R) (t : Below w.heap.size w w') : MapAt w' B p m R :=
  h.turns (Turns.of_below (F := fun _ => False) t) (fun h => h) (fun _ _ h => h)

theorem bel_drewN (w : World) (n : Nat) : Below w.heap.size w (w.drewN n) := ⟨rfl, rfl, rfl, Nat.le_refl _, fun _ _ => rfl⟩

theorem flat_set8 : ∀ (L : List Osd) (i : Nat) (a : Osd), flat enO (L.set i a) = ((((((((flat enO L).set (i * 8) (.int .i64 a.id)).set (i * 8 + 1) (.bool a.up)).set (i * 8 + 2) (.bool a.inn)).set (i * 8 + 3) (.int .i64 a.wt)).set (i * 8 + 4) (.int .i64 a.life)).set (i * 8 + 5) (.int .i64 a.boot)).set (i * 8 + 6) (.int .i64 a.host)).set (i * 8 + 7) (.int .i64 a.rack)
  | [], i, a => by simp [flat]
  | b :: L, 0, a => by simp [flat_cons, enO]
  | b :: L, i + 1, a => by
    rw [List.set_cons_succ, flat_cons, flat_cons, flat_set8 L i a, show (i + 1) * 8 = i * 8 + 1 + 1 + 1 + 1 + 1 + 1 + 1 + 1 by omega]
    simp [List.set_cons_succ, enO]

def put8 (w : World) (g o : Nat) (a : Osd) : World :=
  (((((((w.setCell ⟨g, o, none⟩ (.int .i64 a.id)).setCell ⟨g, o + 1, none⟩ (.bool a.up)).setCell ⟨g, o + 2, none⟩ (.bool a.inn)).setCell ⟨g, o + 3, none⟩ (.int .i64 a.wt)).setCell ⟨g, o + 4, none⟩ (.int .i64 a.life)).setCell ⟨g, o + 5, none⟩ (.int .i64 a.boot)).setCell ⟨g, o + 6, none⟩ (.int .i64 a.host)).setCell ⟨g, o + 7, none⟩ (.int .i64 a.rack)

theorem Own.set8 {w : World} {B g n c : Nat} {L : List Osd} (h : Own w B 28 8 enO (.slice (some ⟨g, 0, none⟩) n c) L) (i : Nat) (a : Osd) : Own (put8 w g (i * 8) a) B 28 8 enO (.slice (some ⟨g, 0, none⟩) n c) (L.set i a) := by
  have hL := h.heap.1
  unfold Own at h ⊢
  rw [List.length_set, flat_set8]
  rw [hL] at h ⊢
  exact own_setCell (own_setCell (own_setCell (own_setCell (own_setCell (own_setCell (own_setCell (own_setCell h _ _) _ _) _ _) _ _) _ _) _ _) _ _) _ _

theorem turns_put8 {w : World} {g o : Nat} {a : Osd} : Turns (fun k => k = g) w (put8 w g o a) :=
  turns_put (turns_put (turns_put (turns_put (turns_put (turns_put (turns_put (turns_put (Turns.refl _ _) _ _) _ _) _ _) _ _) _ _) _ _) _ _) _ _

theorem turnP_none {L : List Osd} {id : Int} (f : Osd → Osd) (h : L.findIdx? (isId id) = none) : turnP L id f = (4, L) := by unfold turnP; rw [h]
theorem turnP_same {L : List Osd} {id : Int} {f : Osd → Osd} {k : Nat} {x : Osd} (h : L.findIdx? (isId id) = some k) (hx : L[k]? = some x) (he : eqO (f x) x = true) : turnP L id f = (6, L) := by unfold turnP; simp [h, hx, he]
theorem turnP_yes {L : List Osd} {id : Int} {f : Osd → Osd} {k : Nat} {x : Osd} (h : L.findIdx? (isId id) = some k) (hx : L[k]? = some x) (he : eqO (f x) x = false) : turnP L id f = (0, L.set k (f x)) := by unfold turnP; simp [h, hx, he]

theorem turnP_len (L : List Osd) (id : Int) (f : Osd → Osd) : (turnP L id f).2.length = L.length := by
  unfold turnP
  split
  · rfl
  · split
    · rfl
    · split
      · rfl
      · simp

def Turned (w w' : World) (B p : Nat) (m : Mp) (R : Value) (L : List Osd) : Prop := ∃ R', MapAt w' B p ⟨m.ep, m.pool, L⟩ R' ∧ Turns (fun k => k = p ∨ R.ownBlock = some k) w w' ∧ ∀ g, R'.ownBlock = some g → R.ownBlock = some g ∨ w.heap.size ≤ g

theorem Turned.not {w w' : World} {B p : Nat} {m : Mp} {R : Value} (h : MapAt w B p m R) (b : Below w.heap.size w w') : Turned w w' B p m R m.osds := ⟨R, h.below b, Turns.of_below b, fun g hg => .inl hg⟩

set_option maxHeartbeats 1600000 in
theorem turn_any {w : World} {B p : Nat} {m : Mp} {R : Value} (id : Int) (f : Osd → Osd) (g : Nat) (lb : Array Value) (eg : ∀ args w, (callFunc g args).run Try.prog w = .ok (.enter g args) w) (h : MapAt w B p m R) (hby : Does g lb f w) :
    Calls Try.prog 81 #[.pointer (some ⟨p, 0, none⟩), .int .i64 id, .func (.func g) #[] lb] w fun e w' => e = .returned (.int .i64 (turnP m.osds id f).1) ∧ Hid (Turned w w' B p m R (turnP m.osds id f).2) := by
  have HM := hid h
  obtain ⟨x, c, rfl, hnc, hnil, hx⟩ := h.own.form
  have p5 := cell_heap h.blk (j := 5) rfl
  have hS := seat_any id (own_os h.own (by have := h.small; omega))
  obtain ⟨n, hn⟩ : ∃ n, n = m.osds.length := ⟨_, rfl⟩
  rw [← hn] at p5 hS hnc hnil HM ⊢
  have HN := hid hn
  have hn64 : n ≤ 64 := by rw [hn]; exact h.small
  have hpl := h.lt
  clear h hn
  cases hi : m.osds.findIdx? (isId id) with
  | none =>
    have HI := hid hi
    rw [show idx (isId id) m.osds = -1 by unfold idx; rw [hi]] at hS
    clear hi
    go_enter Try.func81, Try.ntmps81
    go_wp2_with (go_at_call 33; refine hS.mono ?_; rintro e w1 ⟨rfl, hb1⟩; clear hS)
    go_ret
    rw [turnP_none f HI.out]
    exact ⟨rfl, Turned.not HM.out hb1⟩
  | some k =>
    obtain ⟨o, ho, hid1, _⟩ := idx_some hi
    have HI := hid (show m.osds.findIdx? (isId id) = some k ∧ m.osds[k]? = some o from ⟨hi, ho⟩)
    have hkn : k < n := by rw [HN.out]; exact (List.getElem?_eq_some_iff.1 ho).1
    rw [show idx (isId id) m.osds = (k : Int) by unfold idx; rw [hi]] at hS
    have hk0 : ¬ (k : Int) < 0 := by omega
    have hkI : (k : Int) < (n : Int) := by omega
    obtain ⟨gr, rfl⟩ : ∃ gr, x = some ⟨gr, 0, none⟩ := by
      cases x with
      | none => have := hnil rfl; omega
      | some ad =>
        obtain ⟨gr, rfl, _⟩ := hx ad rfl
        exact ⟨gr, rfl⟩
    have HO := hid HM.out.own
    have hlt := HM.out.own.heap.2.2.2
    have hgp : gr ≠ p := HM.out.apart rfl
    have hgl := (World.ownsRow.lt HM.out.own gr rfl).2
    have HB := hid hby
    have hE := fun W => eq_osd (f o) o W
    obtain ⟨t, ht⟩ : ∃ t, t = eqO (f o) o := ⟨_, rfl⟩
    rw [← ht] at hE
    have HT := hid ht
    have HF : Hid (∀ w' : World, Turned w w' B p m (.slice (some ⟨gr, 0, none⟩) n c) (turnP m.osds id f).2 → Turned w w' B p m (.slice (some ⟨gr, 0, none⟩) n c) (turnP m.osds id f).2) := fun _ h => h
    clear hi ho hid1 hx hnil hby ht
    obtain ⟨y, hy⟩ : ∃ y, y = f o := ⟨_, rfl⟩
    rw [← hy] at hE
    have HY := hid hy
    clear hy
    obtain ⟨i0, i1, i2, i3, i4, i5, i6, i7⟩ := o
    obtain ⟨y0, y1, y2, y3, y4, y5, y6, y7⟩ := y
    unfold vO at hE
    dsimp only at hE
    go_enter Try.func81, Try.ntmps81
    go_wp2_with (first
      | (go_at_call 33; refine hS.mono ?_; rintro e w1 ⟨rfl, hb1⟩; clear hS
         have q5 := keep hb1 p5
         obtain ⟨k0, k1, k2, k3, k4, k5, k6, k7⟩ : _ := Os.at (n := n) (c := c) (w := w1) (b := gr) (o := 0) (fun q a hq j v hv => by rw [Nat.zero_add]; exact (HO.out.below hb1).cell orow.len hq hv) HI.out.2
         rw [Nat.zero_add] at k0 k1 k2 k3 k4 k5 k6 k7
         dsimp only at k0 k1 k2 k3 k4 k5 k6 k7
         have lt1 : p < w1.heap.size := Nat.lt_of_lt_of_le hpl hb1.size
         have lt2 : gr < w1.heap.size := Nat.lt_of_lt_of_le hgl hb1.size
         have hD := HB.out (w1.alloc (.cells #[.int .i64 i0, .bool i1, .bool i2, .int .i64 i3, .int .i64 i4, .int .i64 i5, .int .i64 i6, .int .i64 i7] 28)) w1.heap.size ⟨i0, i1, i2, i3, i4, i5, i6, i7⟩ (on hb1 (al _ _)) hb1.size (heap_alloc_new _ _))
      | (go_at_fn g; refine hD.mono ?_; rintro e w2 ⟨rfl, H2⟩; clear hD
         rw [← HY.out] at H2
         obtain ⟨a0, a1, a2, a3, a4, a5, a6, a7⟩ := H2.out.1.at
         have T2 := H2.out.2
         have hal := al w1 (.cells #[.int .i64 i0, .bool i1, .bool i2, .int .i64 i3, .int .i64 i4, .int .i64 i5, .int .i64 i6, .int .i64 i7] 28)
         have np : p ≠ w1.heap.size := by omega
         have ng : gr ≠ w1.heap.size := by omega
         have KK : ∀ (b q : Nat) (v : Value), b ≠ w1.heap.size → w1.cell? ⟨b, q, none⟩ = some v → w2.cell? ⟨b, q, none⟩ = some v := fun b q v hb hv => (World.cell?_of_block (a := ⟨b, q, none⟩) (T2.block b (cell_lt' (keep hal hv)) hb)).trans (keep hal hv)
         have r5 := KK _ _ _ np q5
         have l0 := KK _ _ _ ng k0
         have l1 := KK _ _ _ ng k1
         have l2 := KK _ _ _ ng k2
         have l3 := KK _ _ _ ng k3
         have l4 := KK _ _ _ ng k4
         have l5 := KK _ _ _ ng k5
         have l6 := KK _ _ _ ng k6
         have l7 := KK _ _ _ ng k7
         have H3 : Hid (Turns (fun k => k = w1.heap.size) w1 w2) := ⟨T2.os.trans hal.os, T2.tape.trans hal.tape, T2.output.trans hal.output, Nat.le_trans hal.size T2.size, fun k hk hne => (T2.block k (Nat.lt_of_lt_of_le hk hal.size) hne).trans (hal.block k hk)⟩
         clear KK T2 hal q5 k0 k1 k2 k3 k4 k5 k6 k7))
    have F3 : Hid (∀ W : World, Below w2.heap.size w2 W → Below w.heap.size w W ∧ Turned w W B p m (.slice (some ⟨gr, 0, none⟩) n c) m.osds) := fun W hW => by
      have hb := on hb1 (on ((H3.out.below (B := w1.heap.size) (fun k hk => by rw [hk]; exact Nat.le_refl _) (Nat.le_refl _))) hW)
      exact ⟨hb, Turned.not HM.out hb⟩
    cases t with
    | true =>
      go_quiet (fail)
      go_wp2_with fail
      go_ret
      rw [turnP_same HI.out.1 HI.out.2 (by rw [← HT.out])]
      exact ⟨rfl, (F3.out _ (bel_drewN _ _)).2⟩
    | false =>
      have fz : ∀ j, w2.frozen? ⟨gr, j, none⟩ = false := fun j => by
        rw [World.frozen?_of_block (a := ⟨gr, j, none⟩) (H3.out.block gr lt2 ng)]
        exact (HO.out.below hb1).frozen
      go_quiet (fail)
      go_wp2_with fail
      go_region
      go_wp2_with fail
      go_ret
      rw [turnP_yes HI.out.1 HI.out.2 (by rw [← HT.out]), ← HY.out]
      have hb := (F3.out (w2.drewN (nq + 1)) (bel_drewN _ _)).1
      have hM2 := HM.out.below hb
      have TP : Turns (fun k => k = gr) (w2.drewN (nq + 1)) _ := turns_put8 (w := w2.drewN (nq + 1)) (g := gr) (o := k * 8) (a := ⟨y0, y1, y2, y3, y4, y5, y6, y7⟩)
      exact ⟨rfl, .slice (some ⟨gr, 0, none⟩) n c, ⟨(TP.block p hM2.lt (Ne.symm hgp)).trans hM2.blk, Own.set8 hM2.own k ⟨y0, y1, y2, y3, y4, y5, y6, y7⟩, by show (m.osds.set k _).length ≤ 64; rw [List.length_set]; exact hM2.small⟩, (Turns.of_below hb).more TP (fun i hi => .inl (.inr (by rw [hi]; rfl))), fun g hg => .inl hg⟩

theorem setUp_any {w : World} {B p : Nat} {m : Mp} {R : Value} (o : Osd) (h : MapAt w B p m R) (hB : B ≤ w.heap.size) :
    Calls Try.prog 60 #[.pointer (some ⟨p, 0, none⟩), vO o] w fun e w' => e = .returned (.int .i64 (turnP m.osds o.id (setUp o)).1) ∧ Hid (Turned w w' B p m R (turnP m.osds o.id (setUp o)).2) := by
  have b0 := al w (.cells #[.int .i64 o.id, .bool o.up, .bool o.inn, .int .i64 o.wt, .int .i64 o.life, .int .i64 o.boot, .int .i64 o.host, .int .i64 o.rack] 28)
  have hT := turn_any o.id (setUp o) 82 #[.pointer (some ⟨w.heap.size, 0, none⟩)] (enters_of Try.func82 (by kernel_rfl) rfl) (h.below b0) (up_clos o _ w.heap.size o.life o.boot (by go_simp) (by go_simp) rfl rfl)
  have HT : Hid (∀ (w' : World) (L : List Osd), Turned (w.alloc (.cells #[.int .i64 o.id, .bool o.up, .bool o.inn, .int .i64 o.wt, .int .i64 o.life, .int .i64 o.boot, .int .i64 o.host, .int .i64 o.rack] 28)) w' B p m R L → Turned w w' B p m R L) := fun w' L ⟨R', h1, h2, h3⟩ => ⟨R', h1, (Turns.of_below b0).trans h2, fun g hg => (h3 g hg).imp (fun h => h) (fun h => by simp at h; omega)⟩
  generalize (turnP m.osds o.id (setUp o)) = r at *
  clear h
  obtain ⟨i, up, inn, wt, life, boot, host, rack⟩ := o
  unfold vO
  dsimp only at b0 hT HT ⊢
  go_enter Try.func60, Try.ntmps60
  go_wp2_with (go_at_call 81; refine hT.mono ?_; rintro e w2 ⟨rfl, h2⟩)
  go_ret
  exact ⟨rfl, HT.out _ _ h2.out⟩

theorem setDown_any {w : World} {B p : Nat} {m : Mp} {R : Value} (o : Osd) (h : MapAt w B p m R) (hB : B ≤ w.heap.size) :
    Calls Try.prog 62 #[.pointer (some ⟨p, 0, none⟩), vO o] w fun e w' => e = .returned (.int .i64 (turnP m.osds o.id (setDown o)).1) ∧ Hid (Turned w w' B p m R (turnP m.osds o.id (setDown o)).2) := by
  have b0 := al w (.cells #[.int .i64 o.id, .bool o.up, .bool o.inn, .int .i64 o.wt, .int .i64 o.life, .int .i64 o.boot, .int .i64 o.host, .int .i64 o.rack] 28)
  have hT := turn_any o.id (setDown o) 83 #[] (enters_of Try.func83 (by kernel_rfl) rfl) (h.below b0) (down_clos o _)
  have HT : Hid (∀ (w' : World) (L : List Osd), Turned (w.alloc (.cells #[.int .i64 o.id, .bool o.up, .bool o.inn, .int .i64 o.wt, .int .i64 o.life, .int .i64 o.boot, .int .i64 o.host, .int .i64 o.rack] 28)) w' B p m R L → Turned w w' B p m R L) := fun w' L ⟨R', h1, h2, h3⟩ => ⟨R', h1, (Turns.of_below b0).trans h2, fun g hg => (h3 g hg).imp (fun h => h) (fun h => by simp at h; omega)⟩
  generalize (turnP m.osds o.id (setDown o)) = r at *
  clear h
  obtain ⟨i, up, inn, wt, life, boot, host, rack⟩ := o
  unfold vO
  dsimp only at b0 hT HT ⊢
  go_enter Try.func62, Try.ntmps62
  go_wp2_with (go_at_call 81; refine hT.mono ?_; rintro e w2 ⟨rfl, h2⟩)
  go_ret
  exact ⟨rfl, HT.out _ _ h2.out⟩

theorem setIn_any {w : World} {B p : Nat} {m : Mp} {R : Value} (o : Osd) (h : MapAt w B p m R) (hB : B ≤ w.heap.size) :
    Calls Try.prog 63 #[.pointer (some ⟨p, 0, none⟩), vO o] w fun e w' => e = .returned (.int .i64 (turnP m.osds o.id (setIn o)).1) ∧ Hid (Turned w w' B p m R (turnP m.osds o.id (setIn o)).2) := by
  have b0 := al w (.cells #[.int .i64 o.id, .bool o.up, .bool o.inn, .int .i64 o.wt, .int .i64 o.life, .int .i64 o.boot, .int .i64 o.host, .int .i64 o.rack] 28)
  have hT := turn_any o.id (setIn o) 84 #[] (enters_of Try.func84 (by kernel_rfl) rfl) (h.below b0) (in_clos o _)
  have HT : Hid (∀ (w' : World) (L : List Osd), Turned (w.alloc (.cells #[.int .i64 o.id, .bool o.up, .bool o.inn, .int .i64 o.wt, .int .i64 o.life, .int .i64 o.boot, .int .i64 o.host, .int .i64 o.rack] 28)) w' B p m R L → Turned w w' B p m R L) := fun w' L ⟨R', h1, h2, h3⟩ => ⟨R', h1, (Turns.of_below b0).trans h2, fun g hg => (h3 g hg).imp (fun h => h) (fun h => by simp at h; omega)⟩
  generalize (turnP m.osds o.id (setIn o)) = r at *
  clear h
  obtain ⟨i, up, inn, wt, life, boot, host, rack⟩ := o
  unfold vO
  dsimp only at b0 hT HT ⊢
  go_enter Try.func63, Try.ntmps63
  go_wp2_with (go_at_call 81; refine hT.mono ?_; rintro e w2 ⟨rfl, h2⟩)
  go_ret
  exact ⟨rfl, HT.out _ _ h2.out⟩

theorem setOut_any {w : World} {B p : Nat} {m : Mp} {R : Value} (o : Osd) (h : MapAt w B p m R) (hB : B ≤ w.heap.size) :
    Calls Try.prog 64 #[.pointer (some ⟨p, 0, none⟩), vO o] w fun e w' => e = .returned (.int .i64 (turnP m.osds o.id (setOut o)).1) ∧ Hid (Turned w w' B p m R (turnP m.osds o.id (setOut o)).2) := by
  have b0 := al w (.cells #[.int .i64 o.id, .bool o.up, .bool o.inn, .int .i64 o.wt, .int .i64 o.life, .int .i64 o.boot, .int .i64 o.host, .int .i64 o.rack] 28)
  have hT := turn_any o.id (setOut o) 85 #[] (enters_of Try.func85 (by kernel_rfl) rfl) (h.below b0) (out_clos o _)
  have HT : Hid (∀ (w' : World) (L : List Osd), Turned (w.alloc (.cells #[.int .i64 o.id, .bool o.up, .bool o.inn, .int .i64 o.wt, .int .i64 o.life, .int .i64 o.boot, .int .i64 o.host, .int .i64 o.rack] 28)) w' B p m R L → Turned w w' B p m R L) := fun w' L ⟨R', h1, h2, h3⟩ => ⟨R', h1, (Turns.of_below b0).trans h2, fun g hg => (h3 g hg).imp (fun h => h) (fun h => by simp at h; omega)⟩
  generalize (turnP m.osds o.id (setOut o)) = r at *
  clear h
  obtain ⟨i, up, inn, wt, life, boot, host, rack⟩ := o
  unfold vO
  dsimp only at b0 hT HT ⊢
  go_enter Try.func64, Try.ntmps64
  go_wp2_with (go_at_call 81; refine hT.mono ?_; rintro e w2 ⟨rfl, h2⟩)
  go_ret
  exact ⟨rfl, HT.out _ _ h2.out⟩

theorem setWeight_any {w : World} {B p : Nat} {m : Mp} {R : Value} (o : Osd) (h : MapAt w B p m R) (hB : B ≤ w.heap.size) :
    Calls Try.prog 66 #[.pointer (some ⟨p, 0, none⟩), vO o] w fun e w' => e = .returned (.int .i64 (turnP m.osds o.id (setWt o)).1) ∧ Hid (Turned w w' B p m R (turnP m.osds o.id (setWt o)).2) := by
  have b0 := al w (.cells #[.int .i64 o.id, .bool o.up, .bool o.inn, .int .i64 o.wt, .int .i64 o.life, .int .i64 o.boot, .int .i64 o.host, .int .i64 o.rack] 28)
  have hT := turn_any o.id (setWt o) 86 #[.pointer (some ⟨w.heap.size, 0, none⟩)] (enters_of Try.func86 (by kernel_rfl) rfl) (h.below b0) (weight_clos o _ w.heap.size o.wt (by go_simp) rfl)
  have HT : Hid (∀ (w' : World) (L : List Osd), Turned (w.alloc (.cells #[.int .i64 o.id, .bool o.up, .bool o.inn, .int .i64 o.wt, .int .i64 o.life, .int .i64 o.boot, .int .i64 o.host, .int .i64 o.rack] 28)) w' B p m R L → Turned w w' B p m R L) := fun w' L ⟨R', h1, h2, h3⟩ => ⟨R', h1, (Turns.of_below b0).trans h2, fun g hg => (h3 g hg).imp (fun h => h) (fun h => by simp at h; omega)⟩
  generalize (turnP m.osds o.id (setWt o)) = r at *
  clear h
  obtain ⟨i, up, inn, wt, life, boot, host, rack⟩ := o
  unfold vO
  dsimp only at b0 hT HT ⊢
  go_enter Try.func66, Try.ntmps66
  go_wp2_with (go_at_call 81; refine hT.mono ?_; rintro e w2 ⟨rfl, h2⟩)
  go_ret
  exact ⟨rfl, HT.out _ _ h2.out⟩

end Go.Proofs.Ytnddhlkdemibgaa.At

/-
  Lists of numbers that are made at once and written one by one; lists of changes that are read.
  Conditions: none.
-/
namespace Go.Proofs.Ytnddhlkdemibgaa.At
open Go.RowKit By Fl
set_option linter.unusedVariables false
set_option linter.unusedSimpArgs false
set_option maxRecDepth 100000

def Ns (w : World) (g : Nat) (t : TypeId) (T : List Int) : Prop := w.heap[g]? = some (.cells (T.map fun v => Value.int .i64 v).toArray t (0, 0))

section
variable {w w' : World} {g : Nat} {t : TypeId} {T : List Int}

theorem Ns.lt (h : Ns w g t T) : g < w.heap.size := (Array.getElem?_eq_some_iff.1 h).1
theorem Ns.cell (h : Ns w g t T) {i : Nat} {v : Int} (hv : T[i]? = some v) : w.cell? ⟨g, i, none⟩ = some (.int .i64 v) := cell_heap h (by simp [hv])
theorem Ns.fr (h : Ns w g t T) (i : Nat) : w.frozen? ⟨g, i, none⟩ = false := fr_heap h i
theorem Ns.turns {G : Nat → Prop} (h : Ns w g t T) (k : Turns G w w') (hg : ¬ G g) : Ns w' g t T := (k.block g h.lt hg).trans h
theorem Ns.below (h : Ns w g t T) (k : Below w.heap.size w w') : Ns w' g t T := (k.block g h.lt).trans h
theorem Ns.set (h : Ns w g t T) (i : Nat) (v : Int) : Ns (w.setCell ⟨g, i, none⟩ (.int .i64 v)) g t (T.set i v) := by
  unfold Ns
  rw [heap_set h]
  simp
theorem Ns.new (w : World) (t : TypeId) (T : List Int) : Ns (w.alloc (.cells (T.map fun v => Value.int .i64 v).toArray t)) w.heap.size t T := heap_alloc_new _ _
end

theorem run_make_ns (w : World) (T e : TypeId) (hu : Try.prog.underlying T = some (.slice e)) (hi : (Try.prog.info? e).map (fun i => (i.zero, i.size, i.bytes)) = some (some (.int .i64 0), 1, 8)) (n : Nat) (hn : n ≤ 1000) :
    (Instr.makeSlice T (.int .i64 (n : Int)) (.int .i64 (n : Int))).run Try.prog w = .ok (.slice (some ⟨w.heap.size, 0, none⟩) n n) (w.alloc (.cells ((List.replicate n (0 : Int)).map fun v => Value.int .i64 v).toArray e)) := by
  obtain ⟨i0, h1, h2, h3, h4⟩ := info_parts hi
  have := run_make (P := Try.prog) w T e i0 _ hu h1 h2 .i64 .i64 (n : Int) (n : Int) (by omega) (by omega) (by rw [h4]; omega) (by omega)
  rw [this, h3]
  have e1 : madeCells (Value.int IntKind.i64 0).cells (((n : Int).toNat) * 1) = ((List.replicate n (0 : Int)).map fun v => Value.int .i64 v).toArray := by
    apply Array.toList_inj.1
    show (madeCells #[Value.int IntKind.i64 0] (n * 1)).toList = _
    rw [toList_madeCells_one]
    simp
  rw [e1]
  simp

/- A list of changes that is read. -/
structure Cs (w : World) (x : Option Addr) (n c : Nat) (L : List Ch) : Prop where
  len : L.length = n
  le : n ≤ c
  small : n ≤ 140737488351232
  nil : x = none → n = 0 ∧ c = 0
  row : n = 0 ∨ ∃ b o, x = some ⟨b, o, none⟩ ∧ b < w.heap.size ∧ ∀ (k : Nat) (a : Ch), L[k]? = some a → ∀ (j : Nat) (v : Value), (enC a)[j]? = some v → w.cell? ⟨b, o + k * 9 + j, none⟩ = some v

theorem Cs.below {w w' : World} {x : Option Addr} {n c : Nat} {L : List Ch} (h : Cs w x n c L) (hb : Below w.heap.size w w') : Cs w' x n c L := by
  refine ⟨h.len, h.le, h.small, h.nil, ?_⟩
  rcases h.row with h0 | ⟨b, o, h1, h2, h3⟩
  · exact .inl h0
  · exact .inr ⟨b, o, h1, Nat.lt_of_lt_of_le h2 hb.size, fun k a hk j v hv => keep hb (h3 k a hk j v hv)⟩

theorem Cs.at {w : World} {b o k : Nat} {L : List Ch} {a : Ch} (h : ∀ (k : Nat) (a : Ch), L[k]? = some a → ∀ (j : Nat) (v : Value), (enC a)[j]? = some v → w.cell? ⟨b, o + k * 9 + j, none⟩ = some v) (hk : L[k]? = some a) :
    w.cell? ⟨b, o + k * 9, none⟩ = some (.int .i64 a.kind) ∧ w.cell? ⟨b, o + k * 9 + 1, none⟩ = some (.int .i64 a.osd.id) ∧ w.cell? ⟨b, o + k * 9 + 2, none⟩ = some (.bool a.osd.up) ∧ w.cell? ⟨b, o + k * 9 + 3, none⟩ = some (.bool a.osd.inn) ∧ w.cell? ⟨b, o + k * 9 + 4, none⟩ = some (.int .i64 a.osd.wt) ∧
    w.cell? ⟨b, o + k * 9 + 5, none⟩ = some (.int .i64 a.osd.life) ∧ w.cell? ⟨b, o + k * 9 + 6, none⟩ = some (.int .i64 a.osd.boot) ∧ w.cell? ⟨b, o + k * 9 + 7, none⟩ = some (.int .i64 a.osd.host) ∧ w.cell? ⟨b, o + k * 9 + 8, none⟩ = some (.int .i64 a.osd.rack) :=
  ⟨h k a hk 0 _ rfl, h k a hk 1 _ rfl, h k a hk 2 _ rfl, h k a hk 3 _ rfl, h k a hk 4 _ rfl, h k a hk 5 _ rfl, h k a hk 6 _ rfl, h k a hk 7 _ rfl, h k a hk 8 _ rfl⟩

theorem adv_ep {m : Mp} (c : Ch) (h0 : 0 ≤ m.ep) (h1 : m.ep ≤ 1048576) : 0 ≤ (advP m c).2.ep ∧ (advP m c).2.ep ≤ 1048576 := by
  unfold advP
  split
  · exact ⟨h0, h1⟩
  · rename_i h
    have : m.ep ≠ 1048576 := fun e => h (.inr e)
    split
    · exact ⟨by show 0 ≤ m.ep + 1; omega, by show m.ep + 1 ≤ 1048576; omega⟩
    · exact ⟨h0, h1⟩

theorem fold_ep : ∀ (l : List Ch) (m : Mp), 0 ≤ m.ep → m.ep ≤ 1048576 → 0 ≤ (foldP m l).2.ep ∧ (foldP m l).2.ep ≤ 1048576
  | [], m, h0, h1 => ⟨h0, h1⟩
  | c :: l, m, h0, h1 => by
    have := adv_ep c h0 h1
    exact fold_ep l _ this.1 this.2

theorem fold_take {l : List Ch} {k : Nat} {c : Ch} (m : Mp) (h : l[k]? = some c) : foldP m (l.take (k + 1)) = ((foldP m (l.take k)).1 ++ [(advP (foldP m (l.take k)).2 c).1], (advP (foldP m (l.take k)).2 c).2) := by
  rw [List.take_add_one, h]
  exact foldP_snoc _ _ _

end Go.Proofs.Ytnddhlkdemibgaa.At

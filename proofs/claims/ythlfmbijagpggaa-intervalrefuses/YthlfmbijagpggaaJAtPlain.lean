/-
  5 texts of this proof, one behind the other: AtPlain, AtMem, AtQuiet, AtFunc, AtBox.
-/
import Derived.Test.YthlfmbijagpggaaFlBase
import Derived.Test.YthlfmbijagpggaaMxOrders
import Derived.Laws.StructEq
import Derived.BigQuiet
import Derived.Shelf.Abstract
/-
  Package atlas plainly: pools, OSDs, maps and changes that may be, what a change makes of a map.
  Conditions: none.
-/
namespace Go.Proofs.Ythlfmbijagpggaa.At
open Go.RowKit By Fl
set_option linter.unusedVariables false
set_option linter.unusedSimpArgs false
set_option maxRecDepth 100000

structure Osd where
  id : Int
  up : Bool
  inn : Bool
  wt : Int
  life : Int
  boot : Int
  host : Int
  rack : Int

structure Pool where
  k : Int
  m : Int
  pgs : Int
  dom : Int

structure Mp where
  ep : Int
  pool : Pool
  osds : List Osd

structure Ch where
  kind : Int
  osd : Osd

def eqO (a b : Osd) : Bool := decide (a.id = b.id) && (a.up == b.up) && (a.inn == b.inn) && decide (a.wt = b.wt) && decide (a.life = b.life) && decide (a.boot = b.boot) && decide (a.host = b.host) && decide (a.rack = b.rack)
def eqP (a b : Pool) : Bool := decide (a.k = b.k) && decide (a.m = b.m) && decide (a.pgs = b.pgs) && decide (a.dom = b.dom)
def eqC (a b : Ch) : Bool := decide (a.kind = b.kind) && eqO a.osd b.osd

theorem eqO_iff (a b : Osd) : eqO a b = true ↔ a = b := by
  cases a; cases b
  simp [eqO, and_assoc]
theorem eqP_iff (a b : Pool) : eqP a b = true ↔ a = b := by
  cases a; cases b
  simp [eqP, and_assoc]
theorem eqC_iff (a b : Ch) : eqC a b = true ↔ a = b := by
  cases a; cases b
  simp [eqC, eqO_iff]

def eqL : List Osd → List Osd → Bool
  | [], [] => true
  | a :: l, b :: r => eqO a b && eqL l r
  | _, _ => false

theorem eqL_iff : ∀ a b : List Osd, eqL a b = true ↔ a = b
  | [], [] => by simp [eqL]
  | [], b :: r => by simp [eqL]
  | a :: l, [] => by simp [eqL]
  | a :: l, b :: r => by simp [eqL, eqO_iff, eqL_iff l r]

def eqM (a b : Mp) : Bool := decide (a.ep = b.ep) && eqP a.pool b.pool && eqL a.osds b.osds

theorem eqM_iff (a b : Mp) : eqM a b = true ↔ a = b := by
  cases a; cases b
  simp [eqM, eqP_iff, eqL_iff, and_assoc]

def wi (n a b : Int) : Bool := decide (a ≤ n) && decide (n ≤ b)
def poolB (p : Pool) : Bool := decide (1 ≤ p.k) && wi p.m 1 (32 - p.k) && wi p.pgs 1 32 && wi p.dom 0 2
def least (u : Bool) : Int := if u then 1 else 0
def osdB (o : Osd) : Bool := wi o.id 0 999 && wi o.host 0 999 && wi o.rack 0 999 && wi o.wt 0 16777216 && wi o.life (least o.up) 2147483647 && wi o.boot (least o.up) 2147483647
def mvB (o x : Osd) : Bool := decide (x.host = o.host) && !decide (x.rack = o.rack)
def movedB (L : List Osd) (o : Osd) : Bool := L.any (mvB o)
def lowB (a b : Osd) : Bool := decide (b.id < a.id) && !mvB a b
def goodB (L : List Osd) : Bool := (List.range L.length).all fun i => match L[i]? with | some a => osdB a && (L.take i).all (lowB a) | none => true
def osdsB (L : List Osd) : Bool := decide (L.length ≤ 64) && goodB L
def mayM (m : Mp) : Bool := wi m.ep 0 1048576 && poolB m.pool && osdsB m.osds

def noO (id : Int) : Osd := ⟨id, false, false, 0, 0, 0, 0, 0⟩
def noP : Pool := ⟨0, 0, 0, 0⟩
def noM : Mp := ⟨0, noP, []⟩
def noC : Ch := ⟨0, noO 0⟩

def upB (o : Osd) : Bool := eqO o ⟨o.id, false, false, 0, o.life, o.boot, 0, 0⟩ && (wi o.id 0 999 && wi o.life 1 2147483647 && wi o.boot 1 2147483647)
def idB (o : Osd) : Bool := eqO o (noO o.id) && wi o.id 0 999
def wtB (o : Osd) : Bool := eqO o ⟨o.id, false, false, o.wt, 0, 0, 0, 0⟩ && (wi o.id 0 999 && wi o.wt 0 16777216)
def mayK (k : Int) (o : Osd) : Bool := if k = 1 then osdB o else if k = 2 then upB o else if k = 6 then wtB o else idB o
def mayC (c : Ch) : Bool := wi c.kind 1 6 && mayK c.kind c.osd

def isId (id : Int) (x : Osd) : Bool := decide (x.id = id)
def overId (id : Int) (x : Osd) : Bool := decide (id < x.id)
def idx (p : Osd → Bool) (L : List Osd) : Int := match L.findIdx? p with | some k => (k : Int) | none => -1
def ins (o : Osd) (L : List Osd) : List Osd := match L.findIdx? (overId o.id) with | some k => L.take k ++ o :: L.drop k | none => L ++ [o]

def setUp (o x : Osd) : Osd := ⟨x.id, true, x.inn, x.wt, o.life, o.boot, x.host, x.rack⟩
def setDown (o x : Osd) : Osd := ⟨x.id, false, x.inn, x.wt, x.life, x.boot, x.host, x.rack⟩
def setIn (o x : Osd) : Osd := ⟨x.id, x.up, true, x.wt, x.life, x.boot, x.host, x.rack⟩
def setOut (o x : Osd) : Osd := ⟨x.id, x.up, false, x.wt, x.life, x.boot, x.host, x.rack⟩
def setWt (o x : Osd) : Osd := ⟨x.id, x.up, x.inn, o.wt, x.life, x.boot, x.host, x.rack⟩
def byK (k : Int) (o x : Osd) : Osd := if k = 2 then setUp o x else if k = 3 then setDown o x else if k = 4 then setIn o x else if k = 5 then setOut o x else setWt o x

def turnP (L : List Osd) (id : Int) (f : Osd → Osd) : Int × List Osd :=
  match L.findIdx? (isId id) with
  | none => (4, L)
  | some k => match L[k]? with
    | none => (4, L)
    | some x => if eqO (f x) x then (6, L) else (0, L.set k (f x))

def addP (L : List Osd) (o : Osd) : Int × List Osd :=
  if (L.findIdx? (isId o.id)).isSome then (6, L) else if 64 ≤ L.length then (2, L) else if movedB L o then (1, L) else (0, ins o L)

def doP (k : Int) (L : List Osd) (o : Osd) : Int × List Osd := if k = 1 then addP L o else turnP L o.id (byK k o)

def advP (m : Mp) (c : Ch) : Int × Mp :=
  if mayC c = false ∨ m.ep = 1048576 then (1, m) else if (doP c.kind m.osds c.osd).1 = 0 then (0, ⟨m.ep + 1, m.pool, (doP c.kind m.osds c.osd).2⟩) else ((doP c.kind m.osds c.osd).1, m)

def foldP (m : Mp) : List Ch → List Int × Mp
  | [] => ([], m)
  | c :: l => ((advP m c).1 :: (foldP (advP m c).2 l).1, (foldP (advP m c).2 l).2)

theorem foldP_snoc : ∀ (l : List Ch) (m : Mp) (c : Ch), foldP m (l ++ [c]) = ((foldP m l).1 ++ [(advP (foldP m l).2 c).1], (advP (foldP m l).2 c).2)
  | [], m, c => by simp [foldP]
  | d :: l, m, c => by simp [foldP, foldP_snoc l]

theorem foldP_len : ∀ (l : List Ch) (m : Mp), (foldP m l).1.length = l.length
  | [], m => by simp [foldP]
  | d :: l, m => by simp [foldP, foldP_len l]

/- What goodB says. -/
def Good (L : List Osd) : Prop := ∀ (i : Nat) (a : Osd), L[i]? = some a → osdB a = true ∧ ∀ (k : Nat) (b : Osd), k < i → L[k]? = some b → lowB a b = true

theorem goodB_iff (L : List Osd) : goodB L = true ↔ Good L := by
  unfold goodB Good
  rw [List.all_eq_true]
  constructor
  · intro h i a ha
    have hi := (List.getElem?_eq_some_iff.1 ha).1
    have := h i (List.mem_range.2 hi)
    rw [ha] at this
    simp only [Bool.and_eq_true, List.all_eq_true] at this
    refine ⟨this.1, fun k b hk hb => this.2 b ?_⟩
    have hkl := (List.getElem?_eq_some_iff.1 hb).1
    rw [List.mem_iff_getElem?]
    exact ⟨k, by rw [List.getElem?_take, if_pos hk]; exact hb⟩
  · intro h i hi
    rw [List.mem_range] at hi
    rw [List.getElem?_eq_getElem hi]
    obtain ⟨h1, h2⟩ := h i L[i] (List.getElem?_eq_getElem hi)
    simp only [Bool.and_eq_true, List.all_eq_true]
    refine ⟨h1, fun b hb => ?_⟩
    obtain ⟨k, hk⟩ := List.mem_iff_getElem?.1 hb
    rw [List.getElem?_take] at hk
    split at hk
    · rename_i hki
      exact h2 k b hki hk
    · cases hk

theorem goodB_false {L : List Osd} {i : Nat} {a : Osd} (ha : L[i]? = some a) (h : osdB a = false ∨ ∃ k b, k < i ∧ L[k]? = some b ∧ lowB a b = false) : goodB L = false := by
  cases hg : goodB L with
  | false => rfl
  | true =>
    obtain ⟨h1, h2⟩ := (goodB_iff L).1 hg i a ha
    rcases h with h | ⟨k, b, hk, hb, h⟩
    · rw [h1] at h; cases h
    · rw [h2 k b hk hb] at h; cases h

theorem wi_iff (n a b : Int) : wi n a b = true ↔ a ≤ n ∧ n ≤ b := by simp [wi]
theorem wi_false (n a b : Int) : wi n a b = false ↔ n < a ∨ b < n := by
  rw [← Bool.not_eq_true, wi_iff]
  omega

theorem lowB_iff (a b : Osd) : lowB a b = true ↔ b.id < a.id ∧ (b.host = a.host → b.rack = a.rack) := by
  simp only [lowB, mvB, Bool.and_eq_true, decide_eq_true_eq, Bool.not_eq_true', Bool.and_eq_false_iff, decide_eq_false_iff_not, Bool.not_eq_false']
  constructor
  · rintro ⟨h1, h2⟩
    exact ⟨h1, fun h => h2.resolve_left (fun k => k h)⟩
  · rintro ⟨h1, h2⟩
    refine ⟨h1, ?_⟩
    by_cases h : b.host = a.host
    · exact .inr (h2 h)
    · exact .inl h

theorem moved_iff (L : List Osd) (o : Osd) : movedB L o = true ↔ ∃ x ∈ L, x.host = o.host ∧ x.rack ≠ o.rack := by
  simp [movedB, mvB]
theorem moved_no (L : List Osd) (o : Osd) : movedB L o = false ↔ ∀ x ∈ L, x.host = o.host → x.rack = o.rack := by
  simp [movedB, mvB]

/- Where the first one is. -/
theorem idx_hit {p : Osd → Bool} {L : List Osd} {k : Nat} {a : Osd} (hk : L[k]? = some a) (ha : p a = true) (hj : ∀ (j : Nat) (b : Osd), j < k → L[j]? = some b → p b = false) : L.findIdx? p = some k := by
  obtain ⟨hlt, e⟩ := List.getElem?_eq_some_iff.1 hk
  rw [List.findIdx?_eq_some_iff_getElem]
  refine ⟨hlt, by rw [e]; exact ha, fun j hji => ?_⟩
  have := hj j L[j] hji (List.getElem?_eq_getElem _)
  simp [this]

theorem idx_miss {p : Osd → Bool} {L : List Osd} (h : ∀ (j : Nat) (b : Osd), L[j]? = some b → p b = false) : L.findIdx? p = none := by
  rw [List.findIdx?_eq_none_iff]
  intro x hx
  obtain ⟨k, hk⟩ := List.mem_iff_getElem?.1 hx
  exact h k x hk

theorem idx_some {p : Osd → Bool} {L : List Osd} {k : Nat} (h : L.findIdx? p = some k) : ∃ a, L[k]? = some a ∧ p a = true ∧ ∀ (j : Nat) (b : Osd), j < k → L[j]? = some b → p b = false := by
  rw [List.findIdx?_eq_some_iff_getElem] at h
  obtain ⟨hlt, ha, hj⟩ := h
  refine ⟨L[k], List.getElem?_eq_getElem hlt, ha, fun j b hjk hb => ?_⟩
  have := hj j hjk
  obtain ⟨hl, e⟩ := List.getElem?_eq_some_iff.1 hb
  rw [e] at this
  simpa using this

theorem idx_none {p : Osd → Bool} {L : List Osd} (h : L.findIdx? p = none) (j : Nat) (b : Osd) (hb : L[j]? = some b) : p b = false := by
  rw [List.findIdx?_eq_none_iff] at h
  exact h b (List.mem_of_getElem? hb)

end Go.Proofs.Ythlfmbijagpggaa.At

/-
  Pools, OSDs, maps and changes as they lie in memory; lists of OSDs that are read.
  Conditions: none.
-/
namespace Go.Proofs.Ythlfmbijagpggaa.At
open Go.RowKit By Fl
set_option linter.unusedVariables false
set_option linter.unusedSimpArgs false
set_option maxRecDepth 100000

def wfi (a : Int) : Prop := (Lit.int .i64 a).wf = true

theorem keep {w v : World} {b o : Nat} {x : Value} (hb : Below w.heap.size w v) (h : w.cell? ⟨b, o, none⟩ = some x) : v.cell? ⟨b, o, none⟩ = some x := (hb.cell (p := ⟨b, o, none⟩) (cell_lt' h)).trans h
theorem keepf {w v : World} {b o : Nat} (hb : Below w.heap.size w v) (hlt : b < w.heap.size) (h : w.frozen? ⟨b, o, none⟩ = false) : v.frozen? ⟨b, o, none⟩ = false := by
  rw [← h]
  exact World.frozen?_of_block (a := ⟨b, o, none⟩) (hb.block b hlt)
theorem on {a b c : World} (h : Below a.heap.size a b) (k : Below b.heap.size b c) : Below a.heap.size a c := h.trans (k.mono h.size)
theorem al (w : World) (o : Obj) : Below w.heap.size w (w.alloc o) := (Below.refl _ w).alloc (Nat.le_refl _) _

def enO (o : Osd) : List Value := [.int .i64 o.id, .bool o.up, .bool o.inn, .int .i64 o.wt, .int .i64 o.life, .int .i64 o.boot, .int .i64 o.host, .int .i64 o.rack]
def enP (p : Pool) : List Value := [.int .i64 p.k, .int .i64 p.m, .int .i64 p.pgs, .int .i64 p.dom]
def enC (c : Ch) : List Value := [.int .i64 c.kind, .int .i64 c.osd.id, .bool c.osd.up, .bool c.osd.inn, .int .i64 c.osd.wt, .int .i64 c.osd.life, .int .i64 c.osd.boot, .int .i64 c.osd.host, .int .i64 c.osd.rack]
def vO (o : Osd) : Value := .agg #[.int .i64 o.id, .bool o.up, .bool o.inn, .int .i64 o.wt, .int .i64 o.life, .int .i64 o.boot, .int .i64 o.host, .int .i64 o.rack]
def vP (p : Pool) : Value := .agg #[.int .i64 p.k, .int .i64 p.m, .int .i64 p.pgs, .int .i64 p.dom]
def vC (c : Ch) : Value := .agg #[.int .i64 c.kind, .int .i64 c.osd.id, .bool c.osd.up, .bool c.osd.inn, .int .i64 c.osd.wt, .int .i64 c.osd.life, .int .i64 c.osd.boot, .int .i64 c.osd.host, .int .i64 c.osd.rack]
def vM (ep : Int) (p : Pool) (x : Option Addr) (n c : Nat) : Value := .agg #[.int .i64 ep, .int .i64 p.k, .int .i64 p.m, .int .i64 p.pgs, .int .i64 p.dom, .slice x n c]

/- A list of OSDs that is read. -/
structure Os (w : World) (x : Option Addr) (n c : Nat) (L : List Osd) : Prop where
  len : L.length = n
  le : n ≤ c
  small : n ≤ 140737488351232
  nil : x = none → n = 0 ∧ c = 0
  row : n = 0 ∨ ∃ b o, x = some ⟨b, o, none⟩ ∧ b < w.heap.size ∧ ∀ (k : Nat) (a : Osd), L[k]? = some a → ∀ (j : Nat) (v : Value), (enO a)[j]? = some v → w.cell? ⟨b, o + k * 8 + j, none⟩ = some v

theorem Os.below {w w' : World} {x : Option Addr} {n c : Nat} {L : List Osd} (h : Os w x n c L) (hb : Below w.heap.size w w') : Os w' x n c L := by
  refine ⟨h.len, h.le, h.small, h.nil, ?_⟩
  rcases h.row with h0 | ⟨b, o, h1, h2, h3⟩
  · exact .inl h0
  · exact .inr ⟨b, o, h1, Nat.lt_of_lt_of_le h2 hb.size, fun k a hk j v hv => keep hb (h3 k a hk j v hv)⟩

theorem Os.turns {w w' : World} {G : Nat → Prop} {x : Option Addr} {n c : Nat} {L : List Osd} (h : Os w x n c L) (t : Turns G w w') (hx : n ≠ 0 → ∀ a, x = some a → ¬ G a.block) : Os w' x n c L := by
  refine ⟨h.len, h.le, h.small, h.nil, ?_⟩
  rcases h.row with h0 | ⟨b, o, h1, h2, h3⟩
  · exact .inl h0
  · by_cases h0 : n = 0
    · exact .inl h0
    · exact .inr ⟨b, o, h1, Nat.lt_of_lt_of_le h2 t.size, fun k a hk j v hv => (World.cell?_of_block (a := ⟨b, o + k * 8 + j, none⟩) (t.block b h2 (hx h0 _ h1))).trans (h3 k a hk j v hv)⟩

theorem Os.take {w : World} {x : Option Addr} {n c k : Nat} {L : List Osd} (h : Os w x n c L) (hk : k ≤ n) : Os w x k c (L.take k) := by
  have hl := h.len
  refine ⟨by rw [List.length_take]; omega, by have := h.le; omega, by have := h.small; omega, fun e => by have := h.nil e; omega, ?_⟩
  rcases h.row with h0 | ⟨b, o, h1, h2, h3⟩
  · exact .inl (by omega)
  · refine .inr ⟨b, o, h1, h2, fun q a hq j v hv => h3 q a ?_ j v hv⟩
    rw [List.getElem?_take] at hq
    split at hq
    · exact hq
    · cases hq

/- Its k-th one. -/
theorem Os.at {w : World} {b o n c k : Nat} {L : List Osd} {a : Osd} (h : ∀ (k : Nat) (a : Osd), L[k]? = some a → ∀ (j : Nat) (v : Value), (enO a)[j]? = some v → w.cell? ⟨b, o + k * 8 + j, none⟩ = some v) (hk : L[k]? = some a) :
    w.cell? ⟨b, o + k * 8, none⟩ = some (.int .i64 a.id) ∧ w.cell? ⟨b, o + k * 8 + 1, none⟩ = some (.bool a.up) ∧ w.cell? ⟨b, o + k * 8 + 2, none⟩ = some (.bool a.inn) ∧ w.cell? ⟨b, o + k * 8 + 3, none⟩ = some (.int .i64 a.wt) ∧
    w.cell? ⟨b, o + k * 8 + 4, none⟩ = some (.int .i64 a.life) ∧ w.cell? ⟨b, o + k * 8 + 5, none⟩ = some (.int .i64 a.boot) ∧ w.cell? ⟨b, o + k * 8 + 6, none⟩ = some (.int .i64 a.host) ∧ w.cell? ⟨b, o + k * 8 + 7, none⟩ = some (.int .i64 a.rack) :=
  ⟨h k a hk 0 _ rfl, h k a hk 1 _ rfl, h k a hk 2 _ rfl, h k a hk 3 _ rfl, h k a hk 4 _ rfl, h k a hk 5 _ rfl, h k a hk 6 _ rfl, h k a hk 7 _ rfl⟩

theorem orow : Row 30 45 8 56 enO := by
  have hi : (Try.prog.info? 45).map (fun i => (i.zero, i.size, i.bytes)) = some (some (.agg #[.int .i64 0, .bool false, .bool false, .int .i64 0, .int .i64 0, .int .i64 0, .int .i64 0, .int .i64 0]), 8, 56) := by kernel_rfl
  obtain ⟨i0, h1, h2, h3, h4⟩ := info_parts hi
  exact ⟨Try.underlying30, ⟨i0, _, h1, h2, h3, h4, rfl⟩, by decide, by decide, fun a => rfl, fun a v hv => by simp [enO] at hv; rcases hv with rfl | rfl | rfl | rfl | rfl | rfl | rfl | rfl <;> rfl⟩

/- A list of one's own is one that is read. -/
theorem own_os {w : World} {B : Nat} {x : Option Addr} {n c : Nat} {L : List Osd} (h : Own w B 45 8 enO (.slice x n c) L) (hs : L.length ≤ 140737488351232) : Os w x n c L := by
  obtain ⟨x', c', e, h1, h2, h3⟩ := h.form
  injection e with e1 e2 e3
  subst e1 e2 e3
  refine ⟨rfl, h1, hs, h2, ?_⟩
  by_cases h0 : L.length = 0
  · exact .inl h0
  · cases x with
    | none => exact .inl (h2 rfl).1
    | some ad =>
      obtain ⟨g, rfl, hB, hg⟩ := h3 ad rfl
      exact .inr ⟨g, 0, rfl, hg, fun k a hk j v hv => by rw [Nat.zero_add]; exact h.cell orow.len hk hv⟩

theorem eq_osd (a b : Osd) (w : World) : (binOp .eql 45 (vO a) (vO b)).run Try.prog w = .ok (.bool (eqO a b)) w := by
  obtain ⟨a0, a1, a2, a3, a4, a5, a6, a7⟩ := a
  obtain ⟨b0, b1, b2, b3, b4, b5, b6, b7⟩ := b
  unfold vO eqO
  dsimp only
  go_simp
  by_cases e0 : a0 = b0 <;> by_cases e1 : a1 = b1 <;> by_cases e2 : a2 = b2 <;> by_cases e3 : a3 = b3 <;> by_cases e4 : a4 = b4 <;> by_cases e5 : a5 = b5 <;> by_cases e6 : a6 = b6 <;> by_cases e7 : a7 = b7 <;> simp [e0, e1, e2, e3, e4, e5, e6, e7]

end Go.Proofs.Ythlfmbijagpggaa.At

/-
  A region that draws its order, whose operations only read, and whose callees read and lay blocks of their own: walked once.
  Conditions: none.
-/
namespace Go.Proofs.Ythlfmbijagpggaa.At
open Go.RowKit By Fl
set_option linter.unusedVariables false
set_option linter.unusedSimpArgs false
set_option maxRecDepth 100000

/- A world in which all that lay in w lies unturned. -/
structure After (w : World) where
  W : World
  h : Below w.heap.size w W

theorem After.ne (w : World) : Nonempty (After w) := ⟨⟨w, Below.refl _ _⟩⟩

theorem wp_region_after {P : Program} {id : Nat} {Q : Exit → Act → World → Prop} {a : Act} {w : World} {l : List Oper} (hm : P.follows .mixedOrders = true) (hB : Region.lexB .any l.toArray = true)
    (h : wpQuiet P l.toArray (fun w' => ∃ p : After w, w' = p.W) (fun a' => ∀ w', (∃ p : After w, w' = p.W) → Q .normal a' w') l a) : (Code.region id l.toArray true).wp P Q a w :=
  wp_region_quiet (C := fun w' => ∃ p : After w, w' = p.W) hm hB ⟨⟨w.drew, (Below.refl _ _).drew⟩, rfl⟩ (by simpa using h)

theorem Calls.after_of {P : Program} {f : FuncId} {args : Array Value} {w : World} {p : After w} {v : Value}
    (h : Calls P f args p.W fun e w' => e = .returned v ∧ Below p.W.heap.size p.W w') : Calls P f args p.W fun e w'' => e = .returned v ∧ ∃ q : After w, w'' = q.W :=
  h.mono fun _ w' ⟨he, hb⟩ => ⟨he, ⟨w', on p.h hb⟩, rfl⟩

theorem Calls.after_same {P : Program} {f : FuncId} {args : Array Value} {w : World} {p : After w} {v : Value}
    (h : Calls P f args p.W fun e w' => e = .returned v ∧ w' = p.W) : Calls P f args p.W fun e w'' => e = .returned v ∧ ∃ q : After w, w'' = q.W :=
  h.mono fun _ w' ⟨he, hb⟩ => ⟨he, p, hb⟩

theorem After.cell {w : World} {b o : Nat} {v : Value} (h : w.cell? ⟨b, o, none⟩ = some v) (p : After w) : p.W.cell? ⟨b, o, none⟩ = some v := keep p.h h

theorem results_cell1 {fn : Func} {p : Tmp} {ty : TypeId} (h : fn.results = #[.cell p ty]) (tmps : Array Value) (P : Program) (w : World) :
    (results fn tmps).run P w = ((asAddr (tmps.getD p undef)).run P w).andThen fun a w₁ => (loadVar ty a).run P w₁ := by
  simp only [results, h]
  simp [Sem.run_bind, Result.andThen]

end Go.Proofs.Ythlfmbijagpggaa.At

/-
  slices.IndexFunc and slices.ContainsFunc at OSDs, whatever is asked of each; seat, moved.
  Conditions: the list lies in memory.
-/
namespace Go.Proofs.Ythlfmbijagpggaa.At
open Go.RowKit By Fl
set_option linter.unusedVariables false
set_option linter.unusedSimpArgs false
set_option maxRecDepth 100000

/- What is asked of each: it answers p, and turns nothing. -/
def Pr (g : Nat) (lb : Array Value) (p : Osd → Bool) (w : World) : Prop :=
  ∀ (W : World) (x : Osd), Below w.heap.size w W → Calls Try.prog g (#[vO x] ++ lb) W fun e w' => e = .returned (.bool (p x)) ∧ Below W.heap.size W w'

theorem Pr.below {g : Nat} {lb : Array Value} {p : Osd → Bool} {w w' : World} (h : Pr g lb p w) (hb : Below w.heap.size w w') : Pr g lb p w' := fun W x hW => h W x (on hb hW)

theorem index_any {w : World} {x : Option Addr} {n c : Nat} {L : List Osd} (p : Osd → Bool) (g : Nat) (lb : Array Value) (eg : ∀ args w, (callFunc g args).run Try.prog w = .ok (.enter g args) w) (h : Os w x n c L) (hp : Pr g lb p w) :
    Calls Try.prog 37 #[.slice x n c, .func (.func g) #[] lb] w fun e w' => e = .returned (.int .i64 (idx p L)) ∧ Below w.heap.size w w' := by
  have hm := h.small
  have HO : Hid (Os w x n c L) := h
  have HP : Hid (Pr g lb p w) := hp
  clear h hp
  go_enter Try.func37, Try.ntmps37
  go_wp2_with fail
  go_loopw [8, 5] (fun i _ wr => ∃ k : Nat, k ≤ n ∧ i = .int .i64 k ∧ Hid (Below w.heap.size w wr ∧ ∀ (j : Nat) (m : Osd), j < k → L[j]? = some m → p m = false)) (fun i _ _ => n - (intOf i).toNat)
  case atStart => exact ⟨0, by omega, rfl, Below.refl _ _, fun j m hj => by omega⟩
  case round =>
    obtain ⟨k, hk, rfl, HR⟩ := hrel
    by_cases hlt : k < n
    · have hkn : (k : Int) < (n : Int) := by omega
      have hlen := HO.out.len
      obtain ⟨m, hLm⟩ : ∃ m, L[k]? = some m := ⟨L[k]'(by omega), List.getElem?_eq_getElem (by omega)⟩
      have ho := HO.out.below HR.out.1
      rcases ho.row with h0 | ⟨b, o, rfl, hbl, hcell⟩
      · omega
      obtain ⟨k0, k1, k2, k3, k4, k5, k6, k7⟩ := Os.at (n := n) (c := c) hcell hLm
      have hc := HP.out wr m HR.out.1
      have HM : Hid (L[k]? = some m) := hLm
      clear hLm ho hcell hlen
      obtain ⟨t, ht⟩ : ∃ t, t = p m := ⟨_, rfl⟩
      rw [← ht] at hc
      have HT : Hid (t = p m) := ht
      clear ht
      obtain ⟨id, up, inn, wt, life, boot, host, rack⟩ := m
      unfold vO at hc
      dsimp only at k0 k1 k2 k3 k4 k5 k6 k7 hc
      cases t with
      | true =>
        go_wp2_with (go_at_fn g; refine hc.mono ?_; rintro e w2 ⟨rfl, hb2⟩; clear hc)
        go_ret
        exact ⟨by unfold idx; rw [idx_hit HM.out HT.out.symm HR.out.2]; rfl, on HR.out.1 hb2⟩
      | false =>
        go_wp2_with (go_at_fn g; refine hc.mono ?_; rintro e w2 ⟨rfl, hb2⟩; clear hc)
        go_roundw
        case rel =>
          refine ⟨k + 1, by omega, by go_num, on HR.out.1 hb2, fun j m' hj e => ?_⟩
          by_cases hjk : j = k
          · subst hjk
            have := Option.some.inj (HM.out.symm.trans e)
            rw [← this]
            exact HT.out.symm
          · exact HR.out.2 j m' (by omega) e
        case measure => simp [intOf]; omega
    · have hk2 : k = n := by omega
      subst hk2
      go_wp2_with fail
      go_ret
      refine ⟨?_, HR.out.1⟩
      unfold idx
      rw [idx_miss fun j m e => HR.out.2 j m (by
        have := (List.getElem?_eq_some_iff.1 e).1
        have := HO.out.len
        omega) e]
      rfl

theorem idx_any (p : Osd → Bool) (L : List Osd) : L.any p = decide (0 ≤ idx p L) := by
  unfold idx
  cases h : L.findIdx? p with
  | none =>
    rw [List.findIdx?_eq_none_iff] at h
    simp only [Bool.eq_false_iff] at *
    have : L.any p = false := by
      rw [List.any_eq_false]
      intro x hx e
      exact h x hx e
    rw [this]
    rfl
  | some k =>
    obtain ⟨a, ha, hp, _⟩ := idx_some h
    have : L.any p = true := List.any_eq_true.2 ⟨a, List.mem_of_getElem? ha, hp⟩
    rw [this]
    simp

theorem contains_any {w : World} {x : Option Addr} {n c : Nat} {L : List Osd} (p : Osd → Bool) (g : Nat) (lb : Array Value) (eg : ∀ args w, (callFunc g args).run Try.prog w = .ok (.enter g args) w) (h : Os w x n c L) (hp : Pr g lb p w) :
    Calls Try.prog 33 #[.slice x n c, .func (.func g) #[] lb] w fun e w' => e = .returned (.bool (L.any p)) ∧ Below w.heap.size w w' := by
  have hI := index_any p g lb eg h hp
  rw [idx_any]
  generalize idx p L = r at hI ⊢
  clear h hp
  go_enter Try.func33, Try.ntmps33
  go_wp2_with (go_at_call 37; refine hI.mono ?_; rintro e w2 ⟨rfl, hb2⟩)
  go_ret
  exact ⟨rfl, hb2⟩

theorem seat_clos (w : World) (bx : Nat) (id : Int) (hb : w.cell? ⟨bx, 0, none⟩ = some (.int .i64 id)) : Pr 38 #[.pointer (some ⟨bx, 0, none⟩)] (isId id) w := by
  intro W x hW
  obtain ⟨i, up, inn, wt, life, boot, host, rack⟩ := x
  have h1 := keep hW hb
  have hlt := cell_lt' h1
  have h2 := fun o => keep (al W o) h1
  clear hb hW
  unfold vO isId
  dsimp only
  show Calls Try.prog 38 #[.agg #[.int .i64 i, .bool up, .bool inn, .int .i64 wt, .int .i64 life, .int .i64 boot, .int .i64 host, .int .i64 rack], .pointer (some ⟨bx, 0, none⟩)] W _
  go_enter Try.func38, Try.ntmps38
  go_wp2_with fail
  go_ret
  exact ⟨rfl, al _ _⟩

theorem moved_clos (w : World) (bx : Nat) (h r : Int) (hb : w.cell? ⟨bx, 6, none⟩ = some (.int .i64 h)) (hr : w.cell? ⟨bx, 7, none⟩ = some (.int .i64 r)) (o : Osd) (eh : o.host = h) (er : o.rack = r) : Pr 34 #[.pointer (some ⟨bx, 0, none⟩)] (mvB o) w := by
  intro W x hW
  obtain ⟨i, up, inn, wt, life, boot, host, rack⟩ := x
  have h1 := keep hW hb
  have h3 := keep hW hr
  have hlt := cell_lt' h1
  have h2 := fun o => keep (al W o) h1
  have h4 := fun o => keep (al W o) h3
  unfold vO mvB
  rw [eh, er]
  clear hb hr hW eh er
  dsimp only
  show Calls Try.prog 34 #[.agg #[.int .i64 i, .bool up, .bool inn, .int .i64 wt, .int .i64 life, .int .i64 boot, .int .i64 host, .int .i64 rack], .pointer (some ⟨bx, 0, none⟩)] W _
  go_enter Try.func34, Try.ntmps34
  go_wp2_with fail
  all_goals (go_ret; exact ⟨by by_cases e : rack = r <;> simp_all, al _ _⟩)

theorem seat_any {w : World} {x : Option Addr} {n c : Nat} {L : List Osd} (id : Int) (h : Os w x n c L) :
    Calls Try.prog 32 #[.slice x n c, .int .i64 id] w fun e w' => e = .returned (.int .i64 (idx (isId id) L)) ∧ Below w.heap.size w w' := by
  have b0 := al w (.cells #[.int .i64 id] 3)
  have hI := index_any (isId id) 38 #[.pointer (some ⟨w.heap.size, 0, none⟩)] (enters_of Try.func38 (by kernel_rfl) rfl) (h.below b0) (seat_clos _ w.heap.size id (by go_simp))
  generalize idx (isId id) L = r at hI ⊢
  clear h
  go_enter Try.func32, Try.ntmps32
  go_wp2_with (go_at_call 37; refine hI.mono ?_; rintro e w2 ⟨rfl, hb2⟩)
  go_ret
  exact ⟨rfl, on b0 hb2⟩

theorem moved_any {w : World} {x : Option Addr} {n c : Nat} {L : List Osd} (o : Osd) (h : Os w x n c L) :
    Calls Try.prog 30 #[.slice x n c, vO o] w fun e w' => e = .returned (.bool (movedB L o)) ∧ Below w.heap.size w w' := by
  have b0 := al w (.cells #[.int .i64 o.id, .bool o.up, .bool o.inn, .int .i64 o.wt, .int .i64 o.life, .int .i64 o.boot, .int .i64 o.host, .int .i64 o.rack] 45)
  have hI := contains_any (mvB o) 34 #[.pointer (some ⟨w.heap.size, 0, none⟩)] (enters_of Try.func34 (by kernel_rfl) rfl) (h.below b0) (moved_clos _ w.heap.size o.host o.rack (by go_simp) (by go_simp) o rfl rfl)
  unfold movedB
  generalize L.any (mvB o) = r at hI ⊢
  clear h
  obtain ⟨i, up, inn, wt, life, boot, host, rack⟩ := o
  unfold vO
  dsimp only at b0 hI ⊢
  go_enter Try.func30, Try.ntmps30
  go_wp2_with (go_at_call 33; refine hI.mono ?_; rintro e w2 ⟨rfl, hb2⟩)
  go_ret
  exact ⟨rfl, on b0 hb2⟩

end Go.Proofs.Ythlfmbijagpggaa.At

/-
  One OSD, and one map, that are written: where they lie; what setUp, setDown, setIn, setOut, setWeight do to one.
  Conditions: none.
-/
namespace Go.Proofs.Ythlfmbijagpggaa.At
open Go.RowKit By Fl
set_option linter.unusedVariables false
set_option linter.unusedSimpArgs false
set_option maxRecDepth 100000

theorem heap_set {w : World} {a j : Nat} {cs : Array Value} {t : TypeId} (h : w.heap[a]? = some (.cells cs t (0, 0))) (v : Value) : (w.setCell ⟨a, j, none⟩ v).heap[a]? = some (.cells (cs.setIfInBounds j v) t (0, 0)) := by
  rw [setCell_eq_setRow w a j cs t (0, 0) v h]
  exact setRow_heap w a cs _ t (0, 0) h

theorem cell_heap {w : World} {a j : Nat} {cs : Array Value} {t : TypeId} (h : w.heap[a]? = some (.cells cs t (0, 0))) {v : Value} (hv : cs[j]? = some v) : w.cell? ⟨a, j, none⟩ = some v := by
  simp only [World.cell?, h]
  simpa using hv

theorem fr_heap {w : World} {a : Nat} {cs : Array Value} {t : TypeId} (h : w.heap[a]? = some (.cells cs t (0, 0))) (j : Nat) : w.frozen? ⟨a, j, none⟩ = false := by
  simp [World.frozen?, h]

def OBox (w : World) (a : Nat) (o : Osd) : Prop := w.heap[a]? = some (.cells #[.int .i64 o.id, .bool o.up, .bool o.inn, .int .i64 o.wt, .int .i64 o.life, .int .i64 o.boot, .int .i64 o.host, .int .i64 o.rack] 45 (0, 0))

theorem OBox.lt {w : World} {a : Nat} {o : Osd} (h : OBox w a o) : a < w.heap.size := (Array.getElem?_eq_some_iff.1 h).1

theorem OBox.at {w : World} {a : Nat} {o : Osd} (h : OBox w a o) : w.cell? ⟨a, 0, none⟩ = some (.int .i64 o.id) ∧ w.cell? ⟨a, 1, none⟩ = some (.bool o.up) ∧ w.cell? ⟨a, 2, none⟩ = some (.bool o.inn) ∧ w.cell? ⟨a, 3, none⟩ = some (.int .i64 o.wt) ∧
    w.cell? ⟨a, 4, none⟩ = some (.int .i64 o.life) ∧ w.cell? ⟨a, 5, none⟩ = some (.int .i64 o.boot) ∧ w.cell? ⟨a, 6, none⟩ = some (.int .i64 o.host) ∧ w.cell? ⟨a, 7, none⟩ = some (.int .i64 o.rack) :=
  ⟨cell_heap h rfl, cell_heap h rfl, cell_heap h rfl, cell_heap h rfl, cell_heap h rfl, cell_heap h rfl, cell_heap h rfl, cell_heap h rfl⟩

theorem OBox.turns {G : Nat → Prop} {w w' : World} {a : Nat} {o : Osd} (h : OBox w a o) (t : Turns G w w') (hg : ¬ G a) : OBox w' a o := (t.block a h.lt hg).trans h

theorem turns_put {w w' : World} {a : Nat} (t : Turns (fun k => k = a) w w') (j : Nat) (v : Value) : Turns (fun k => k = a) w (w'.setCell ⟨a, j, none⟩ v) := t.setCell (p := ⟨a, j, none⟩) (.inl rfl) v

/- What is done to one of them. -/
def Does (g : Nat) (lb : Array Value) (f : Osd → Osd) (w : World) : Prop :=
  ∀ (W : World) (a : Nat) (x : Osd), Below w.heap.size w W → w.heap.size ≤ a → OBox W a x → Calls Try.prog g (#[.pointer (some ⟨a, 0, none⟩)] ++ lb) W fun e w' => e = .returned (.tuple #[]) ∧ Hid (OBox w' a (f x) ∧ Turns (fun k => k = a) W w')

theorem Does.below {g : Nat} {lb : Array Value} {f : Osd → Osd} {w w' : World} (h : Does g lb f w) (hb : Below w.heap.size w w') : Does g lb f w' := fun W a x hW ha hx => h W a x (on hb hW) (Nat.le_trans hb.size ha) hx

end Go.Proofs.Ythlfmbijagpggaa.At

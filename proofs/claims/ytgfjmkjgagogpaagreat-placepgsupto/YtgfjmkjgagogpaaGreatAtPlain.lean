/-
  Package atlas plainly: pools, OSDs, maps and changes that may be, what a change makes of a map.
  Conditions: none.
-/
import Derived.Test.YtgfjmkjgagogpaaGreatFlBase
namespace Go.Proofs.YtgfjmkjgagogpaaGreat.At
open Go.RowKit By Fl
set_option linter.unusedVariables false
set_option linter.unusedSimpArgs false
set_option maxRecDepth 100000

structure Osd where
  id : Int
  up : Bool
  inn : Bool
  wt : Int
  life : Int
  boot : Int
  host : Int
  rack : Int

structure Pool where
  k : Int
  m : Int
  pgs : Int
  dom : Int

structure Mp where
  ep : Int
  pool : Pool
  osds : List Osd

structure Ch where
  kind : Int
  osd : Osd

def eqO (a b : Osd) : Bool := decide (a.id = b.id) && (a.up == b.up) && (a.inn == b.inn) && decide (a.wt = b.wt) && decide (a.life = b.life) && decide (a.boot = b.boot) && decide (a.host = b.host) && decide (a.rack = b.rack)
def eqP (a b : Pool) : Bool := decide (a.k = b.k) && decide (a.m = b.m) && decide (a.pgs = b.pgs) && decide (a.dom = b.dom)
def eqC (a b : Ch) : Bool := decide (a.kind = b.kind) && eqO a.osd b.osd

theorem eqO_iff (a b : Osd) : eqO a b = true ↔ a = b := by
  cases a; cases b
  simp [eqO, and_assoc]
theorem eqP_iff (a b : Pool) : eqP a b = true ↔ a = b := by
  cases a; cases b
  simp [eqP, and_assoc]
theorem eqC_iff (a b : Ch) : eqC a b = true ↔ a = b := by
  cases a; cases b
  simp [eqC, eqO_iff]

def eqL : List Osd → List Osd → Bool
  | [], [] => true
  | a :: l, b :: r => eqO a b && eqL l r
  | _, _ => false

theorem eqL_iff : ∀ a b : List Osd, eqL a b = true ↔ a = b
  | [], [] => by simp [eqL]
  | [], b :: r => by simp [eqL]
  | a :: l, [] => by simp [eqL]
  | a :: l, b :: r => by simp [eqL, eqO_iff, eqL_iff l r]

def eqM (a b : Mp) : Bool := decide (a.ep = b.ep) && eqP a.pool b.pool && eqL a.osds b.osds

theorem eqM_iff (a b : Mp) : eqM a b = true ↔ a = b := by
  cases a; cases b
  simp [eqM, eqP_iff, eqL_iff, and_assoc]

def wi (n a b : Int) : Bool := decide (a ≤ n) && decide (n ≤ b)
def poolB (p : Pool) : Bool := decide (1 ≤ p.k) && wi p.m 1 (32 - p.k) && wi p.pgs 1 32 && wi p.dom 0 2
def least (u : Bool) : Int := if u then 1 else 0
def osdB (o : Osd) : Bool := wi o.id 0 999 && wi o.host 0 999 && wi o.rack 0 999 && wi o.wt 0 16777216 && wi o.life (least o.up) 2147483647 && wi o.boot (least o.up) 2147483647
def mvB (o x : Osd) : Bool := decide (x.host = o.host) && !decide (x.rack = o.rack)
def movedB (L : List Osd) (o : Osd) : Bool := L.any (mvB o)
def lowB (a b : Osd) : Bool := decide (b.id < a.id) && !mvB a b
def goodB (L : List Osd) : Bool := (List.range L.length).all fun i => match L[i]? with | some a => osdB a && (L.take i).all (lowB a) | none => true
def osdsB (L : List Osd) : Bool := decide (L.length ≤ 64) && goodB L
def mayM (m : Mp) : Bool := wi m.ep 0 1048576 && poolB m.pool && osdsB m.osds

def noO (id : Int) : Osd := ⟨id, false, false, 0, 0, 0, 0, 0⟩
def noP : Pool := ⟨0, 0, 0, 0⟩
def noM : Mp := ⟨0, noP, []⟩
def noC : Ch := ⟨0, noO 0⟩

def upB (o : Osd) : Bool := eqO o ⟨o.id, false, false, 0, o.life, o.boot, 0, 0⟩ && (wi o.id 0 999 && wi o.life 1 2147483647 && wi o.boot 1 2147483647)
def idB (o : Osd) : Bool := eqO o (noO o.id) && wi o.id 0 999
def wtB (o : Osd) : Bool := eqO o ⟨o.id, false, false, o.wt, 0, 0, 0, 0⟩ && (wi o.id 0 999 && wi o.wt 0 16777216)
def mayK (k : Int) (o : Osd) : Bool := if k = 1 then osdB o else if k = 2 then upB o else if k = 6 then wtB o else idB o
def mayC (c : Ch) : Bool := wi c.kind 1 6 && mayK c.kind c.osd

def isId (id : Int) (x : Osd) : Bool := decide (x.id = id)
def overId (id : Int) (x : Osd) : Bool := decide (id < x.id)
def idx (p : Osd → Bool) (L : List Osd) : Int := match L.findIdx? p with | some k => (k : Int) | none => -1
def ins (o : Osd) (L : List Osd) : List Osd := match L.findIdx? (overId o.id) with | some k => L.take k ++ o :: L.drop k | none => L ++ [o]

def setUp (o x : Osd) : Osd := ⟨x.id, true, x.inn, x.wt, o.life, o.boot, x.host, x.rack⟩
def setDown (o x : Osd) : Osd := ⟨x.id, false, x.inn, x.wt, x.life, x.boot, x.host, x.rack⟩
def setIn (o x : Osd) : Osd := ⟨x.id, x.up, true, x.wt, x.life, x.boot, x.host, x.rack⟩
def setOut (o x : Osd) : Osd := ⟨x.id, x.up, false, x.wt, x.life, x.boot, x.host, x.rack⟩
def setWt (o x : Osd) : Osd := ⟨x.id, x.up, x.inn, o.wt, x.life, x.boot, x.host, x.rack⟩
def byK (k : Int) (o x : Osd) : Osd := if k = 2 then setUp o x else if k = 3 then setDown o x else if k = 4 then setIn o x else if k = 5 then setOut o x else setWt o x

def turnP (L : List Osd) (id : Int) (f : Osd → Osd) : Int × List Osd :=
  match L.findIdx? (isId id) with
  | none => (4, L)
  | some k => match L[k]? with
    | none => (4, L)
    | some x => if eqO (f x) x then (6, L) else (0, L.set k (f x))

def addP (L : List Osd) (o : Osd) : Int × List Osd :=
  if (L.findIdx? (isId o.id)).isSome then (6, L) else if 64 ≤ L.length then (2, L) else if movedB L o then (1, L) else (0, ins o L)

def doP (k : Int) (L : List Osd) (o : Osd) : Int × List Osd := if k = 1 then addP L o else turnP L o.id (byK k o)

def advP (m : Mp) (c : Ch) : Int × Mp :=
  if mayC c = false ∨ m.ep = 1048576 then (1, m) else if (doP c.kind m.osds c.osd).1 = 0 then (0, ⟨m.ep + 1, m.pool, (doP c.kind m.osds c.osd).2⟩) else ((doP c.kind m.osds c.osd).1, m)

def foldP (m : Mp) : List Ch → List Int × Mp
  | [] => ([], m)
  | c :: l => ((advP m c).1 :: (foldP (advP m c).2 l).1, (foldP (advP m c).2 l).2)

theorem foldP_snoc : ∀ (l : List Ch) (m : Mp) (c : Ch), foldP m (l ++ [c]) = ((foldP m l).1 ++ [(advP (foldP m l).2 c).1], (advP (foldP m l).2 c).2)
  | [], m, c => by simp [foldP]
  | d :: l, m, c => by simp [foldP, foldP_snoc l]

theorem foldP_len : ∀ (l : List Ch) (m : Mp), (foldP m l).1.length = l.length
  | [], m => by simp [foldP]
  | d :: l, m => by simp [foldP, foldP_len l]

/- What goodB says. -/
def Good (L : List Osd) : Prop := ∀ (i : Nat) (a : Osd), L[i]? = some a → osdB a = true ∧ ∀ (k : Nat) (b : Osd), k < i → L[k]? = some b → lowB a b = true

theorem goodB_iff (L : List Osd) : goodB L = true ↔ Good L := by
  unfold goodB Good
  rw [List.all_eq_true]
  constructor
  · intro h i a ha
    have hi := (List.getElem?_eq_some_iff.1 ha).1
    have := h i (List.mem_range.2 hi)
    rw [ha] at this
    simp only [Bool.and_eq_true, List.all_eq_true] at this
    refine ⟨this.1, fun k b hk hb => this.2 b ?_⟩
    have hkl := (List.getElem?_eq_some_iff.1 hb).1
    rw [List.mem_iff_getElem?]
    exact ⟨k, by rw [List.getElem?_take, if_pos hk]; exact hb⟩
  · intro h i hi
    rw [List.mem_range] at hi
    rw [List.getElem?_eq_getElem hi]
    obtain ⟨h1, h2⟩ := h i L[i] (List.getElem?_eq_getElem hi)
    simp only [Bool.and_eq_true, List.all_eq_true]
    refine ⟨h1, fun b hb => ?_⟩
    obtain ⟨k, hk⟩ := List.mem_iff_getElem?.1 hb
    rw [List.getElem?_take] at hk
    split at hk
    · rename_i hki
      exact h2 k b hki hk
    · cases hk

theorem goodB_false {L : List Osd} {i : Nat} {a : Osd} (ha : L[i]? = some a) (h : osdB a = false ∨ ∃ k b, k < i ∧ L[k]? = some b ∧ lowB a b = false) : goodB L = false := by
  cases hg : goodB L with
  | false => rfl
  | true =>
    obtain ⟨h1, h2⟩ := (goodB_iff L).1 hg i a ha
    rcases h with h | ⟨k, b, hk, hb, h⟩
    · rw [h1] at h; cases h
    · rw [h2 k b hk hb] at h; cases h

theorem wi_iff (n a b : Int) : wi n a b = true ↔ a ≤ n ∧ n ≤ b := by simp [wi]
theorem wi_false (n a b : Int) : wi n a b = false ↔ n < a ∨ b < n := by
  rw [← Bool.not_eq_true, wi_iff]
  omega

theorem lowB_iff (a b : Osd) : lowB a b = true ↔ b.id < a.id ∧ (b.host = a.host → b.rack = a.rack) := by
  simp only [lowB, mvB, Bool.and_eq_true, decide_eq_true_eq, Bool.not_eq_true', Bool.and_eq_false_iff, decide_eq_false_iff_not, Bool.not_eq_false']
  constructor
  · rintro ⟨h1, h2⟩
    exact ⟨h1, fun h => h2.resolve_left (fun k => k h)⟩
  · rintro ⟨h1, h2⟩
    refine ⟨h1, ?_⟩
    by_cases h : b.host = a.host
    · exact .inr (h2 h)
    · exact .inl h

theorem moved_iff (L : List Osd) (o : Osd) : movedB L o = true ↔ ∃ x ∈ L, x.host = o.host ∧ x.rack ≠ o.rack := by
  simp [movedB, mvB]
theorem moved_no (L : List Osd) (o : Osd) : movedB L o = false ↔ ∀ x ∈ L, x.host = o.host → x.rack = o.rack := by
  simp [movedB, mvB]

/- Where the first one is. -/
theorem idx_hit {p : Osd → Bool} {L : List Osd} {k : Nat} {a : Osd} (hk : L[k]? = some a) (ha : p a = true) (hj : ∀ (j : Nat) (b : Osd), j < k → L[j]? = some b → p b = false) : L.findIdx? p = some k := by
  obtain ⟨hlt, e⟩ := List.getElem?_eq_some_iff.1 hk
  rw [List.findIdx?_eq_some_iff_getElem]
  refine ⟨hlt, by rw [e]; exact ha, fun j hji => ?_⟩
  have := hj j L[j] hji (List.getElem?_eq_getElem _)
  simp [this]

theorem idx_miss {p : Osd → Bool} {L : List Osd} (h : ∀ (j : Nat) (b : Osd), L[j]? = some b → p b = false) : L.findIdx? p = none := by
  rw [List.findIdx?_eq_none_iff]
  intro x hx
  obtain ⟨k, hk⟩ := List.mem_iff_getElem?.1 hx
  exact h k x hk

theorem idx_some {p : Osd → Bool} {L : List Osd} {k : Nat} (h : L.findIdx? p = some k) : ∃ a, L[k]? = some a ∧ p a = true ∧ ∀ (j : Nat) (b : Osd), j < k → L[j]? = some b → p b = false := by
  rw [List.findIdx?_eq_some_iff_getElem] at h
  obtain ⟨hlt, ha, hj⟩ := h
  refine ⟨L[k], List.getElem?_eq_getElem hlt, ha, fun j b hjk hb => ?_⟩
  have := hj j hjk
  obtain ⟨hl, e⟩ := List.getElem?_eq_some_iff.1 hb
  rw [e] at this
  simpa using this

theorem idx_none {p : Osd → Bool} {L : List Osd} (h : L.findIdx? p = none) (j : Nat) (b : Osd) (hb : L[j]? = some b) : p b = false := by
  rw [List.findIdx?_eq_none_iff] at h
  exact h b (List.mem_of_getElem? hb)

end Go.Proofs.YtgfjmkjgagogpaaGreat.At

/-
  Shards and holders as they lie in memory: lists of structs that are read, by the blocks that they lean on.
  Conditions: none.
-/
import Derived.Test.YtnfflmndejbepaaJShPlain
import Derived.Test.YtnfflmndejbepaaFlBase
import Derived.Test.YtnfflmndejbepaaJMxOrders
import Derived.Laws.Slices
import Derived.Laws.StructEq
import Derived.BigQuiet
namespace Go.Proofs.Ytnfflmndejbepaa.Sh
set_option linter.unusedSectionVars false
open Go.RowKit By Fl
set_option linter.unusedVariables false
set_option linter.unusedSimpArgs false
set_option maxRecDepth 100000

theorem keep {w v : World} {b o : Nat} {x : Value} (hb : Below w.heap.size w v) (h : w.cell? ⟨b, o, none⟩ = some x) : v.cell? ⟨b, o, none⟩ = some x := (hb.cell (p := ⟨b, o, none⟩) (cell_lt' h)).trans h
theorem on {a b c : World} (h : Below a.heap.size a b) (k : Below b.heap.size b c) : Below a.heap.size a c := h.trans (k.mono h.size)
theorem al (w : World) (o : Obj) : Below w.heap.size w (w.alloc o) := (Below.refl _ w).alloc (Nat.le_refl _) _
theorem bel_drewN (w : World) (n : Nat) : Below w.heap.size w (w.drewN n) := ⟨rfl, rfl, rfl, Nat.le_refl _, fun _ _ => rfl⟩

theorem heap_set {w : World} {a j : Nat} {cs : Array Value} {t : TypeId} (h : w.heap[a]? = some (.cells cs t (0, 0))) (v : Value) : (w.setCell ⟨a, j, none⟩ v).heap[a]? = some (.cells (cs.setIfInBounds j v) t (0, 0)) := by
  rw [setCell_eq_setRow w a j cs t (0, 0) v h]
  exact setRow_heap w a cs _ t (0, 0) h
theorem cell_heap {w : World} {a j : Nat} {cs : Array Value} {t : TypeId} (h : w.heap[a]? = some (.cells cs t (0, 0))) {v : Value} (hv : cs[j]? = some v) : w.cell? ⟨a, j, none⟩ = some v := by
  simp only [World.cell?, h]
  simpa using hv
theorem fr_heap {w : World} {a : Nat} {cs : Array Value} {t : TypeId} (h : w.heap[a]? = some (.cells cs t (0, 0))) (j : Nat) : w.frozen? ⟨a, j, none⟩ = false := by
  simp [World.frozen?, h]
theorem lt_heap {w : World} {a : Nat} {o : Obj} (h : w.heap[a]? = some o) : a < w.heap.size := (Array.getElem?_eq_some_iff.1 h).1
theorem put_block {w : World} {g k b : Nat} {v : Value} (hlt : b < w.heap.size) (hne : b ≠ g) : (w.setCell ⟨g, k, none⟩ v).heap[b]? = w.heap[b]? :=
  Below.heap_setCell _ _ _ _ (fun e => hne e)
theorem cell_put {w : World} {g k b o : Nat} {v u : Value} (h : w.cell? ⟨b, o, none⟩ = some u) (hne : b ≠ g) : (w.setCell ⟨g, k, none⟩ v).cell? ⟨b, o, none⟩ = some u :=
  (World.cell?_of_block (a := ⟨b, o, none⟩) (put_block (cell_lt' h) hne)).trans h

/- A world in which all that lay in w lies unturned. -/
structure After (w : World) where
  W : World
  h : Below w.heap.size w W
theorem After.ne (w : World) : Nonempty (After w) := ⟨⟨w, Below.refl _ _⟩⟩
theorem wp_region_after {P : Program} {id : Nat} {Q : Exit → Act → World → Prop} {a : Act} {w : World} {l : List Oper} (hm : P.follows .mixedOrders = true) (hB : Region.lexB .any l.toArray = true)
    (h : wpQuiet P l.toArray (fun w' => ∃ p : After w, w' = p.W) (fun a' => ∀ w', (∃ p : After w, w' = p.W) → Q .normal a' w') l a) : (Code.region id l.toArray true).wp P Q a w :=
  wp_region_quiet (C := fun w' => ∃ p : After w, w' = p.W) hm hB ⟨⟨w.drew, (Below.refl _ _).drew⟩, rfl⟩ (by simpa using h)
theorem Calls.after_of {P : Program} {f : FuncId} {args : Array Value} {w : World} {p : After w} {v : Value}
    (h : Calls P f args p.W fun e w' => e = .returned v ∧ Below p.W.heap.size p.W w') : Calls P f args p.W fun e w'' => e = .returned v ∧ ∃ q : After w, w'' = q.W :=
  h.mono fun _ w' ⟨he, hb⟩ => ⟨he, ⟨w', on p.h hb⟩, rfl⟩
theorem Calls.after_same {P : Program} {f : FuncId} {args : Array Value} {w : World} {p : After w} {v : Value}
    (h : Calls P f args p.W fun e w' => e = .returned v ∧ w' = p.W) : Calls P f args p.W fun e w'' => e = .returned v ∧ ∃ q : After w, w'' = q.W :=
  h.mono fun _ w' ⟨he, hb⟩ => ⟨he, p, hb⟩
theorem After.cell {w : World} {b o : Nat} {v : Value} (h : w.cell? ⟨b, o, none⟩ = some v) (p : After w) : p.W.cell? ⟨b, o, none⟩ = some v := keep p.h h

/- What stays of some blocks. -/
structure Keeps (F : Nat → Prop) (w w' : World) : Prop where
  size : w.heap.size ≤ w'.heap.size
  block : ∀ k, F k → k < w.heap.size → w'.heap[k]? = w.heap[k]?
section
variable {F G : Nat → Prop} {w w' w'' : World}
theorem Keeps.below (h : Below w.heap.size w w') : Keeps F w w' := ⟨h.size, fun k _ hk => h.block k hk⟩
theorem Keeps.turns (h : Turns G w w') (hF : ∀ k, F k → ¬ G k) : Keeps F w w' := ⟨h.size, fun k hk hl => h.block k hl (hF k hk)⟩
theorem Keeps.trans (h : Keeps F w w') (k : Keeps F w' w'') : Keeps F w w'' := ⟨Nat.le_trans h.size k.size, fun i hi hl => (k.block i hi (Nat.lt_of_lt_of_le hl h.size)).trans (h.block i hi hl)⟩
theorem Keeps.refl (F : Nat → Prop) (w : World) : Keeps F w w := ⟨Nat.le_refl _, fun _ _ _ => rfl⟩
theorem Keeps.cell (h : Keeps F w w') {b o : Nat} {v : Value} (hb : F b) (hv : w.cell? ⟨b, o, none⟩ = some v) : w'.cell? ⟨b, o, none⟩ = some v :=
  (World.cell?_of_block (a := ⟨b, o, none⟩) (h.block b hb (cell_lt' hv))).trans hv
end

/- Bytes that lie in blocks of F. -/
structure SlF (w : World) (F : Nat → Prop) (x : Option Addr) (n c : Nat) (l : List Nat) : Prop where
  s : Sl w x n c l
  sm : n ≤ 100000000
  fp : n ≠ 0 → ∀ a, x = some a → F a.block

section
variable {F G : Nat → Prop} {w w' : World} {x : Option Addr} {n c : Nat} {l : List Nat}
theorem SlF.keeps (h : SlF w F x n c l) (k : Keeps F w w') : SlF w' F x n c l := by
  refine ⟨⟨h.s.len, h.s.le, h.s.nil, ?_, h.s.lt⟩, h.sm, h.fp⟩
  rcases h.s.row with h0 | ⟨b, o, h1, h2, h3⟩
  · exact .inl h0
  · by_cases h0 : n = 0
    · exact .inl h0
    · exact .inr ⟨b, o, h1, Nat.lt_of_lt_of_le h2 k.size, fun i hi => k.cell (h.fp h0 _ h1) (h3 i hi)⟩
theorem SlF.weak (h : SlF w F x n c l) (hG : ∀ k, F k → G k) : SlF w G x n c l := ⟨h.s, h.sm, fun h0 a ha => hG _ (h.fp h0 a ha)⟩
theorem SlF.nil (w : World) (F : Nat → Prop) : SlF w F none 0 0 [] := ⟨Sl.empty w, by omega, fun h => absurd rfl h⟩
end

/- A list of structs that is read. -/
structure Lis {α : Type} (en : α → List Value) (sz : Nat) (A : World → (Nat → Prop) → α → Prop) (w : World) (F : Nat → Prop) (x : Option Addr) (n c : Nat) (L : List α) : Prop where
  len : L.length = n
  le : n ≤ c
  small : n ≤ 100000000
  nil : x = none → n = 0 ∧ c = 0
  row : n = 0 ∨ ∃ b o, x = some ⟨b, o, none⟩ ∧ b < w.heap.size ∧ F b ∧ ∀ (k : Nat) (a : α), L[k]? = some a → ∀ (j : Nat) (v : Value), (en a)[j]? = some v → w.cell? ⟨b, o + k * sz + j, none⟩ = some v
  each : ∀ a ∈ L, A w F a

section
variable {α : Type} {en : α → List Value} {sz : Nat} {A : World → (Nat → Prop) → α → Prop} {F G : Nat → Prop} {w w' : World} {x : Option Addr} {n c : Nat} {L : List α}
theorem Lis.keeps (hA : ∀ a, A w F a → A w' F a) (h : Lis en sz A w F x n c L) (k : Keeps F w w') : Lis en sz A w' F x n c L := by
  refine ⟨h.len, h.le, h.small, h.nil, ?_, fun a ha => hA a (h.each a ha)⟩
  rcases h.row with h0 | ⟨b, o, h1, h2, h3, h4⟩
  · exact .inl h0
  · exact .inr ⟨b, o, h1, Nat.lt_of_lt_of_le h2 k.size, h3, fun i a hi j v hv => k.cell h3 (h4 i a hi j v hv)⟩
theorem Lis.weak (hA : ∀ a, A w F a → A w G a) (h : Lis en sz A w F x n c L) (k : ∀ k, F k → G k) : Lis en sz A w G x n c L := by
  refine ⟨h.len, h.le, h.small, h.nil, ?_, fun a ha => hA a (h.each a ha)⟩
  rcases h.row with h0 | ⟨b, o, h1, h2, h3, h4⟩
  · exact .inl h0
  · exact .inr ⟨b, o, h1, h2, k b h3, h4⟩
theorem Lis.empty (w : World) (F : Nat → Prop) : Lis en sz A w F none 0 0 [] := ⟨rfl, Nat.le_refl _, by omega, fun _ => ⟨rfl, rfl⟩, .inl rfl, fun a ha => by cases ha⟩
theorem Lis.some (h : Lis en sz A w F x n c L) {k : Nat} (hk : k < n) : ∃ a, L[k]? = Option.some a ∧ a ∈ L := by
  have hl := h.len
  exact ⟨L[k]'(by omega), List.getElem?_eq_getElem (by omega), List.getElem_mem (by omega)⟩

/- Its beginning. -/
theorem Lis.take (h : Lis en sz A w F x n c L) {k : Nat} (hk : k ≤ n) : Lis en sz A w F x k c (L.take k) := by
  have hl := h.len
  refine ⟨by rw [List.length_take]; omega, by have := h.le; omega, by have := h.small; omega, fun e => by have := h.nil e; omega, ?_, fun a ha => h.each a (List.mem_of_mem_take ha)⟩
  rcases h.row with h0 | ⟨b, o, h1, h2, h3, h4⟩
  · exact .inl (by omega)
  · refine .inr ⟨b, o, h1, h2, h3, fun q a hq j v hv => h4 q a ?_ j v hv⟩
    rw [List.getElem?_take] at hq
    split at hq
    · exact hq
    · cases hq

def cutO (sz : Nat) (x : Option Addr) (c k : Nat) : Option Addr := if c = k then x else x.map (·.add (k * sz))

/- Its end. -/
theorem Lis.drop (h : Lis en sz A w F x n c L) (k : Nat) (hk : k ≤ n) : Lis en sz A w F (cutO sz x c k) (n - k) (c - k) (L.drop k) := by
  have hle := h.le
  have hl := h.len
  refine ⟨by rw [List.length_drop, h.len], by omega, by have := h.small; omega, fun e => ?_, ?_, fun a ha => h.each a (List.mem_of_mem_drop ha)⟩
  · unfold cutO at e
    split at e
    · have := h.nil e; omega
    · cases x with
      | none => have := h.nil rfl; omega
      | some a => cases e
  · by_cases h0 : n - k = 0
    · exact .inl h0
    · rcases h.row with hr | ⟨b, o, rfl, hb, hf, hc⟩
      · omega
      · refine .inr ⟨b, o + k * sz, ?_, hb, hf, fun i a hi j v hv => ?_⟩
        · unfold cutO
          rw [if_neg (by omega)]
          simp [add_at]
        · rw [List.getElem?_drop] at hi
          have := hc (k + i) a hi j v hv
          rw [show o + k * sz + i * sz + j = o + (k + i) * sz + j by rw [Nat.add_mul]; omega]
          exact this
end

/- A list of one's own is one that is read. -/
theorem own_lis {α : Type} {en : α → List Value} {sz bt : Nat} {T e : TypeId} {A : World → (Nat → Prop) → α → Prop} {F : Nat → Prop} {w : World} {B : Nat} {x : Option Addr} {n c : Nat} {L : List α} (r : Row T e sz bt en)
    (h : Own w B e sz en (.slice x n c) L) (hs : L.length ≤ 100000000) (hF : ∀ g, (Value.slice x n c).ownBlock = some g → F g) (he : ∀ a ∈ L, A w F a) : Lis en sz A w F x n c L := by
  obtain ⟨x', c', e, h1, h2, h3⟩ := h.form
  injection e with e1 e2 e3
  subst e1 e2 e3
  refine ⟨rfl, h1, hs, h2, ?_, he⟩
  by_cases h0 : L.length = 0
  · exact .inl h0
  · cases x with
    | none => exact .inl (h2 rfl).1
    | some ad =>
      obtain ⟨g, rfl, hB, hg⟩ := h3 ad rfl
      exact .inr ⟨g, 0, rfl, hg, hF g rfl, fun k a hk j v hv => by rw [Nat.zero_add]; exact h.cell r.len hk hv⟩

/- A chunk, an item, an Undo, a shard, a holder, each with where its lists lie. -/
structure CV where
  sz : Int
  x : Option Addr
  n : Nat
  c : Nat
  dat : List Nat
  sum : Int
structure IV where
  nm : ByteArray
  ch : CV
structure UV where
  seq : Int
  nm : ByteArray
  has : Bool
  was : CV
structure SV where
  pl : Int
  si : Int
  x1 : Option Addr
  n1 : Nat
  c1 : Nat
  I : List IV
  x2 : Option Addr
  n2 : Nat
  c2 : Nat
  E : List Ent
  x3 : Option Addr
  n3 : Nat
  c3 : Nat
  U : List UV
structure HV where
  fe : Int
  now : SV
  x : Option Addr
  n : Nat
  c : Nat
  N : List SV

def pC (v : CV) : Chk := ⟨v.sz, v.dat, v.sum⟩
def pI (v : IV) : Itm := ⟨v.nm, pC v.ch⟩
def pU (v : UV) : Und := ⟨v.seq, v.nm, v.has, pC v.was⟩
def pS (v : SV) : Shd := ⟨v.pl, v.si, v.I.map pI, v.E, v.U.map pU⟩
def pH (v : HV) : Hld := ⟨v.fe, pS v.now, v.N.map pS⟩

def enC (v : CV) : List Value := [.int .i64 v.sz, .slice v.x v.n v.c, .int .u32 v.sum]
def enI (v : IV) : List Value := [.string v.nm, .int .i64 v.ch.sz, .slice v.ch.x v.ch.n v.ch.c, .int .u32 v.ch.sum]
def enE (e : Ent) : List Value := [.int .i64 e.seq, .int .i64 e.cl, .int .i64 e.ks, .string e.nm, .int .i64 e.code, .bool e.gone, .int .i64 e.sz]
def enU (v : UV) : List Value := [.int .i64 v.seq, .string v.nm, .bool v.has, .int .i64 v.was.sz, .slice v.was.x v.was.n v.was.c, .int .u32 v.was.sum]
def enS (v : SV) : List Value := [.int .i64 v.pl, .int .i64 v.si, .slice v.x1 v.n1 v.c1, .slice v.x2 v.n2 v.c2, .slice v.x3 v.n3 v.c3]

def vC (v : CV) : Value := .agg #[.int .i64 v.sz, .slice v.x v.n v.c, .int .u32 v.sum]
def vI (v : IV) : Value := .agg #[.string v.nm, .int .i64 v.ch.sz, .slice v.ch.x v.ch.n v.ch.c, .int .u32 v.ch.sum]
def vE (e : Ent) : Value := .agg #[.int .i64 e.seq, .int .i64 e.cl, .int .i64 e.ks, .string e.nm, .int .i64 e.code, .bool e.gone, .int .i64 e.sz]
def vU (v : UV) : Value := .agg #[.int .i64 v.seq, .string v.nm, .bool v.has, .int .i64 v.was.sz, .slice v.was.x v.was.n v.was.c, .int .u32 v.was.sum]
def vS (v : SV) : Value := .agg #[.int .i64 v.pl, .int .i64 v.si, .slice v.x1 v.n1 v.c1, .slice v.x2 v.n2 v.c2, .slice v.x3 v.n3 v.c3]
def vH (v : HV) : Value := .agg #[.int .i64 v.fe, .int .i64 v.now.pl, .int .i64 v.now.si, .slice v.now.x1 v.now.n1 v.now.c1, .slice v.now.x2 v.now.n2 v.now.c2, .slice v.now.x3 v.now.n3 v.now.c3, .slice v.x v.n v.c]

def CAt (w : World) (F : Nat → Prop) (v : CV) : Prop := SlF w F v.x v.n v.c v.dat
def IAt (w : World) (F : Nat → Prop) (v : IV) : Prop := v.nm.size ≤ 1048576 ∧ CAt w F v.ch
def EAt (w : World) (F : Nat → Prop) (v : Ent) : Prop := v.nm.size ≤ 1048576
def UAt (w : World) (F : Nat → Prop) (v : UV) : Prop := v.nm.size ≤ 1048576 ∧ CAt w F v.was

def Is := Lis enI 4 IAt
def Es := Lis enE 7 EAt
def Us := Lis enU 6 UAt

structure SAt (w : World) (F : Nat → Prop) (v : SV) : Prop where
  i : Is w F v.x1 v.n1 v.c1 v.I
  e : Es w F v.x2 v.n2 v.c2 v.E
  u : Us w F v.x3 v.n3 v.c3 v.U

def Ss := Lis enS 5 SAt

structure HAt (w : World) (F : Nat → Prop) (v : HV) : Prop where
  s : SAt w F v.now
  n : Ss w F v.x v.n v.c v.N

section
variable {F G : Nat → Prop} {w w' : World}
theorem CAt.keeps {v : CV} (h : CAt w F v) (k : Keeps F w w') : CAt w' F v := SlF.keeps h k
theorem IAt.keeps {v : IV} (h : IAt w F v) (k : Keeps F w w') : IAt w' F v := ⟨h.1, SlF.keeps h.2 k⟩
theorem UAt.keeps {v : UV} (h : UAt w F v) (k : Keeps F w w') : UAt w' F v := ⟨h.1, SlF.keeps h.2 k⟩
theorem Is.keeps {x : Option Addr} {n c : Nat} {L : List IV} (h : Is w F x n c L) (k : Keeps F w w') : Is w' F x n c L := Lis.keeps (fun a ha => IAt.keeps ha k) h k
theorem Es.keeps {x : Option Addr} {n c : Nat} {L : List Ent} (h : Es w F x n c L) (k : Keeps F w w') : Es w' F x n c L := Lis.keeps (fun a (ha : EAt w F a) => (show EAt w' F a from ha)) h k
theorem Us.keeps {x : Option Addr} {n c : Nat} {L : List UV} (h : Us w F x n c L) (k : Keeps F w w') : Us w' F x n c L := Lis.keeps (fun a ha => UAt.keeps ha k) h k
theorem SAt.keeps {v : SV} (h : SAt w F v) (k : Keeps F w w') : SAt w' F v := ⟨Is.keeps h.i k, Es.keeps h.e k, Us.keeps h.u k⟩
theorem Ss.keeps {x : Option Addr} {n c : Nat} {L : List SV} (h : Ss w F x n c L) (k : Keeps F w w') : Ss w' F x n c L := Lis.keeps (fun a ha => SAt.keeps ha k) h k
theorem HAt.keeps {v : HV} (h : HAt w F v) (k : Keeps F w w') : HAt w' F v := ⟨h.s.keeps k, Ss.keeps h.n k⟩

theorem CAt.below {v : CV} (h : CAt w F v) (k : Below w.heap.size w w') : CAt w' F v := h.keeps (.below k)
theorem IAt.below {v : IV} (h : IAt w F v) (k : Below w.heap.size w w') : IAt w' F v := h.keeps (.below k)
theorem UAt.below {v : UV} (h : UAt w F v) (k : Below w.heap.size w w') : UAt w' F v := h.keeps (.below k)
theorem Is.below {x : Option Addr} {n c : Nat} {L : List IV} (h : Is w F x n c L) (k : Below w.heap.size w w') : Is w' F x n c L := Is.keeps h (.below k)
theorem Es.below {x : Option Addr} {n c : Nat} {L : List Ent} (h : Es w F x n c L) (k : Below w.heap.size w w') : Es w' F x n c L := Es.keeps h (.below k)
theorem Us.below {x : Option Addr} {n c : Nat} {L : List UV} (h : Us w F x n c L) (k : Below w.heap.size w w') : Us w' F x n c L := Us.keeps h (.below k)
theorem SAt.below {v : SV} (h : SAt w F v) (k : Below w.heap.size w w') : SAt w' F v := h.keeps (.below k)
theorem Ss.below {x : Option Addr} {n c : Nat} {L : List SV} (h : Ss w F x n c L) (k : Below w.heap.size w w') : Ss w' F x n c L := Ss.keeps h (.below k)
theorem HAt.below {v : HV} (h : HAt w F v) (k : Below w.heap.size w w') : HAt w' F v := h.keeps (.below k)

theorem CAt.weak {v : CV} (h : CAt w F v) (k : ∀ i, F i → G i) : CAt w G v := SlF.weak h k
theorem IAt.weak {v : IV} (h : IAt w F v) (k : ∀ i, F i → G i) : IAt w G v := ⟨h.1, SlF.weak h.2 k⟩
theorem UAt.weak {v : UV} (h : UAt w F v) (k : ∀ i, F i → G i) : UAt w G v := ⟨h.1, SlF.weak h.2 k⟩
theorem SAt.weak {v : SV} (h : SAt w F v) (k : ∀ i, F i → G i) : SAt w G v :=
  ⟨Lis.weak (fun a ha => IAt.weak ha k) h.i k, Lis.weak (fun a (ha : EAt w F a) => (show EAt w G a from ha)) h.e k, Lis.weak (fun a ha => UAt.weak ha k) h.u k⟩
theorem HAt.weak {v : HV} (h : HAt w F v) (k : ∀ i, F i → G i) : HAt w G v := ⟨h.s.weak k, Lis.weak (fun a ha => SAt.weak ha k) h.n k⟩
end

/- The cells of the k-th one. -/
section
variable {w : World} {b o k : Nat}
theorem i_at {L : List IV} {v : IV} (h : ∀ (k : Nat) (v : IV), L[k]? = some v → ∀ (j : Nat) (u : Value), (enI v)[j]? = some u → w.cell? ⟨b, o + k * 4 + j, none⟩ = some u) (hk : L[k]? = some v) :
    w.cell? ⟨b, o + k * 4, none⟩ = some (.string v.nm) ∧ w.cell? ⟨b, o + k * 4 + 1, none⟩ = some (.int .i64 v.ch.sz) ∧ w.cell? ⟨b, o + k * 4 + 2, none⟩ = some (.slice v.ch.x v.ch.n v.ch.c) ∧ w.cell? ⟨b, o + k * 4 + 3, none⟩ = some (.int .u32 v.ch.sum) :=
  ⟨h k v hk 0 _ rfl, h k v hk 1 _ rfl, h k v hk 2 _ rfl, h k v hk 3 _ rfl⟩
theorem e_at {L : List Ent} {v : Ent} (h : ∀ (k : Nat) (v : Ent), L[k]? = some v → ∀ (j : Nat) (u : Value), (enE v)[j]? = some u → w.cell? ⟨b, o + k * 7 + j, none⟩ = some u) (hk : L[k]? = some v) :
    w.cell? ⟨b, o + k * 7, none⟩ = some (.int .i64 v.seq) ∧ w.cell? ⟨b, o + k * 7 + 1, none⟩ = some (.int .i64 v.cl) ∧ w.cell? ⟨b, o + k * 7 + 2, none⟩ = some (.int .i64 v.ks) ∧ w.cell? ⟨b, o + k * 7 + 3, none⟩ = some (.string v.nm) ∧
    w.cell? ⟨b, o + k * 7 + 4, none⟩ = some (.int .i64 v.code) ∧ w.cell? ⟨b, o + k * 7 + 5, none⟩ = some (.bool v.gone) ∧ w.cell? ⟨b, o + k * 7 + 6, none⟩ = some (.int .i64 v.sz) :=
  ⟨h k v hk 0 _ rfl, h k v hk 1 _ rfl, h k v hk 2 _ rfl, h k v hk 3 _ rfl, h k v hk 4 _ rfl, h k v hk 5 _ rfl, h k v hk 6 _ rfl⟩
theorem u_at {L : List UV} {v : UV} (h : ∀ (k : Nat) (v : UV), L[k]? = some v → ∀ (j : Nat) (u : Value), (enU v)[j]? = some u → w.cell? ⟨b, o + k * 6 + j, none⟩ = some u) (hk : L[k]? = some v) :
    w.cell? ⟨b, o + k * 6, none⟩ = some (.int .i64 v.seq) ∧ w.cell? ⟨b, o + k * 6 + 1, none⟩ = some (.string v.nm) ∧ w.cell? ⟨b, o + k * 6 + 2, none⟩ = some (.bool v.has) ∧ w.cell? ⟨b, o + k * 6 + 3, none⟩ = some (.int .i64 v.was.sz) ∧
    w.cell? ⟨b, o + k * 6 + 4, none⟩ = some (.slice v.was.x v.was.n v.was.c) ∧ w.cell? ⟨b, o + k * 6 + 5, none⟩ = some (.int .u32 v.was.sum) :=
  ⟨h k v hk 0 _ rfl, h k v hk 1 _ rfl, h k v hk 2 _ rfl, h k v hk 3 _ rfl, h k v hk 4 _ rfl, h k v hk 5 _ rfl⟩
theorem s_at {L : List SV} {v : SV} (h : ∀ (k : Nat) (v : SV), L[k]? = some v → ∀ (j : Nat) (u : Value), (enS v)[j]? = some u → w.cell? ⟨b, o + k * 5 + j, none⟩ = some u) (hk : L[k]? = some v) :
    w.cell? ⟨b, o + k * 5, none⟩ = some (.int .i64 v.pl) ∧ w.cell? ⟨b, o + k * 5 + 1, none⟩ = some (.int .i64 v.si) ∧ w.cell? ⟨b, o + k * 5 + 2, none⟩ = some (.slice v.x1 v.n1 v.c1) ∧ w.cell? ⟨b, o + k * 5 + 3, none⟩ = some (.slice v.x2 v.n2 v.c2) ∧
    w.cell? ⟨b, o + k * 5 + 4, none⟩ = some (.slice v.x3 v.n3 v.c3) :=
  ⟨h k v hk 0 _ rfl, h k v hk 1 _ rfl, h k v hk 2 _ rfl, h k v hk 3 _ rfl, h k v hk 4 _ rfl⟩
end

theorem irow : Row 22 79 4 56 enI := by
  have hi : (Try.prog.info? 79).map (fun i => (i.zero, i.size, i.bytes)) = some (some (.agg #[.string ⟨#[]⟩, .int .i64 0, .slice none 0 0, .int .u32 0]), 4, 56) := by kernel_rfl
  obtain ⟨i0, h1, h2, h3, h4⟩ := info_parts hi
  exact ⟨Try.underlying22, ⟨i0, _, h1, h2, h3, h4, rfl⟩, by decide, by decide, fun a => rfl, fun a v hv => by simp [enI] at hv; rcases hv with rfl | rfl | rfl | rfl <;> rfl⟩
theorem erow : Row 23 67 7 64 enE := by
  have hi : (Try.prog.info? 67).map (fun i => (i.zero, i.size, i.bytes)) = some (some (.agg #[.int .i64 0, .int .i64 0, .int .i64 0, .string ⟨#[]⟩, .int .i64 0, .bool false, .int .i64 0]), 7, 64) := by kernel_rfl
  obtain ⟨i0, h1, h2, h3, h4⟩ := info_parts hi
  exact ⟨Try.underlying23, ⟨i0, _, h1, h2, h3, h4, rfl⟩, by decide, by decide, fun a => rfl, fun a v hv => by simp [enE] at hv; rcases hv with rfl | rfl | rfl | rfl | rfl | rfl | rfl <;> rfl⟩
theorem urow : Row 24 89 6 72 enU := by
  have hi : (Try.prog.info? 89).map (fun i => (i.zero, i.size, i.bytes)) = some (some (.agg #[.int .i64 0, .string ⟨#[]⟩, .bool false, .int .i64 0, .slice none 0 0, .int .u32 0]), 6, 72) := by kernel_rfl
  obtain ⟨i0, h1, h2, h3, h4⟩ := info_parts hi
  exact ⟨Try.underlying24, ⟨i0, _, h1, h2, h3, h4, rfl⟩, by decide, by decide, fun a => rfl, fun a v hv => by simp [enU] at hv; rcases hv with rfl | rfl | rfl | rfl | rfl | rfl <;> rfl⟩
theorem srow : Row 27 26 5 88 enS := by
  have hi : (Try.prog.info? 26).map (fun i => (i.zero, i.size, i.bytes)) = some (some (.agg #[.int .i64 0, .int .i64 0, .slice none 0 0, .slice none 0 0, .slice none 0 0]), 5, 88) := by kernel_rfl
  obtain ⟨i0, h1, h2, h3, h4⟩ := info_parts hi
  exact ⟨Try.underlying27, ⟨i0, _, h1, h2, h3, h4, rfl⟩, by decide, by decide, fun a => rfl, fun a v hv => by simp [enS] at hv; rcases hv with rfl | rfl | rfl | rfl | rfl <;> rfl⟩

/- Truth of whatever. -/
structure DZ where
  f : Prop → Bool
  h : ∀ p, f p = true ↔ p
theorem dz_some : Nonempty (Inhabited DZ) := ⟨⟨⟨fun p => @decide p (Classical.propDecidable p), fun p => by simp⟩⟩⟩
variable [Inhabited DZ]
def bz (p : Prop) : Bool := (default : DZ).f p
theorem bz_true {p : Prop} (h : p) : bz p = true := ((default : DZ).h p).2 h
theorem bz_false {p : Prop} (h : ¬ p) : bz p = false := by
  cases e : bz p with
  | false => rfl
  | true => exact absurd (((default : DZ).h p).1 e) h
theorem bz_of {p : Prop} (h : bz p = true) : p := ((default : DZ).h p).1 h
theorem bz_not {p : Prop} (h : bz p = false) : ¬ p := fun q => by rw [bz_true q] at h; cases h
theorem bz_congr {p q : Prop} (h : p ↔ q) : bz p = bz q := by rw [propext h]
theorem bz_eq {p : Prop} {b : Bool} (h : b = true ↔ p) : bz p = b := by
  cases b with
  | true => exact bz_true (h.1 rfl)
  | false => exact bz_false fun hp => by have := h.2 hp; cases this

end Go.Proofs.Ytnfflmndejbepaa.Sh

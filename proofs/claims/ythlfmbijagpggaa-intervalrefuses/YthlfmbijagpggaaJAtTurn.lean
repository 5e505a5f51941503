/-
  2 texts of this proof, one behind the other: AtTurn, AtNums.
-/
import Derived.Test.YthlfmbijagpggaaJAtPlain
import Derived.Laws.MakeOwn
import Derived.Laws.OwnMore
/-
  Package atlas: turn, and what each kind of change but ChangeAdd does to a map's OSDs.
  Conditions: the map is one's own.
-/
namespace Go.Proofs.Ythlfmbijagpggaa.At
open Go.RowKit By Fl
set_option linter.unusedVariables false
set_option linter.unusedSimpArgs false
set_option maxRecDepth 100000

structure MapAt (w : World) (B p : Nat) (m : Mp) (R : Value) : Prop where
  blk : w.heap[p]? = some (.cells #[.int .i64 m.ep, .int .i64 m.pool.k, .int .i64 m.pool.m, .int .i64 m.pool.pgs, .int .i64 m.pool.dom, R] 32 (0, 0))
  own : Own w B 45 8 enO R m.osds
  small : m.osds.length ≤ 64

theorem MapAt.lt {w : World} {B p : Nat} {m : Mp} {R : Value} (h : MapAt w B p m R) : p < w.heap.size := (Array.getElem?_eq_some_iff.1 h.blk).1

theorem MapAt.apart {w : World} {B p : Nat} {m : Mp} {R : Value} (h : MapAt w B p m R) {g : Nat} (hg : R.ownBlock = some g) : g ≠ p := fun e => by
  subst e
  have := (h.own.tb hg).2.same ⟨_, _, h.blk⟩
  cases this

theorem MapAt.turns {G : Nat → Prop} {w w' : World} {B p : Nat} {m : Mp} {R : Value} (h : MapAt w B p m R) (t : Turns G w w') (h1 : ¬ G p) (h2 : ∀ g, R.ownBlock = some g → ¬ G g) : MapAt w' B p m R :=
  ⟨(t.block p h.lt h1).trans h.blk, h.own.turns t h2, h.small⟩

theorem MapAt.below {w w' : World} {B p : Nat} {m : Mp} {R : Value} (h : MapAt w B p m R) (t : Below w.heap.size w w') : MapAt w' B p m R :=
  h.turns (Turns.of_below (F := fun _ => False) t) (fun h => h) (fun _ _ h => h)

theorem bel_drewN (w : World) (n : Nat) : Below w.heap.size w (w.drewN n) := ⟨rfl, rfl, rfl, Nat.le_refl _, fun _ _ => rfl⟩

theorem flat_set8 : ∀ (L : List Osd) (i : Nat) (a : Osd), flat enO (L.set i a) = ((((((((flat enO L).set (i * 8) (.int .i64 a.id)).set (i * 8 + 1) (.bool a.up)).set (i * 8 + 2) (.bool a.inn)).set (i * 8 + 3) (.int .i64 a.wt)).set (i * 8 + 4) (.int .i64 a.life)).set (i * 8 + 5) (.int .i64 a.boot)).set (i * 8 + 6) (.int .i64 a.host)).set (i * 8 + 7) (.int .i64 a.rack)
  | [], i, a => by simp [flat]
  | b :: L, 0, a => by simp [flat_cons, enO]
  | b :: L, i + 1, a => by
    rw [List.set_cons_succ, flat_cons, flat_cons, flat_set8 L i a, show (i + 1) * 8 = i * 8 + 1 + 1 + 1 + 1 + 1 + 1 + 1 + 1 by omega]
    simp [List.set_cons_succ, enO]

def put8 (w : World) (g o : Nat) (a : Osd) : World :=
  (((((((w.setCell ⟨g, o, none⟩ (.int .i64 a.id)).setCell ⟨g, o + 1, none⟩ (.bool a.up)).setCell ⟨g, o + 2, none⟩ (.bool a.inn)).setCell ⟨g, o + 3, none⟩ (.int .i64 a.wt)).setCell ⟨g, o + 4, none⟩ (.int .i64 a.life)).setCell ⟨g, o + 5, none⟩ (.int .i64 a.boot)).setCell ⟨g, o + 6, none⟩ (.int .i64 a.host)).setCell ⟨g, o + 7, none⟩ (.int .i64 a.rack)

theorem Own.set8 {w : World} {B g n c : Nat} {L : List Osd} (h : Own w B 45 8 enO (.slice (some ⟨g, 0, none⟩) n c) L) (i : Nat) (a : Osd) : Own (put8 w g (i * 8) a) B 45 8 enO (.slice (some ⟨g, 0, none⟩) n c) (L.set i a) := by
  have hL := h.heap.1
  unfold Own at h ⊢
  rw [List.length_set, flat_set8]
  rw [hL] at h ⊢
  exact own_setCell (own_setCell (own_setCell (own_setCell (own_setCell (own_setCell (own_setCell (own_setCell h _ _) _ _) _ _) _ _) _ _) _ _) _ _) _ _

theorem turns_put8 {w : World} {g o : Nat} {a : Osd} : Turns (fun k => k = g) w (put8 w g o a) :=
  turns_put (turns_put (turns_put (turns_put (turns_put (turns_put (turns_put (turns_put (Turns.refl _ _) _ _) _ _) _ _) _ _) _ _) _ _) _ _) _ _

theorem turnP_none {L : List Osd} {id : Int} (f : Osd → Osd) (h : L.findIdx? (isId id) = none) : turnP L id f = (4, L) := by unfold turnP; rw [h]
theorem turnP_same {L : List Osd} {id : Int} {f : Osd → Osd} {k : Nat} {x : Osd} (h : L.findIdx? (isId id) = some k) (hx : L[k]? = some x) (he : eqO (f x) x = true) : turnP L id f = (6, L) := by unfold turnP; simp [h, hx, he]
theorem turnP_yes {L : List Osd} {id : Int} {f : Osd → Osd} {k : Nat} {x : Osd} (h : L.findIdx? (isId id) = some k) (hx : L[k]? = some x) (he : eqO (f x) x = false) : turnP L id f = (0, L.set k (f x)) := by unfold turnP; simp [h, hx, he]

theorem turnP_len (L : List Osd) (id : Int) (f : Osd → Osd) : (turnP L id f).2.length = L.length := by
  unfold turnP
  split
  · rfl
  · split
    · rfl
    · split
      · rfl
      · simp

def Turned (w w' : World) (B p : Nat) (m : Mp) (R : Value) (L : List Osd) : Prop := ∃ R', MapAt w' B p ⟨m.ep, m.pool, L⟩ R' ∧ Turns (fun k => k = p ∨ R.ownBlock = some k) w w' ∧ ∀ g, R'.ownBlock = some g → R.ownBlock = some g ∨ w.heap.size ≤ g

theorem Turned.not {w w' : World} {B p : Nat} {m : Mp} {R : Value} (h : MapAt w B p m R) (b : Below w.heap.size w w') : Turned w w' B p m R m.osds := ⟨R, h.below b, Turns.of_below b, fun g hg => .inl hg⟩

end Go.Proofs.Ythlfmbijagpggaa.At

/-
  Lists of numbers that are made at once and written one by one; lists of changes that are read.
  Conditions: none.
-/
namespace Go.Proofs.Ythlfmbijagpggaa.At
open Go.RowKit By Fl
set_option linter.unusedVariables false
set_option linter.unusedSimpArgs false
set_option maxRecDepth 100000

def Ns (w : World) (g : Nat) (t : TypeId) (T : List Int) : Prop := w.heap[g]? = some (.cells (T.map fun v => Value.int .i64 v).toArray t (0, 0))

section
variable {w w' : World} {g : Nat} {t : TypeId} {T : List Int}

theorem Ns.lt (h : Ns w g t T) : g < w.heap.size := (Array.getElem?_eq_some_iff.1 h).1
theorem Ns.cell (h : Ns w g t T) {i : Nat} {v : Int} (hv : T[i]? = some v) : w.cell? ⟨g, i, none⟩ = some (.int .i64 v) := cell_heap h (by simp [hv])
theorem Ns.fr (h : Ns w g t T) (i : Nat) : w.frozen? ⟨g, i, none⟩ = false := fr_heap h i
theorem Ns.turns {G : Nat → Prop} (h : Ns w g t T) (k : Turns G w w') (hg : ¬ G g) : Ns w' g t T := (k.block g h.lt hg).trans h
theorem Ns.below (h : Ns w g t T) (k : Below w.heap.size w w') : Ns w' g t T := (k.block g h.lt).trans h
theorem Ns.set (h : Ns w g t T) (i : Nat) (v : Int) : Ns (w.setCell ⟨g, i, none⟩ (.int .i64 v)) g t (T.set i v) := by
  unfold Ns
  rw [heap_set h]
  simp
theorem Ns.new (w : World) (t : TypeId) (T : List Int) : Ns (w.alloc (.cells (T.map fun v => Value.int .i64 v).toArray t)) w.heap.size t T := heap_alloc_new _ _
end

theorem run_make_ns (w : World) (T e : TypeId) (hu : Try.prog.underlying T = some (.slice e)) (hi : (Try.prog.info? e).map (fun i => (i.zero, i.size, i.bytes)) = some (some (.int .i64 0), 1, 8)) (n : Nat) (hn : n ≤ 1000) :
    (Instr.makeSlice T (.int .i64 (n : Int)) (.int .i64 (n : Int))).run Try.prog w = .ok (.slice (some ⟨w.heap.size, 0, none⟩) n n) (w.alloc (.cells ((List.replicate n (0 : Int)).map fun v => Value.int .i64 v).toArray e)) := by
  obtain ⟨i0, h1, h2, h3, h4⟩ := info_parts hi
  have := run_make (P := Try.prog) w T e i0 _ hu h1 h2 .i64 .i64 (n : Int) (n : Int) (by omega) (by omega) (by rw [h4]; omega) (by omega)
  rw [this, h3]
  have e1 : madeCells (Value.int IntKind.i64 0).cells (((n : Int).toNat) * 1) = ((List.replicate n (0 : Int)).map fun v => Value.int .i64 v).toArray := by
    apply Array.toList_inj.1
    show (madeCells #[Value.int IntKind.i64 0] (n * 1)).toList = _
    rw [toList_madeCells_one]
    simp
  rw [e1]
  simp

/- A list of changes that is read. -/
structure Cs (w : World) (x : Option Addr) (n c : Nat) (L : List Ch) : Prop where
  len : L.length = n
  le : n ≤ c
  small : n ≤ 140737488351232
  nil : x = none → n = 0 ∧ c = 0
  row : n = 0 ∨ ∃ b o, x = some ⟨b, o, none⟩ ∧ b < w.heap.size ∧ ∀ (k : Nat) (a : Ch), L[k]? = some a → ∀ (j : Nat) (v : Value), (enC a)[j]? = some v → w.cell? ⟨b, o + k * 9 + j, none⟩ = some v

theorem Cs.below {w w' : World} {x : Option Addr} {n c : Nat} {L : List Ch} (h : Cs w x n c L) (hb : Below w.heap.size w w') : Cs w' x n c L := by
  refine ⟨h.len, h.le, h.small, h.nil, ?_⟩
  rcases h.row with h0 | ⟨b, o, h1, h2, h3⟩
  · exact .inl h0
  · exact .inr ⟨b, o, h1, Nat.lt_of_lt_of_le h2 hb.size, fun k a hk j v hv => keep hb (h3 k a hk j v hv)⟩

theorem Cs.at {w : World} {b o k : Nat} {L : List Ch} {a : Ch} (h : ∀ (k : Nat) (a : Ch), L[k]? = some a → ∀ (j : Nat) (v : Value), (enC a)[j]? = some v → w.cell? ⟨b, o + k * 9 + j, none⟩ = some v) (hk : L[k]? = some a) :
    w.cell? ⟨b, o + k * 9, none⟩ = some (.int .i64 a.kind) ∧ w.cell? ⟨b, o + k * 9 + 1, none⟩ = some (.int .i64 a.osd.id) ∧ w.cell? ⟨b, o + k * 9 + 2, none⟩ = some (.bool a.osd.up) ∧ w.cell? ⟨b, o + k * 9 + 3, none⟩ = some (.bool a.osd.inn) ∧ w.cell? ⟨b, o + k * 9 + 4, none⟩ = some (.int .i64 a.osd.wt) ∧
    w.cell? ⟨b, o + k * 9 + 5, none⟩ = some (.int .i64 a.osd.life) ∧ w.cell? ⟨b, o + k * 9 + 6, none⟩ = some (.int .i64 a.osd.boot) ∧ w.cell? ⟨b, o + k * 9 + 7, none⟩ = some (.int .i64 a.osd.host) ∧ w.cell? ⟨b, o + k * 9 + 8, none⟩ = some (.int .i64 a.osd.rack) :=
  ⟨h k a hk 0 _ rfl, h k a hk 1 _ rfl, h k a hk 2 _ rfl, h k a hk 3 _ rfl, h k a hk 4 _ rfl, h k a hk 5 _ rfl, h k a hk 6 _ rfl, h k a hk 7 _ rfl, h k a hk 8 _ rfl⟩

theorem adv_ep {m : Mp} (c : Ch) (h0 : 0 ≤ m.ep) (h1 : m.ep ≤ 1048576) : 0 ≤ (advP m c).2.ep ∧ (advP m c).2.ep ≤ 1048576 := by
  unfold advP
  split
  · exact ⟨h0, h1⟩
  · rename_i h
    have : m.ep ≠ 1048576 := fun e => h (.inr e)
    split
    · exact ⟨by show 0 ≤ m.ep + 1; omega, by show m.ep + 1 ≤ 1048576; omega⟩
    · exact ⟨h0, h1⟩

theorem fold_ep : ∀ (l : List Ch) (m : Mp), 0 ≤ m.ep → m.ep ≤ 1048576 → 0 ≤ (foldP m l).2.ep ∧ (foldP m l).2.ep ≤ 1048576
  | [], m, h0, h1 => ⟨h0, h1⟩
  | c :: l, m, h0, h1 => by
    have := adv_ep c h0 h1
    exact fold_ep l _ this.1 this.2

theorem fold_take {l : List Ch} {k : Nat} {c : Ch} (m : Mp) (h : l[k]? = some c) : foldP m (l.take (k + 1)) = ((foldP m (l.take k)).1 ++ [(advP (foldP m (l.take k)).2 c).1], (advP (foldP m (l.take k)).2 c).2) := by
  rw [List.take_add_one, h]
  exact foldP_snoc _ _ _

end Go.Proofs.Ythlfmbijagpggaa.At

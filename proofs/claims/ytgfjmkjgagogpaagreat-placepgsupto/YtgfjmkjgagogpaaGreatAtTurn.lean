/-
  Package atlas: turn, and what each kind of change but ChangeAdd does to a map's OSDs.
  Conditions: the map is one's own.
-/
import Derived.Test.YtgfjmkjgagogpaaGreatAtBox
namespace Go.Proofs.YtgfjmkjgagogpaaGreat.At
open Go.RowKit By Fl
set_option linter.unusedVariables false
set_option linter.unusedSimpArgs false
set_option maxRecDepth 100000

structure MapAt (w : World) (B p : Nat) (m : Mp) (R : Value) : Prop where
  blk : w.heap[p]? = some (.cells #[.int .i64 m.ep, .int .i64 m.pool.k, .int .i64 m.pool.m, .int .i64 m.pool.pgs, .int .i64 m.pool.dom, R] 31 (0, 0))
  own : Own w B 44 8 enO R m.osds
  small : m.osds.length ≤ 64

theorem MapAt.lt {w : World} {B p : Nat} {m : Mp} {R : Value} (h : MapAt w B p m R) : p < w.heap.size := (Array.getElem?_eq_some_iff.1 h.blk).1

theorem MapAt.apart {w : World} {B p : Nat} {m : Mp} {R : Value} (h : MapAt w B p m R) {g : Nat} (hg : R.ownBlock = some g) : g ≠ p := fun e => by
  subst e
  have := (h.own.tb hg).2.same ⟨_, _, h.blk⟩
  cases this

theorem MapAt.turns {G : Nat → Prop} {w w' : World} {B p : Nat} {m : Mp} {R : Value} (h : MapAt w B p m R) (t : Turns G w w') (h1 : ¬ G p) (h2 : ∀ g, R.ownBlock = some g → ¬ G g) : MapAt w' B p m R :=
  ⟨(t.block p h.lt h1).trans h.blk, h.own.turns t h2, h.small⟩

theorem MapAt.below {w w' : World} {B p : Nat} {m : Mp} {R : Value} (h : MapAt w B p m R) (t : Below w.heap.size w w') : MapAt w' B p m R :=
  h.turns (Turns.of_below (F := fun _ => False) t) (fun h => h) (fun _ _ h => h)

theorem bel_drewN (w : World) (n : Nat) : Below w.heap.size w (w.drewN n) := ⟨rfl, rfl, rfl, Nat.le_refl _, fun _ _ => rfl⟩

theorem flat_set8 : ∀ (L : List Osd) (i : Nat) (a : Osd), flat enO (L.set i a) = ((((((((flat enO L).set (i * 8) (.int .i64 a.id)).set (i * 8 + 1) (.bool a.up)).set (i * 8 + 2) (.bool a.inn)).set (i * 8 + 3) (.int .i64 a.wt)).set (i * 8 + 4) (.int .i64 a.life)).set (i * 8 + 5) (.int .i64 a.boot)).set (i * 8 + 6) (.int .i64 a.host)).set (i * 8 + 7) (.int .i64 a.rack)
  | [], i, a => by simp [flat]
  | b :: L, 0, a => by simp [flat_cons, enO]
  | b :: L, i + 1, a => by
    rw [List.set_cons_succ, flat_cons, flat_cons, flat_set8 L i a, show (i + 1) * 8 = i * 8 + 1 + 1 + 1 + 1 + 1 + 1 + 1 + 1 by omega]
    simp [List.set_cons_succ, enO]

def put8 (w : World) (g o : Nat) (a : Osd) : World :=
  (((((((w.setCell ⟨g, o, none⟩ (.int .i64 a.id)).setCell ⟨g, o + 1, none⟩ (.bool a.up)).setCell ⟨g, o + 2, none⟩ (.bool a.inn)).setCell ⟨g, o + 3, none⟩ (.int .i64 a.wt)).setCell ⟨g, o + 4, none⟩ (.int .i64 a.life)).setCell ⟨g, o + 5, none⟩ (.int .i64 a.boot)).setCell ⟨g, o + 6, none⟩ (.int .i64 a.host)).setCell ⟨g, o + 7, none⟩ (.int .i64 a.rack)

theorem Own.set8 {w : World} {B g n c : Nat} {L : List Osd} (h : Own w B 44 8 enO (.slice (some ⟨g, 0, none⟩) n c) L) (i : Nat) (a : Osd) : Own (put8 w g (i * 8) a) B 44 8 enO (.slice (some ⟨g, 0, none⟩) n c) (L.set i a) := by
  have hL := h.heap.1
  unfold Own at h ⊢
  rw [List.length_set, flat_set8]
  rw [hL] at h ⊢
  exact own_setCell (own_setCell (own_setCell (own_setCell (own_setCell (own_setCell (own_setCell (own_setCell h _ _) _ _) _ _) _ _) _ _) _ _) _ _) _ _

theorem turns_put8 {w : World} {g o : Nat} {a : Osd} : Turns (fun k => k = g) w (put8 w g o a) :=
  turns_put (turns_put (turns_put (turns_put (turns_put (turns_put (turns_put (turns_put (Turns.refl _ _) _ _) _ _) _ _) _ _) _ _) _ _) _ _) _ _

theorem turnP_none {L : List Osd} {id : Int} (f : Osd → Osd) (h : L.findIdx? (isId id) = none) : turnP L id f = (4, L) := by unfold turnP; rw [h]
theorem turnP_same {L : List Osd} {id : Int} {f : Osd → Osd} {k : Nat} {x : Osd} (h : L.findIdx? (isId id) = some k) (hx : L[k]? = some x) (he : eqO (f x) x = true) : turnP L id f = (6, L) := by unfold turnP; simp [h, hx, he]
theorem turnP_yes {L : List Osd} {id : Int} {f : Osd → Osd} {k : Nat} {x : Osd} (h : L.findIdx? (isId id) = some k) (hx : L[k]? = some x) (he : eqO (f x) x = false) : turnP L id f = (0, L.set k (f x)) := by unfold turnP; simp [h, hx, he]

theorem turnP_len (L : List Osd) (id : Int) (f : Osd → Osd) : (turnP L id f).2.length = L.length := by
  unfold turnP
  split
  · rfl
  · split
    · rfl
    · split
      · rfl
      · simp

def Turned (w w' : World) (B p : Nat) (m : Mp) (R : Value) (L : List Osd) : Prop := ∃ R', MapAt w' B p ⟨m.ep, m.pool, L⟩ R' ∧ Turns (fun k => k = p ∨ R.ownBlock = some k) w w' ∧ ∀ g, R'.ownBlock = some g → R.ownBlock = some g ∨ w.heap.size ≤ g

theorem Turned.not {w w' : World} {B p : Nat} {m : Mp} {R : Value} (h : MapAt w B p m R) (b : Below w.heap.size w w') : Turned w w' B p m R m.osds := ⟨R, h.below b, Turns.of_below b, fun g hg => .inl hg⟩

end Go.Proofs.YtgfjmkjgagogpaaGreat.At

/-
  One OSD, and one map, that are written: where they lie; what setUp, setDown, setIn, setOut, setWeight do to one.
  Conditions: none.
-/
import Derived.Test.YtgfjmkjgagogpaaGreatAtQuiet
import Derived.Test.YtgfjmkjgagogpaaGreatAtFunc
namespace Go.Proofs.YtgfjmkjgagogpaaGreat.At
open Go.RowKit By Fl
set_option linter.unusedVariables false
set_option linter.unusedSimpArgs false
set_option maxRecDepth 100000

theorem heap_set {w : World} {a j : Nat} {cs : Array Value} {t : TypeId} (h : w.heap[a]? = some (.cells cs t (0, 0))) (v : Value) : (w.setCell ⟨a, j, none⟩ v).heap[a]? = some (.cells (cs.setIfInBounds j v) t (0, 0)) := by
  rw [setCell_eq_setRow w a j cs t (0, 0) v h]
  exact setRow_heap w a cs _ t (0, 0) h

theorem cell_heap {w : World} {a j : Nat} {cs : Array Value} {t : TypeId} (h : w.heap[a]? = some (.cells cs t (0, 0))) {v : Value} (hv : cs[j]? = some v) : w.cell? ⟨a, j, none⟩ = some v := by
  simp only [World.cell?, h]
  simpa using hv

theorem fr_heap {w : World} {a : Nat} {cs : Array Value} {t : TypeId} (h : w.heap[a]? = some (.cells cs t (0, 0))) (j : Nat) : w.frozen? ⟨a, j, none⟩ = false := by
  simp [World.frozen?, h]

def OBox (w : World) (a : Nat) (o : Osd) : Prop := w.heap[a]? = some (.cells #[.int .i64 o.id, .bool o.up, .bool o.inn, .int .i64 o.wt, .int .i64 o.life, .int .i64 o.boot, .int .i64 o.host, .int .i64 o.rack] 44 (0, 0))

theorem OBox.lt {w : World} {a : Nat} {o : Osd} (h : OBox w a o) : a < w.heap.size := (Array.getElem?_eq_some_iff.1 h).1

theorem OBox.at {w : World} {a : Nat} {o : Osd} (h : OBox w a o) : w.cell? ⟨a, 0, none⟩ = some (.int .i64 o.id) ∧ w.cell? ⟨a, 1, none⟩ = some (.bool o.up) ∧ w.cell? ⟨a, 2, none⟩ = some (.bool o.inn) ∧ w.cell? ⟨a, 3, none⟩ = some (.int .i64 o.wt) ∧
    w.cell? ⟨a, 4, none⟩ = some (.int .i64 o.life) ∧ w.cell? ⟨a, 5, none⟩ = some (.int .i64 o.boot) ∧ w.cell? ⟨a, 6, none⟩ = some (.int .i64 o.host) ∧ w.cell? ⟨a, 7, none⟩ = some (.int .i64 o.rack) :=
  ⟨cell_heap h rfl, cell_heap h rfl, cell_heap h rfl, cell_heap h rfl, cell_heap h rfl, cell_heap h rfl, cell_heap h rfl, cell_heap h rfl⟩

theorem OBox.turns {G : Nat → Prop} {w w' : World} {a : Nat} {o : Osd} (h : OBox w a o) (t : Turns G w w') (hg : ¬ G a) : OBox w' a o := (t.block a h.lt hg).trans h

theorem turns_put {w w' : World} {a : Nat} (t : Turns (fun k => k = a) w w') (j : Nat) (v : Value) : Turns (fun k => k = a) w (w'.setCell ⟨a, j, none⟩ v) := t.setCell (p := ⟨a, j, none⟩) (.inl rfl) v

/- What is done to one of them. -/
def Does (g : Nat) (lb : Array Value) (f : Osd → Osd) (w : World) : Prop :=
  ∀ (W : World) (a : Nat) (x : Osd), Below w.heap.size w W → w.heap.size ≤ a → OBox W a x → Calls Tryz.prog g (#[.pointer (some ⟨a, 0, none⟩)] ++ lb) W fun e w' => e = .returned (.tuple #[]) ∧ Hid (OBox w' a (f x) ∧ Turns (fun k => k = a) W w')

theorem Does.below {g : Nat} {lb : Array Value} {f : Osd → Osd} {w w' : World} (h : Does g lb f w) (hb : Below w.heap.size w w') : Does g lb f w' := fun W a x hW ha hx => h W a x (on hb hW) (Nat.le_trans hb.size ha) hx

end Go.Proofs.YtgfjmkjgagogpaaGreat.At

/-
  Which numbers were met: a map from numbers to bools as it lies in memory.
  Conditions: numbers of 64 bits.
-/
import Derived.Test.YtgcjecmgjncclaaPeMem
import Derived.Maps.OwnSet
import Derived.Maps.Ext
namespace Go.Proofs.Ytgcjecmgjncclaa.Pe
open Go.RowKit By Fl Pz
set_option linter.unusedVariables false
set_option linter.unusedSimpArgs false
set_option maxRecDepth 100000

def wfI (z : Int) : Prop := -9223372036854775808 ≤ z ∧ z ≤ 9223372036854775807
theorem wf_int {k : Int} (h : wfI k) : (Lit.int .i64 k).wf = true := by
  have e1 : IntKind.i64.min = -9223372036854775808 := by decide
  have e2 : IntKind.i64.max = 9223372036854775807 := by decide
  have h1 := h.1
  have h2 := h.2
  unfold Lit.wf
  simp [e1, e2]
  omega
def hvb (v : Value) : Option (DataW Value × List MemPlace) := some (.held v, [])
theorem hvb_inv {v : Value} {z : DataW Value × List MemPlace} (h : hvb v = some z) : z = (.held v, []) := by
  injection h with h
  exact h.symm
theorem ilaw : Maps.Keyed Try.prog 3 := Maps.int_keyed Try.underlying3
def ilit (k : Int) : Lit := .int .i64 k
theorem ikey {k : Int} (h : wfI k) : keyOf Try.prog 3 (.int .i64 k) = some (ilit k) := by
  have hw := wf_int h
  unfold keyOf mapKey ilit
  rw [Try.underlying3]
  simp [hw]
theorem ilit_inj {a b : Int} (h : ilit a = ilit b) : a = b := by
  unfold ilit at h
  injection h with _ h
theorem ilit_key {k : Int} (h : wfI k) : WideAt.IsKeyLit (ilit k) := ilaw.key (ikey h)
theorem bzero (w : World) : (zeroValue 4).run Try.prog w = .ok (.bool false) w := by kernel_rfl

structure BmAt (w : World) (mb nb : Nat) (D : DataW Value) (M : List Int) : Prop where
  own : w.ownsMap Try.prog 3 hvb mb nb D
  val : ∀ k, wfI k → (Maps.has D (ilit k) = false ∧ M.contains k = false) ∨ ((∀ z, D.atKey (ilit k) z = .held (.bool true)) ∧ M.contains k = true)

section
variable {w w' : World} {mb nb : Nat} {D : DataW Value} {M : List Int}
theorem BmAt.lt (h : BmAt w mb nb D M) : mb < w.heap.size := h.own.lt
theorem BmAt.turns {G : Nat → Prop} (h : BmAt w mb nb D M) (t : Turns G w w') (hm : ¬ G mb) : BmAt w' mb nb D M := by
  obtain ⟨es, clock, hb, r⟩ := h.own
  exact ⟨⟨es, clock, (t.block mb h.own.lt hm).trans hb, r⟩, h.val⟩
theorem BmAt.below (h : BmAt w mb nb D M) (b : Below w.heap.size w w') : BmAt w' mb nb D M := h.turns (Turns.of_below (F := fun _ => False) b) (fun h => h)
theorem BmAt.new (w : World) : BmAt (w.alloc (.map #[] 0)) w.heap.size 0 (.map []) [] :=
  ⟨World.ownsMap_made w _ _ _, fun _ _ => .inl ⟨rfl, rfl⟩⟩
theorem BmAt.look (h : BmAt w mb nb D M) {k : Int} (hk : wfI k) : (Instr.lookup 46 (.map (some mb)) (.int .i64 k) false).run Try.prog w = .ok (.bool (M.contains k)) w := by
  obtain ⟨v, ps, h1, h2⟩ := h.own.lookup (t := 46) (e := 4) ilaw Try.underlying46 (bzero w) rfl (ikey hk)
  have h3 := congrArg Prod.fst (hvb_inv h2)
  dsimp only at h3
  rcases h.val k hk with ⟨q1, q2⟩ | ⟨q1, q2⟩
  · rw [Maps.atKey_of_not_has q1] at h3
    injection h3 with h3
    rw [h1, ← h3, q2]
  · rw [q1] at h3
    injection h3 with h3
    rw [h1, ← h3, q2]
theorem grown_at {w1 : World} {g : Nat} (h3 : w.grownBy w1 (some g)) : Turns (fun k => k = g) w w1 := ⟨h3.os, h3.tape, h3.output, h3.size, fun i hi hr => h3.block i hi (fun e => hr (by injection e))⟩
theorem BmAt.put (h : BmAt w mb nb D M) {k : Int} (hk : wfI k) (hn : nb < 4000000000000000000) :
    ∃ w1 D', (Instr.mapUpdate 46 (.map (some mb)) (.int .i64 k) (.bool true)).run Try.prog w = .ok () w1 ∧ Hid (BmAt w1 mb (nb + 1) D' (k :: M) ∧ Turns (fun q => q = mb) w w1) := by
  obtain ⟨w1, h1, h2, h3⟩ := h.own.update (t := 46) (e := 4) ilaw Try.underlying46 (by unfold maxLen; omega) (ikey hk) (val := .bool true) (d := .held (.bool true)) (ps := []) rfl
  have t := grown_at h3
  refine ⟨w1, _, h1, ⟨h2, fun i hi => ?_⟩, t⟩
  by_cases e : i = k
  · subst e
    exact .inr ⟨fun z => Maps.atKey_put_same h.own.isMap (ilit_key hi) _ z, by simp⟩
  · have e2 : (k :: M).contains i = M.contains i := by
      rw [List.contains_cons]
      simp [e]
    rw [e2]
    rcases h.val i hi with ⟨q1, q2⟩ | ⟨q1, q2⟩
    · exact .inl ⟨by rw [Maps.has_put_other (fun h => e (ilit_inj h))]; exact q1, q2⟩
    · exact .inr ⟨fun z => by rw [Maps.atKey_put_other (fun h => e (ilit_inj h))]; exact q1 z, q2⟩
end
end Go.Proofs.Ytgcjecmgjncclaa.Pe

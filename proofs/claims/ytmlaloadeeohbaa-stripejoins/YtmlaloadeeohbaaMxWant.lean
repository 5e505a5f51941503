/-
  A list of integers copied, and rows of a matrix listed by append: what they are in memory.
  Conditions: none.
-/
import Derived.Test.YtmlaloadeeohbaaMxIdRank
import Derived.Test.YtmlaloadeeohbaaMxRefRank
import Derived.Test.YtmlaloadeeohbaaMxGrid
import Derived.Laws.AppendOwnNone
namespace Go.Proofs.Ytmlaloadeeohbaa
open Go.RowKit Gf Go.ChangeShapes Go.WideShapes
set_option linter.unusedVariables false

theorem info_int : (Try.prog.info? 3).map (fun i => (i.zero, i.size, i.bytes)) = some (some (.int .i64 0), 1, 8) := by kernel_rfl

section
variable {H : Type} {enc : TypeId × Value → H} {W : World} {base : Nat} {held : Bool} {a : Option Addr} {len cap : Nat} {d : DataW H} {p : List MemPlace}

theorem ints_of (h : DataW.Trod enc Try.prog W base (fun _ => true) held 54 (.slice a len cap) d p) (hs : ∀ es sp, d = .slice es sp → (es.length + sp.length) * 8 ≤ reachBytes) :
    ∃ lv : Nat → Int, IntsAt W a len lv ∧ len ≤ 17592186043904 ∧ (a = none → len = 0 ∧ cap = 0) := by
  obtain ⟨fuel, hf⟩ := h
  rcases open_ints Try.underlying54 Try.underlying3 (by kernel_rfl) hf with ⟨hcs, _⟩ | ⟨x, l, c, zs, hcs, _, hl, hm, hz, hx, hcell, hwz⟩
  · simp [Value.cells] at hcs
    obtain ⟨rfl, rfl, rfl⟩ := hcs
    exact ⟨fun _ => 0, .inl rfl, by omega, fun _ => ⟨rfl, rfl⟩⟩
  · simp [Value.cells] at hcs
    obtain ⟨rfl, rfl, rfl⟩ := hcs
    simp only [if_true] at hz
    simp only [Prod.mk.injEq] at hx
    have hr := hs _ _ hx.1
    simp only [lits, List.length_map, List.length_take, List.length_drop, reachBytes] at hr
    refine ⟨fun i => zs.getD i 0, ?_, by omega, fun h => by cases h⟩
    by_cases h0 : len = 0
    · exact .inl h0
    · obtain ⟨b, off, spot⟩ := x
      have hspot : spot = none := by simpa [Addr.add] using World.cell?_spot (hcell 0 (by omega))
      subst hspot
      refine .inr ⟨b, off, rfl, cell_lt' (hcell 0 (by omega)), fun i hi => ?_⟩
      have := hcell i (by omega)
      rwa [add_at] at this

end

def intsOf (lv : Nat → Int) (n : Nat) : List Value := (List.range n).map fun i => Value.int .i64 (lv i)

theorem empty_ints (w : World) : (w.alloc (.cells #[] 3)).ownsRow w.heap.size 3 1 (.slice (some ⟨w.heap.size, 0, none⟩) 0 0) 0 [] :=
  ⟨rfl, .inr ⟨w.heap.size, 0, #[], rfl, Nat.le_refl _, heap_alloc_new _ _, Nat.le_refl _, Nat.zero_le _, rfl, rfl⟩⟩

theorem ints_copy (w : World) (x : Option Addr) (p c : Nat) (lv : Nat → Int) (hl : IntsAt w x p lv) (hp : p ≤ 17592186043904) (hnil : x = none → p = 0 ∧ c = 0) :
    ∃ y cy w', (Builtin.append_ #[54, 54] 54 #[.slice (some ⟨w.heap.size, 0, none⟩) 0 0, .slice x p c]).run Try.prog (w.alloc (.cells #[] 3)) = .ok (.slice y p cy) w' ∧ Below w.heap.size w w' ∧ IntsAt w' y p lv := by
  obtain ⟨i0, hi, hz0, hz1, hz2⟩ := info_parts info_int
  have hown := empty_ints w
  cases x with
  | none =>
    obtain ⟨rfl, rfl⟩ := hnil rfl
    have hr := run_append_owned_none (P := Try.prog) (w.alloc (.cells #[] 3)) w.heap.size 54 54 3 i0 1 Try.underlying54 hi _ 0 [] hown
    exact ⟨_, 0, _, hr, (Below.refl _ _).alloc (Nat.le_refl _) _, .inl rfl⟩
  | some ad =>
    obtain ⟨v', w', hr, h2, h3, h4⟩ := run_append_own (P := Try.prog) (w.alloc (.cells #[] 3)) w.heap.size 54 54 3 i0 (.int .i64 0) 1 8 Try.underlying54 hi hz0 hz1 hz2 rfl (by decide) _ 0 [] hown
      ad p c (intsOf lv p) (by simp [intsOf]) (fun j u hj => by
        have hjm : j < p := by
          have := (List.getElem?_eq_some_iff.1 hj).1
          simpa [intsOf] using this
        have e : u = .int .i64 (lv j) := by simp [intsOf, hjm] at hj; exact hj.symm
        rcases hl with hl | ⟨b, o, hx, hb, hc⟩
        · omega
        · injection hx with hx
          subst hx
          rw [e, add_at]
          exact ((Below.refl w.heap.size w).alloc (Nat.le_refl _) _ |>.cell (by exact hb)).trans (hc j hjm)) (fun u hu => by
        simp [intsOf] at hu
        obtain ⟨j, _, rfl⟩ := hu
        rfl) (by unfold maxLen; omega) (by omega) (by simp)
    have hb : Below w.heap.size w w' := ((Below.refl w.heap.size w).alloc (Nat.le_refl _) _).grown h3 (by simp) (fun k hk => (hown.lt k hk).1)
    rw [List.nil_append, Nat.zero_add] at h2
    have hnn : ¬ v' = .slice none 0 0 := fun h => by have := (h4.1 h).1; cases this
    have h2' := h2
    rcases h2.2 with ⟨h', _⟩ | ⟨g, cap, cur, h', _, hg, _⟩
    · exact absurd h' hnn
    · subst h'
      refine ⟨_, cap, w', hr, hb, ?_⟩
      by_cases h0 : p = 0
      · exact .inl h0
      · refine .inr ⟨g, 0, rfl, (Array.getElem?_eq_some_iff.1 hg).1, fun i hi => ?_⟩
        rw [Nat.zero_add, h2'.cellAt i (by omega)]
        simp [intsOf, hi]

/- Rows of a matrix, listed. -/
def wantOf (G O C : Nat → Nat) (m : Nat) (g : Nat → Nat) (n : Nat) : List Value := (List.range n).map fun r => Value.slice (some ⟨G (g r), O (g r), none⟩) m (C (g r))

theorem push_top (w : World) (base : Nat) (V : Value) (n m : Nat) (G O C : Nat → Nat) (g : Nat → Nat) (hown : w.ownsRow base 22 1 V n (wantOf G O C m g n)) (hn : n ≤ 1000) (hb : base ≤ w.heap.size) :
    ∃ V' w', (Builtin.append_ #[28, 28] 28 #[V, .slice (some ⟨w.heap.size, 0, none⟩) 1 1]).run Try.prog (w.alloc (.cells #[.slice (some ⟨G (g n), O (g n), none⟩) m (C (g n))] 22)) = .ok V' w' ∧
      w'.ownsRow base 22 1 V' (n + 1) (wantOf G O C m g (n + 1)) ∧ Below base w w' := by
  obtain ⟨i0, hi, hz0, hz1, hz2⟩ := info_parts info_row
  obtain ⟨v', w', hr, h2, h3, h4⟩ := run_append_own (P := Try.prog) (w.alloc (.cells #[.slice (some ⟨G (g n), O (g n), none⟩) m (C (g n))] 22)) base 28 28 22 i0 (.slice none 0 0) 1 24 Try.underlying28 hi hz0 hz1 hz2 rfl (by decide) V n (wantOf G O C m g n) (hown.alloc _)
    ⟨w.heap.size, 0, none⟩ 1 1 [.slice (some ⟨G (g n), O (g n), none⟩) m (C (g n))] rfl (one_at w _ _) (by simp [Value.oneCell']) (by unfold maxLen; omega) (by omega) (by simp; omega)
  refine ⟨v', w', hr, ?_, ((Below.refl base w).alloc hb _).grown h3 (by simp; omega) (fun k hk => (hown.lt k hk).1)⟩
  rw [show wantOf G O C m g (n + 1) = wantOf G O C m g n ++ [.slice (some ⟨G (g n), O (g n), none⟩) m (C (g n))] by simp [wantOf, List.range_succ]]
  exact h2

structure Want (w wr : World) (V : Value) (k m : Nat) (G O C : Nat → Nat) (g : Nat → Nat) : Prop where
  below : Below w.heap.size w wr
  own : wr.ownsRow w.heap.size 22 1 V k (wantOf G O C m g k)

theorem want_start {w x : World} (hb : Below w.heap.size w x) (m : Nat) (G O C : Nat → Nat) (g : Nat → Nat) : Want w (x.alloc (.cells #[] 22)) (.slice (some ⟨x.heap.size, 0, none⟩) 0 0) 0 m G O C g :=
  ⟨hb.alloc hb.size _, rfl, .inr ⟨x.heap.size, 0, #[], rfl, hb.size, heap_alloc_new _ _, Nat.le_refl _, Nat.zero_le _, rfl, rfl⟩⟩

theorem want_mat {w wr : World} {V : Value} {n m b o p : Nat} {G O C : Nat → Nat} {f : Nat → Nat → Nat} {g : Nat → Nat} (h : Want w wr V p m G O C g) (hM : Mat w b o n m G O C f) (hp : 0 < p) (hg : ∀ i, i < p → g i < n) :
    ∃ B c, V = .slice (some ⟨B, 0, none⟩) p c ∧ Mat wr B 0 p m (fun r => G (g r)) (fun r => O (g r)) (fun r => C (g r)) (fun r => f (g r)) := by
  have ho := h.own
  obtain ⟨B, c, rfl, h1, h2, h3, _⟩ := own_slice ho hp
  have hM' := hM.below (Nat.le_refl _) h.below
  refine ⟨B, c, rfl, h2, fun r hr => hM'.hG _ (hg r hr), fun r hr => ?_, fun r hr j hj => hM'.cell _ (hg r hr) j hj, fun r j => hM.lt _ _⟩
  rw [Nat.zero_add, ho.cellAt r (by omega)]
  simp [wantOf, hr]

end Go.Proofs.Ytmlaloadeeohbaa

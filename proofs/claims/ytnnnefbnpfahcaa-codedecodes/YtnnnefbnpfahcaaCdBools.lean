/-
  Lists of bools, and of lists of bytes, copied by append: what they are in memory.
  Conditions: none.
-/
import Derived.Test.YtnnnefbnpfahcaaCdLaw
namespace Go.Proofs.Ytnnnefbnpfahcaa
open Go.RowKit Gf
set_option linter.unusedVariables false
set_option linter.unusedSimpArgs false

def boolsOf (h : Nat → Bool) (n : Nat) : List Value := (List.range n).map fun i => Value.bool (h i)

theorem boolsOf_congr {h h' : Nat → Bool} {n : Nat} (e : ∀ i, i < n → h i = h' i) : boolsOf h n = boolsOf h' n := List.map_congr_left (fun i hi => by rw [e i (List.mem_range.1 hi)])

theorem info_b : (Try.prog.info? 4).map (fun i => (i.zero, i.size, i.bytes)) = some (some (.bool false), 1, 1) := by kernel_rfl

theorem empty_cells (w : World) (e : TypeId) : (w.alloc (.cells #[] e)).ownsRow w.heap.size e 1 (.slice (some ⟨w.heap.size, 0, none⟩) 0 0) 0 [] :=
  ⟨rfl, .inr ⟨w.heap.size, 0, #[], rfl, Nat.le_refl _, heap_alloc_new _ _, Nat.le_refl _, Nat.zero_le _, rfl, rfl⟩⟩

theorem bools_copy (w : World) (x : Option Addr) (p c : Nat) (h : Nat → Bool) (hl : BoolsAt w x p h) (hp : p ≤ 140737488351232) (hnil : x = none → p = 0 ∧ c = 0) :
    ∃ y cy w', (Builtin.append_ #[31, 31] 31 #[.slice (some ⟨w.heap.size, 0, none⟩) 0 0, .slice x p c]).run Try.prog (w.alloc (.cells #[] 4)) = .ok (.slice y p cy) w' ∧ Below w.heap.size w w' ∧ w'.ownsRow w.heap.size 4 1 (.slice y p cy) p (boolsOf h p) := by
  obtain ⟨i0, hi, hz0, hz1, hz2⟩ := info_parts info_b
  have hown := empty_cells w 4
  cases x with
  | none =>
    obtain ⟨rfl, rfl⟩ := hnil rfl
    have hr := run_append_owned_none (P := Try.prog) (w.alloc (.cells #[] 4)) w.heap.size 31 31 4 i0 1 Try.underlying31 hi _ 0 [] hown
    exact ⟨_, 0, _, hr, (Below.refl _ _).alloc (Nat.le_refl _) _, hown⟩
  | some ad =>
    obtain ⟨v', w', hr, h2, h3, h4⟩ := run_append_own (P := Try.prog) (w.alloc (.cells #[] 4)) w.heap.size 31 31 4 i0 (.bool false) 1 1 Try.underlying31 hi hz0 hz1 hz2 rfl (by decide) _ 0 [] hown
      ad p c (boolsOf h p) (by simp [boolsOf]) (fun j u hj => by
        have hjm : j < p := by
          have := (List.getElem?_eq_some_iff.1 hj).1
          simpa [boolsOf] using this
        have e : u = .bool (h j) := by simp [boolsOf, hjm] at hj; exact hj.symm
        rcases hl with hl | ⟨b, o, hx, hb, hc⟩
        · omega
        · injection hx with hx
          subst hx
          rw [e, add_at]
          exact ((Below.refl w.heap.size w).alloc (Nat.le_refl _) _ |>.cell (by exact hb)).trans (hc j hjm)) (fun u hu => by
        simp [boolsOf] at hu
        obtain ⟨j, _, rfl⟩ := hu
        rfl) (by unfold maxLen; omega) (by omega) (by simp)
    rw [Nat.zero_add, List.nil_append] at h2
    have hb : Below w.heap.size w w' := ((Below.refl w.heap.size w).alloc (Nat.le_refl _) _).grown h3 (by simp) (fun k hk => (hown.lt k hk).1)
    rcases h2.2 with ⟨hv, h0⟩ | ⟨g, cy, cur, hv, _⟩
    · subst hv
      subst h0
      exact ⟨none, 0, w', hr, hb, h2⟩
    · subst hv
      exact ⟨_, cy, w', hr, hb, h2⟩

theorem push_bool (w : World) (base : Nat) (V : Value) (q : Nat) (h : Nat → Bool) (hown : w.ownsRow base 4 1 V q (boolsOf h q)) (hq : q ≤ 1000) (hb : base ≤ w.heap.size) (ht : h q = true) :
    ∃ y cy w', (Builtin.append_ #[31, 31] 31 #[V, .slice (some ⟨w.heap.size, 0, none⟩) 1 1]).run Try.prog (w.alloc (.cells #[.bool true] 4)) = .ok (.slice y (q + 1) cy) w' ∧
      w'.ownsRow base 4 1 (.slice y (q + 1) cy) (q + 1) (boolsOf h (q + 1)) ∧ Below base w w' := by
  obtain ⟨i0, hi, hz0, hz1, hz2⟩ := info_parts info_b
  obtain ⟨v', w', hr, h2, h3, h4⟩ := run_append_own (P := Try.prog) (w.alloc (.cells #[.bool true] 4)) base 31 31 4 i0 (.bool false) 1 1 Try.underlying31 hi hz0 hz1 hz2 rfl (by decide) V q _ (hown.alloc _)
    ⟨w.heap.size, 0, none⟩ 1 1 [.bool true] rfl (one_at w _ _) (by simp [Value.oneCell']) (by unfold maxLen; omega) (by omega) (by simp; omega)
  have hb' : Below base w w' := ((Below.refl base w).alloc hb _).grown h3 (by simp; omega) (fun k hk => (hown.lt k hk).1)
  rw [show boolsOf h q ++ [.bool true] = boolsOf h (q + 1) by simp [boolsOf, List.range_succ, ht]] at h2
  rcases h2.2 with ⟨_, h0⟩ | ⟨g, cy, cur, hv, _⟩
  · omega
  · subst hv
    exact ⟨_, cy, w', hr, h2, hb'⟩

theorem bools_own {w : World} {base g q c : Nat} {h : Nat → Bool} (ho : w.ownsRow base 4 1 (.slice (some ⟨g, 0, none⟩) q c) q (boolsOf h q)) (hg : g < w.heap.size) : BoolsAt w (some ⟨g, 0, none⟩) q h :=
  .inr ⟨g, 0, rfl, hg, fun i hi => by
    rw [Nat.zero_add, ho.cellAt i (by omega)]
    simp [boolsOf, hi]⟩

theorem BoolsAt.take {w : World} {x : Option Addr} {p q : Nat} {h : Nat → Bool} (b : BoolsAt w x p h) (hq : q ≤ p) : BoolsAt w x q h := by
  rcases b with b | ⟨g, o, h1, h2, h3⟩
  · exact .inl (by omega)
  · exact .inr ⟨g, o, h1, h2, fun i hi => h3 i (by omega)⟩

theorem elem_bools : Try.prog.underlying 31 = some (.slice (Try.prog.elem 31)) := by kernel_rfl
theorem elem_bools_is : Try.prog.elem 31 = 4 := by kernel_rfl
theorem size_bool (w : World) : (sizeOf 4).run Try.prog w = .ok 1 w := by kernel_rfl

theorem cut_bools (g o m c d : Nat) (w : World) (h : d ≤ c) :
    (Instr.slice 31 (.slice (some ⟨g, o, none⟩) m c) none (some (.int .i64 (d : Int))) none).run Try.prog w = .ok (.slice (some ⟨g, o, none⟩) d c) w := by
  rw [run_slice_h w 31 _ _ _ elem_bools .i64 (d : Int) (by omega) (by omega), elem_bools_is, size_bool]
  simp only [Result.andThen, sliced, Int.toNat_natCast, Nat.mul_one, Option.map, Nat.sub_zero]
  have hadd : (⟨g, o, none⟩ : Addr).add 0 = ⟨g, o, none⟩ := by unfold Addr.add; split <;> simp_all
  split
  · rfl
  · rw [hadd]

def lenV : Value → Nat
  | .slice _ n _ => n
  | _ => 0

/- A list of lists that was copied, and may be written. -/
structure Tab (x w : World) (g n : Nat) (A : Nat → Option Addr) (L C : Nat → Nat) (f : Nat → Nat → Nat) : Prop where
  below : Below x.heap.size x w
  hg : x.heap.size ≤ g ∧ g < w.heap.size
  fb : ∀ j, w.frozen? ⟨g, j, none⟩ = false
  top : ∀ r, r < n → w.cell? ⟨g, r, none⟩ = some (.slice (A r) (L r) (C r))
  row : ∀ r, r < n → L r = 0 ∨ ∃ q o, A r = some ⟨q, o, none⟩ ∧ q ≠ g ∧ q < w.heap.size ∧ ∀ j, j < L r → w.cell? ⟨q, o + j, none⟩ = some (.int .u8 (f r j : Int))
  lt : ∀ r j, f r j < 256

theorem Tab.more {x w w' : World} {g n B : Nat} {A : Nat → Option Addr} {L C : Nat → Nat} {f : Nat → Nat → Nat} (h : Tab x w g n A L C f) (hB : w.heap.size ≤ B) (k : Below B w w') : Tab x w' g n A L C f := by
  have hb : g < B := Nat.lt_of_lt_of_le h.hg.2 hB
  refine ⟨h.below.trans (k.mono (Nat.le_trans h.below.size hB)), ⟨h.hg.1, Nat.lt_of_lt_of_le h.hg.2 k.size⟩, fun j => (k.frozen (by exact hb)).trans (h.fb j), fun r hr => (k.cell (by exact hb)).trans (h.top r hr), fun r hr => ?_, h.lt⟩
  rcases h.row r hr with h0 | ⟨q, o, h1, h2, h3, h4⟩
  · exact .inl h0
  · exact .inr ⟨q, o, h1, h2, Nat.lt_of_lt_of_le h3 k.size, fun j hj => (k.cell (by exact Nat.lt_of_lt_of_le h3 hB)).trans (h4 j hj)⟩

theorem Tab.congr {x w : World} {g n : Nat} {A : Nat → Option Addr} {L L' C : Nat → Nat} {f f' : Nat → Nat → Nat} (h : Tab x w g n A L C f) (hL : ∀ r, r < n → L r = L' r) (hf : ∀ r, r < n → ∀ j, j < L r → f r j = f' r j) (lt : ∀ r j, f' r j < 256) : Tab x w g n A L' C f' :=
  ⟨h.below, h.hg, h.fb, fun r hr => by rw [← hL r hr]; exact h.top r hr, fun r hr => by
    rcases h.row r hr with h0 | ⟨q, o, h1, h2, h3, h4⟩
    · exact .inl ((hL r hr).symm.trans h0)
    · exact .inr ⟨q, o, h1, h2, h3, fun j hj => by
        have hj' : j < L r := by rw [hL r hr]; exact hj
        rw [← hf r hr j hj']; exact h4 j hj'⟩, lt⟩

theorem Tab.put {x w : World} {g n : Nat} {A : Nat → Option Addr} {L C : Nat → Nat} {f : Nat → Nat → Nat} (h : Tab x w g n A L C f) {r l c : Nat} {a : Option Addr} {f' : Nat → Nat} (hr : r < n)
    (hrow : l = 0 ∨ ∃ q o, a = some ⟨q, o, none⟩ ∧ q ≠ g ∧ q < w.heap.size ∧ ∀ j, j < l → w.cell? ⟨q, o + j, none⟩ = some (.int .u8 (f' j : Int))) (hl : ∀ j, f' j < 256) :
    Tab x (w.setCell ⟨g, r, none⟩ (.slice a l c)) g n (fun s => if s = r then a else A s) (fun s => if s = r then l else L s) (fun s => if s = r then c else C s) (fun s j => if s = r then f' j else f s j) := by
  have t : Touch g w (w.setCell ⟨g, r, none⟩ (.slice a l c)) := (Touch.refl _ w).setCell (p := ⟨g, r, none⟩) rfl _
  refine ⟨h.below.setCell h.hg.1 _, ⟨h.hg.1, by simpa using h.hg.2⟩, fun j => by simpa using h.fb j, fun s hs => ?_, fun s hs => ?_, fun s j => ?_⟩
  · by_cases e : s = r
    · subst e
      simpa using World.cell?_setCell_same _ _ _ (h.top s hs)
    · simp only [e, if_false]
      rw [World.cell?_setCell_other _ _ _ _ (fun h => e (by injection h with _ h2 _; exact h2.symm))]
      exact h.top s hs
  · by_cases e : s = r
    · subst e
      simp only [if_true]
      rcases hrow with h0 | ⟨q, o, h1, h2, h3, h4⟩
      · exact .inl h0
      · exact .inr ⟨q, o, h1, h2, by simpa using h3, fun j hj => (t.cell h2).trans (h4 j hj)⟩
    · simp only [e, if_false]
      rcases h.row s hs with h0 | ⟨q, o, h1, h2, h3, h4⟩
      · exact .inl h0
      · exact .inr ⟨q, o, h1, h2, by simpa using h3, fun j hj => (t.cell h2).trans (h4 j hj)⟩
  · by_cases e : s = r
    · simpa [e] using hl j
    · simpa [e] using h.lt s j

theorem Tab.grid {x w : World} {g n : Nat} {A : Nat → Option Addr} {L C : Nat → Nat} {f : Nat → Nat → Nat} (h : Tab x w g n A L C f) : IsGrid w (some ⟨g, 0, none⟩) n A L C f :=
  ⟨.inr ⟨g, 0, rfl, h.hg.2, fun r hr => by rw [Nat.zero_add]; exact h.top r hr⟩, fun r hr => by
    rcases h.row r hr with h0 | ⟨q, o, h1, _, h3, h4⟩
    · exact .inl h0
    · exact .inr ⟨q, o, h1, h3, h4⟩, h.lt⟩

theorem tops_copy (x : World) (b o n c : Nat) (A : Nat → Option Addr) (L C : Nat → Nat) (f : Nat → Nat → Nat) (h : IsGrid x (some ⟨b, o, none⟩) n A L C f) (h0 : 0 < n) (hn : n ≤ 1000) :
    ∃ g cy w', (Builtin.append_ #[22, 22] 22 #[.slice (some ⟨x.heap.size, 0, none⟩) 0 0, .slice (some ⟨b, o, none⟩) n c]).run Try.prog (x.alloc (.cells #[] 34)) = .ok (.slice (some ⟨g, 0, none⟩) n cy) w' ∧ n ≤ cy ∧ Tab x w' g n A L C f := by
  obtain ⟨i0, hi, hz0, hz1, hz2⟩ := info_parts info_row
  have hown := empty_cells x 34
  obtain ⟨b', _, e', hbx⟩ := grid_some h h0
  injection e' with e'
  injection e' with e1 _ _
  have hbx' : b < x.heap.size := by omega
  obtain ⟨v', w', hr, h2, h3, h4⟩ := run_append_own (P := Try.prog) (x.alloc (.cells #[] 34)) x.heap.size 22 22 34 i0 (.slice none 0 0) 1 24 Try.underlying22 hi hz0 hz1 hz2 rfl (by decide) _ 0 [] hown
      ⟨b, o, none⟩ n c ((List.range n).map fun r => Value.slice (A r) (L r) (C r)) (by simp) (fun j u hj => by
        have hjm : j < n := by
          have := (List.getElem?_eq_some_iff.1 hj).1
          simpa using this
        have e : u = .slice (A j) (L j) (C j) := by simp [hjm] at hj; exact hj.symm
        rw [e, add_at]
        exact ((Below.refl x.heap.size x).alloc (Nat.le_refl _) _ |>.cell (by exact hbx')).trans (grid_tops h hjm)) (fun u hu => by
        simp at hu
        obtain ⟨j, _, rfl⟩ := hu
        rfl) (by unfold maxLen; omega) (by omega) (by simp)
  rw [Nat.zero_add, List.nil_append] at h2
  have hb : Below x.heap.size x w' := ((Below.refl x.heap.size x).alloc (Nat.le_refl _) _).grown h3 (by simp) (fun k hk => (hown.lt k hk).1)
  have ho := h2
  rcases h2.2 with ⟨_, h00⟩ | ⟨g, cy, cur, hv, hg, hh, hcy, _⟩
  · omega
  · subst hv
    refine ⟨g, cy, w', hr, hcy, hb, ⟨hg, (Array.getElem?_eq_some_iff.1 hh).1⟩, fun j => ho.frozenAt j, fun r hr => ?_, fun r hr => ?_, h.2.2⟩
    · rw [ho.cellAt r (by omega)]
      simp [hr]
    · rcases h.2.1 r hr with q0 | ⟨q, oo, q1, q2, q3⟩
      · exact .inl q0
      · exact .inr ⟨q, oo, q1, by omega, Nat.lt_of_lt_of_le q2 hb.size, fun j hj => (hb.cell (by exact q2)).trans (q3 j hj)⟩

end Go.Proofs.Ytnnnefbnpfahcaa

/-
  A number is put into a rising list: plainly, and in memory.
  Conditions: none.
-/
import Derived.Test.YtgcjecmgjncclaaPeMem
import Derived.Test.YtgcjecmgjncclaaByTwo
import Derived.Laws.Slices
namespace Go.Proofs.Ytgcjecmgjncclaa.Pe
open Go.RowKit By Fl Pz
set_option linter.unusedVariables false
set_option linter.unusedSimpArgs false
set_option maxRecDepth 100000

theorem ins_at {o : Int} : ∀ (W : List Int) (q : Nat), q ≤ W.length → (∀ (j : Nat) (a : Int), j < q → W[j]? = some a → a ≤ o) → (∀ (a : Int), W[q]? = some a → o < a) → insR o W = W.take q ++ [o] ++ W.drop q
  | [], q, hq, _, _ => by
    have : q = 0 := by simpa using hq
    subst this
    rfl
  | b :: W, 0, _, _, h2 => by
    have := h2 b rfl
    unfold insR
    rw [if_pos this]
    rfl
  | b :: W, q + 1, hq, h1, h2 => by
    have e1 := h1 0 b (by omega) rfl
    unfold insR
    rw [if_neg (by omega), ins_at W q (by simpa using hq) (fun j a hj ha => h1 (j + 1) a (by omega) (by simpa using ha)) (fun a ha => h2 a (by simpa using ha))]
    rfl
theorem ins_mem {o : Int} : ∀ (W : List Int) (a : Int), a ∈ insR o W → a = o ∨ a ∈ W
  | [], a, h => .inl (List.mem_singleton.1 h)
  | b :: W, a, h => by
    unfold insR at h
    split at h
    · rcases List.mem_cons.1 h with e | e
      · exact .inl e
      · exact .inr e
    · rcases List.mem_cons.1 h with e | e
      · exact .inr (by rw [e]; exact List.mem_cons_self ..)
      · exact (ins_mem W a e).imp id (List.mem_cons_of_mem _)
def Rising (W : List Int) : Prop := W.Pairwise (· ≤ ·)
theorem ins_ris {o : Int} : ∀ {W : List Int}, Rising W → Rising (insR o W)
  | [], _ => List.pairwise_singleton ..
  | b :: W, h => by
    obtain ⟨h1, h2⟩ := List.pairwise_cons.1 h
    unfold insR
    split
    · rename_i hlt
      refine List.pairwise_cons.2 ⟨fun a ha => ?_, h⟩
      rcases List.mem_cons.1 ha with e | e
      · rw [e]; exact Int.le_of_lt hlt
      · exact Int.le_trans (Int.le_of_lt hlt) (h1 a e)
    · rename_i hge
      refine List.pairwise_cons.2 ⟨fun a ha => ?_, ins_ris h2⟩
      rcases ins_mem W a ha with e | e
      · rw [e]; omega
      · exact h1 a e
theorem ins_len {o : Int} : ∀ (W : List Int), (insR o W).length = W.length + 1
  | [] => rfl
  | b :: W => by
    unfold insR
    split
    · rfl
    · rw [List.length_cons, ins_len W, List.length_cons]
theorem ris_le {W : List Int} (h : Rising W) {i j : Nat} {a b : Int} (hij : i ≤ j) (ha : W[i]? = some a) (hb : W[j]? = some b) : a ≤ b := by
  obtain ⟨i1, e1⟩ := List.getElem?_eq_some_iff.1 ha
  obtain ⟨j1, e2⟩ := List.getElem?_eq_some_iff.1 hb
  by_cases e : i = j
  · subst e
    omega
  · have := List.pairwise_iff_getElem.1 h i j i1 j1 (by omega)
    rw [← e1, ← e2]
    exact this
/- Where the walk from the end stops. -/
theorem ins_stop {o : Int} {W : List Int} (h : Rising W) {q : Nat} (hq : q ≤ W.length) (hgt : ∀ (j : Nat) (a : Int), q ≤ j → W[j]? = some a → o < a) (hle : q = 0 ∨ ∃ a, W[q - 1]? = some a ∧ a ≤ o) : insR o W = W.take q ++ [o] ++ W.drop q := by
  refine ins_at W q hq (fun j a hj ha => ?_) (fun a ha => hgt q a (Nat.le_refl _) ha)
  rcases hle with e | ⟨b, hb, h2⟩
  · omega
  · exact Int.le_trans (ris_le h (by omega) ha hb) h2

section
variable {α : Type} {w : World} {B : Nat} {T e : TypeId} {sz bt : Nat} {enc : α → List Value} {R : Value} {K L : List α} {a : α}
/- A list that is read, behind one of one's own. -/
theorem app_more (r : Row T e sz bt enc) {A : World → (Nat → Prop) → α → Prop} {F : Nat → Prop} {x : Option Addr} {n c : Nat} (h : Lis enc sz A w F x n c L) (hO : Own w B e sz enc R K) (hB : B ≤ w.heap.size) (hs : K.length + n ≤ 17592186043904) (hz : (K.length + n) * bt ≤ 140737488351232) :
    ∃ y cy w', (Builtin.append_ #[T, T] T #[R, .slice x n c]).run Try.prog w = .ok (.slice y (K.length + n) cy) w' ∧ Own w' B e sz enc (.slice y (K.length + n) cy) (K ++ L) ∧ Turns (fun q => R.ownBlock = some q) w w' := by
  cases x with
  | none =>
    obtain ⟨hn, hc⟩ := h.nil rfl
    subst hn hc
    have hL : L = [] := List.eq_nil_of_length_eq_zero h.len
    subst hL
    obtain ⟨y, cy, hR, _⟩ := hO.form
    obtain ⟨i, z, i1, i2, i3, i4, i5⟩ := r.info
    refine ⟨y, cy, w, ?_, by rw [Nat.add_zero, ← hR, List.append_nil]; exact hO, Turns.refl _ _⟩
    have hrun := run_append_owned_none (P := Try.prog) (w := w) B T T e i sz r.und i1 R _ _ hO
    rw [Nat.add_zero, ← hR]
    exact hrun
  | some ad =>
    have hcell : ∀ j u, (flat enc L)[j]? = some u → w.cell? (ad.add j) = some u := by
      rcases h.row with hn | ⟨b, o, hx, hbl, _, hc⟩
      · intro j u hu
        have := (List.getElem?_eq_some_iff.1 hu).1
        rw [flat_len r.len, h.len, hn, Nat.zero_mul] at this
        omega
      · injection hx with hx
        subst hx
        intro j u hu
        have h1 := flat_cells r.len r.pos hc j u hu
        rw [add_at] at h1 ⊢
        exact h1
    obtain ⟨x', c', w', hr, H⟩ := push2 hO r hB ad n c L h.len hcell hs hz
    exact ⟨x', c', w', hr, H.out.1, H.out.2.1⟩
end

/- Parts of a list of numbers. -/
theorem ielem_row : Try.prog.underlying 22 = some (.slice (Try.prog.elem 22)) := by kernel_rfl
theorem ielem_is : Try.prog.elem 22 = 3 := by kernel_rfl
theorem isize (w : World) : (sizeOf 3).run Try.prog w = .ok 1 w := by kernel_rfl
theorem iadd0 (x : Option Addr) (c : Nat) : (if c = 0 then x else x.map (·.add 0)) = x := by
  split
  · rfl
  · cases x with
    | none => rfl
    | some a => simp [Addr.add]
theorem icut_head (x : Option Addr) (n c m : Nat) (w : World) (h : m ≤ c) :
    (Instr.slice 22 (.slice x n c) none (some (.int .i64 (m : Int))) none).run Try.prog w = .ok (.slice x m c) w := by
  rw [run_slice_h w 22 _ _ _ ielem_row .i64 (m : Int) (by omega) (by omega), ielem_is, isize]
  simp only [Result.andThen, sliced, Int.toNat_natCast, Nat.zero_mul, Nat.sub_zero]
  rw [iadd0]
theorem icut_from (x : Option Addr) (n c k : Nat) (w : World) (h : k ≤ n) :
    (Instr.slice 22 (.slice x n c) (some (.int .i64 (k : Int))) none none).run Try.prog w = .ok (.slice (cutO 1 x c k) (n - k) (c - k)) w := by
  rw [run_slice_l w 22 _ _ _ ielem_row .i64 (k : Int) (by omega) (by omega), ielem_is, isize]
  simp only [Result.andThen, sliced, Int.toNat_natCast]
  rfl

end Go.Proofs.Ytgcjecmgjncclaa.Pe

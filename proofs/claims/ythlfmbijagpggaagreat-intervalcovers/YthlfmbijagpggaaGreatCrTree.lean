/-
  Package crush: tree.
  Conditions: the list lies in memory, and is one of a map that may be.
-/
import Derived.Test.YthlfmbijagpggaaGreatCrGrow
import Derived.Test.YthlfmbijagpggaaGreatCrSort
import Derived.Lib.AppendZeros
namespace Go.Proofs.YthlfmbijagpggaaGreat.Cr
open Go.RowKit By Fl At
open Sr (Wd Ws enW)
set_option linter.unusedVariables false
set_option linter.unusedSimpArgs false
set_option maxRecDepth 100000

/- append([]Osd{}, l...) -/
theorem copy_own {w : World} {B : Nat} {x : Option Addr} {n c : Nat} {L : List Osd} (h : At.Os w x n c L) (hn : n ≤ 1000) (hB : B ≤ w.heap.size) (hx : x ≠ none) : ∃ x' c' w', (Builtin.append_ #[47, 47] 47 #[.slice (some ⟨w.heap.size, 0, none⟩) 0 0, .slice x n c]).run Tryz.prog (w.alloc (.cells #[] 53)) = .ok (.slice x' n c') w' ∧
    Hid (Own w' B 53 8 enO (.slice x' n c') L ∧ Below w.heap.size w w' ∧ ∀ g, (Value.slice x' n c').ownBlock = some g → w.heap.size ≤ g) := by
  cases x with
  | none => exact absurd rfl hx
  | some ad =>
    have h0 := h.below (al w (.cells #[] 53))
    have hl := h.len
    obtain ⟨x', c', w', hr, H⟩ := (Own.empty w (B := B) hB 53 8 enO).push orow (by simp; omega) ad n c L hl (fun j u hj => by
      have hjl := (List.getElem?_eq_some_iff.1 hj).1
      rw [flat_len orow.len, hl] at hjl
      rcases h0.row with q | ⟨b, o, e, hb, hc⟩
      · omega
      · injection e with e
        subst e
        rw [add_at]
        obtain ⟨a, ha⟩ : ∃ a, L[j / 8]? = some a := ⟨L[j / 8]'(by omega), List.getElem?_eq_getElem (by omega)⟩
        have hjj : j / 8 * 8 + j % 8 = j := by omega
        have := flat_get (enc := enO) (sz := 8) orow.len L (j / 8) a ha (j % 8) (by omega)
        rw [hjj] at this
        have := hc (j / 8) a ha (j % 8) u (this.symm.trans hj)
        rw [Nat.add_assoc, hjj] at this
        exact this) (by simp; omega)
    simp only [List.length_nil, Nat.zero_add, List.nil_append] at hr H
    refine ⟨x', c', w', hr, H.out.1, ?_, fun g hg => ?_⟩
    · exact (al w _).trans (H.out.2.1.below (B := w.heap.size) (fun k hk => by simp [Value.ownBlock] at hk; omega) (by simp))
    · rcases H.out.2.2 g hg with q | q
      · simp [Value.ownBlock] at q; omega
      · rw [q]; simp

theorem clone_any {w : World} {B : Nat} {x : Option Addr} {n c : Nat} {L : List Osd} (h : At.Os w x n c L) (hn : n ≤ 1000) (hB : B ≤ w.heap.size) :
    Calls Tryz.prog 68 #[.slice x n c] w fun e w' => ∃ x' c', e = .returned (.slice x' n c') ∧ Hid (Own w' B 53 8 enO (.slice x' n c') L ∧ Below w.heap.size w w' ∧ ∀ g, (Value.slice x' n c').ownBlock = some g → w.heap.size ≤ g) := by
  cases x with
  | none =>
    obtain ⟨h1, h2⟩ := h.nil rfl
    subst h1 h2
    have HF : Hid (Own w B 53 8 enO (.slice none 0 0) L) := by
      have : L = [] := List.eq_nil_of_length_eq_zero h.len
      subst this
      exact Own.nil _ _ _ _ _
    have he : ∀ w : World, (binOp .eql 47 (.slice none 0 0) (.slice none 0 0)).run Tryz.prog w = .ok (.bool true) w := fun _ => by kernel_rfl
    clear h
    go_enter Tryz.func68, Tryz.ntmps68
    go_wp2_with fail
    go_ret
    exact ⟨none, 0, rfl, HF.out, Below.refl _ _, fun g hg => by cases hg⟩
  | some ad =>
    obtain ⟨x', c', w', hr, H⟩ := copy_own h hn hB (fun e => by cases e)
    have he : ∀ w : World, (binOp .eql 47 (.slice (some ad) n c) (.slice none 0 0)).run Tryz.prog w = .ok (.bool false) w := fun _ => by kernel_rfl
    clear h
    go_enter Tryz.func68, Tryz.ntmps68
    go_wp2_with (at_builtin; refine Lib.wpList_append_run _ rfl _ _ _ _ rfl _ _ rfl rfl _ _ hr ?_)
    go_ret
    exact ⟨_, _, rfl, H.out⟩

theorem lex_t (a b : Osd) : LexD 3 a b ↔ LexT a b := by
  simp [LexD, LexT, kO]

/- OSDs of one's own are sorted where they lie, whether there are any or not. -/
theorem sorts_any {w : World} {B n c : Nat} {x : Option Addr} {L : List Osd} (h : Own w B 53 8 enO (.slice x n c) L) (hn : n ≤ 64) :
    Calls Tryz.prog 69 #[.slice x n c, .func (.func 70) #[] #[]] w fun e w' =>
      e = .returned (.tuple #[]) ∧ Hid (∃ S : List Osd, S.Perm L ∧ Srt 3 S ∧ At.Os w' x n c S ∧ Turns (fun k => B ≤ k) w w') := by
  have hL := form_slice h
  by_cases h0 : n = 0
  · subst h0
    have e : L = [] := List.eq_nil_of_length_eq_zero hL
    subst e
    have hc := AnyF.slices_SortFunc_none laysS x c (.func (.func 70) #[] #[]) w
    change Calls Tryz.prog 69 _ _ _ at hc
    refine hc.mono fun e w' ⟨he, hw⟩ => ⟨he, [], List.Perm.refl _, List.Pairwise.nil, ?_, ?_⟩
    · subst hw
      exact own_os h (by simp)
    · subst hw
      exact Turns.refl _ _
  · obtain ⟨g, c', e, h1, h2, h3, h4⟩ := h.there (fun e => h0 (by rw [← hL, e]; rfl))
    injection e with e1 e2 e3
    subst e1 e2 e3
    refine (sort_any h hn).mono fun e w' ⟨he, H⟩ => ⟨he, ?_⟩
    obtain ⟨K, k1, k2, k3, k4⟩ := H.out
    refine ⟨K, k1, k2.imp fun {a b} q => fun l => q ((lex_t _ _).1 l), k3, k4.weak fun j e => by omega⟩

def TreeOf (w : World) (L : List Osd) (e : Ending) (w' : World) : Prop := ∃ v : Bv, e = .returned (vB v) ∧ Hid (Below w.heap.size w w' ∧ ∃ S, S.Perm L ∧ BrAt w' (fun j => w.heap.size ≤ j) 3 v S)

set_option maxHeartbeats 1600000 in
theorem tree_any {w : World} {x : Option Addr} {n c : Nat} {L : List Osd} (h : At.Os w x n c L) (hn : n ≤ 64) (hB : WB L) : Calls Tryz.prog 62 #[.slice x n c] w fun e w' => TreeOf w L e w' := by
  obtain ⟨w0, hw0⟩ : ∃ w0, w0 = w.alloc (.cells #[.slice none 0 0, .slice none 0 0] 105) := ⟨_, rfl⟩
  have b0 : Below w.heap.size w w0 := by rw [hw0]; exact al _ _
  have hs0 : w0.heap.size = w.heap.size + 1 := by rw [hw0]; simp
  have l0 : w0.heap[w.heap.size]? = some (.cells #[.slice none 0 0, .slice none 0 0] 105 (0, 0)) := by rw [hw0]; exact heap_alloc_new w _
  have cC := clone_any (B := w0.heap.size) (h.below b0) (by omega) (Nat.le_refl _)
  have HS : Hid (∀ (w1 : World) (x1 : Option Addr) (c1 : Nat), Own w1 w0.heap.size 53 8 enO (.slice x1 n c1) L → Calls Tryz.prog 69 #[.slice x1 n c1, .func (.func 70) #[] #[]] w1 fun e w' =>
      e = .returned (.tuple #[]) ∧ Hid (∃ S : List Osd, S.Perm L ∧ Srt 3 S ∧ At.Os w' x1 n c1 S ∧ Turns (fun k => w0.heap.size ≤ k) w1 w')) := fun w1 x1 c1 ho => sorts_any ho hn
  have HG : Hid (∀ (w2 : World) (x1 : Option Addr) (c1 : Nat) (S : List Osd), S.Perm L → Srt 3 S → At.Os w2 x1 n c1 S → Calls Tryz.prog 73 #[.slice x1 n c1, .int .i64 2] w2 fun e w' => GrowsTo 3 w2 S e w') := fun w2 x1 c1 S hp hs ho => grow_any 3 (by omega) w2 x1 n c1 S ho hn (fun o ho => hB o (hp.mem_iff.1 ho)) hs
  have H0 : Hid (Below w.heap.size w w0 ∧ w0.heap.size = w.heap.size + 1 ∧ w0.heap[w.heap.size]? = some (.cells #[.slice none 0 0, .slice none 0 0] 105 (0, 0))) := ⟨b0, hs0, l0⟩
  have HW := hid hw0
  rw [hw0] at cC
  clear h hB b0 l0 hs0 hw0
  go_enter Tryz.func62, Tryz.ntmps62
  go_wp2_with (first
    | (go_at_call 68; refine cC.mono ?_; rintro e w1 ⟨x1, c1, rfl, H1⟩; clear cC; rw [← HW.out] at H1; have cS := HS.out w1 x1 c1 H1.out.1; clear HS)
    | (go_at_call 69; refine cS.mono ?_; rintro e w2 ⟨rfl, H2⟩; clear cS; obtain ⟨S, s1, s2, s3, s4⟩ := H2.out; have cG := HG.out w2 x1 c1 S s1 s2 s3; clear HG
       have T2 := (H1.out.2.1.trans (s4.below (B := w0.heap.size) (fun j e => e) H1.out.2.1.size))
       have HP := hid s1
       have H3 : Hid (Below w.heap.size w w2 ∧ w2.heap[w.heap.size]? = some (.cells #[.slice none 0 0, .slice none 0 0] 105 (0, 0)) ∧ w.heap.size + 1 ≤ w2.heap.size) := ⟨on H0.out.1 T2, (T2.block _ (by have := H0.out.2.1; omega)).trans H0.out.2.2, by have := H0.out.2.1; have := T2.size; omega⟩
       clear s1 s2 s3 s4 H2 T2 H1)
    | (go_at_call 73; refine cG.mono ?_; rintro e w3 ⟨v, rfl, H4⟩; clear cG
       have l3 := (H4.out.1.block _ (by have := H3.out.2.2; omega)).trans H3.out.2.1
       have r0 := cell_heap (j := 0) l3 rfl
       have r1 := cell_heap (j := 1) l3 rfl
       have f0 := fr_heap l3 0
       have f1 := fr_heap l3 1
       have HL := hid l3
       clear l3
       unfold vB))
  refine bodyPost_ret (v := vB v) ?_ rfl ?_
  · rw [results_cell1 rfl]
    unfold vB
    go_simp
  · have t4 : Turns (fun j => j = w.heap.size) w3 ((w3.setCell ⟨w.heap.size, 0, none⟩ (.slice v.x v.n v.c)).setCell ⟨w.heap.size, 1, none⟩ (.slice v.y v.m v.d)) := turns_put (turns_put (Turns.refl _ w3) 0 _) 1 _
    have hz := H3.out.2.2
    refine ⟨v, rfl, ?_, S, HP.out, ?_⟩
    · exact (on H3.out.1 H4.out.1).trans (t4.below (fun j e => by omega) (by have := H4.out.1.size; omega))
    · exact BrAt.mono (fun j hj _ => by omega) 3 v S (BrAt.turns t4 (fun j hj e => by omega) 3 v S H4.out.2)

end Go.Proofs.YthlfmbijagpggaaGreat.Cr

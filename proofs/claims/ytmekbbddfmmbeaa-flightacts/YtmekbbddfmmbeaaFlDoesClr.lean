/-
  The law's own 'does': all that goes to a node is lost.
  Conditions: none.
-/
import Derived.Test.YtmekbbddfmmbeaaFlBoth
namespace Go.Proofs.Ytmekbbddfmmbeaa.Fl
open Go.RowKit By
set_option linter.unusedVariables false
set_option linter.unusedSimpArgs false
set_option maxRecDepth 100000

section
variable {w0 w : World} {p mb nb q k : Nat} {D : DataW Value} {R Rl Rp : Value} {L : List MV} {PP : List (Int × Int)}

def keepL (node : Int) (m : LM) : Bool := !(m.to == node)

theorem left_map (node : Int) (L : List MV) : (L.map toL).filter (keepL node) = (left node L).map toL := by
  rw [List.filter_map]
  rfl

/- The statement's own loop: what is left of the first i. -/
structure Cut (wD wr : World) (B : Nat) (node : Int) (LL : List LM) (i : Nat) (Rr : Value) : Prop where
  bel : Below wD.heap.size wD wr
  own : Own wr B 39 3 encL Rr ((LL.take i).filter (keepL node))
  new : ∀ g, Rr.ownBlock = some g → wD.heap.size ≤ g

theorem cut_skip {wD wr : World} {B : Nat} {node : Int} {LL : List LM} {i : Nat} {Rr : Value} (h : Cut wD wr B node LL i Rr) (m : LM) (hm : LL[i]? = some m) (he : (m.to == node) = true) : Cut wD wr.drew B node LL (i + 1) Rr ∧ ((LL.take (i + 1)).filter (keepL node)).length = ((LL.take i).filter (keepL node)).length := by
  have e : (LL.take (i + 1)).filter (keepL node) = (LL.take i).filter (keepL node) := by
    rw [List.take_add_one, hm, List.filter_append]
    simp [keepL, he]
  exact ⟨⟨h.bel.drew, by rw [e]; exact h.own.below (Below.refl _ _).drew, h.new⟩, by rw [e]⟩

theorem cut_keep {wD wr wE : World} {B : Nat} {node : Int} {LL : List LM} {i : Nat} {Rr : Value} (hB : B ≤ wD.heap.size) (h : Cut wD wr B node LL i Rr) (hw : Below wr.heap.size wr wE) (hl : LL.length ≤ 50000) (m : LM) (hm : LL[i]? = some m) (he : (m.to == node) = false) :
    ((LL.take (i + 1)).filter (keepL node)).length = ((LL.take i).filter (keepL node)).length + 1 ∧
    ∃ x' c' w3, (Builtin.append_ #[26, 26] 26 #[Rr, .slice (some ⟨wE.heap.size, 0, none⟩) 1 1]).run Try.prog (wE.alloc (.cells #[.int .i64 m.fr, .int .i64 m.to, .string m.s] 39)) = .ok (.slice x' (((LL.take i).filter (keepL node)).length + 1) c') w3 ∧ Hid (Cut wD w3 B node LL (i + 1) (.slice x' (((LL.take i).filter (keepL node)).length + 1) c')) := by
  have e : (LL.take (i + 1)).filter (keepL node) = (LL.take i).filter (keepL node) ++ [m] := by
    rw [List.take_add_one, hm, List.filter_append]
    simp [keepL, he]
  have b1 : Below wE.heap.size wE (wE.alloc (.cells #[.int .i64 m.fr, .int .i64 m.to, .string m.s] 39)) := (Below.refl _ _).alloc (Nat.le_refl _) _
  have bE := h.bel.trans (hw.mono h.bel.size)
  have hle : ((LL.take i).filter (keepL node)).length ≤ LL.length := Nat.le_trans (List.length_filter_le _ _) (by rw [List.length_take]; omega)
  obtain ⟨x', c', w3, hap, H⟩ := ((h.own.below hw).below b1).push lrow (by have := bE.size; simp; omega) ⟨wE.heap.size, 0, none⟩ 1 1 [m] rfl (fun j u hj => by
    rw [add_at, Nat.zero_add]
    rw [flat_one] at hj
    match j, hj with
    | 0, hj => simpa [encL] using hj
    | 1, hj => simpa [encL] using hj
    | 2, hj => simpa [encL] using hj
    | j + 3, hj => simp [encL] at hj) (by omega)
  obtain ⟨ho, T, N⟩ := H.out
  refine ⟨by rw [e]; simp, x', c', w3, hap, ?_, by rw [e]; exact ho, fun g hg => ?_⟩
  · have b2 := bE.trans (b1.mono bE.size)
    exact b2.trans (T.below (fun k hk => h.new k hk) b2.size)
  · rcases N g hg with z | z
    · exact h.new g z
    · rw [z]; have := bE.size; simp; omega

set_option maxHeartbeats 4000000 in
theorem does_clear_neg (h : Pair w0 w p mb nb q k D R Rl Rp L PP) (hk : k ≤ 1000) (A Bb : Int) (hA : A < 0) (X : Option Addr) (n c : Nat) (d : List Nat) (hX : Sl w0 X n c d) (hn : n ≤ 140737488351232) :
    Calls Try.prog 9 #[.pointer (some ⟨p, 0, none⟩), .pointer (some ⟨q, 0, none⟩), .agg #[.int .i64 6, .int .i64 A, .int .i64 Bb, .slice X n c]] w fun e w' => e = .returned (.bool true) ∧ Hid (Both w0 w' p q (k + 1)) := by
  have ba : Below w.heap.size w (w.alloc (.cells #[.int .i64 6, .int .i64 A, .int .i64 Bb, .slice X n c] 33)) := (Below.refl _ _).alloc (Nat.le_refl _) _
  have bd : Below w.heap.size w (w.alloc (.cells #[.int .i64 6, .int .i64 A, .int .i64 Bb, .slice X n c] 33)).drew := ba.drew
  have hd := h.below bd
  obtain ⟨lx, lc, hRl, hlc, _, _⟩ := hd.md.l.form
  rw [List.length_map] at hRl hlc
  have s0 := hd.md.c0
  rw [hRl] at s0
  have s1 : (w.alloc (.cells #[.int .i64 6, .int .i64 A, .int .i64 Bb, .slice X n c] 33)).drew.cell? ⟨w.heap.size, 1, none⟩ = some (.int .i64 A) := by simp
  have tbA : Tb (w.alloc (.cells #[.int .i64 6, .int .i64 A, .int .i64 Bb, .slice X n c] 33)).drew w.heap.size 33 := ⟨_, _, heap_alloc_new w _⟩
  have ca : CellsAt (w.alloc (.cells #[.int .i64 6, .int .i64 A, .int .i64 Bb, .slice X n c] 33)).drew w.heap.size [.int .i64 6, .int .i64 A, .int .i64 Bb, .slice X n c] := fun j u hj => by
    match j, hj with
    | 0, hj => simpa using hj
    | 1, hj => simpa using hj
    | 2, hj => simpa using hj
    | 3, hj => simpa using hj
    | j + 4, hj => simp at hj
  have hdec : decide (0 ≤ A) = false := by simp; omega
  clear hA
  have hl := h.hl
  have a0 : (w.alloc (.cells #[.int .i64 6, .int .i64 A, .int .i64 Bb, .slice X n c] 33)).drew.cell? ⟨w.heap.size, 0, none⟩ = some (.int .i64 6) := ca 0 _ rfl
  have hBD : w0.heap.size ≤ (w.alloc (.cells #[.int .i64 6, .int .i64 A, .int .i64 Bb, .slice X n c] 33)).drew.heap.size := hd.fl.bw
  have HD := hid hd
  have HT := hid (And.intro tbA ca)
  have hLz : (L.length : Int) ≤ 1000 := by omega
  have hRl' := hid hRl
  clear h hd hRl ba bd hX hlc tbA ca
  go_enter Try.func9, Try.ntmps9
  go_wp2_with fail
  refine wp_region_held_drew (S := fun v => v.cell? ⟨q, 0, none⟩ = some (.slice lx L.length lc) ∧ v.cell? ⟨w.heap.size, 1, none⟩ = some (.int .i64 A)) (by kernel_rfl) ⟨s0, s1⟩ (fun hHeld => ?_)
  refine wpAnyH_take (i := 0) (v := ?_) rfl (by kernel_rfl) (by kernel_rfl) (by kernel_rfl) (fun _ _ _ h => h) (Or.inl ⟨by rfl, ?_⟩) (by assumption) ?_
  case refine_2 => (intro w hSw; (try dsimp only at hSw); go_simp; (try with_reducible rfl))
  (try simp only [Act.put, List.getElem_toArray, List.getElem_cons_succ, List.getElem_cons_zero, List.setIfInBounds_toArray, List.set_cons_zero, List.set_cons_succ])
  refine wpAnyH_take (i := 1) (v := ?_) rfl (by kernel_rfl) (by kernel_rfl) (by kernel_rfl) (fun _ _ _ h => h) (Or.inl ⟨by rfl, ?_⟩) (by assumption) ?_
  case refine_2 => (intro w hSw; (try dsimp only at hSw); go_simp; (try with_reducible rfl))
  (try simp only [Act.put, List.getElem_toArray, List.getElem_cons_succ, List.getElem_cons_zero, List.setIfInBounds_toArray, List.set_cons_zero, List.set_cons_succ])
  refine wpAnyH_take (i := 2) (v := ?_) rfl (by kernel_rfl) (by kernel_rfl) (by kernel_rfl) (fun _ _ _ h => h) (Or.inl ⟨by rfl, ?_⟩) (by assumption) ?_
  case refine_2 => (intro w hSw; (try dsimp only at hSw); go_simp; (try with_reducible rfl))
  (try simp only [Act.put, List.getElem_toArray, List.getElem_cons_succ, List.getElem_cons_zero, List.setIfInBounds_toArray, List.set_cons_zero, List.set_cons_succ])
  refine wpAnyH_take (i := 3) (v := ?_) rfl (by kernel_rfl) (by kernel_rfl) (by kernel_rfl) (fun _ _ _ h => h) (Or.inl ⟨by rfl, ?_⟩) (by assumption) ?_
  case refine_2 => (intro w hSw; (try dsimp only at hSw); go_simp; (try with_reducible rfl))
  (try simp only [Act.put, List.getElem_toArray, List.getElem_cons_succ, List.getElem_cons_zero, List.setIfInBounds_toArray, List.set_cons_zero, List.set_cons_succ])
  refine wpAnyH_take (i := 4) (v := undef) rfl (by kernel_rfl) (by kernel_rfl) (by kernel_rfl) (fun _ _ _ h => h) (Or.inr ⟨by rfl, rfl⟩) (by assumption) ?_
  (try simp only [Act.put, List.getElem_toArray, List.getElem_cons_succ, List.getElem_cons_zero, List.setIfInBounds_toArray, List.set_cons_zero, List.set_cons_succ])
  refine wpAnyH_take (i := 5) (v := undef) rfl (by kernel_rfl) (by kernel_rfl) (by kernel_rfl) (fun _ _ _ h => h) (Or.inr ⟨by rfl, rfl⟩) (by assumption) ?_
  (try simp only [Act.put, List.getElem_toArray, List.getElem_cons_succ, List.getElem_cons_zero, List.setIfInBounds_toArray, List.set_cons_zero, List.set_cons_succ])
  refine wpAnyH_take (i := 6) (v := undef) rfl (by kernel_rfl) (by kernel_rfl) (by kernel_rfl) (fun _ _ _ h => h) (Or.inr ⟨by rfl, rfl⟩) (by assumption) ?_
  (try simp only [Act.put, List.getElem_toArray, List.getElem_cons_succ, List.getElem_cons_zero, List.setIfInBounds_toArray, List.set_cons_zero, List.set_cons_succ])
  refine wpAnyH_take (i := 7) (v := undef) rfl (by kernel_rfl) (by kernel_rfl) (by kernel_rfl) (fun _ _ _ h => h) (Or.inr ⟨by rfl, rfl⟩) (by assumption) ?_
  (try simp only [Act.put, List.getElem_toArray, List.getElem_cons_succ, List.getElem_cons_zero, List.setIfInBounds_toArray, List.set_cons_zero, List.set_cons_succ])
  refine wpAnyH_take (i := 8) (v := undef) rfl (by kernel_rfl) (by kernel_rfl) (by kernel_rfl) (fun _ _ _ h => h) (Or.inr ⟨by rfl, rfl⟩) (by assumption) ?_
  (try simp only [Act.put, List.getElem_toArray, List.getElem_cons_succ, List.getElem_cons_zero, List.setIfInBounds_toArray, List.set_cons_zero, List.set_cons_succ])
  refine wpAnyH_take (i := 9) (v := undef) rfl (by kernel_rfl) (by kernel_rfl) (by kernel_rfl) (fun _ _ _ h => h) (Or.inr ⟨by rfl, rfl⟩) (by assumption) ?_
  (try simp only [Act.put, List.getElem_toArray, List.getElem_cons_succ, List.getElem_cons_zero, List.setIfInBounds_toArray, List.set_cons_zero, List.set_cons_succ])
  refine wpAnyH_take (i := 10) (v := undef) rfl (by kernel_rfl) (by kernel_rfl) (by kernel_rfl) (fun _ _ _ h => h) (Or.inr ⟨by rfl, rfl⟩) (by assumption) ?_
  (try simp only [Act.put, List.getElem_toArray, List.getElem_cons_succ, List.getElem_cons_zero, List.setIfInBounds_toArray, List.set_cons_zero, List.set_cons_succ])
  refine wpAnyH_take (i := 11) (v := undef) rfl (by kernel_rfl) (by kernel_rfl) (by kernel_rfl) (fun _ _ _ h => h) (Or.inr ⟨by rfl, rfl⟩) (by assumption) ?_
  (try simp only [Act.put, List.getElem_toArray, List.getElem_cons_succ, List.getElem_cons_zero, List.setIfInBounds_toArray, List.set_cons_zero, List.set_cons_succ])
  refine wpAnyH_take (i := 12) (v := ?_) rfl (by kernel_rfl) (by kernel_rfl) (by kernel_rfl) (fun _ _ _ h => h) (Or.inl ⟨by rfl, ?_⟩) (by assumption) ?_
  case refine_2 => (intro w hSw; (try dsimp only at hSw); go_simp; (try with_reducible rfl))
  (try simp only [Act.put, List.getElem_toArray, List.getElem_cons_succ, List.getElem_cons_zero, List.setIfInBounds_toArray, List.set_cons_zero, List.set_cons_succ])
  refine wpAnyH_take (i := 13) (v := ?_) rfl (by kernel_rfl) (by kernel_rfl) (by kernel_rfl) (fun _ _ _ h => h) (Or.inl ⟨by rfl, ?_⟩) (by assumption) ?_
  case refine_2 => (intro w hSw; (try dsimp only at hSw); go_simp; (try with_reducible rfl))
  (try simp only [Act.put, List.getElem_toArray, List.getElem_cons_succ, List.getElem_cons_zero, List.setIfInBounds_toArray, List.set_cons_zero, List.set_cons_succ])
  refine wpAnyH_done (by kernel_rfl) ?_ _
  generalize (w.alloc (.cells #[.int .i64 6, .int .i64 A, .int .i64 Bb, .slice X n c] 33)).drew = wD at *
  go_wp2_with fail
  go_loopw [14, 15, 16] (fun s14 s15 s16 wr => ∃ (i r : Nat) (x : Option Addr) (rc : Nat), s16 = .int .i64 i ∧ i ≤ L.length ∧ s15 = .slice x r rc ∧ s14 = .int .i64 ((i : Int) - (r : Int)) ∧ r ≤ i ∧ Hid (r = (((L.map toL).take i).filter (keepL A)).length ∧ Cut wD wr w0.heap.size A (L.map toL) i (.slice x r rc))) (fun _ _ s16 _ => L.length - (intOf s16).toNat)
  case atStart =>
    refine ⟨0, 0, some ⟨wD.heap.size, 0, none⟩, 0, rfl, by omega, rfl, by simp, by omega, by simp, ⟨(Below.refl _ _).alloc (Nat.le_refl _) _, by simpa using Own.empty (α := LM) wD hBD 39 3 encL, fun g hg => ?_⟩⟩
    simp [Value.ownBlock] at hg
    omega
  case round =>
    obtain ⟨i, r, x, rc, rfl, hi, rfl, rfl, hri, HR⟩ := hrel
    have hpr := HD.out.below (w' := wr) (HR.out.2.bel)
    have q0 := hpr.md.c0
    rw [hRl'.out] at q0
    have cr := HT.out.2.keep (HR.out.2.bel.block _ HT.out.1.lt)
    have c1 : wr.cell? ⟨w.heap.size, 1, none⟩ = some (.int .i64 A) := cr 1 _ rfl
    have hiz : (i : Int) ≤ 1000 := by omega
    have hrz : (r : Int) ≤ (i : Int) := by omega
    by_cases hlt : i < L.length
    · have hin : (i : Int) < (L.length : Int) := by omega
      obtain ⟨m, hm⟩ : ∃ m, (L.map toL)[i]? = some m := ⟨(L.map toL)[i]'(by simpa using hlt), List.getElem?_eq_getElem (by simpa using hlt)⟩
      have own := hpr.md.l
      rw [hRl'.out] at own
      obtain ⟨g, hg⟩ : ∃ g, lx = some ⟨g, 0, none⟩ := by
        obtain ⟨g, c', e, _⟩ := own.there (by intro e; rw [e] at hm; simp at hm)
        injection e with e _ _
        exact ⟨g, e⟩
      subst hg
      have k0 := own.cell lrow.len hm (j := 0) (v := .int .i64 m.fr) rfl
      rw [Nat.add_zero] at k0
      have k1 := own.cell lrow.len hm (j := 1) (v := .int .i64 m.to) rfl
      have k2 := own.cell lrow.len hm (j := 2) (v := .string m.s) rfl
      have S1 : wr.drew.cell? ⟨q, 0, none⟩ = some (.slice (some ⟨g, 0, none⟩) L.length lc) ∧ wr.drew.cell? ⟨g, i * 3 + 1, none⟩ = some (.int .i64 m.to) ∧ wr.drew.cell? ⟨w.heap.size, 1, none⟩ = some (.int .i64 A) := ⟨q0, k1, c1⟩
      cases he : (m.to == A) with
      | true =>
        obtain ⟨hC, hC2⟩ := cut_skip HR.out.2 m hm he
        have HN : Hid (r = (((L.map toL).take (i + 1)).filter (keepL A)).length ∧ Cut wD wr.drew w0.heap.size A (L.map toL) (i + 1) (.slice x r rc)) := ⟨by rw [hC2]; exact HR.out.1, hC⟩
        have he2 : decide (m.to = A) = true := by simpa using he
        clear HR hpr cr own hC hC2 HD HT hm
        generalize m.to = mt at *
        generalize m.fr = mf at *
        generalize m.s = ms at *
        go_wp2_with fail
        refine wp_region_held_drew (S := fun v => v.cell? ⟨q, 0, none⟩ = some (.slice (some ⟨g, 0, none⟩) L.length lc) ∧ v.cell? ⟨g, i * 3 + 1, none⟩ = some (.int .i64 mt) ∧ v.cell? ⟨w.heap.size, 1, none⟩ = some (.int .i64 A)) (by kernel_rfl) S1 (fun hHeld => ?_)
        refine wpAnyH_take (i := 0) (v := ?_) rfl (by kernel_rfl) (by kernel_rfl) (by kernel_rfl) (fun _ _ _ h => h) (Or.inl ⟨by rfl, ?_⟩) (by assumption) ?_
        case refine_2 => (intro w hSw; (try dsimp only at hSw); go_simp; (try with_reducible rfl))
        (try simp only [Act.put, List.getElem_toArray, List.getElem_cons_succ, List.getElem_cons_zero, List.setIfInBounds_toArray, List.set_cons_zero, List.set_cons_succ])
        refine wpAnyH_take (i := 1) (v := ?_) rfl (by kernel_rfl) (by kernel_rfl) (by kernel_rfl) (fun _ _ _ h => h) (Or.inl ⟨by rfl, ?_⟩) (by assumption) ?_
        case refine_2 => (intro w hSw; (try dsimp only at hSw); go_simp; (try with_reducible rfl))
        (try simp only [Act.put, List.getElem_toArray, List.getElem_cons_succ, List.getElem_cons_zero, List.setIfInBounds_toArray, List.set_cons_zero, List.set_cons_succ])
        refine wpAnyH_take (i := 2) (v := ?_) rfl (by kernel_rfl) (by kernel_rfl) (by kernel_rfl) (fun _ _ _ h => h) (Or.inl ⟨by rfl, ?_⟩) (by assumption) ?_
        case refine_2 => (intro w hSw; (try dsimp only at hSw); go_simp; (try with_reducible rfl))
        (try simp only [Act.put, List.getElem_toArray, List.getElem_cons_succ, List.getElem_cons_zero, List.setIfInBounds_toArray, List.set_cons_zero, List.set_cons_succ])
        refine wpAnyH_take (i := 3) (v := ?_) rfl (by kernel_rfl) (by kernel_rfl) (by kernel_rfl) (fun _ _ _ h => h) (Or.inl ⟨by rfl, ?_⟩) (by assumption) ?_
        case refine_2 => (intro w hSw; (try dsimp only at hSw); go_simp; (try with_reducible rfl))
        (try simp only [Act.put, List.getElem_toArray, List.getElem_cons_succ, List.getElem_cons_zero, List.setIfInBounds_toArray, List.set_cons_zero, List.set_cons_succ])
        refine wpAnyH_take (i := 4) (v := ?_) rfl (by kernel_rfl) (by kernel_rfl) (by kernel_rfl) (fun _ _ _ h => h) (Or.inl ⟨by rfl, ?_⟩) (by assumption) ?_
        case refine_2 => (intro w hSw; (try dsimp only at hSw); go_simp; (try with_reducible rfl))
        (try simp only [Act.put, List.getElem_toArray, List.getElem_cons_succ, List.getElem_cons_zero, List.setIfInBounds_toArray, List.set_cons_zero, List.set_cons_succ])
        refine wpAnyH_take (i := 5) (v := ?_) rfl (by kernel_rfl) (by kernel_rfl) (by kernel_rfl) (fun _ _ _ h => h) (Or.inl ⟨by rfl, ?_⟩) (by assumption) ?_
        case refine_2 => (intro w hSw; (try dsimp only at hSw); go_simp; (try with_reducible rfl))
        (try simp only [Act.put, List.getElem_toArray, List.getElem_cons_succ, List.getElem_cons_zero, List.setIfInBounds_toArray, List.set_cons_zero, List.set_cons_succ])
        refine wpAnyH_take (i := 6) (v := ?_) rfl (by kernel_rfl) (by kernel_rfl) (by kernel_rfl) (fun _ _ _ h => h) (Or.inl ⟨by rfl, ?_⟩) (by assumption) ?_
        case refine_2 => (intro w hSw; (try dsimp only at hSw); go_simp; (try with_reducible rfl))
        (try simp only [Act.put, List.getElem_toArray, List.getElem_cons_succ, List.getElem_cons_zero, List.setIfInBounds_toArray, List.set_cons_zero, List.set_cons_succ])
        refine wpAnyH_take (i := 7) (v := ?_) rfl (by kernel_rfl) (by kernel_rfl) (by kernel_rfl) (fun _ _ _ h => h) (Or.inl ⟨by rfl, ?_⟩) (by assumption) ?_
        case refine_2 => (intro w hSw; (try dsimp only at hSw); go_simp; (try with_reducible rfl))
        (try simp only [Act.put, List.getElem_toArray, List.getElem_cons_succ, List.getElem_cons_zero, List.setIfInBounds_toArray, List.set_cons_zero, List.set_cons_succ])
        refine wpAnyH_take (i := 8) (v := ?_) rfl (by kernel_rfl) (by kernel_rfl) (by kernel_rfl) (fun _ _ _ h => h) (Or.inl ⟨by rfl, ?_⟩) (by assumption) ?_
        case refine_2 => (intro w hSw; (try dsimp only at hSw); go_simp; (try with_reducible rfl))
        (try simp only [Act.put, List.getElem_toArray, List.getElem_cons_succ, List.getElem_cons_zero, List.setIfInBounds_toArray, List.set_cons_zero, List.set_cons_succ])
        refine wpAnyH_take (i := 9) (v := ?_) rfl (by kernel_rfl) (by kernel_rfl) (by kernel_rfl) (fun _ _ _ h => h) (Or.inl ⟨by rfl, ?_⟩) (by assumption) ?_
        case refine_2 => (intro w hSw; (try dsimp only at hSw); go_simp; (try with_reducible rfl))
        (try simp only [Act.put, List.getElem_toArray, List.getElem_cons_succ, List.getElem_cons_zero, List.setIfInBounds_toArray, List.set_cons_zero, List.set_cons_succ])
        refine wpAnyH_take (i := 10) (v := ?_) rfl (by kernel_rfl) (by kernel_rfl) (by kernel_rfl) (fun _ _ _ h => h) (Or.inl ⟨by rfl, ?_⟩) (by assumption) ?_
        case refine_2 => (intro w hSw; (try dsimp only at hSw); go_simp; (try with_reducible rfl))
        (try simp only [Act.put, List.getElem_toArray, List.getElem_cons_succ, List.getElem_cons_zero, List.setIfInBounds_toArray, List.set_cons_zero, List.set_cons_succ])
        refine wpAnyH_done (by kernel_rfl) ?_ _
        go_wp2_with fail
        refine ⟨?rel, ?measure⟩
        case rel => first
          | exact ⟨i + 1, r, x, rc, by go_num, by omega, rfl, by go_num, by omega, HN.out⟩
          | exact ⟨_, _, _, ⟨i + 1, r, x, rc, by go_num, by omega, rfl, by go_num, by omega, HN.out⟩, rfl⟩
        case measure => simp [intOf]; omega
      | false =>
        have hw : Below wr.heap.size wr wr.drew := (Below.refl _ _).drew
        obtain ⟨hC2, x', c', w3, hap, HC⟩ := cut_keep hBD HR.out.2 hw (by simp; omega) m hm he
        rw [← HR.out.1] at hap HC hC2
        have HN : Hid (r + 1 = (((L.map toL).take (i + 1)).filter (keepL A)).length ∧ Cut wD w3 w0.heap.size A (L.map toL) (i + 1) (.slice x' (r + 1) c')) := ⟨hC2.symm, HC.out⟩
        have d0 : wr.drew.cell? ⟨g, i * 3, none⟩ = some (.int .i64 m.fr) := k0
        have d2 : wr.drew.cell? ⟨g, i * 3 + 2, none⟩ = some (.string m.s) := k2
        have he2 : decide (m.to = A) = false := by simpa using he
        clear HR hpr cr own HC hC2 HD HT hm hw
        generalize m.to = mt at *
        generalize m.fr = mf at *
        generalize m.s = ms at *
        go_wp2_with fail
        refine wp_region_held_drew (S := fun v => v.cell? ⟨q, 0, none⟩ = some (.slice (some ⟨g, 0, none⟩) L.length lc) ∧ v.cell? ⟨g, i * 3 + 1, none⟩ = some (.int .i64 mt) ∧ v.cell? ⟨w.heap.size, 1, none⟩ = some (.int .i64 A)) (by kernel_rfl) S1 (fun hHeld => ?_)
        refine wpAnyH_take (i := 0) (v := ?_) rfl (by kernel_rfl) (by kernel_rfl) (by kernel_rfl) (fun _ _ _ h => h) (Or.inl ⟨by rfl, ?_⟩) (by assumption) ?_
        case refine_2 => (intro w hSw; (try dsimp only at hSw); go_simp; (try with_reducible rfl))
        (try simp only [Act.put, List.getElem_toArray, List.getElem_cons_succ, List.getElem_cons_zero, List.setIfInBounds_toArray, List.set_cons_zero, List.set_cons_succ])
        refine wpAnyH_take (i := 1) (v := ?_) rfl (by kernel_rfl) (by kernel_rfl) (by kernel_rfl) (fun _ _ _ h => h) (Or.inl ⟨by rfl, ?_⟩) (by assumption) ?_
        case refine_2 => (intro w hSw; (try dsimp only at hSw); go_simp; (try with_reducible rfl))
        (try simp only [Act.put, List.getElem_toArray, List.getElem_cons_succ, List.getElem_cons_zero, List.setIfInBounds_toArray, List.set_cons_zero, List.set_cons_succ])
        refine wpAnyH_take (i := 2) (v := ?_) rfl (by kernel_rfl) (by kernel_rfl) (by kernel_rfl) (fun _ _ _ h => h) (Or.inl ⟨by rfl, ?_⟩) (by assumption) ?_
        case refine_2 => (intro w hSw; (try dsimp only at hSw); go_simp; (try with_reducible rfl))
        (try simp only [Act.put, List.getElem_toArray, List.getElem_cons_succ, List.getElem_cons_zero, List.setIfInBounds_toArray, List.set_cons_zero, List.set_cons_succ])
        refine wpAnyH_take (i := 3) (v := ?_) rfl (by kernel_rfl) (by kernel_rfl) (by kernel_rfl) (fun _ _ _ h => h) (Or.inl ⟨by rfl, ?_⟩) (by assumption) ?_
        case refine_2 => (intro w hSw; (try dsimp only at hSw); go_simp; (try with_reducible rfl))
        (try simp only [Act.put, List.getElem_toArray, List.getElem_cons_succ, List.getElem_cons_zero, List.setIfInBounds_toArray, List.set_cons_zero, List.set_cons_succ])
        refine wpAnyH_take (i := 4) (v := ?_) rfl (by kernel_rfl) (by kernel_rfl) (by kernel_rfl) (fun _ _ _ h => h) (Or.inl ⟨by rfl, ?_⟩) (by assumption) ?_
        case refine_2 => (intro w hSw; (try dsimp only at hSw); go_simp; (try with_reducible rfl))
        (try simp only [Act.put, List.getElem_toArray, List.getElem_cons_succ, List.getElem_cons_zero, List.setIfInBounds_toArray, List.set_cons_zero, List.set_cons_succ])
        refine wpAnyH_take (i := 5) (v := ?_) rfl (by kernel_rfl) (by kernel_rfl) (by kernel_rfl) (fun _ _ _ h => h) (Or.inl ⟨by rfl, ?_⟩) (by assumption) ?_
        case refine_2 => (intro w hSw; (try dsimp only at hSw); go_simp; (try with_reducible rfl))
        (try simp only [Act.put, List.getElem_toArray, List.getElem_cons_succ, List.getElem_cons_zero, List.setIfInBounds_toArray, List.set_cons_zero, List.set_cons_succ])
        refine wpAnyH_take (i := 6) (v := ?_) rfl (by kernel_rfl) (by kernel_rfl) (by kernel_rfl) (fun _ _ _ h => h) (Or.inl ⟨by rfl, ?_⟩) (by assumption) ?_
        case refine_2 => (intro w hSw; (try dsimp only at hSw); go_simp; (try with_reducible rfl))
        (try simp only [Act.put, List.getElem_toArray, List.getElem_cons_succ, List.getElem_cons_zero, List.setIfInBounds_toArray, List.set_cons_zero, List.set_cons_succ])
        refine wpAnyH_take (i := 7) (v := ?_) rfl (by kernel_rfl) (by kernel_rfl) (by kernel_rfl) (fun _ _ _ h => h) (Or.inl ⟨by rfl, ?_⟩) (by assumption) ?_
        case refine_2 => (intro w hSw; (try dsimp only at hSw); go_simp; (try with_reducible rfl))
        (try simp only [Act.put, List.getElem_toArray, List.getElem_cons_succ, List.getElem_cons_zero, List.setIfInBounds_toArray, List.set_cons_zero, List.set_cons_succ])
        refine wpAnyH_take (i := 8) (v := ?_) rfl (by kernel_rfl) (by kernel_rfl) (by kernel_rfl) (fun _ _ _ h => h) (Or.inl ⟨by rfl, ?_⟩) (by assumption) ?_
        case refine_2 => (intro w hSw; (try dsimp only at hSw); go_simp; (try with_reducible rfl))
        (try simp only [Act.put, List.getElem_toArray, List.getElem_cons_succ, List.getElem_cons_zero, List.setIfInBounds_toArray, List.set_cons_zero, List.set_cons_succ])
        refine wpAnyH_take (i := 9) (v := ?_) rfl (by kernel_rfl) (by kernel_rfl) (by kernel_rfl) (fun _ _ _ h => h) (Or.inl ⟨by rfl, ?_⟩) (by assumption) ?_
        case refine_2 => (intro w hSw; (try dsimp only at hSw); go_simp; (try with_reducible rfl))
        (try simp only [Act.put, List.getElem_toArray, List.getElem_cons_succ, List.getElem_cons_zero, List.setIfInBounds_toArray, List.set_cons_zero, List.set_cons_succ])
        refine wpAnyH_take (i := 10) (v := ?_) rfl (by kernel_rfl) (by kernel_rfl) (by kernel_rfl) (fun _ _ _ h => h) (Or.inl ⟨by rfl, ?_⟩) (by assumption) ?_
        case refine_2 => (intro w hSw; (try dsimp only at hSw); go_simp; (try with_reducible rfl))
        (try simp only [Act.put, List.getElem_toArray, List.getElem_cons_succ, List.getElem_cons_zero, List.setIfInBounds_toArray, List.set_cons_zero, List.set_cons_succ])
        refine wpAnyH_done (by kernel_rfl) ?_ _
        obtain ⟨z0, z1, z2⟩ := S1
        clear q0 k0 k1 k2 c1 hHeld
        generalize wr.drew = wE at *
        go_wp2_with (at_builtin; refine wpList_append_run rfl _ _ 26 rfl _ _ rfl rfl hap ?_; clear hap)
        refine ⟨?rel, ?measure⟩
        case rel => first
          | exact ⟨i + 1, r + 1, x', c', by go_num, by omega, rfl, by go_num, by omega, HN.out⟩
          | exact ⟨_, _, _, ⟨i + 1, r + 1, x', c', by go_num, by omega, rfl, by go_num, by omega, HN.out⟩, rfl⟩
        case measure => simp [intOf]; omega
    · obtain rfl : i = L.length := by omega
      have hT : Turns (fun k => Rl.ownBlock = some k) wD wr := ⟨HR.out.2.bel.os, HR.out.2.bel.tape, HR.out.2.bel.output, HR.out.2.bel.size, fun k hk _ => HR.out.2.bel.block k hk⟩
      obtain ⟨z1, z2, z3, z4⟩ := HD.out.md.setL hT HR.out.2.own
      obtain ⟨b4, f4⟩ := HD.out.lists z3
      have c4 := HT.out.2.keep (z3.block _ HT.out.1.lt (act_kept HT.out.1 HD.out).2)
      have r1 : (wr.setCell ⟨q, 0, none⟩ (.slice x r rc)).cell? ⟨w.heap.size, 1, none⟩ = some (.int .i64 A) := c4 1 _ rfl
      have hr : r = (left A L).length := by
        have := HR.out.1
        rw [List.take_of_length_le (by simp), left_map, List.length_map] at this
        exact this
      rw [List.take_of_length_le (by simp), left_map] at z4
      have hC : Calls Try.prog 21 #[.pointer (some ⟨p, 0, none⟩), .int .i64 A] (wr.setCell ⟨q, 0, none⟩ (.slice x r rc)) fun e w5 => e = .returned (.int .i64 ((L.length : Int) - (r : Int))) ∧ Hid (Both w0 w5 p q (k + 1)) := by
        refine (clear_any f4 A (by omega)).mono fun e w5 ⟨e5, H5⟩ => ⟨by rw [hr]; exact e5, ?_⟩
        obtain ⟨R5, f5, t5⟩ := H5.out
        exact ⟨mb, nb, D, R5, _, Rp, left A L, PP, b4.trans (f4.out t5 f4.bw), f5, z4.apart t5 (fun k hk => (f4.foot k hk).2), by rw [← hr]; omega, Nat.le_succ_of_le HD.out.hp, Nat.le_succ_of_le HD.out.hn⟩
      clear HR hpr cr HD HT hT z3 z4 b4 f4 c4 hr z1
      go_wp2_with (go_at_call 21; refine hC.mono ?_; rintro e w5 ⟨rfl, HN⟩; clear hC)
      go_ret
      exact ⟨by first | rfl | simp, HN.out⟩

set_option maxHeartbeats 4000000 in
theorem does_clear_pos (h : Pair w0 w p mb nb q k D R Rl Rp L PP) (hk : k ≤ 1000) (A Bb : Int) (hA : 0 ≤ A) (X : Option Addr) (n c : Nat) (d : List Nat) (hX : Sl w0 X n c d) (hn : n ≤ 140737488351232) :
    Calls Try.prog 9 #[.pointer (some ⟨p, 0, none⟩), .pointer (some ⟨q, 0, none⟩), .agg #[.int .i64 6, .int .i64 A, .int .i64 Bb, .slice X n c]] w fun e w' => e = .returned (.bool true) ∧ Hid (Both w0 w' p q (k + 1)) := by
  have ba : Below w.heap.size w (w.alloc (.cells #[.int .i64 6, .int .i64 A, .int .i64 Bb, .slice X n c] 33)) := (Below.refl _ _).alloc (Nat.le_refl _) _
  have bd : Below w.heap.size w (w.alloc (.cells #[.int .i64 6, .int .i64 A, .int .i64 Bb, .slice X n c] 33)).drew := ba.drew
  have hd := h.below bd
  obtain ⟨lx, lc, hRl, hlc, _, _⟩ := hd.md.l.form
  rw [List.length_map] at hRl hlc
  have s0 := hd.md.c0
  rw [hRl] at s0
  have s1 : (w.alloc (.cells #[.int .i64 6, .int .i64 A, .int .i64 Bb, .slice X n c] 33)).drew.cell? ⟨w.heap.size, 1, none⟩ = some (.int .i64 A) := by simp
  have tbA : Tb (w.alloc (.cells #[.int .i64 6, .int .i64 A, .int .i64 Bb, .slice X n c] 33)).drew w.heap.size 33 := ⟨_, _, heap_alloc_new w _⟩
  have ca : CellsAt (w.alloc (.cells #[.int .i64 6, .int .i64 A, .int .i64 Bb, .slice X n c] 33)).drew w.heap.size [.int .i64 6, .int .i64 A, .int .i64 Bb, .slice X n c] := fun j u hj => by
    match j, hj with
    | 0, hj => simpa using hj
    | 1, hj => simpa using hj
    | 2, hj => simpa using hj
    | 3, hj => simpa using hj
    | j + 4, hj => simp at hj
  have hdec : decide (0 ≤ A) = true := by simpa using hA
  clear hA
  have hl := h.hl
  have a0 : (w.alloc (.cells #[.int .i64 6, .int .i64 A, .int .i64 Bb, .slice X n c] 33)).drew.cell? ⟨w.heap.size, 0, none⟩ = some (.int .i64 6) := ca 0 _ rfl
  have hBD : w0.heap.size ≤ (w.alloc (.cells #[.int .i64 6, .int .i64 A, .int .i64 Bb, .slice X n c] 33)).drew.heap.size := hd.fl.bw
  have HD := hid hd
  have HT := hid (And.intro tbA ca)
  have hLz : (L.length : Int) ≤ 1000 := by omega
  have hRl' := hid hRl
  clear h hd hRl ba bd hX hlc tbA ca
  go_enter Try.func9, Try.ntmps9
  go_wp2_with fail
  refine wp_region_held_drew (S := fun v => v.cell? ⟨q, 0, none⟩ = some (.slice lx L.length lc) ∧ v.cell? ⟨w.heap.size, 1, none⟩ = some (.int .i64 A)) (by kernel_rfl) ⟨s0, s1⟩ (fun hHeld => ?_)
  refine wpAnyH_take (i := 0) (v := ?_) rfl (by kernel_rfl) (by kernel_rfl) (by kernel_rfl) (fun _ _ _ h => h) (Or.inl ⟨by rfl, ?_⟩) (by assumption) ?_
  case refine_2 => (intro w hSw; (try dsimp only at hSw); go_simp; (try with_reducible rfl))
  (try simp only [Act.put, List.getElem_toArray, List.getElem_cons_succ, List.getElem_cons_zero, List.setIfInBounds_toArray, List.set_cons_zero, List.set_cons_succ])
  refine wpAnyH_take (i := 1) (v := ?_) rfl (by kernel_rfl) (by kernel_rfl) (by kernel_rfl) (fun _ _ _ h => h) (Or.inl ⟨by rfl, ?_⟩) (by assumption) ?_
  case refine_2 => (intro w hSw; (try dsimp only at hSw); go_simp; (try with_reducible rfl))
  (try simp only [Act.put, List.getElem_toArray, List.getElem_cons_succ, List.getElem_cons_zero, List.setIfInBounds_toArray, List.set_cons_zero, List.set_cons_succ])
  refine wpAnyH_take (i := 2) (v := ?_) rfl (by kernel_rfl) (by kernel_rfl) (by kernel_rfl) (fun _ _ _ h => h) (Or.inl ⟨by rfl, ?_⟩) (by assumption) ?_
  case refine_2 => (intro w hSw; (try dsimp only at hSw); go_simp; (try with_reducible rfl))
  (try simp only [Act.put, List.getElem_toArray, List.getElem_cons_succ, List.getElem_cons_zero, List.setIfInBounds_toArray, List.set_cons_zero, List.set_cons_succ])
  refine wpAnyH_take (i := 3) (v := ?_) rfl (by kernel_rfl) (by kernel_rfl) (by kernel_rfl) (fun _ _ _ h => h) (Or.inl ⟨by rfl, ?_⟩) (by assumption) ?_
  case refine_2 => (intro w hSw; (try dsimp only at hSw); go_simp; (try with_reducible rfl))
  (try simp only [Act.put, List.getElem_toArray, List.getElem_cons_succ, List.getElem_cons_zero, List.setIfInBounds_toArray, List.set_cons_zero, List.set_cons_succ])
  refine wpAnyH_take (i := 4) (v := ?_) rfl (by kernel_rfl) (by kernel_rfl) (by kernel_rfl) (fun _ _ _ h => h) (Or.inl ⟨by rfl, ?_⟩) (by assumption) ?_
  case refine_2 => (intro w hSw; (try dsimp only at hSw); go_simp; (try with_reducible rfl))
  (try simp only [Act.put, List.getElem_toArray, List.getElem_cons_succ, List.getElem_cons_zero, List.setIfInBounds_toArray, List.set_cons_zero, List.set_cons_succ])
  refine wpAnyH_take (i := 5) (v := ?_) rfl (by kernel_rfl) (by kernel_rfl) (by kernel_rfl) (fun _ _ _ h => h) (Or.inl ⟨by rfl, ?_⟩) (by assumption) ?_
  case refine_2 => (intro w hSw; (try dsimp only at hSw); go_simp; (try with_reducible rfl))
  (try simp only [Act.put, List.getElem_toArray, List.getElem_cons_succ, List.getElem_cons_zero, List.setIfInBounds_toArray, List.set_cons_zero, List.set_cons_succ])
  refine wpAnyH_take (i := 6) (v := ?_) rfl (by kernel_rfl) (by kernel_rfl) (by kernel_rfl) (fun _ _ _ h => h) (Or.inl ⟨by rfl, ?_⟩) (by assumption) ?_
  case refine_2 => (intro w hSw; (try dsimp only at hSw); go_simp; (try with_reducible rfl))
  (try simp only [Act.put, List.getElem_toArray, List.getElem_cons_succ, List.getElem_cons_zero, List.setIfInBounds_toArray, List.set_cons_zero, List.set_cons_succ])
  refine wpAnyH_take (i := 7) (v := ?_) rfl (by kernel_rfl) (by kernel_rfl) (by kernel_rfl) (fun _ _ _ h => h) (Or.inl ⟨by rfl, ?_⟩) (by assumption) ?_
  case refine_2 => (intro w hSw; (try dsimp only at hSw); go_simp; (try with_reducible rfl))
  (try simp only [Act.put, List.getElem_toArray, List.getElem_cons_succ, List.getElem_cons_zero, List.setIfInBounds_toArray, List.set_cons_zero, List.set_cons_succ])
  refine wpAnyH_take (i := 8) (v := ?_) rfl (by kernel_rfl) (by kernel_rfl) (by kernel_rfl) (fun _ _ _ h => h) (Or.inl ⟨by rfl, ?_⟩) (by assumption) ?_
  case refine_2 => (intro w hSw; (try dsimp only at hSw); go_simp; (try with_reducible rfl))
  (try simp only [Act.put, List.getElem_toArray, List.getElem_cons_succ, List.getElem_cons_zero, List.setIfInBounds_toArray, List.set_cons_zero, List.set_cons_succ])
  refine wpAnyH_take (i := 9) (v := ?_) rfl (by kernel_rfl) (by kernel_rfl) (by kernel_rfl) (fun _ _ _ h => h) (Or.inl ⟨by rfl, ?_⟩) (by assumption) ?_
  case refine_2 => (intro w hSw; (try dsimp only at hSw); go_simp; (try with_reducible rfl))
  (try simp only [Act.put, List.getElem_toArray, List.getElem_cons_succ, List.getElem_cons_zero, List.setIfInBounds_toArray, List.set_cons_zero, List.set_cons_succ])
  refine wpAnyH_take (i := 10) (v := ?_) rfl (by kernel_rfl) (by kernel_rfl) (by kernel_rfl) (fun _ _ _ h => h) (Or.inl ⟨by rfl, ?_⟩) (by assumption) ?_
  case refine_2 => (intro w hSw; (try dsimp only at hSw); go_simp; (try with_reducible rfl))
  (try simp only [Act.put, List.getElem_toArray, List.getElem_cons_succ, List.getElem_cons_zero, List.setIfInBounds_toArray, List.set_cons_zero, List.set_cons_succ])
  refine wpAnyH_take (i := 11) (v := ?_) rfl (by kernel_rfl) (by kernel_rfl) (by kernel_rfl) (fun _ _ _ h => h) (Or.inl ⟨by rfl, ?_⟩) (by assumption) ?_
  case refine_2 => (intro w hSw; (try dsimp only at hSw); go_simp; (try with_reducible rfl))
  (try simp only [Act.put, List.getElem_toArray, List.getElem_cons_succ, List.getElem_cons_zero, List.setIfInBounds_toArray, List.set_cons_zero, List.set_cons_succ])
  refine wpAnyH_take (i := 12) (v := ?_) rfl (by kernel_rfl) (by kernel_rfl) (by kernel_rfl) (fun _ _ _ h => h) (Or.inl ⟨by rfl, ?_⟩) (by assumption) ?_
  case refine_2 => (intro w hSw; (try dsimp only at hSw); go_simp; (try with_reducible rfl))
  (try simp only [Act.put, List.getElem_toArray, List.getElem_cons_succ, List.getElem_cons_zero, List.setIfInBounds_toArray, List.set_cons_zero, List.set_cons_succ])
  refine wpAnyH_take (i := 13) (v := ?_) rfl (by kernel_rfl) (by kernel_rfl) (by kernel_rfl) (fun _ _ _ h => h) (Or.inl ⟨by rfl, ?_⟩) (by assumption) ?_
  case refine_2 => (intro w hSw; (try dsimp only at hSw); go_simp; (try with_reducible rfl))
  (try simp only [Act.put, List.getElem_toArray, List.getElem_cons_succ, List.getElem_cons_zero, List.setIfInBounds_toArray, List.set_cons_zero, List.set_cons_succ])
  refine wpAnyH_done (by kernel_rfl) ?_ _
  generalize (w.alloc (.cells #[.int .i64 6, .int .i64 A, .int .i64 Bb, .slice X n c] 33)).drew = wD at *
  go_wp2_with fail
  go_loopw [14, 15, 16] (fun s14 s15 s16 wr => ∃ (i r : Nat) (x : Option Addr) (rc : Nat), s16 = .int .i64 i ∧ i ≤ L.length ∧ s15 = .slice x r rc ∧ s14 = .int .i64 ((i : Int) - (r : Int)) ∧ r ≤ i ∧ Hid (r = (((L.map toL).take i).filter (keepL A)).length ∧ Cut wD wr w0.heap.size A (L.map toL) i (.slice x r rc))) (fun _ _ s16 _ => L.length - (intOf s16).toNat)
  case atStart =>
    refine ⟨0, 0, some ⟨wD.heap.size, 0, none⟩, 0, rfl, by omega, rfl, by simp, by omega, by simp, ⟨(Below.refl _ _).alloc (Nat.le_refl _) _, by simpa using Own.empty (α := LM) wD hBD 39 3 encL, fun g hg => ?_⟩⟩
    simp [Value.ownBlock] at hg
    omega
  case round =>
    obtain ⟨i, r, x, rc, rfl, hi, rfl, rfl, hri, HR⟩ := hrel
    have hpr := HD.out.below (w' := wr) (HR.out.2.bel)
    have q0 := hpr.md.c0
    rw [hRl'.out] at q0
    have cr := HT.out.2.keep (HR.out.2.bel.block _ HT.out.1.lt)
    have c1 : wr.cell? ⟨w.heap.size, 1, none⟩ = some (.int .i64 A) := cr 1 _ rfl
    have hiz : (i : Int) ≤ 1000 := by omega
    have hrz : (r : Int) ≤ (i : Int) := by omega
    by_cases hlt : i < L.length
    · have hin : (i : Int) < (L.length : Int) := by omega
      obtain ⟨m, hm⟩ : ∃ m, (L.map toL)[i]? = some m := ⟨(L.map toL)[i]'(by simpa using hlt), List.getElem?_eq_getElem (by simpa using hlt)⟩
      have own := hpr.md.l
      rw [hRl'.out] at own
      obtain ⟨g, hg⟩ : ∃ g, lx = some ⟨g, 0, none⟩ := by
        obtain ⟨g, c', e, _⟩ := own.there (by intro e; rw [e] at hm; simp at hm)
        injection e with e _ _
        exact ⟨g, e⟩
      subst hg
      have k0 := own.cell lrow.len hm (j := 0) (v := .int .i64 m.fr) rfl
      rw [Nat.add_zero] at k0
      have k1 := own.cell lrow.len hm (j := 1) (v := .int .i64 m.to) rfl
      have k2 := own.cell lrow.len hm (j := 2) (v := .string m.s) rfl
      have S1 : wr.drew.cell? ⟨q, 0, none⟩ = some (.slice (some ⟨g, 0, none⟩) L.length lc) ∧ wr.drew.cell? ⟨g, i * 3 + 1, none⟩ = some (.int .i64 m.to) ∧ wr.drew.cell? ⟨w.heap.size, 1, none⟩ = some (.int .i64 A) := ⟨q0, k1, c1⟩
      cases he : (m.to == A) with
      | true =>
        obtain ⟨hC, hC2⟩ := cut_skip HR.out.2 m hm he
        have HN : Hid (r = (((L.map toL).take (i + 1)).filter (keepL A)).length ∧ Cut wD wr.drew w0.heap.size A (L.map toL) (i + 1) (.slice x r rc)) := ⟨by rw [hC2]; exact HR.out.1, hC⟩
        have he2 : decide (m.to = A) = true := by simpa using he
        clear HR hpr cr own hC hC2 HD HT hm
        generalize m.to = mt at *
        generalize m.fr = mf at *
        generalize m.s = ms at *
        go_wp2_with fail
        refine wp_region_held_drew (S := fun v => v.cell? ⟨q, 0, none⟩ = some (.slice (some ⟨g, 0, none⟩) L.length lc) ∧ v.cell? ⟨g, i * 3 + 1, none⟩ = some (.int .i64 mt) ∧ v.cell? ⟨w.heap.size, 1, none⟩ = some (.int .i64 A)) (by kernel_rfl) S1 (fun hHeld => ?_)
        refine wpAnyH_take (i := 0) (v := ?_) rfl (by kernel_rfl) (by kernel_rfl) (by kernel_rfl) (fun _ _ _ h => h) (Or.inl ⟨by rfl, ?_⟩) (by assumption) ?_
        case refine_2 => (intro w hSw; (try dsimp only at hSw); go_simp; (try with_reducible rfl))
        (try simp only [Act.put, List.getElem_toArray, List.getElem_cons_succ, List.getElem_cons_zero, List.setIfInBounds_toArray, List.set_cons_zero, List.set_cons_succ])
        refine wpAnyH_take (i := 1) (v := ?_) rfl (by kernel_rfl) (by kernel_rfl) (by kernel_rfl) (fun _ _ _ h => h) (Or.inl ⟨by rfl, ?_⟩) (by assumption) ?_
        case refine_2 => (intro w hSw; (try dsimp only at hSw); go_simp; (try with_reducible rfl))
        (try simp only [Act.put, List.getElem_toArray, List.getElem_cons_succ, List.getElem_cons_zero, List.setIfInBounds_toArray, List.set_cons_zero, List.set_cons_succ])
        refine wpAnyH_take (i := 2) (v := ?_) rfl (by kernel_rfl) (by kernel_rfl) (by kernel_rfl) (fun _ _ _ h => h) (Or.inl ⟨by rfl, ?_⟩) (by assumption) ?_
        case refine_2 => (intro w hSw; (try dsimp only at hSw); go_simp; (try with_reducible rfl))
        (try simp only [Act.put, List.getElem_toArray, List.getElem_cons_succ, List.getElem_cons_zero, List.setIfInBounds_toArray, List.set_cons_zero, List.set_cons_succ])
        refine wpAnyH_take (i := 3) (v := ?_) rfl (by kernel_rfl) (by kernel_rfl) (by kernel_rfl) (fun _ _ _ h => h) (Or.inl ⟨by rfl, ?_⟩) (by assumption) ?_
        case refine_2 => (intro w hSw; (try dsimp only at hSw); go_simp; (try with_reducible rfl))
        (try simp only [Act.put, List.getElem_toArray, List.getElem_cons_succ, List.getElem_cons_zero, List.setIfInBounds_toArray, List.set_cons_zero, List.set_cons_succ])
        refine wpAnyH_take (i := 4) (v := ?_) rfl (by kernel_rfl) (by kernel_rfl) (by kernel_rfl) (fun _ _ _ h => h) (Or.inl ⟨by rfl, ?_⟩) (by assumption) ?_
        case refine_2 => (intro w hSw; (try dsimp only at hSw); go_simp; (try with_reducible rfl))
        (try simp only [Act.put, List.getElem_toArray, List.getElem_cons_succ, List.getElem_cons_zero, List.setIfInBounds_toArray, List.set_cons_zero, List.set_cons_succ])
        refine wpAnyH_take (i := 5) (v := ?_) rfl (by kernel_rfl) (by kernel_rfl) (by kernel_rfl) (fun _ _ _ h => h) (Or.inl ⟨by rfl, ?_⟩) (by assumption) ?_
        case refine_2 => (intro w hSw; (try dsimp only at hSw); go_simp; (try with_reducible rfl))
        (try simp only [Act.put, List.getElem_toArray, List.getElem_cons_succ, List.getElem_cons_zero, List.setIfInBounds_toArray, List.set_cons_zero, List.set_cons_succ])
        refine wpAnyH_take (i := 6) (v := ?_) rfl (by kernel_rfl) (by kernel_rfl) (by kernel_rfl) (fun _ _ _ h => h) (Or.inl ⟨by rfl, ?_⟩) (by assumption) ?_
        case refine_2 => (intro w hSw; (try dsimp only at hSw); go_simp; (try with_reducible rfl))
        (try simp only [Act.put, List.getElem_toArray, List.getElem_cons_succ, List.getElem_cons_zero, List.setIfInBounds_toArray, List.set_cons_zero, List.set_cons_succ])
        refine wpAnyH_take (i := 7) (v := ?_) rfl (by kernel_rfl) (by kernel_rfl) (by kernel_rfl) (fun _ _ _ h => h) (Or.inl ⟨by rfl, ?_⟩) (by assumption) ?_
        case refine_2 => (intro w hSw; (try dsimp only at hSw); go_simp; (try with_reducible rfl))
        (try simp only [Act.put, List.getElem_toArray, List.getElem_cons_succ, List.getElem_cons_zero, List.setIfInBounds_toArray, List.set_cons_zero, List.set_cons_succ])
        refine wpAnyH_take (i := 8) (v := ?_) rfl (by kernel_rfl) (by kernel_rfl) (by kernel_rfl) (fun _ _ _ h => h) (Or.inl ⟨by rfl, ?_⟩) (by assumption) ?_
        case refine_2 => (intro w hSw; (try dsimp only at hSw); go_simp; (try with_reducible rfl))
        (try simp only [Act.put, List.getElem_toArray, List.getElem_cons_succ, List.getElem_cons_zero, List.setIfInBounds_toArray, List.set_cons_zero, List.set_cons_succ])
        refine wpAnyH_take (i := 9) (v := ?_) rfl (by kernel_rfl) (by kernel_rfl) (by kernel_rfl) (fun _ _ _ h => h) (Or.inl ⟨by rfl, ?_⟩) (by assumption) ?_
        case refine_2 => (intro w hSw; (try dsimp only at hSw); go_simp; (try with_reducible rfl))
        (try simp only [Act.put, List.getElem_toArray, List.getElem_cons_succ, List.getElem_cons_zero, List.setIfInBounds_toArray, List.set_cons_zero, List.set_cons_succ])
        refine wpAnyH_take (i := 10) (v := ?_) rfl (by kernel_rfl) (by kernel_rfl) (by kernel_rfl) (fun _ _ _ h => h) (Or.inl ⟨by rfl, ?_⟩) (by assumption) ?_
        case refine_2 => (intro w hSw; (try dsimp only at hSw); go_simp; (try with_reducible rfl))
        (try simp only [Act.put, List.getElem_toArray, List.getElem_cons_succ, List.getElem_cons_zero, List.setIfInBounds_toArray, List.set_cons_zero, List.set_cons_succ])
        refine wpAnyH_done (by kernel_rfl) ?_ _
        go_wp2_with fail
        refine ⟨?rel, ?measure⟩
        case rel => first
          | exact ⟨i + 1, r, x, rc, by go_num, by omega, rfl, by go_num, by omega, HN.out⟩
          | exact ⟨_, _, _, ⟨i + 1, r, x, rc, by go_num, by omega, rfl, by go_num, by omega, HN.out⟩, rfl⟩
        case measure => simp [intOf]; omega
      | false =>
        have hw : Below wr.heap.size wr wr.drew := (Below.refl _ _).drew
        obtain ⟨hC2, x', c', w3, hap, HC⟩ := cut_keep hBD HR.out.2 hw (by simp; omega) m hm he
        rw [← HR.out.1] at hap HC hC2
        have HN : Hid (r + 1 = (((L.map toL).take (i + 1)).filter (keepL A)).length ∧ Cut wD w3 w0.heap.size A (L.map toL) (i + 1) (.slice x' (r + 1) c')) := ⟨hC2.symm, HC.out⟩
        have d0 : wr.drew.cell? ⟨g, i * 3, none⟩ = some (.int .i64 m.fr) := k0
        have d2 : wr.drew.cell? ⟨g, i * 3 + 2, none⟩ = some (.string m.s) := k2
        have he2 : decide (m.to = A) = false := by simpa using he
        clear HR hpr cr own HC hC2 HD HT hm hw
        generalize m.to = mt at *
        generalize m.fr = mf at *
        generalize m.s = ms at *
        go_wp2_with fail
        refine wp_region_held_drew (S := fun v => v.cell? ⟨q, 0, none⟩ = some (.slice (some ⟨g, 0, none⟩) L.length lc) ∧ v.cell? ⟨g, i * 3 + 1, none⟩ = some (.int .i64 mt) ∧ v.cell? ⟨w.heap.size, 1, none⟩ = some (.int .i64 A)) (by kernel_rfl) S1 (fun hHeld => ?_)
        refine wpAnyH_take (i := 0) (v := ?_) rfl (by kernel_rfl) (by kernel_rfl) (by kernel_rfl) (fun _ _ _ h => h) (Or.inl ⟨by rfl, ?_⟩) (by assumption) ?_
        case refine_2 => (intro w hSw; (try dsimp only at hSw); go_simp; (try with_reducible rfl))
        (try simp only [Act.put, List.getElem_toArray, List.getElem_cons_succ, List.getElem_cons_zero, List.setIfInBounds_toArray, List.set_cons_zero, List.set_cons_succ])
        refine wpAnyH_take (i := 1) (v := ?_) rfl (by kernel_rfl) (by kernel_rfl) (by kernel_rfl) (fun _ _ _ h => h) (Or.inl ⟨by rfl, ?_⟩) (by assumption) ?_
        case refine_2 => (intro w hSw; (try dsimp only at hSw); go_simp; (try with_reducible rfl))
        (try simp only [Act.put, List.getElem_toArray, List.getElem_cons_succ, List.getElem_cons_zero, List.setIfInBounds_toArray, List.set_cons_zero, List.set_cons_succ])
        refine wpAnyH_take (i := 2) (v := ?_) rfl (by kernel_rfl) (by kernel_rfl) (by kernel_rfl) (fun _ _ _ h => h) (Or.inl ⟨by rfl, ?_⟩) (by assumption) ?_
        case refine_2 => (intro w hSw; (try dsimp only at hSw); go_simp; (try with_reducible rfl))
        (try simp only [Act.put, List.getElem_toArray, List.getElem_cons_succ, List.getElem_cons_zero, List.setIfInBounds_toArray, List.set_cons_zero, List.set_cons_succ])
        refine wpAnyH_take (i := 3) (v := ?_) rfl (by kernel_rfl) (by kernel_rfl) (by kernel_rfl) (fun _ _ _ h => h) (Or.inl ⟨by rfl, ?_⟩) (by assumption) ?_
        case refine_2 => (intro w hSw; (try dsimp only at hSw); go_simp; (try with_reducible rfl))
        (try simp only [Act.put, List.getElem_toArray, List.getElem_cons_succ, List.getElem_cons_zero, List.setIfInBounds_toArray, List.set_cons_zero, List.set_cons_succ])
        refine wpAnyH_take (i := 4) (v := ?_) rfl (by kernel_rfl) (by kernel_rfl) (by kernel_rfl) (fun _ _ _ h => h) (Or.inl ⟨by rfl, ?_⟩) (by assumption) ?_
        case refine_2 => (intro w hSw; (try dsimp only at hSw); go_simp; (try with_reducible rfl))
        (try simp only [Act.put, List.getElem_toArray, List.getElem_cons_succ, List.getElem_cons_zero, List.setIfInBounds_toArray, List.set_cons_zero, List.set_cons_succ])
        refine wpAnyH_take (i := 5) (v := ?_) rfl (by kernel_rfl) (by kernel_rfl) (by kernel_rfl) (fun _ _ _ h => h) (Or.inl ⟨by rfl, ?_⟩) (by assumption) ?_
        case refine_2 => (intro w hSw; (try dsimp only at hSw); go_simp; (try with_reducible rfl))
        (try simp only [Act.put, List.getElem_toArray, List.getElem_cons_succ, List.getElem_cons_zero, List.setIfInBounds_toArray, List.set_cons_zero, List.set_cons_succ])
        refine wpAnyH_take (i := 6) (v := ?_) rfl (by kernel_rfl) (by kernel_rfl) (by kernel_rfl) (fun _ _ _ h => h) (Or.inl ⟨by rfl, ?_⟩) (by assumption) ?_
        case refine_2 => (intro w hSw; (try dsimp only at hSw); go_simp; (try with_reducible rfl))
        (try simp only [Act.put, List.getElem_toArray, List.getElem_cons_succ, List.getElem_cons_zero, List.setIfInBounds_toArray, List.set_cons_zero, List.set_cons_succ])
        refine wpAnyH_take (i := 7) (v := ?_) rfl (by kernel_rfl) (by kernel_rfl) (by kernel_rfl) (fun _ _ _ h => h) (Or.inl ⟨by rfl, ?_⟩) (by assumption) ?_
        case refine_2 => (intro w hSw; (try dsimp only at hSw); go_simp; (try with_reducible rfl))
        (try simp only [Act.put, List.getElem_toArray, List.getElem_cons_succ, List.getElem_cons_zero, List.setIfInBounds_toArray, List.set_cons_zero, List.set_cons_succ])
        refine wpAnyH_take (i := 8) (v := ?_) rfl (by kernel_rfl) (by kernel_rfl) (by kernel_rfl) (fun _ _ _ h => h) (Or.inl ⟨by rfl, ?_⟩) (by assumption) ?_
        case refine_2 => (intro w hSw; (try dsimp only at hSw); go_simp; (try with_reducible rfl))
        (try simp only [Act.put, List.getElem_toArray, List.getElem_cons_succ, List.getElem_cons_zero, List.setIfInBounds_toArray, List.set_cons_zero, List.set_cons_succ])
        refine wpAnyH_take (i := 9) (v := ?_) rfl (by kernel_rfl) (by kernel_rfl) (by kernel_rfl) (fun _ _ _ h => h) (Or.inl ⟨by rfl, ?_⟩) (by assumption) ?_
        case refine_2 => (intro w hSw; (try dsimp only at hSw); go_simp; (try with_reducible rfl))
        (try simp only [Act.put, List.getElem_toArray, List.getElem_cons_succ, List.getElem_cons_zero, List.setIfInBounds_toArray, List.set_cons_zero, List.set_cons_succ])
        refine wpAnyH_take (i := 10) (v := ?_) rfl (by kernel_rfl) (by kernel_rfl) (by kernel_rfl) (fun _ _ _ h => h) (Or.inl ⟨by rfl, ?_⟩) (by assumption) ?_
        case refine_2 => (intro w hSw; (try dsimp only at hSw); go_simp; (try with_reducible rfl))
        (try simp only [Act.put, List.getElem_toArray, List.getElem_cons_succ, List.getElem_cons_zero, List.setIfInBounds_toArray, List.set_cons_zero, List.set_cons_succ])
        refine wpAnyH_done (by kernel_rfl) ?_ _
        obtain ⟨z0, z1, z2⟩ := S1
        clear q0 k0 k1 k2 c1 hHeld
        generalize wr.drew = wE at *
        go_wp2_with (at_builtin; refine wpList_append_run rfl _ _ 26 rfl _ _ rfl rfl hap ?_; clear hap)
        refine ⟨?rel, ?measure⟩
        case rel => first
          | exact ⟨i + 1, r + 1, x', c', by go_num, by omega, rfl, by go_num, by omega, HN.out⟩
          | exact ⟨_, _, _, ⟨i + 1, r + 1, x', c', by go_num, by omega, rfl, by go_num, by omega, HN.out⟩, rfl⟩
        case measure => simp [intOf]; omega
    · obtain rfl : i = L.length := by omega
      have hT : Turns (fun k => Rl.ownBlock = some k) wD wr := ⟨HR.out.2.bel.os, HR.out.2.bel.tape, HR.out.2.bel.output, HR.out.2.bel.size, fun k hk _ => HR.out.2.bel.block k hk⟩
      obtain ⟨z1, z2, z3, z4⟩ := HD.out.md.setL hT HR.out.2.own
      obtain ⟨b4, f4⟩ := HD.out.lists z3
      have c4 := HT.out.2.keep (z3.block _ HT.out.1.lt (act_kept HT.out.1 HD.out).2)
      have r1 : (wr.setCell ⟨q, 0, none⟩ (.slice x r rc)).cell? ⟨w.heap.size, 1, none⟩ = some (.int .i64 A) := c4 1 _ rfl
      have hr : r = (left A L).length := by
        have := HR.out.1
        rw [List.take_of_length_le (by simp), left_map, List.length_map] at this
        exact this
      rw [List.take_of_length_le (by simp), left_map] at z4
      have hC : Calls Try.prog 21 #[.pointer (some ⟨p, 0, none⟩), .int .i64 A] (wr.setCell ⟨q, 0, none⟩ (.slice x r rc)) fun e w5 => e = .returned (.int .i64 ((L.length : Int) - (r : Int))) ∧ Hid (Both w0 w5 p q (k + 1)) := by
        refine (clear_any f4 A (by omega)).mono fun e w5 ⟨e5, H5⟩ => ⟨by rw [hr]; exact e5, ?_⟩
        obtain ⟨R5, f5, t5⟩ := H5.out
        exact ⟨mb, nb, D, R5, _, Rp, left A L, PP, b4.trans (f4.out t5 f4.bw), f5, z4.apart t5 (fun k hk => (f4.foot k hk).2), by rw [← hr]; omega, Nat.le_succ_of_le HD.out.hp, Nat.le_succ_of_le HD.out.hn⟩
      clear HR hpr cr HD HT hT z3 z4 b4 f4 c4 hr z1
      go_wp2_with (go_at_call 21; refine hC.mono ?_; rintro e w5 ⟨rfl, HN⟩; clear hC)
      go_ret
      exact ⟨by first | rfl | simp, HN.out⟩

end

end Go.Proofs.Ytmekbbddfmmbeaa.Fl

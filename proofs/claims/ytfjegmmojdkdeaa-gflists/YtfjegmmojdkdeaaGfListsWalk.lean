/-
  What 'mooringlaw01.GfLists' does: it answers true, and writes nothing that was there.
  Conditions: a slice that is not empty lies in memory, and takes at most what any slice takes.
-/
import Derived.Test.YtfjegmmojdkdeaaGfSame
import Derived.Laws.AppendOwnNone
namespace Go.Proofs.Ytfjegmmojdkdeaa
open Go.RowKit Gf

/- '[]byte{}', laid. -/
theorem own_empty (w : World) : (w.alloc (.cells #[] 5)).ownsRow w.heap.size 5 1 (.slice (some ⟨w.heap.size, 0, none⟩) 0 0) 0 [] := by
  refine ⟨rfl, .inr ⟨w.heap.size, 0, #[], rfl, Nat.le_refl _, heap_alloc_new _ _, Nat.le_refl _, Nat.zero_le _, rfl, rfl⟩⟩

def cellsOf (f : Nat → Nat) (n : Nat) : List Value := (nums f n).map (Value.int .u8)

theorem cellsOf_get (f : Nat → Nat) (n j : Nat) (u : Value) (h : (cellsOf f n)[j]? = some u) : j < n ∧ u = .int .u8 (f j : Int) := by
  have hj : j < n := by
    have := (List.getElem?_eq_some_iff.1 h).1
    rw [show (cellsOf f n).length = n by simp [cellsOf, nums]] at this
    exact this
  refine ⟨hj, ?_⟩
  rw [show (cellsOf f n)[j]? = some (.int .u8 (f j : Int)) by simp [cellsOf, nums, hj]] at h
  exact (Option.some.inj h).symm

theorem cellsOf_length (f : Nat → Nat) (n : Nat) : (cellsOf f n).length = n * 1 := by simp [cellsOf, nums]

theorem cellsOf_one (f : Nat → Nat) (n : Nat) : ∀ u ∈ cellsOf f n, u.oneCell' = true := by
  intro u hu
  simp [cellsOf] at hu
  obtain ⟨a, _, rfl⟩ := hu
  rfl

/- What was appended lies there. -/
theorem news_at (w : World) (a : Addr) (n : Nat) (f : Nat → Nat) (h : RowAt w (some a) n f) :
    ∀ j u, (cellsOf f n)[j]? = some u → (w.alloc (.cells #[] 5)).cell? (a.add j) = some u := by
  intro j u hj
  obtain ⟨h1, rfl⟩ := cellsOf_get f n j u hj
  rcases h with h | ⟨b, o, h2, h3, h4⟩
  · omega
  · simp only [Option.some.injEq] at h2
    subst h2
    have := h4 j h1
    rw [show (⟨b, o, none⟩ : Addr).add j = ⟨b, o + j, none⟩ by simp [Addr.add]]
    exact ((Below.refl w.heap.size w).alloc (Nat.le_refl _) _ |>.cell (by exact h3)).trans this

/- The copy of a list, as the call's own. -/
theorem own_row {w w1 : World} {v : Value} {n : Nat} {f : Nat → Nat} (h : w1.ownsRow w.heap.size 5 1 v n (cellsOf f n)) (hv : ¬ v = .slice none 0 0) :
    ∃ g cap, v = .slice (some ⟨g, 0, none⟩) n cap ∧ RowAt w1 (some ⟨g, 0, none⟩) n f := by
  rcases h.2 with ⟨h', _⟩ | ⟨g, cap, cur, h', _, hg, _⟩
  · exact absurd h' hv
  · refine ⟨g, cap, h', .inr ⟨g, 0, rfl, (Array.getElem?_eq_some_iff.1 hg).1, ?_⟩⟩
    intro i hi
    subst h'
    rw [Nat.zero_add, h.cellAt i (by omega)]
    simp [cellsOf, nums, hi]

/- Lists that are not equally long. -/
set_option maxHeartbeats 1000000 in
set_option maxRecDepth 100000 in
theorem lists_ne (x y : Option Addr) (n m c1 c2 c : Nat) (f : Nat → Nat) (w : World) (hnm : n ≠ m) (hn : n ≤ 140737488351232) (hx : RowAt w x n f) (h0 : x = none → c1 = 0) :
    Calls Try.prog 5 #[.slice x n c1, .slice y m c2, .int .u8 c] w fun e w' => e = .returned (.bool true) ∧ Below w.heap.size w w' := by
  obtain ⟨i0, hi, hz0, hz1, hz2⟩ := info_parts info_byte
  have hoe := own_empty w
  cases x with
  | none =>
    have hn0 : n = 0 := by rcases hx with h | ⟨b, o, h, _⟩; exact h; cases h
    have hc0 := h0 rfl
    subst hn0 hc0
    clear h0 hx
    have hs : ∀ W : World, RowAt W (some ⟨w.heap.size, 0, none⟩) 0 f := fun _ => .inl rfl
    have hs' : ∀ W : World, RowAt W none 0 f := fun _ => .inl rfl
    go_enter Try.func5, Try.ntmps5
    go_wp2_with (first
      | (at_builtin; refine wpList_append_own_none rfl _ _ 33 rfl w.heap.size 5 i0 1 Try.underlying33 hi _ _ _ rfl hoe rfl ?_)
      | (go_at_call 21; refine (dot_ne _ _ _ _ _ _ _ hnm).mono ?_; rintro e w' ⟨rfl, rfl⟩)
      | (go_at_call 22; refine (rdot_ne _ _ _ _ _ _ _ hnm).mono ?_; rintro e w' ⟨rfl, rfl⟩)
      | (go_at_call 23; refine (addmul_ne _ _ _ _ _ _ _ _ hnm).mono ?_; rintro e w' ⟨rfl, rfl⟩)
      | (go_at_call 24; refine (same_any _ _ _ _ _ f _ (hs _) (hs' _)).mono ?_; rintro e w' ⟨rfl, rfl⟩)
      | (go_at_call 14; refine (awake_any _).mono ?_; rintro e w' ⟨rfl, rfl⟩))
    go_ret
    exact ⟨rfl, (Below.refl _ _).alloc (Nat.le_refl _) _⟩
  | some a =>
    have hne := news_at w a n f hx
    have hcl := cellsOf_length f n
    have hco := cellsOf_one f n
    clear h0
    go_enter Try.func5, Try.ntmps5
    go_wp2_with (at_builtin; refine wpList_append_own _ rfl _ _ 33 rfl w.heap.size 5 i0 (.int .u8 0) 1 1 Try.underlying33 hi hz0 hz1 hz2 rfl (by decide) _ _ _ rfl hoe a n c1 (cellsOf f n) rfl hcl hne hco (by unfold maxLen; omega) (by omega) (by simp) ?_; intro v1 w1 hown1 hgrow1 hnil1)
    have hnn : ¬ v1 = .slice none 0 0 := fun h => by have := (hnil1.1 h).1; cases this
    obtain ⟨g, cap, hv, hrow⟩ := own_row (w := w) (by simpa using hown1) hnn
    have hbel : Below w.heap.size w w1 := ((Below.refl w.heap.size w).alloc (Nat.le_refl _) _).grown hgrow1 (by simp) (fun k h => Nat.le_of_eq (Option.some.inj h))
    have hx1 := hx.below hbel
    subst hv
    clear hown1 hgrow1 hnil1 hnn hoe hne hcl hco hx hi hz0 hz1 hz2
    have HB : Hid (Below w.heap.size w w1) := hbel
    clear hbel
    go_wp2_with (first
      | (go_at_call 21; refine (dot_ne _ _ _ _ _ _ _ hnm).mono ?_; rintro e w' ⟨rfl, rfl⟩)
      | (go_at_call 22; refine (rdot_ne _ _ _ _ _ _ _ hnm).mono ?_; rintro e w' ⟨rfl, rfl⟩)
      | (go_at_call 23; refine (addmul_ne _ _ _ _ _ _ _ _ hnm).mono ?_; rintro e w' ⟨rfl, rfl⟩)
      | (go_at_call 24; refine (same_any _ _ _ _ _ f _ hrow hx1).mono ?_; rintro e w' ⟨rfl, rfl⟩)
      | (go_at_call 14; refine (awake_any _).mono ?_; rintro e w' ⟨rfl, rfl⟩))
    go_ret
    exact ⟨rfl, HB.out⟩

/- Two empty lists. -/
set_option maxHeartbeats 1000000 in
set_option maxRecDepth 100000 in
theorem lists_zero (x y : Option Addr) (c1 c2 c : Nat) (w : World) (h0 : x = none → c1 = 0) :
    Calls Try.prog 5 #[.slice x 0 c1, .slice y 0 c2, .int .u8 c] w fun e w' => e = .returned (.bool true) ∧ Below w.heap.size w w' := by
  obtain ⟨i0, hi, hz0, hz1, hz2⟩ := info_parts info_byte
  have hoe := own_empty w
  have hs : ∀ (W : World) (z : Option Addr), RowAt W z 0 (fun _ => 0) := fun _ _ => .inl rfl
  cases x with
  | none =>
    have hc0 := h0 rfl
    subst hc0
    clear h0
    go_enter Try.func5, Try.ntmps5
    go_wp2_with (first
      | (at_builtin; refine wpList_append_own_none rfl _ _ 33 rfl w.heap.size 5 i0 1 Try.underlying33 hi _ _ _ rfl hoe rfl ?_)
      | (go_at_call 21; refine (dot_zero _ _ _ _ _).mono ?_; rintro e w' ⟨rfl, rfl⟩)
      | (go_at_call 22; refine (rdot_zero _ _ _ _ _).mono ?_; rintro e w' ⟨rfl, rfl⟩)
      | (go_at_call 23; refine (addmul_zero _ _ _ _ _ _).mono ?_; rintro e w3 ⟨rfl, hb3, _⟩)
      | (go_at_call 24; refine (same_any _ _ _ _ _ (fun _ => 0) _ (hs _ _) (hs _ _)).mono ?_; rintro e w' ⟨rfl, rfl⟩))
    refine wp_loop_rounds 1 ?_
    rw [rounds_succ]
    go_wp2_with (go_at_call 14; refine (awake_any _).mono ?_; rintro e w' ⟨rfl, rfl⟩)
    go_ret
    exact ⟨rfl, ((Below.refl w.heap.size w).alloc (Nat.le_refl _) _).trans (hb3.mono (by simp))⟩
  | some a =>
    have hne := news_at w a 0 (fun _ => 0) (.inl rfl)
    have hcl := cellsOf_length (fun _ => 0) 0
    have hco := cellsOf_one (fun _ => 0) 0
    clear h0
    go_enter Try.func5, Try.ntmps5
    go_wp2_with (at_builtin; refine wpList_append_own _ rfl _ _ 33 rfl w.heap.size 5 i0 (.int .u8 0) 1 1 Try.underlying33 hi hz0 hz1 hz2 rfl (by decide) _ _ _ rfl hoe a 0 c1 (cellsOf (fun _ => 0) 0) rfl hcl hne hco (by unfold maxLen; omega) (by omega) (by simp) ?_; intro v1 w1 hown1 hgrow1 hnil1)
    have hnn : ¬ v1 = .slice none 0 0 := fun h => by have := (hnil1.1 h).1; cases this
    obtain ⟨g, cap, hv, _⟩ := own_row (w := w) (by simpa using hown1) hnn
    have hbel : Below w.heap.size w w1 := ((Below.refl w.heap.size w).alloc (Nat.le_refl _) _).grown hgrow1 (by simp) (fun k h => Nat.le_of_eq (Option.some.inj h))
    subst hv
    clear hown1 hgrow1 hnil1 hnn hoe hne hcl hco hi hz0 hz1 hz2
    have HB : Hid (Below w.heap.size w w1) := hbel
    clear hbel
    go_wp2_with (first
      | (go_at_call 21; refine (dot_zero _ _ _ _ _).mono ?_; rintro e w' ⟨rfl, rfl⟩)
      | (go_at_call 22; refine (rdot_zero _ _ _ _ _).mono ?_; rintro e w' ⟨rfl, rfl⟩)
      | (go_at_call 23; refine (addmul_zero _ _ _ _ _ _).mono ?_; rintro e w3 ⟨rfl, hb3, _⟩)
      | (go_at_call 24; refine (same_any _ _ _ _ _ (fun _ => 0) _ (hs _ _) (hs _ _)).mono ?_; rintro e w' ⟨rfl, rfl⟩))
    refine wp_loop_rounds 1 ?_
    rw [rounds_succ]
    go_wp2_with (go_at_call 14; refine (awake_any _).mono ?_; rintro e w' ⟨rfl, rfl⟩)
    go_ret
    exact ⟨rfl, HB.out.trans (hb3.mono HB.out.size)⟩

/- Lists that are equally long, not empty. -/
set_option maxHeartbeats 1000000 in
set_option maxRecDepth 100000 in
theorem lists_pos (b1 o1 b2 o2 n c1 c2 c : Nat) (f g : Nat → Nat) (w : World) (hc : c < 256) (hf : ∀ i, f i < 256) (hg : ∀ i, g i < 256) (hn : n ≤ 140737488351232) (hb1 : b1 < w.heap.size) (hb2 : b2 < w.heap.size)
    (hx : ∀ i, i < n → w.cell? ⟨b1, o1 + i, none⟩ = some (.int .u8 (f i : Int))) (hy : ∀ i, i < n → w.cell? ⟨b2, o2 + i, none⟩ = some (.int .u8 (g i : Int))) :
    Calls Try.prog 5 #[.slice (some ⟨b1, o1, none⟩) n c1, .slice (some ⟨b2, o2, none⟩) n c2, .int .u8 c] w fun e w' => e = .returned (.bool true) ∧ Below w.heap.size w w' := by
  obtain ⟨i0, hi, hz0, hz1, hz2⟩ := info_parts info_byte
  have hoe := own_empty w
  have rx : RowAt w (some ⟨b1, o1, none⟩) n f := .inr ⟨b1, o1, rfl, hb1, hx⟩
  have ry : RowAt w (some ⟨b2, o2, none⟩) n g := .inr ⟨b2, o2, rfl, hb2, hy⟩
  have hne := news_at w _ n f rx
  have hcl := cellsOf_length f n
  have hco := cellsOf_one f n
  have hn9 : n ≤ 9223372036854775807 := by omega
  go_enter Try.func5, Try.ntmps5
  go_wp2_with (at_builtin; refine wpList_append_own _ rfl _ _ 33 rfl w.heap.size 5 i0 (.int .u8 0) 1 1 Try.underlying33 hi hz0 hz1 hz2 rfl (by decide) _ _ _ rfl hoe ⟨b1, o1, none⟩ n c1 (cellsOf f n) rfl hcl hne hco (by unfold maxLen; omega) (by omega) (by simp) ?_; intro v1 w1 hown1 hgrow1 hnil1)
  have hnn : ¬ v1 = .slice none 0 0 := fun h => by have := (hnil1.1 h).1; cases this
  obtain ⟨gg, cap, hv, ro⟩ := own_row (w := w) (by simpa using hown1) hnn
  have hbel : Below w.heap.size w w1 := ((Below.refl w.heap.size w).alloc (Nat.le_refl _) _).grown hgrow1 (by simp) (fun k h => Nat.le_of_eq (Option.some.inj h))
  have rx1 := rx.below hbel
  have ry1 := ry.below hbel
  subst hv
  have HB : Hid (Below w.heap.size w w1 ∧ (∀ i, i < n → w.cell? ⟨b1, o1 + i, none⟩ = some (.int .u8 (f i : Int))) ∧ (∀ i, i < n → w.cell? ⟨b2, o2 + i, none⟩ = some (.int .u8 (g i : Int))) ∧ b1 < w.heap.size ∧ b2 < w.heap.size) := ⟨hbel, hx, hy, hb1, hb2⟩
  clear hown1 hgrow1 hnil1 hnn hoe hne hcl hco hi hz0 hz1 hz2 hbel rx ry hx hy
  go_wp2_with (first
    | (go_at_call 21; refine (dot_eq _ _ _ _ _ f g _ hf hg hn9 rx1 ry1).mono ?_; rintro e w' ⟨rfl, m1, rfl⟩)
    | (go_at_call 22; refine (rdot_eq _ _ _ _ _ f g _ hf hg hn9 (RowAt.drewN rx1) (RowAt.drewN ry1)).mono ?_; rintro e w' ⟨rfl, m2, rfl⟩)
    | (go_at_call 23; refine (addmul_eq _ _ _ _ _ c f g _ hc hf hg hn (RowAt.drewN ro) (RowAt.drewN ry1)).mono ?_; rintro e w3 ⟨rfl, hb3, hz3, hc3⟩)
    | (go_at_call 24; refine (same_any _ _ _ _ _ f _ (RowAt.below (RowAt.drewN ro) hb3) (RowAt.below (RowAt.drewN rx1) hb3)).mono ?_; rintro e w' ⟨rfl, rfl⟩))
  have HC : Hid ((∀ i, i < n → w'.cell? ⟨w1.heap.size, i, none⟩ = some (.int .u8 ((f i ^^^ rmul (g i) c : Nat) : Int))) ∧ (∀ i, i < n → w'.cell? ⟨b1, o1 + i, none⟩ = some (.int .u8 (f i : Int))) ∧ (∀ i, i < n → w'.cell? ⟨b2, o2 + i, none⟩ = some (.int .u8 (g i : Int))) ∧ Below w.heap.size w w') := by
    obtain ⟨hbel, hx, hy, hb1, hb2⟩ := HB.out
    have hb4 : Below w.heap.size w w' := (below_drewN hbel (m1 + m2)).trans (hb3.mono hbel.size)
    refine ⟨fun i hi => ?_, fun i hi => (hb4.cell (by exact hb1)).trans (hx i hi), fun i hi => (hb4.cell (by exact hb2)).trans (hy i hi), hb4⟩
    have := hc3 i hi
    rw [tmul_comm c (g i), tmul_rmul _ _ (hg i) hc] at this
    exact this
  clear HB hb3 hz3 hc3 rx1 ry1 ro
  go_loopw [14] (fun i wr => ∃ k : Nat, k ≤ n ∧ i = .int .i64 k ∧ Hid (∃ m, wr = w'.drewN m)) (fun i _ => n - (intOf i).toNat)
  case atStart => exact ⟨0, by omega, rfl, ⟨0, rfl⟩⟩
  case round =>
    obtain ⟨k, hk, rfl, HW⟩ := hrel
    by_cases hlt : k < n
    · have hl1 : wr.cell? ⟨w1.heap.size, k, none⟩ = some (.int .u8 ((f k ^^^ rmul (g k) c : Nat) : Int)) := by obtain ⟨m, hm⟩ := HW.out; rw [hm]; exact HC.out.1 k hlt
      have hx1 : wr.cell? ⟨b1, o1 + k, none⟩ = some (.int .u8 (f k : Int)) := by obtain ⟨m, hm⟩ := HW.out; rw [hm]; exact HC.out.2.1 k hlt
      have hy1 : wr.cell? ⟨b2, o2 + k, none⟩ = some (.int .u8 (g k : Int)) := by obtain ⟨m, hm⟩ := HW.out; rw [hm]; exact HC.out.2.2.1 k hlt
      have hgk := hg k
      have hxo := u8_xor_nat _ _ (hf k) (rmul_lt _ c hgk)
      have hgd : ((n : Int) != (n : Int)) = false := by simp
      clear hf hg
      go_wp2_with fail
      go_quiet ((go_at_call 13; exact Calls.quiet_of_same (rmul_any _ _ _ hgk hc)))
      go_wp2_with fail
      go_roundw
      case rel => exact ⟨k + 1, by omega, by go_num, drewN_more HW.out⟩
      case measure => simp [intOf]; omega
    · clear hf hg
      go_wp2_with (go_at_call 14; refine (awake_any _).mono ?_; rintro e w' ⟨rfl, rfl⟩)
      go_ret
      refine ⟨rfl, ?_⟩
      obtain ⟨m, hm⟩ := HW.out
      rw [hm]
      exact below_drewN HC.out.2.2.2 m

end Go.Proofs.Ytfjegmmojdkdeaa

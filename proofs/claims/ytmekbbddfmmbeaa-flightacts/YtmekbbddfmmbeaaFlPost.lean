/-
  What a flight's own calls do: Post, Twice.
  Conditions: the flight is one that New gave ('FlAt').
-/
import Derived.Test.YtmekbbddfmmbeaaFlCalls2
namespace Go.Proofs.Ytmekbbddfmmbeaa.Fl
open Go.RowKit By
set_option linter.unusedVariables false
set_option linter.unusedSimpArgs false
set_option maxRecDepth 100000

section
variable {w w3 : World} {B p mb nb : Nat} {D : DataW Value} {R R' : Value} {L L' : List MV} {S : Int → Int → Bool}

theorem FlAt.pne (h : FlAt w B p mb nb D R L S) : R.ownBlock ≠ some p := fun e => by
  have := (h.own.tb e).2.same h.obj.tb
  revert this
  decide

theorem FlAt.mne (h : FlAt w B p mb nb D R L S) : R.ownBlock ≠ some mb := fun e => (h.own.tb e).2.not_map (map_lt h.map).2

theorem FlAt.pm (h : FlAt w B p mb nb D R L S) : p ≠ mb := fun e => by
  subst e
  exact h.obj.tb.not_map (map_lt h.map).2

theorem FlAt.dat_turn (h : FlAt w B p mb nb D R L S) (T : Turns (fun k => R.ownBlock = some k) w w3) : ∀ m ∈ L, MOk w3 m := fun m hm => (h.dat m hm).turns T fun a ha e => by
  have := (h.own.tb e).2.same ((h.dat m hm).tb a ha)
  revert this
  decide

theorem new_cells (v : World) (t : TypeId) (m : MV) : ∀ j u, (flat encM [m])[j]? = some u → (v.alloc (.cells #[.int .i64 m.fr, .int .i64 m.to, .slice m.x m.n m.c] t)).cell? ((⟨v.heap.size, 0, none⟩ : Addr).add j) = some u := fun j u hj => by
  rw [add_at, Nat.zero_add]
  rw [flat_one] at hj
  match j, hj with
  | 0, hj => simpa [encM] using hj
  | 1, hj => simpa [encM] using hj
  | 2, hj => simpa [encM] using hj
  | j + 3, hj => simp [encM] at hj

/- The row is another now, and the flight's own block says so. -/
theorem FlAt.setR (h : FlAt w B p mb nb D R L S) (T : Turns (fun k => R.ownBlock = some k) w w3) (ho : Own w3 B 62 3 encM R' L') (hd : ∀ m ∈ L', MOk w3 m) :
    w3.cell? ⟨p, 0, none⟩ = some R ∧ w3.frozen? ⟨p, 0, none⟩ = false ∧ Turns (fp p mb R) w (w3.setCell ⟨p, 0, none⟩ R') ∧ FlAt (w3.setCell ⟨p, 0, none⟩ R') B p mb nb D R' L' S := by
  have b3 := T.blk h.obj h.pne
  have t0 : Turns (fun k => k = p) w3 (w3.setCell ⟨p, 0, none⟩ R') := (Turns.refl (fun k => k = p) w3).setCell (p := ⟨p, 0, none⟩) (.inl rfl) R'
  refine ⟨b3.cell (k := 0) (by omega), b3.frozen 0, (T.weak (fun k hk => .inr (.inr hk))).setCell (p := ⟨p, 0, none⟩) (.inl (.inl rfl)) R', ?_⟩
  obtain ⟨es, clock, hb, r⟩ := h.map
  refine ⟨(b3.set 0 R').congr fun k hk => ?_, ho.turns t0 (fun g hg e => ?_), ⟨es, clock, (t0.block mb ?_ ?_).trans ((T.block mb (map_lt h.map).1 h.mne).trans hb), r⟩, h.has, fun m hm => (hd m hm).turns t0 (fun a ha e => ?_), h.bp, h.bm⟩
  · unfold upd obj2
    by_cases e : k = 0 <;> simp [e]
  · subst e
    have := (ho.tb hg).2.same b3.tb
    revert this
    decide
  · exact Nat.lt_of_lt_of_le (map_lt h.map).1 T.size
  · exact fun e => h.pm e.symm
  · have h1 := (hd m hm).tb a ha
    rw [e] at h1
    have := h1.same b3.tb
    revert this
    decide

theorem post_no (h : FlAt w B p mb nb D R L S) (fr to : Int) (v : Value) (hroom : 16384 ≤ L.length) :
    Calls Try.prog 17 #[.pointer (some ⟨p, 0, none⟩), .int .i64 fr, .int .i64 to, v] w fun e w' => e = .returned (.bool false) ∧ w' = w := by
  obtain ⟨x, c, hR, _⟩ := h.own.form
  have hH := room_no w p mb L.length c x (hR ▸ h.c0) h.c1 hroom
  clear h hR hroom
  go_enter Try.func17, Try.ntmps17
  go_wp2_with (go_at_call 27; refine hH.mono ?_; rintro e w' ⟨rfl, hw⟩; subst w'; clear hH)
  go_ret
  exact ⟨rfl, rfl⟩

theorem post_yes (h : FlAt w B p mb nb D R L S) (fr to : Int) (hf : wfi fr) (ht : wfi to) (x : Option Addr) (n c : Nat) (l : List Nat) (hl : Sl w x n c l) (hn : n ≤ 140737488351232) (hroom : L.length < 16384) :
    Calls Try.prog 17 #[.pointer (some ⟨p, 0, none⟩), .int .i64 fr, .int .i64 to, .slice x n c] w fun e w' => e = .returned (.bool true) ∧
      Hid (∃ R' m, FlAt w' B p mb nb D R' (L ++ [m]) S ∧ m.fr = fr ∧ m.to = to ∧ m.d = l ∧ m.n = n ∧ (∀ a, m.x = some a → w.heap.size ≤ a.block) ∧ Turns (fp p mb R) w w') := by
  obtain ⟨x0, c0, hR, hlc, _⟩ := h.own.form
  have hH := room_yes w p mb L.length c0 x0 (hR ▸ h.c0) h.c1 hroom
  have b0 : Below w.heap.size w w.drew := (Below.refl _ _).drew
  have hC := clone_sl x n c l w.drew (hl.below b0) (by omega)
  have g0 : w.drew.cell? ⟨p, 0, none⟩ = some (.slice x0 L.length c0) := by rw [← hR]; exact (h.below b0).c0
  have hU : Hid (∀ w2 y cy, Hid (Below w.drew.heap.size w.drew w2 ∧ Sl w2 y n cy l ∧ (∀ a, y = some a → w.drew.heap.size ≤ a.block ∧ Tb w2 a.block 5 ∧ (∀ j, w2.frozen? ⟨a.block, j, none⟩ = false) ∧ a = ⟨a.block, 0, none⟩)) →
      w2.cell? ⟨p, 0, none⟩ = some (.slice x0 L.length c0) ∧ (w2.alloc (.cells #[.int .i64 fr, .int .i64 to, .slice y n cy] 62)).cell? ⟨p, 0, none⟩ = some (.slice x0 L.length c0) ∧ ∃ x' c' w3, (Builtin.append_ #[46, 46] 46 #[.slice x0 L.length c0, .slice (some ⟨w2.heap.size, 0, none⟩) 1 1]).run Try.prog (w2.alloc (.cells #[.int .i64 fr, .int .i64 to, .slice y n cy] 62)) = .ok (.slice x' (L.length + 1) c') w3 ∧
        w3.cell? ⟨p, 0, none⟩ = some (.slice x0 L.length c0) ∧ w3.frozen? ⟨p, 0, none⟩ = false ∧ Hid (∃ R' m, FlAt (w3.setCell ⟨p, 0, none⟩ (.slice x' (L.length + 1) c')) B p mb nb D R' (L ++ [m]) S ∧ m.fr = fr ∧ m.to = to ∧ m.d = l ∧ m.n = n ∧ (∀ a, m.x = some a → w.heap.size ≤ a.block) ∧ Turns (fp p mb R) w (w3.setCell ⟨p, 0, none⟩ (.slice x' (L.length + 1) c')))) := fun w2 y cy HC => by
    obtain ⟨hb2, hs2, hy2⟩ := HC.out
    have hbw : Below w.heap.size w w2 := b0.trans hb2
    have hf2 := h.below hbw
    have b3 : Below w2.heap.size w2 (w2.alloc (.cells #[.int .i64 fr, .int .i64 to, .slice y n cy] 62)) := (Below.refl _ _).alloc (Nat.le_refl _) _
    have hf3 := hf2.below b3
    have hBs : B ≤ w2.heap.size := Nat.le_trans h.bp (Nat.le_of_lt hf2.obj.lt)
    obtain ⟨x', c', w3, hap, HO⟩ := hf3.own.push mrow (by simp; omega) ⟨w2.heap.size, 0, none⟩ 1 1 [⟨fr, to, y, n, cy, l⟩] rfl (fun j u hj => by
      rw [add_at, Nat.zero_add]
      rw [flat_one] at hj
      match j, hj with
      | 0, hj => simpa [encM] using hj
      | 1, hj => simpa [encM] using hj
      | 2, hj => simpa [encM] using hj
      | j + 3, hj => simp [encM] at hj) (by omega)
    obtain ⟨ho, hT, _⟩ := HO.out
    have hm3 : MOk w3 ⟨fr, to, y, n, cy, l⟩ := by
      have k0 : MOk (w2.alloc (.cells #[.int .i64 fr, .int .i64 to, .slice y n cy] 62)) ⟨fr, to, y, n, cy, l⟩ :=
        ⟨hs2.below b3, hn, fun a ha => ((hy2 a ha).2.1).of_heap (b3.block _ (hy2 a ha).2.1.lt), hf, ht⟩
      exact k0.turns hT fun a ha e => by
        have := (hf3.own.tb e).2.same (k0.tb a ha)
        revert this
        decide
    obtain ⟨q1, q2, q3, q4⟩ := hf3.setR hT ho (fun m hm => by
      rcases List.mem_append.1 hm with hm | hm
      · exact hf3.dat_turn hT m hm
      · simp at hm
        subst hm
        exact hm3)
    rw [hR] at hap q1
    refine ⟨by rw [← hR]; exact hf2.c0, by rw [← hR]; exact hf3.c0, x', c', w3, hap, q1, q2, _, _, q4, rfl, rfl, rfl, rfl, fun a ha => (hy2 a ha).1, ?_⟩
    exact (Turns.of_below hbw).trans ((Turns.of_below b3).trans q3)
  clear h hR hroom hl hn hlc hf ht
  go_enter Try.func17, Try.ntmps17
  go_wp2_with (go_at_call 27; refine hH.mono ?_; rintro e w' ⟨rfl, hw⟩; subst w'; clear hH)
  refine wp_region_last (fun v => v.cell? ⟨p, 0, none⟩ = some (.slice x0 L.length c0)) 14 (by kernel_rfl) g0 (fun hS => ?_)
  refine wpAnyL_take (i := 0) (v := ?_) rfl (by kernel_rfl) (by kernel_rfl) (by kernel_rfl) (by kernel_rfl) (fun _ _ _ h => h) hS (Or.inl ⟨by rfl, ?_⟩) ?_
  case refine_2 => (intro w hSw; (try dsimp only at hSw); go_simp; (try with_reducible rfl))
  (try simp only [Act.put, List.setIfInBounds_toArray, List.set_cons_zero, List.set_cons_succ])
  refine wpAnyL_take (i := 1) (v := ?_) rfl (by kernel_rfl) (by kernel_rfl) (by kernel_rfl) (by kernel_rfl) (fun _ _ _ h => h) hS (Or.inl ⟨by rfl, ?_⟩) ?_
  case refine_2 => (intro w hSw; (try dsimp only at hSw); go_simp; (try with_reducible rfl))
  (try simp only [Act.put, List.setIfInBounds_toArray, List.set_cons_zero, List.set_cons_succ])
  refine wpAnyL_take (i := 2) (v := ?_) rfl (by kernel_rfl) (by kernel_rfl) (by kernel_rfl) (by kernel_rfl) (fun _ _ _ h => h) hS (Or.inl ⟨by rfl, ?_⟩) ?_
  case refine_2 => (intro w hSw; (try dsimp only at hSw); go_simp; (try with_reducible rfl))
  (try simp only [Act.put, List.setIfInBounds_toArray, List.set_cons_zero, List.set_cons_succ])
  refine wpAnyL_take (i := 3) (v := ?_) rfl (by kernel_rfl) (by kernel_rfl) (by kernel_rfl) (by kernel_rfl) (fun _ _ _ h => h) hS (Or.inl ⟨by rfl, ?_⟩) ?_
  case refine_2 => (intro w hSw; (try dsimp only at hSw); go_simp; (try with_reducible rfl))
  (try simp only [Act.put, List.setIfInBounds_toArray, List.set_cons_zero, List.set_cons_succ])
  refine wpAnyL_take (i := 4) (v := ?_) rfl (by kernel_rfl) (by kernel_rfl) (by kernel_rfl) (by kernel_rfl) (fun _ _ _ h => h) hS (Or.inl ⟨by rfl, ?_⟩) ?_
  case refine_2 => (intro w hSw; (try dsimp only at hSw); go_simp; (try with_reducible rfl))
  (try simp only [Act.put, List.setIfInBounds_toArray, List.set_cons_zero, List.set_cons_succ])
  refine wpAnyL_take (i := 5) (v := ?_) rfl (by kernel_rfl) (by kernel_rfl) (by kernel_rfl) (by kernel_rfl) (fun _ _ _ h => h) hS (Or.inl ⟨by rfl, ?_⟩) ?_
  case refine_2 => (intro w hSw; (try dsimp only at hSw); go_simp; (try with_reducible rfl))
  (try simp only [Act.put, List.setIfInBounds_toArray, List.set_cons_zero, List.set_cons_succ])
  refine wpAnyL_take (i := 6) (v := ?_) rfl (by kernel_rfl) (by kernel_rfl) (by kernel_rfl) (by kernel_rfl) (fun _ _ _ h => h) hS (Or.inl ⟨by rfl, ?_⟩) ?_
  case refine_2 => (intro w hSw; (try dsimp only at hSw); go_simp; (try with_reducible rfl))
  (try simp only [Act.put, List.setIfInBounds_toArray, List.set_cons_zero, List.set_cons_succ])
  refine wpAnyL_take (i := 7) (v := ?_) rfl (by kernel_rfl) (by kernel_rfl) (by kernel_rfl) (by kernel_rfl) (fun _ _ _ h => h) hS (Or.inl ⟨by rfl, ?_⟩) ?_
  case refine_2 => (intro w hSw; (try dsimp only at hSw); go_simp; (try with_reducible rfl))
  (try simp only [Act.put, List.setIfInBounds_toArray, List.set_cons_zero, List.set_cons_succ])
  refine wpAnyL_one (i := 8) (by kernel_rfl) rfl (fun K hK => ?_)
  go_simp
  refine hC.mono ?_
  rintro e w2 ⟨y, cy, rfl, HC⟩
  obtain ⟨s1, s2, x', c', w3, hap, s3, s4, HN⟩ := hU.out w2 y cy HC
  clear hU hC HC
  refine hK.out _ _ (fun _ => s1) ?_
  clear hK K
  refine wpAnyL_one (i := 9) (by kernel_rfl) rfl (fun K hK => ?_)
  go_simp
  refine hK.out _ _ (fun _ => s1) ?_
  clear hK K
  refine wpAnyL_one (i := 10) (by kernel_rfl) rfl (fun K hK => ?_)
  go_simp
  refine hK.out _ _ (fun _ => s2) ?_
  clear hK K
  refine wpAnyL_one (i := 11) (by kernel_rfl) rfl (fun K hK => ?_)
  refine ready_append rfl _ _ 46 rfl _ _ rfl rfl hap ?_
  (try simp only [Act.put, List.getElem_toArray, List.getElem_cons_succ, List.getElem_cons_zero, List.setIfInBounds_toArray, List.set_cons_zero, List.set_cons_succ])
  refine hK.out _ _ (fun _ => s3) ?_
  clear hK K
  refine wpAnyL_one (i := 12) (by kernel_rfl) rfl (fun K hK => ?_)
  go_simp
  refine hK.out _ _ (fun _ => s3) ?_
  clear hK K
  refine wpAnyL_one (i := 13) (by kernel_rfl) rfl (fun K hK => ?_)
  go_simp
  refine hK.out _ _ (fun _ => s3) ?_
  clear hK K
  refine wpAnyL_one (i := 14) (by kernel_rfl) rfl (fun K hK => ?_)
  go_simp
  refine hK.out _ _ (fun h => absurd rfl h) ?_
  clear hK K
  refine wpAnyL_done (by kernel_rfl) ?_ _
  go_wp2_with fail
  go_ret
  exact ⟨rfl, HN.out⟩

theorem twice_no (h : FlAt w B p mb nb D R L S) (i : Int) (hi : i < 0 ∨ (L.length : Int) ≤ i) :
    Calls Try.prog 16 #[.pointer (some ⟨p, 0, none⟩), .int .i64 i] w fun e w' => e = .returned (.bool false) ∧ w' = w := by
  obtain ⟨x, c, hR, _⟩ := h.own.form
  have hH := has_no w p L.length c i x (hR ▸ h.c0) hi
  clear h hR hi
  go_enter Try.func16, Try.ntmps16
  go_wp2_with (go_at_call 25; refine hH.mono ?_; rintro e w' ⟨rfl, hw⟩; subst w'; clear hH)
  go_ret
  exact ⟨rfl, rfl⟩

theorem twice_full (h : FlAt w B p mb nb D R L S) (k : Nat) (hk : k < L.length) (hroom : 16384 ≤ L.length) :
    Calls Try.prog 16 #[.pointer (some ⟨p, 0, none⟩), .int .i64 (k : Int)] w fun e w' => e = .returned (.bool false) ∧ w' = w := by
  obtain ⟨x, c, hR, _⟩ := h.own.form
  have hH := has_yes w p L.length c k x (hR ▸ h.c0) hk
  have hO := room_no w p mb L.length c x (hR ▸ h.c0) h.c1 hroom
  clear h hR hk hroom
  go_enter Try.func16, Try.ntmps16
  go_wp2_with (first
    | (go_at_call 25; refine hH.mono ?_; rintro e w' ⟨rfl, hw⟩; subst w'; clear hH)
    | (go_at_call 27; refine hO.mono ?_; rintro e w' ⟨rfl, hw⟩; subst w'; clear hO))
  go_ret
  exact ⟨rfl, rfl⟩

theorem twice_yes (h : FlAt w B p mb nb D R L S) (k : Nat) (m : MV) (hm : L[k]? = some m) (hroom : L.length < 16384) :
    Calls Try.prog 16 #[.pointer (some ⟨p, 0, none⟩), .int .i64 (k : Int)] w fun e w' => e = .returned (.bool true) ∧ Hid (∃ R', FlAt w' B p mb nb D R' (L ++ [m]) S ∧ Turns (fp p mb R) w w') := by
  have hk : k < L.length := (List.getElem?_eq_some_iff.1 hm).1
  have hmem : m ∈ L := List.mem_of_getElem? hm
  obtain ⟨g, c, hR, hc, _, _, hg⟩ := h.own.there (by intro e; rw [e] at hk; simp at hk)
  have c0 := h.c0
  have own := h.own
  rw [hR] at c0 own
  have hH := has_yes w p L.length c k _ c0 hk
  have hO := room_yes w p mb L.length c _ c0 h.c1 hroom
  have k0 := own.cell mrow.len hm (j := 0) (v := .int .i64 m.fr) rfl
  rw [Nat.add_zero] at k0
  have k1 := own.cell mrow.len hm (j := 1) (v := .int .i64 m.to) rfl
  have k2 := own.cell mrow.len hm (j := 2) (v := .slice m.x m.n m.c) rfl
  have b0 : Below w.heap.size w w.drew := (Below.refl _ _).drew
  have hfd := h.below b0
  have b3 : Below w.drew.heap.size w.drew (w.drew.alloc (.cells #[.int .i64 m.fr, .int .i64 m.to, .slice m.x m.n m.c] 62)) := (Below.refl _ _).alloc (Nat.le_refl _) _
  have hf3 := hfd.below b3
  have hBs : B ≤ w.heap.size := Nat.le_trans h.bp (Nat.le_of_lt h.obj.lt)
  obtain ⟨x', c', w3, hap, HO⟩ := hf3.own.push mrow (by simp; omega) ⟨w.drew.heap.size, 0, none⟩ 1 1 [m] rfl (new_cells w.drew _ m) (by omega)
  obtain ⟨ho, hT, _⟩ := HO.out
  obtain ⟨q1, q2, q3, q4⟩ := hf3.setR hT ho (fun m' hm' => by
      rcases List.mem_append.1 hm' with hm' | hm'
      · exact hf3.dat_turn hT m' hm'
      · simp at hm'
        subst hm'
        exact hf3.dat_turn hT _ hmem)
  have HN : Hid (∃ R', FlAt (w3.setCell ⟨p, 0, none⟩ (.slice x' (L.length + 1) c')) B p mb nb D R' (L ++ [m]) S ∧ Turns (fp p mb R) w (w3.setCell ⟨p, 0, none⟩ (.slice x' (L.length + 1) c'))) := ⟨_, q4, (Turns.of_below b0).trans ((Turns.of_below b3).trans q3)⟩
  have s0 := hfd.c0
  have s2 := hf3.c0
  rw [hR] at hap q1 s0 s2
  have hap : (Builtin.append_ #[46, 46] 46 #[.slice (some ⟨g, 0, none⟩) L.length c, .slice (some ⟨w.heap.size, 0, none⟩) 1 1]).run Try.prog (w.drew.alloc (.cells #[.int .i64 m.fr, .int .i64 m.to, .slice m.x m.n m.c] 62)) = .ok (.slice x' (L.length + 1) c') w3 := hap
  have hkL : (k : Int) < (L.length : Int) := by omega
  clear h own hR hm hmem hk hroom b0 hfd b3 hf3 HO ho hT q3 q4 c0
  generalize m.fr = f at *
  generalize m.to = t at *
  generalize m.n = n at *
  generalize m.c = mc at *
  generalize m.x = x at *
  generalize L.length = ll at *
  have d0 : w.drew.cell? ⟨g, k * 3, none⟩ = some (.int .i64 f) := k0
  have d1 : w.drew.cell? ⟨g, k * 3 + 1, none⟩ = some (.int .i64 t) := k1
  have d2 : w.drew.cell? ⟨g, k * 3 + 2, none⟩ = some (.slice x n mc) := k2
  go_enter Try.func16, Try.ntmps16
  go_wp2_with (first
    | (go_at_call 25; refine hH.mono ?_; rintro e w' ⟨rfl, hw⟩; subst w'; clear hH)
    | (go_at_call 27; refine hO.mono ?_; rintro e w' ⟨rfl, hw⟩; subst w'; clear hO))
  refine wp_region_last (fun v => v.cell? ⟨p, 0, none⟩ = some (.slice (some ⟨g, 0, none⟩) ll c)) 16 (by kernel_rfl) s0 (fun hS => ?_)
  refine wpAnyL_take (i := 0) (v := ?_) rfl (by kernel_rfl) (by kernel_rfl) (by kernel_rfl) (by kernel_rfl) (fun _ _ _ h => h) hS (Or.inl ⟨by rfl, ?_⟩) ?_
  case refine_2 => (intro w hSw; (try dsimp only at hSw); go_simp; (try with_reducible rfl))
  (try simp only [Act.put, List.setIfInBounds_toArray, List.set_cons_zero, List.set_cons_succ])
  refine wpAnyL_take (i := 1) (v := ?_) rfl (by kernel_rfl) (by kernel_rfl) (by kernel_rfl) (by kernel_rfl) (fun _ _ _ h => h) hS (Or.inl ⟨by rfl, ?_⟩) ?_
  case refine_2 => (intro w hSw; (try dsimp only at hSw); go_simp; (try with_reducible rfl))
  (try simp only [Act.put, List.setIfInBounds_toArray, List.set_cons_zero, List.set_cons_succ])
  refine wpAnyL_take (i := 2) (v := ?_) rfl (by kernel_rfl) (by kernel_rfl) (by kernel_rfl) (by kernel_rfl) (fun _ _ _ h => h) hS (Or.inl ⟨by rfl, ?_⟩) ?_
  case refine_2 => (intro w hSw; (try dsimp only at hSw); go_simp; (try with_reducible rfl))
  (try simp only [Act.put, List.setIfInBounds_toArray, List.set_cons_zero, List.set_cons_succ])
  refine wpAnyL_take (i := 3) (v := ?_) rfl (by kernel_rfl) (by kernel_rfl) (by kernel_rfl) (by kernel_rfl) (fun _ _ _ h => h) hS (Or.inl ⟨by rfl, ?_⟩) ?_
  case refine_2 => (intro w hSw; (try dsimp only at hSw); go_simp; (try with_reducible rfl))
  (try simp only [Act.put, List.setIfInBounds_toArray, List.set_cons_zero, List.set_cons_succ])
  refine wpAnyL_take (i := 4) (v := ?_) rfl (by kernel_rfl) (by kernel_rfl) (by kernel_rfl) (by kernel_rfl) (fun _ _ _ h => h) hS (Or.inl ⟨by rfl, ?_⟩) ?_
  case refine_2 => (intro w hSw; (try dsimp only at hSw); go_simp; (try with_reducible rfl))
  (try simp only [Act.put, List.setIfInBounds_toArray, List.set_cons_zero, List.set_cons_succ])
  refine wpAnyL_take (i := 5) (v := ?_) rfl (by kernel_rfl) (by kernel_rfl) (by kernel_rfl) (by kernel_rfl) (fun _ _ _ h => h) hS (Or.inl ⟨by rfl, ?_⟩) ?_
  case refine_2 => (intro w hSw; (try dsimp only at hSw); go_simp; (try with_reducible rfl))
  (try simp only [Act.put, List.setIfInBounds_toArray, List.set_cons_zero, List.set_cons_succ])
  refine wpAnyL_take (i := 6) (v := ?_) rfl (by kernel_rfl) (by kernel_rfl) (by kernel_rfl) (by kernel_rfl) (fun _ _ _ h => h) hS (Or.inl ⟨by rfl, ?_⟩) ?_
  case refine_2 => (intro w hSw; (try dsimp only at hSw); go_simp; (try with_reducible rfl))
  (try simp only [Act.put, List.setIfInBounds_toArray, List.set_cons_zero, List.set_cons_succ])
  refine wpAnyL_take (i := 7) (v := ?_) rfl (by kernel_rfl) (by kernel_rfl) (by kernel_rfl) (by kernel_rfl) (fun _ _ _ h => h) hS (Or.inl ⟨by rfl, ?_⟩) ?_
  case refine_2 => (intro w hSw; (try dsimp only at hSw); go_simp; (try with_reducible rfl))
  (try simp only [Act.put, List.setIfInBounds_toArray, List.set_cons_zero, List.set_cons_succ])
  refine wpAnyL_take (i := 8) (v := ?_) rfl (by kernel_rfl) (by kernel_rfl) (by kernel_rfl) (by kernel_rfl) (fun _ _ _ h => h) hS (Or.inl ⟨by rfl, ?_⟩) ?_
  case refine_2 => (intro w hSw; (try dsimp only at hSw); go_simp; (try with_reducible rfl))
  (try simp only [Act.put, List.setIfInBounds_toArray, List.set_cons_zero, List.set_cons_succ])
  refine wpAnyL_take (i := 9) (v := ?_) rfl (by kernel_rfl) (by kernel_rfl) (by kernel_rfl) (by kernel_rfl) (fun _ _ _ h => h) hS (Or.inl ⟨by rfl, ?_⟩) ?_
  case refine_2 => (intro w hSw; (try dsimp only at hSw); go_simp; (try with_reducible rfl))
  (try simp only [Act.put, List.setIfInBounds_toArray, List.set_cons_zero, List.set_cons_succ])
  refine wpAnyL_take (i := 10) (v := ?_) rfl (by kernel_rfl) (by kernel_rfl) (by kernel_rfl) (by kernel_rfl) (fun _ _ _ h => h) hS (Or.inl ⟨by rfl, ?_⟩) ?_
  case refine_2 => (intro w hSw; (try dsimp only at hSw); go_simp; (try with_reducible rfl))
  (try simp only [Act.put, List.setIfInBounds_toArray, List.set_cons_zero, List.set_cons_succ])
  refine wpAnyL_one (i := 11) (by kernel_rfl) rfl (fun K hK => ?_)
  go_simp
  refine hK.out _ _ (fun _ => s0) ?_
  clear hK K
  refine wpAnyL_one (i := 12) (by kernel_rfl) rfl (fun K hK => ?_)
  go_simp
  refine hK.out _ _ (fun _ => s2) ?_
  clear hK K
  refine wpAnyL_one (i := 13) (by kernel_rfl) rfl (fun K hK => ?_)
  refine ready_append rfl _ _ 46 rfl _ _ rfl rfl hap ?_
  (try simp only [Act.put, List.getElem_toArray, List.getElem_cons_succ, List.getElem_cons_zero, List.setIfInBounds_toArray, List.set_cons_zero, List.set_cons_succ])
  refine hK.out _ _ (fun _ => q1) ?_
  clear hK K
  refine wpAnyL_one (i := 14) (by kernel_rfl) rfl (fun K hK => ?_)
  go_simp
  refine hK.out _ _ (fun _ => q1) ?_
  clear hK K
  refine wpAnyL_one (i := 15) (by kernel_rfl) rfl (fun K hK => ?_)
  go_simp
  refine hK.out _ _ (fun _ => q1) ?_
  clear hK K
  refine wpAnyL_one (i := 16) (by kernel_rfl) rfl (fun K hK => ?_)
  go_simp
  refine hK.out _ _ (fun h => absurd rfl h) ?_
  clear hK K
  refine wpAnyL_done (by kernel_rfl) ?_ _
  go_wp2_with fail
  go_ret
  exact ⟨rfl, HN.out⟩

end

end Go.Proofs.Ytmekbbddfmmbeaa.Fl

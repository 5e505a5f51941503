/-
  An act with both disks: both tell the same, and are alike behind it: 'mooringlaw07.does', the acts but Write.
  Conditions: both disks are alike.
-/
import Derived.Test.YtaaeppbkbkfphaaDkTwo
namespace Go.Proofs.Ytaaeppbkbkfphaa
open Go.RowKit By Dk
set_option linter.unusedVariables false
set_option linter.unusedSimpArgs false

theorem Pd.n1 {w : World} {F : Nat → Prop} {p n m : Nat} {f A : Nat → Nat} {D : Nat → Nat → Nat} (h : Pd w F p n m f A D) : 1 ≤ n ∧ n ≤ 4096 ∧ m ≤ 1000 := by
  obtain ⟨gs, gn, R, s, q, h⟩ := h
  exact ⟨h.n1, h.n2, h.m2⟩

def actCells (d a : Int) (x : Option Addr) (l c y : Nat) (u : Option Addr) (j k : Nat) : Array Value := #[.int .i64 d, .int .i64 a, .slice x l c, .int .u8 (y : Int), .slice u j k]

/- The act in its box. -/
theorem box_cells (w : World) (d a : Int) (x : Option Addr) (l c y : Nat) (u : Option Addr) (j k : Nat) : ∀ v : World, v.heap[w.heap.size]? = (w.alloc (.cells (actCells d a x l c y u j k) 35)).heap[w.heap.size]? →
    v.cell? ⟨w.heap.size, 0, none⟩ = some (.int .i64 d) ∧ v.cell? ⟨w.heap.size, 1, none⟩ = some (.int .i64 a) ∧ v.cell? ⟨w.heap.size, 2, none⟩ = some (.slice x l c) ∧ v.cell? ⟨w.heap.size, 3, none⟩ = some (.int .u8 (y : Int)) ∧ v.cell? ⟨w.heap.size, 4, none⟩ = some (.slice u j k) := fun v hv => by
  rw [heap_alloc_new] at hv
  unfold World.cell?
  simp [hv, actCells]

set_option maxHeartbeats 2000000 in
theorem does_flush (B p r n m : Nat) (at_ : Int) (x : Option Addr) (l c y : Nat) (u : Option Addr) (j k : Nat) (w0 w : World) (h : Both B w0 w p r n m) :
    Calls Try.prog 10 #[.pointer (some ⟨p, 0, none⟩), .pointer (some ⟨r, 0, none⟩), .agg #[.int .i64 2, .int .i64 at_, .slice x l c, .int .u8 (y : Int), .slice u j k]] w fun e w' => e = .returned (.bool true) ∧ ∃ m', m' ≤ m + 1 ∧ Both B w0 w' p r n m' := by
  obtain ⟨F, G, f, A, D, hT⟩ := h
  have hb1 : Below w.heap.size w (w.alloc (.cells #[.int .i64 2, .int .i64 at_, .slice x l c, .int .u8 (y : Int), .slice u j k] 35)) := (Below.refl _ _).alloc (Nat.le_refl _) _
  have h1 := hT.below hb1
  have hn1 := h1.pd.n1.1
  have hF := flush_any p n m F f A D _ h1.pd
  have HT := hid h1
  clear hT hb1 h1
  go_enter Try.func10, Try.ntmps10
  go_wp2_with (first
    | (go_at_call 18; refine hF.mono ?_; rintro e w2 ⟨rfl, t2, d2⟩; clear hF
       have h2 := HT.out.prog t2 d2 (fun k hk => .inl hk)
       have hC := rcrash_any r n m 0 0 true G f A D none (fun _ => false) w2 h2.rd hn1 (.inl rfl) (by omega)
       have HT2 := hid h2
       clear h2 t2 d2 HT)
    | (go_at_call 22; refine hC.mono ?_; rintro e w3 ⟨rfl, G', t3, r3, hG'⟩; clear hC
       have h3 := HT2.out.ref t3 r3 hG'
       rw [kept_fun (c := cutA true 0 fun _ => false) (c' := fun _ => true) m (fun _ => rfl)] at h3
       have HT3 := hid h3
       clear h3 t3 r3 hG' HT2))
  go_ret
  exact ⟨rfl, 0, by omega, _, _, _, _, _, HT3.out⟩

set_option maxHeartbeats 600000 in
theorem does_crash (p r n m : Nat) (at_ : Int) (x : Option Addr) (l c y : Nat) (u : Option Addr) (j k : Nat) (b : Nat → Bool) (w0 w : World) (h : Both w0.heap.size w0 w p r n m) (hc : BoolsIn w0 u j k b) :
    Calls Try.prog 10 #[.pointer (some ⟨p, 0, none⟩), .pointer (some ⟨r, 0, none⟩), .agg #[.int .i64 3, .int .i64 at_, .slice x l c, .int .u8 (y : Int), .slice u j k]] w fun e w' => e = .returned (.bool true) ∧ ∃ m', m' ≤ m + 1 ∧ Both w0.heap.size w0 w' p r n m' := by
  obtain ⟨F, G, f, A, D, hT⟩ := h
  have hb1 : Below w.heap.size w (w.alloc (.cells (actCells 3 at_ x l c y u j k) 35)) := (Below.refl _ _).alloc (Nat.le_refl _) _
  have h1 := hT.below hb1
  have hn1 := h1.pd.n1.1
  have hfree := hT.free (Nat.le_refl _)
  obtain ⟨W1, hW1⟩ : ∃ W1, W1 = w.alloc (.cells (actCells 3 at_ x l c y u j k) 35) := ⟨_, rfl⟩
  have hbox := box_cells w 3 at_ x l c y u j k
  rw [← hW1] at h1 hbox
  have hsz1 : W1.heap.size = w.heap.size + 1 := by rw [hW1]; simp
  have hby := hc.row.below h1.bel
  obtain ⟨y', cy, w2, hap, hb2, hr2, hy2⟩ := bools_copy W1 u j k b hby hc.small hc.nil
  have h2 := h1.below hb2
  have e0 := (hbox W1 rfl).1
  have ba : Below W1.heap.size W1 (W1.alloc (.cells #[] 4)) := (Below.refl _ _).alloc (Nat.le_refl _) _
  have e4 := (hbox _ (ba.block w.heap.size (by omega))).2.2.2.2
  have hC := crash_any p n m j cy F f A D y' b w2 h2.pd hr2 (fun _ a ha hf => by
    have h3 := hy2 a ha
    have h4 := h1.pd.flt _ hf
    omega) (by have := hc.small; omega)
  have HT := hid h2
  have HX := hid hc
  have Hq : Hid (∀ v, Turns F w2 v → v.cell? ⟨w.heap.size, 4, none⟩ = some (.slice u j k)) := fun v hv => (hbox v ((hv.block w.heap.size (Nat.lt_of_lt_of_le (by omega) hb2.size) hfree.1).trans (hb2.block w.heap.size (by omega)))).2.2.2.2
  clear hT hb1 h1 hby hb2 hr2 hy2 h2 ba hbox hfree hsz1 hc
  subst hW1
  have hap' : (Builtin.append_ #[33, 33] 33 #[.slice (some ⟨w.heap.size + 1, 0, none⟩) 0 0, .slice u j k]).run Try.prog ((w.alloc (.cells #[.int .i64 3, .int .i64 at_, .slice x l c, .int .u8 (y : Int), .slice u j k] 35)).alloc (.cells #[] 4)) = .ok (.slice y' j cy) w2 := by
    have e : (w.alloc (.cells (actCells 3 at_ x l c y u j k) 35)).heap.size = w.heap.size + 1 := by simp
    rw [e] at hap
    exact hap
  clear hap e0 e4
  go_enter Try.func10, Try.ntmps10
  go_wp2_with (first
    | (at_builtin; refine wpList_append_run rfl _ _ 33 rfl _ _ rfl rfl hap' ?_; clear hap')
    | (go_at_call 19; refine hC.mono ?_; rintro e w3 ⟨rfl, t3, d3⟩; clear hC
       have h3 := HT.out.prog t3 d3 (fun k hk => .inl hk)
       have k4 := Hq.out w3 t3
       have hR := rcrash_any r n m j k false G f A D u b w3 h3.rd hn1 (HX.out.row.below h3.bel) (by have := HX.out.small; omega)
       have HT3 := hid h3
       clear h3 t3 d3 HT Hq)
    | (go_at_call 22; refine hR.mono ?_; rintro e w4 ⟨rfl, G', t4, r4, hG'⟩; clear hR
       have h4 := HT3.out.ref t4 r4 hG'
       rw [kept_fun (c := cutA false j b) (c' := cutB j b) m (fun _ => by simp [cutA])] at h4
       have HT4 := hid h4
       clear h4 t4 r4 hG' HT3))
  go_ret
  exact ⟨rfl, 0, by omega, _, _, _, _, _, HT4.out⟩

theorem rot_both (p r n m y : Nat) (z : Int) (f A : Nat → Nat) (D : Nat → Nat → Nat) (hy : y < 256) (hz : z ≤ 9223372036854775807) (hn : n ≤ 4096) : ∃ (q : Int) (f' : Nat → Nat),
    (∀ v F, Pd v F p n m f A D → Calls Try.prog 20 #[.pointer (some ⟨p, 0, none⟩), .int .i64 z, .int .u8 (y : Int)] v fun e w' => e = .returned (.int .i64 q) ∧ Turns F v w' ∧ Pd w' F p n m f' A D) ∧
    (∀ v G, Rd v G r n m f A D → Calls Try.prog 23 #[.pointer (some ⟨r, 0, none⟩), .int .i64 z, .int .u8 (y : Int)] v fun e w' => e = .returned (.int .i64 q) ∧ ∃ G', Turns G v w' ∧ Rd w' G' r n m f' A D ∧ ∀ k, G' k → G k ∨ v.heap.size ≤ k) := by
  by_cases hc : 0 ≤ z ∧ z < 64 * (n : Int)
  · obtain ⟨a, rfl⟩ : ∃ a : Nat, z = (a : Int) := ⟨z.toNat, by omega⟩
    exact ⟨0, rotF f a y, fun v F hv => rot_yes p n m a y F f A D v hv (by omega) hy, fun v G hv => rrot_yes r n m a y G f A D v hv (by omega) hy⟩
  · refine ⟨1, f, fun v F hv => ?_, fun v G hv => ?_⟩
    · have hv' := hv
      obtain ⟨gs, gn, R, s, q, hd⟩ := hv'
      have hl := hd.len
      exact (rot_no p s s _ z y v hd.c0 (by omega)).mono fun e w' ⟨he, hw⟩ => ⟨he, by rw [hw]; exact Turns.refl _ _, by rw [hw]; exact hv⟩
    · have hv' := hv
      obtain ⟨S, P, hd⟩ := hv'
      obtain ⟨x0, c0', hS0, _⟩ := ownsRow_form2 hd.sec_
      have c0 := hd.c0
      rw [hS0] at c0
      exact (rrot_no r n c0' x0 z y v c0 (by omega) hz hn).mono fun e w' ⟨he, hw⟩ => ⟨he, G, by rw [hw]; exact Turns.refl _ _, by rw [hw]; exact hv, fun k hk => .inl hk⟩

set_option maxHeartbeats 2000000 in
theorem does_rot (B p r n m : Nat) (at_ : Int) (x : Option Addr) (l c y : Nat) (u : Option Addr) (j k : Nat) (w0 w : World) (h : Both B w0 w p r n m) (hy : y < 256) (hz : at_ ≤ 9223372036854775807) :
    Calls Try.prog 10 #[.pointer (some ⟨p, 0, none⟩), .pointer (some ⟨r, 0, none⟩), .agg #[.int .i64 4, .int .i64 at_, .slice x l c, .int .u8 (y : Int), .slice u j k]] w fun e w' => e = .returned (.bool true) ∧ ∃ m', m' ≤ m + 1 ∧ Both B w0 w' p r n m' := by
  obtain ⟨F, G, f, A, D, hT⟩ := h
  have hb1 : Below w.heap.size w (w.alloc (.cells (actCells 4 at_ x l c y u j k) 35)) := (Below.refl _ _).alloc (Nat.le_refl _) _
  have h1 := hT.below hb1
  have hfree := hT.free (Nat.le_refl _)
  have hbox := box_cells w 4 at_ x l c y u j k
  have hsz1 : (w.alloc (.cells (actCells 4 at_ x l c y u j k) 35)).heap.size = w.heap.size + 1 := by simp
  obtain ⟨q, f', hP, hR⟩ := rot_both p r n m y at_ f A D hy hz hT.pd.n1.2.1
  have H1 : Hid (Two B w0 (w.alloc (.cells #[.int .i64 4, .int .i64 at_, .slice x l c, .int .u8 (y : Int), .slice u j k] 35)) F G p r n m f A D m f A D) := h1
  have HBx : Hid (∀ v : World, v.heap[w.heap.size]? = (w.alloc (.cells #[.int .i64 4, .int .i64 at_, .slice x l c, .int .u8 (y : Int), .slice u j k] 35)).heap[w.heap.size]? → v.cell? ⟨w.heap.size, 1, none⟩ = some (.int .i64 at_) ∧ v.cell? ⟨w.heap.size, 3, none⟩ = some (.int .u8 (y : Int))) := fun v hv => ⟨(hbox v hv).2.1, (hbox v hv).2.2.2.1⟩
  have HS : Hid (w.heap.size < (w.alloc (.cells #[.int .i64 4, .int .i64 at_, .slice x l c, .int .u8 (y : Int), .slice u j k] 35)).heap.size) := by
    show w.heap.size < _
    have := hsz1
    unfold actCells at this
    rw [this]
    omega
  have HFr := hid hfree
  clear hT hb1 h1 hbox hsz1 hfree
  go_enter Try.func10, Try.ntmps10
  go_wp2_with fail
  generalize w.alloc (.cells #[.int .i64 4, .int .i64 at_, .slice x l c, .int .u8 (y : Int), .slice u j k] 35) = W1 at *
  have hd := H1.out.drew
  have s1 := HBx.out W1.drew rfl
  have hP1 := hP W1.drew F hd.pd
  clear hP
  refine wp_region_held_drew (S := fun v => v.cell? ⟨w.heap.size, 1, none⟩ = some (.int .i64 at_) ∧ v.cell? ⟨w.heap.size, 3, none⟩ = some (.int .u8 (y : Int))) (by kernel_rfl) s1 (fun hHeld => ?_)
  refine wpAnyH_take (i := 0) (v := ?_) rfl (by kernel_rfl) (by kernel_rfl) (by kernel_rfl) (fun _ _ _ h => h) (Or.inl ⟨by rfl, ?_⟩) (by assumption) ?_
  case refine_2 => (intro w hSw; (try dsimp only at hSw); go_simp; (try with_reducible rfl))
  (try simp only [Act.put, List.getElem_toArray, List.getElem_cons_succ, List.getElem_cons_zero, List.setIfInBounds_toArray, List.set_cons_zero, List.set_cons_succ])
  refine wpAnyH_take (i := 1) (v := ?_) rfl (by kernel_rfl) (by kernel_rfl) (by kernel_rfl) (fun _ _ _ h => h) (Or.inl ⟨by rfl, ?_⟩) (by assumption) ?_
  case refine_2 => (intro w hSw; (try dsimp only at hSw); go_simp; (try with_reducible rfl))
  (try simp only [Act.put, List.getElem_toArray, List.getElem_cons_succ, List.getElem_cons_zero, List.setIfInBounds_toArray, List.set_cons_zero, List.set_cons_succ])
  refine wpAnyH_take (i := 2) (v := ?_) rfl (by kernel_rfl) (by kernel_rfl) (by kernel_rfl) (fun _ _ _ h => h) (Or.inl ⟨by rfl, ?_⟩) (by assumption) ?_
  case refine_2 => (intro w hSw; (try dsimp only at hSw); go_simp; (try with_reducible rfl))
  (try simp only [Act.put, List.getElem_toArray, List.getElem_cons_succ, List.getElem_cons_zero, List.setIfInBounds_toArray, List.set_cons_zero, List.set_cons_succ])
  refine wpAnyH_take (i := 3) (v := ?_) rfl (by kernel_rfl) (by kernel_rfl) (by kernel_rfl) (fun _ _ _ h => h) (Or.inl ⟨by rfl, ?_⟩) (by assumption) ?_
  case refine_2 => (intro w hSw; (try dsimp only at hSw); go_simp; (try with_reducible rfl))
  (try simp only [Act.put, List.getElem_toArray, List.getElem_cons_succ, List.getElem_cons_zero, List.setIfInBounds_toArray, List.set_cons_zero, List.set_cons_succ])
  refine wpAnyH_take (i := 4) (v := ?_) rfl (by kernel_rfl) (by kernel_rfl) (by kernel_rfl) (fun _ _ _ h => h) (Or.inl ⟨by rfl, ?_⟩) (by assumption) ?_
  case refine_2 => (intro w hSw; (try dsimp only at hSw); go_simp; (try with_reducible rfl))
  (try simp only [Act.put, List.getElem_toArray, List.getElem_cons_succ, List.getElem_cons_zero, List.setIfInBounds_toArray, List.set_cons_zero, List.set_cons_succ])
  refine wpAnyH_take (i := 6) (v := ?_) rfl (by kernel_rfl) (by kernel_rfl) (by kernel_rfl) (fun _ _ _ h => h) (Or.inl ⟨by rfl, ?_⟩) (by assumption) ?_
  case refine_2 => (intro w hSw; (try dsimp only at hSw); go_simp; (try with_reducible rfl))
  (try simp only [Act.put, List.getElem_toArray, List.getElem_cons_succ, List.getElem_cons_zero, List.setIfInBounds_toArray, List.set_cons_zero, List.set_cons_succ])
  refine wpAnyH_take (i := 7) (v := ?_) rfl (by kernel_rfl) (by kernel_rfl) (by kernel_rfl) (fun _ _ _ h => h) (Or.inl ⟨by rfl, ?_⟩) (by assumption) ?_
  case refine_2 => (intro w hSw; (try dsimp only at hSw); go_simp; (try with_reducible rfl))
  (try simp only [Act.put, List.getElem_toArray, List.getElem_cons_succ, List.getElem_cons_zero, List.setIfInBounds_toArray, List.set_cons_zero, List.set_cons_succ])
  refine wpAnyH_take (i := 8) (v := ?_) rfl (by kernel_rfl) (by kernel_rfl) (by kernel_rfl) (fun _ _ _ h => h) (Or.inl ⟨by rfl, ?_⟩) (by assumption) ?_
  case refine_2 => (intro w hSw; (try dsimp only at hSw); go_simp; (try with_reducible rfl))
  (try simp only [Act.put, List.getElem_toArray, List.getElem_cons_succ, List.getElem_cons_zero, List.setIfInBounds_toArray, List.set_cons_zero, List.set_cons_succ])
  refine wpAnyH_take (i := 9) (v := ?_) rfl (by kernel_rfl) (by kernel_rfl) (by kernel_rfl) (fun _ _ _ h => h) (Or.inl ⟨by rfl, ?_⟩) (by assumption) ?_
  case refine_2 => (intro w hSw; (try dsimp only at hSw); go_simp; (try with_reducible rfl))
  (try simp only [Act.put, List.getElem_toArray, List.getElem_cons_succ, List.getElem_cons_zero, List.setIfInBounds_toArray, List.set_cons_zero, List.set_cons_succ])
  refine wpAnyH_take (i := 10) (v := ?_) rfl (by kernel_rfl) (by kernel_rfl) (by kernel_rfl) (fun _ _ _ h => h) (Or.inl ⟨by rfl, ?_⟩) (by assumption) ?_
  case refine_2 => (intro w hSw; (try dsimp only at hSw); go_simp; (try with_reducible rfl))
  (try simp only [Act.put, List.getElem_toArray, List.getElem_cons_succ, List.getElem_cons_zero, List.setIfInBounds_toArray, List.set_cons_zero, List.set_cons_succ])
  refine wpAnyH_ready (rs := [5]) (by kernel_rfl) (by simp) ?_
  refine AllReadyH.cons rfl (fun K hK => ?_) AllReadyH.nil
  go_simp
  refine hP1.mono ?_
  rintro e w2 ⟨rfl, t2, d2⟩
  have h2 := hd.prog t2 d2 (fun k hk => .inl hk)
  have q2 : w2.heap[w.heap.size]? = W1.heap[w.heap.size]? := t2.block w.heap.size HS.out HFr.out.1
  have s2 := HBx.out w2 q2
  have hR2 := hR w2 G h2.rd
  refine hK.out _ _ s2 (fun hHeld => ?_)
  clear hK K
  refine wpAnyH_ready (rs := [11]) (by kernel_rfl) (by simp) ?_
  refine AllReadyH.cons rfl (fun K hK => ?_) AllReadyH.nil
  go_simp
  refine hR2.mono ?_
  rintro e w3 ⟨rfl, G', t3, r3, hG'⟩
  have h3 := h2.ref t3 r3 hG'
  have s3 := HBx.out w3 ((t3.block w.heap.size (Nat.lt_of_lt_of_le HS.out t2.size) HFr.out.2).trans q2)
  refine hK.out _ _ s3 (fun hHeld => ?_)
  clear hK K
  refine wpAnyH_take (i := 12) (v := ?_) rfl (by kernel_rfl) (by kernel_rfl) (by kernel_rfl) (fun _ _ _ h => h) (Or.inl ⟨by rfl, ?_⟩) (by assumption) ?_
  case refine_2 => (intro w hSw; (try dsimp only at hSw); go_simp; (try with_reducible rfl))
  (try simp only [Act.put, List.getElem_toArray, List.getElem_cons_succ, List.getElem_cons_zero, List.setIfInBounds_toArray, List.set_cons_zero, List.set_cons_succ])
  refine wpAnyH_take (i := 13) (v := ?_) rfl (by kernel_rfl) (by kernel_rfl) (by kernel_rfl) (fun _ _ _ h => h) (Or.inl ⟨by rfl, ?_⟩) (by assumption) ?_
  case refine_2 => (intro w hSw; (try dsimp only at hSw); go_simp; (try with_reducible rfl))
  (try simp only [Act.put, List.getElem_toArray, List.getElem_cons_succ, List.getElem_cons_zero, List.setIfInBounds_toArray, List.set_cons_zero, List.set_cons_succ])
  refine wpAnyH_done (by kernel_rfl) ?_ _
  have HT3 := hid h3
  clear h3 h2 hd hP1 hR2 hR t2 d2 t3 r3 hG' s1 s2 s3
  go_wp2_with fail
  go_ret
  exact ⟨by simp, m, by omega, _, _, _, _, _, HT3.out⟩

set_option maxHeartbeats 2000000 in
theorem does_else (B p r n m : Nat) (d at_ : Int) (x : Option Addr) (l c y : Nat) (u : Option Addr) (j k : Nat) (w0 w : World) (h : Both B w0 w p r n m) (hd : d < 0 ∨ 4 < d) :
    Calls Try.prog 10 #[.pointer (some ⟨p, 0, none⟩), .pointer (some ⟨r, 0, none⟩), .agg #[.int .i64 d, .int .i64 at_, .slice x l c, .int .u8 (y : Int), .slice u j k]] w fun e w' => e = .returned (.bool true) ∧ ∃ m', m' ≤ m + 1 ∧ Both B w0 w' p r n m' := by
  obtain ⟨F, G, f, A, D, hT⟩ := h
  have hb1 : Below w.heap.size w (w.alloc (.cells #[.int .i64 d, .int .i64 at_, .slice x l c, .int .u8 (y : Int), .slice u j k] 35)) := (Below.refl _ _).alloc (Nat.le_refl _) _
  have H1 := hid (hT.below hb1)
  have d0 : (d == 0) = false := by simp; omega
  have d1 : (d == 1) = false := by simp; omega
  have d2 : (d == 2) = false := by simp; omega
  have d3 : (d == 3) = false := by simp; omega
  have d4 : (d == 4) = false := by simp; omega
  clear hT hb1 hd
  go_enter Try.func10, Try.ntmps10
  go_wp2_with fail
  go_ret
  exact ⟨rfl, m, by omega, _, _, _, _, _, H1.out⟩

end Go.Proofs.Ytaaeppbkbkfphaa

/-
  What the document's Crash does: a contract over plain numbers ('DkPlain').
  Conditions: the disk is one that New gave ('RDk').
-/
import Derived.Test.YtaaeppbkbkfphaaDkRefPut
namespace Go.Proofs.Ytaaeppbkbkfphaa
open Go.RowKit By Dk
set_option linter.unusedVariables false
set_option linter.unusedSimpArgs false

/- A copy of a list of texts. -/
theorem strs_copy (w : World) (x0 : Option Addr) (n c0 : Nat) (v : Nat → Value) (hown : w.ownsRow 0 9 1 (.slice x0 n c0) n (rowOf v n)) (hv : ∀ k, (v k).oneCell' = true) (h1 : 1 ≤ n) (hn : n ≤ 4096) :
    ∃ g cy w', (Builtin.append_ #[37, 37] 37 #[.slice (some ⟨w.heap.size, 0, none⟩) 0 0, .slice x0 n c0]).run Try.prog (w.alloc (.cells #[] 9)) = .ok (.slice (some ⟨g, 0, none⟩) n cy) w' ∧ Below w.heap.size w w' ∧
      w'.ownsRow 0 9 1 (.slice (some ⟨g, 0, none⟩) n cy) n (rowOf v n) ∧ w.heap.size ≤ g := by
  obtain ⟨i0, hi, hz0, hz1, hz2⟩ := info_parts info_str
  obtain ⟨_, _, he, _, _, hrow⟩ := ownsRow_form2 hown
  injection he with e1 _ e3
  subst e1 e3
  rcases hrow with h0 | ⟨g0, rfl, hce⟩
  · omega
  have hb0 : Below w.heap.size w (w.alloc (.cells #[] 9)) := (Below.refl _ _).alloc (Nat.le_refl _) _
  have hemp : (w.alloc (.cells #[] 9)).ownsRow 0 9 1 (.slice (some ⟨w.heap.size, 0, none⟩) 0 0) 0 [] := ⟨rfl, .inr ⟨w.heap.size, 0, #[], rfl, Nat.zero_le _, heap_alloc_new _ _, Nat.le_refl _, Nat.zero_le _, rfl, rfl⟩⟩
  have hg0 : g0 < w.heap.size := (hown.lt g0 rfl).2
  obtain ⟨R', w4, hap, ho, hgr, hR'⟩ := push_gen (w.alloc (.cells #[] 9)) 37 9 i0 (.string ByteArray.empty) 1 16 Try.underlying37 hi hz0 hz1 hz2 rfl (by decide) _ 0 [] hemp
    ⟨g0, 0, none⟩ n c0 (rowOf v n) (by rw [rowOf_len, Nat.mul_one]) (fun j u hj => by
      rw [add_at, Nat.zero_add]
      exact (hb0.cell (p := ⟨g0, j, none⟩) hg0).trans (hce j u hj).1) (rowOf_one _ _ hv) (by omega) (by unfold maxLen; omega) (by omega)
  rw [Nat.zero_add, List.nil_append] at ho
  obtain ⟨x', c', hRe, _, _, hrow'⟩ := ownsRow_form2 ho
  subst hRe
  rcases hrow' with h0 | ⟨g, rfl, _⟩
  · omega
  refine ⟨g, c', w4, hap, hb0.grown hgr (by simp) (fun k hk => by simp [Value.ownBlock] at hk; omega), ho, ?_⟩
  rcases hR' g rfl with e | e
  · simp [Value.ownBlock] at e
    omega
  · simp at e
    omega

theorem secS_one (f : Nat → Nat) (k : Nat) : (secS f k).oneCell' = true := rfl

theorem put_row (f d : Nat → Nat) (a n : Nat) : rowOf (upd (secS f) a (datS d)) n = rowOf (secS (put f a d)) n := by
  refine rowOf_congr fun k hk => ?_
  unfold upd secS datS
  by_cases e : k = a
  · subst e
    rw [if_pos rfl, str_congr (f := sec (put f k d) k) (g := d) fun i hi => by rw [put_sec _ _ _ _ _ hi, if_pos rfl]]
  · rw [if_neg e, str_congr (f := sec (put f a d) k) (g := sec f k) fun i hi => by rw [put_sec _ _ _ _ _ hi, if_neg e]]

def cutA (all : Bool) (l : Nat) (h : Nat → Bool) : Nat → Bool := fun i => all || cutB l h i

theorem rd_crash {w w1 wr : World} {G : Nat → Prop} {r gl cl : Nat} {S P : Value} {n m : Nat} {f f' A : Nat → Nat} {D : Nat → Nat → Nat} (h : RDk w G r S P n m f A D) (hb : Below w.heap.size w w1) (hgl : w.heap.size ≤ gl) (T : Turns (fun k => k = gl) w1 wr) (ho : wr.ownsRow 0 9 1 (.slice (some ⟨gl, 0, none⟩) n cl) n (rowOf (secS f') n)) (hf : ∀ i, f' i < 256) :
    ∃ G', Turns G w ((wr.setCell ⟨r, 0, none⟩ (.slice (some ⟨gl, 0, none⟩) n cl)).setCell ⟨r, 1, none⟩ (.slice none 0 0)) ∧ Rd ((wr.setCell ⟨r, 0, none⟩ (.slice (some ⟨gl, 0, none⟩) n cl)).setCell ⟨r, 1, none⟩ (.slice none 0 0)) G' r n 0 f' A D ∧ ∀ k, G' k → G k ∨ w.heap.size ≤ k := by
  have T0 : Turns (fun k => S.ownBlock = some k) w wr := (Turns.of_below hb).more T (fun i hi => .inr (by omega))
  obtain ⟨T5, h5⟩ := rd_setS h T0 ho (fun k hk => by simp [Value.ownBlock] at hk; right; omega) h.at_ hf h.n2
  obtain ⟨T6, h6⟩ := rd_setP (P' := .slice none 0 0) (m' := 0) (A' := A) (D' := D) h5 (Turns.refl _ _) ⟨rfl, .inl ⟨rfl, rfl⟩⟩ (fun k hk => by simp [Value.ownBlock] at hk) (fun i hi => by omega) h.ltD (by omega)
  refine ⟨_, T5.more T6 (fun i hi => ?_), ⟨_, _, h6⟩, fun k hk => ?_⟩
  · rcases hi with hi | hi
    · exact .inl hi
    · exact .inr hi.1
  · rcases hk with (hk | hk) | hk
    · exact .inl hk
    · exact .inr hk.1
    · exact .inr (Nat.le_trans T5.size hk.1)

set_option maxHeartbeats 4000000 in
theorem rcrash_any (r n m l lc : Nat) (all : Bool) (G : Nat → Prop) (f A : Nat → Nat) (D : Nat → Nat → Nat) (y : Option Addr) (b : Nat → Bool) (w : World) (h : Rd w G r n m f A D) (hn1 : 1 ≤ n) (hy : BoolsAt w y l b) (hl : l ≤ 140737488355328) :
    Calls Try.prog 22 #[.pointer (some ⟨r, 0, none⟩), .slice y l lc, .bool all] w fun e w' => e = .returned (.tuple #[]) ∧ ∃ G', Turns G w w' ∧ Rd w' G' r n 0 (kept f A D (cutA all l b) m) A D ∧ ∀ k, G' k → G k ∨ w.heap.size ≤ k := by
  obtain ⟨S, P, h⟩ := h
  have hn2 := h.n2
  have hm2 := h.m2
  obtain ⟨x0, c0', hS0, _, _, _⟩ := ownsRow_form2 h.sec_
  subst hS0
  obtain ⟨x1, c1', hP0, _, _, _⟩ := ownsRow_form2 h.pen
  subst hP0
  obtain ⟨gl, cl, w1, hap, hb1, ho1, hgl⟩ := strs_copy w x0 n c0' (secS f) h.sec_ (secS_one f) hn1 hn2
  have ba : Below w.heap.size w (w.alloc (.cells #[] 9)) := (Below.refl _ _).alloc (Nat.le_refl _) _
  have ka := (h.below ba).c0
  have hR1 := h.below hb1
  have HH := hid h
  have H1 := hid hR1
  have HO := hid ho1
  have HB := hid (And.intro hb1 hgl)
  have HY := hid (hy.below hb1)
  have hglr : gl ≠ r := by have := h.obj.lt; omega
  have hyF : l ≠ 0 → ∀ ad, y = some ad → ¬ ad.block = gl := hy.far (F := fun j => j = gl) (fun k hk => by rw [hk]; exact hgl)
  have HYF := hid hyF
  clear h ba hb1 ho1 hgl hy hyF hR1
  go_enter Try.func22, Try.ntmps22
  go_wp2_with (at_builtin; refine wpList_append_run rfl _ _ 37 rfl _ _ rfl rfl hap ?_; clear hap)
  go_loopw [7] (fun i wr => ∃ k : Nat, k ≤ m ∧ i = .int .i64 k ∧ Hid (Turns (fun j => j = gl) w1 wr ∧ wr.ownsRow 0 9 1 (.slice (some ⟨gl, 0, none⟩) n cl) n (rowOf (secS (kept f A D (cutA all l b) k)) n))) (fun i _ => m - (intOf i).toNat)
  case atStart => exact ⟨0, by omega, rfl, Turns.refl _ _, HO.out⟩
  case round =>
    obtain ⟨k, hk, rfl, HR⟩ := hrel
    clear ka HO
    obtain ⟨T, ho⟩ := HR.out
    have hnG : ∀ j, G j → ¬ j = gl := fun j hj e => by
      have h1 := HH.out.flt j hj
      have h2 := HB.out.2
      omega
    have hr := H1.out.turns T hnG
    have k1 := hr.c1
    by_cases hlt : k < m
    · have hkm : (k : Int) < (m : Int) := by omega
      obtain ⟨_, _, he, _, _, hrow⟩ := ownsRow_form2 hr.pen
      injection he with e1 _ e3
      subst e1 e3
      rcases hrow with h0 | ⟨g1, rfl, hce⟩
      · omega
      have q0 := (hce (k * 2) _ (rowOf_get _ (m * 2) (k * 2) (by omega))).1
      rw [wrP_even] at q0
      have q1 := (hce (k * 2 + 1) _ (rowOf_get _ (m * 2) (k * 2 + 1) (by omega))).1
      rw [wrP_odd] at q1
      have ha := hr.at_ k hlt
      have g1l : g1 ≠ gl := hnG g1 (hr.fP g1 rfl)
      have hyr := HY.out.turns T HYF.out
      obtain ⟨_, _, he2, _, _, hrow2⟩ := ownsRow_form2 ho
      rcases hrow2 with h0 | ⟨gl', he3, hcl⟩
      · omega
      injection he2 with e4 _ e6
      subst e6
      rw [he3] at e4
      injection e4 with e4
      injection e4 with e4 _ _
      subst e4
      obtain ⟨c9, f9⟩ := hcl (A k) _ (rowOf_get _ n (A k) ha)
      have d1 : (wr.drew.setCell ⟨gl, A k, none⟩ (datS (D k))).cell? ⟨r, 1, none⟩ = some (.slice (some ⟨g1, 0, none⟩) m c1') := (World.cell?_of_block (a := ⟨r, 1, none⟩) (Below.heap_setCell wr.drew ⟨gl, A k, none⟩ _ r (Ne.symm hglr))).trans k1
      have d2 : (wr.drew.setCell ⟨gl, A k, none⟩ (datS (D k))).cell? ⟨g1, k * 2, none⟩ = some (.int .i64 (A k : Int)) := (World.cell?_of_block (a := ⟨g1, k * 2, none⟩) (Below.heap_setCell wr.drew ⟨gl, A k, none⟩ _ g1 g1l)).trans q0
      have d3 : (wr.drew.setCell ⟨gl, A k, none⟩ (datS (D k))).cell? ⟨g1, k * 2 + 1, none⟩ = some (datS (D k)) := (World.cell?_of_block (a := ⟨g1, k * 2 + 1, none⟩) (Below.heap_setCell wr.drew ⟨gl, A k, none⟩ _ g1 g1l)).trans q1
      have HN : cutA all l b k = true → Hid (Turns (fun j => j = gl) w1 (wr.drew.setCell ⟨gl, A k, none⟩ (datS (D k))) ∧ (wr.drew.setCell ⟨gl, A k, none⟩ (datS (D k))).ownsRow 0 9 1 (.slice (some ⟨gl, 0, none⟩) n cl) n (rowOf (secS (kept f A D (cutA all l b) (k + 1))) n)) := fun ht => ⟨T.drew.setCell (p := ⟨gl, A k, none⟩) (.inl rfl) _, by
        rw [kept, if_pos ht, ← put_row]
        exact ownsRow_set (w := wr.drew) ho ha (datS (D k))⟩
      have HO2 : cutA all l b k = false → Hid (Turns (fun j => j = gl) w1 wr ∧ wr.ownsRow 0 9 1 (.slice (some ⟨gl, 0, none⟩) n cl) n (rowOf (secS (kept f A D (cutA all l b) (k + 1))) n)) := fun ht => ⟨T, by rw [kept, if_neg (by rw [ht]; decide)]; exact ho⟩
      have hreg : ∀ yv : Value, True := fun _ => trivial
      clear T ho HR hr hce hcl hnG hreg
      generalize secS (kept f A D (cutA all l b) k) (A k) = V9 at *
      obtain ⟨Z, hZ⟩ : ∃ Z, Value.string Z = datS (D k) := ⟨_, rfl⟩
      rw [← hZ] at q1 d1 d2 d3 HN
      clear hZ
      generalize A k = a at *
      cases all with
      | true =>
        have HN2 := HN (by simp [cutA])
        clear HN HO2 hyr
        go_wp2_with fail
        refine wp_region_held_drew (S := fun v => v.cell? ⟨r, 1, none⟩ = some (.slice (some ⟨g1, 0, none⟩) m c1') ∧ v.cell? ⟨g1, k * 2, none⟩ = some (.int .i64 (a : Int)) ∧ v.cell? ⟨g1, k * 2 + 1, none⟩ = some (.string Z)) (by kernel_rfl) ⟨k1, q0, q1⟩ (fun hHeld => ?_)
        refine wpAnyH_take (i := 0) (v := ?_) rfl (by kernel_rfl) (by kernel_rfl) (by kernel_rfl) (fun _ _ _ h => h) (Or.inl ⟨by rfl, ?_⟩) (by assumption) ?_
        case refine_2 => (intro w hSw; (try dsimp only at hSw); go_simp; (try with_reducible rfl))
        (try simp only [Act.put, List.getElem_toArray, List.getElem_cons_succ, List.getElem_cons_zero, List.setIfInBounds_toArray, List.set_cons_zero, List.set_cons_succ])
        refine wpAnyH_take (i := 1) (v := ?_) rfl (by kernel_rfl) (by kernel_rfl) (by kernel_rfl) (fun _ _ _ h => h) (Or.inl ⟨by rfl, ?_⟩) (by assumption) ?_
        case refine_2 => (intro w hSw; (try dsimp only at hSw); go_simp; (try with_reducible rfl))
        (try simp only [Act.put, List.getElem_toArray, List.getElem_cons_succ, List.getElem_cons_zero, List.setIfInBounds_toArray, List.set_cons_zero, List.set_cons_succ])
        refine wpAnyH_take (i := 2) (v := ?_) rfl (by kernel_rfl) (by kernel_rfl) (by kernel_rfl) (fun _ _ _ h => h) (Or.inl ⟨by rfl, ?_⟩) (by assumption) ?_
        case refine_2 => (intro w hSw; (try dsimp only at hSw); go_simp; (try with_reducible rfl))
        (try simp only [Act.put, List.getElem_toArray, List.getElem_cons_succ, List.getElem_cons_zero, List.setIfInBounds_toArray, List.set_cons_zero, List.set_cons_succ])
        refine wpAnyH_take (i := 3) (v := ?_) rfl (by kernel_rfl) (by kernel_rfl) (by kernel_rfl) (fun _ _ _ h => h) (Or.inl ⟨by rfl, ?_⟩) (by assumption) ?_
        case refine_2 => (intro w hSw; (try dsimp only at hSw); go_simp; (try with_reducible rfl))
        (try simp only [Act.put, List.getElem_toArray, List.getElem_cons_succ, List.getElem_cons_zero, List.setIfInBounds_toArray, List.set_cons_zero, List.set_cons_succ])
        refine wpAnyH_take (i := 4) (v := ?_) rfl (by kernel_rfl) (by kernel_rfl) (by kernel_rfl) (fun _ _ _ h => h) (Or.inl ⟨by rfl, ?_⟩) (by assumption) ?_
        case refine_2 => (intro w hSw; (try dsimp only at hSw); go_simp; (try with_reducible rfl))
        (try simp only [Act.put, List.getElem_toArray, List.getElem_cons_succ, List.getElem_cons_zero, List.setIfInBounds_toArray, List.set_cons_zero, List.set_cons_succ])
        refine wpAnyH_take (i := 5) (v := ?_) rfl (by kernel_rfl) (by kernel_rfl) (by kernel_rfl) (fun _ _ _ h => h) (Or.inl ⟨by rfl, ?_⟩) (by assumption) ?_
        case refine_2 => (intro w hSw; (try dsimp only at hSw); go_simp; (try with_reducible rfl))
        (try simp only [Act.put, List.getElem_toArray, List.getElem_cons_succ, List.getElem_cons_zero, List.setIfInBounds_toArray, List.set_cons_zero, List.set_cons_succ])
        refine wpAnyH_take (i := 6) (v := ?_) rfl (by kernel_rfl) (by kernel_rfl) (by kernel_rfl) (fun _ _ _ h => h) (Or.inl ⟨by rfl, ?_⟩) (by assumption) ?_
        case refine_2 => (intro w hSw; (try dsimp only at hSw); go_simp; (try with_reducible rfl))
        (try simp only [Act.put, List.getElem_toArray, List.getElem_cons_succ, List.getElem_cons_zero, List.setIfInBounds_toArray, List.set_cons_zero, List.set_cons_succ])
        refine wpAnyH_take (i := 7) (v := ?_) rfl (by kernel_rfl) (by kernel_rfl) (by kernel_rfl) (fun _ _ _ h => h) (Or.inl ⟨by rfl, ?_⟩) (by assumption) ?_
        case refine_2 => (intro w hSw; (try dsimp only at hSw); go_simp; (try with_reducible rfl))
        (try simp only [Act.put, List.getElem_toArray, List.getElem_cons_succ, List.getElem_cons_zero, List.setIfInBounds_toArray, List.set_cons_zero, List.set_cons_succ])
        refine wpAnyH_take (i := 8) (v := ?_) rfl (by kernel_rfl) (by kernel_rfl) (by kernel_rfl) (fun _ _ _ h => h) (Or.inl ⟨by rfl, ?_⟩) (by assumption) ?_
        case refine_2 => (intro w hSw; (try dsimp only at hSw); go_simp; (try with_reducible rfl))
        (try simp only [Act.put, List.getElem_toArray, List.getElem_cons_succ, List.getElem_cons_zero, List.setIfInBounds_toArray, List.set_cons_zero, List.set_cons_succ])
        refine wpAnyH_take (i := 9) (v := ?_) rfl (by kernel_rfl) (by kernel_rfl) (by kernel_rfl) (fun _ _ _ h => h) (Or.inl ⟨by rfl, ?_⟩) (by assumption) ?_
        case refine_2 => (intro w hSw; (try dsimp only at hSw); go_simp; (try with_reducible rfl))
        (try simp only [Act.put, List.getElem_toArray, List.getElem_cons_succ, List.getElem_cons_zero, List.setIfInBounds_toArray, List.set_cons_zero, List.set_cons_succ])
        refine wpAnyH_take (i := 10) (v := ?_) rfl (by kernel_rfl) (by kernel_rfl) (by kernel_rfl) (fun _ _ _ h => h) (Or.inl ⟨by rfl, ?_⟩) (by assumption) ?_
        case refine_2 => (intro w hSw; (try dsimp only at hSw); go_simp; (try with_reducible rfl))
        (try simp only [Act.put, List.getElem_toArray, List.getElem_cons_succ, List.getElem_cons_zero, List.setIfInBounds_toArray, List.set_cons_zero, List.set_cons_succ])
        refine wpAnyH_take (i := 11) (v := ?_) rfl (by kernel_rfl) (by kernel_rfl) (by kernel_rfl) (fun _ _ _ h => h) (Or.inl ⟨by rfl, ?_⟩) (by assumption) ?_
        case refine_2 => (intro w hSw; (try dsimp only at hSw); go_simp; (try with_reducible rfl))
        (try simp only [Act.put, List.getElem_toArray, List.getElem_cons_succ, List.getElem_cons_zero, List.setIfInBounds_toArray, List.set_cons_zero, List.set_cons_succ])
        refine wpAnyH_take (i := 12) (v := ?_) rfl (by kernel_rfl) (by kernel_rfl) (by kernel_rfl) (fun _ _ _ h => h) (Or.inl ⟨by rfl, ?_⟩) (by assumption) ?_
        case refine_2 => (intro w hSw; (try dsimp only at hSw); go_simp; (try with_reducible rfl))
        (try simp only [Act.put, List.getElem_toArray, List.getElem_cons_succ, List.getElem_cons_zero, List.setIfInBounds_toArray, List.set_cons_zero, List.set_cons_succ])
        refine wpAnyH_take (i := 13) (v := ?_) rfl (by kernel_rfl) (by kernel_rfl) (by kernel_rfl) (fun _ _ _ h => h) (Or.inl ⟨by rfl, ?_⟩) (by assumption) ?_
        case refine_2 => (intro w hSw; (try dsimp only at hSw); go_simp; (try with_reducible rfl))
        (try simp only [Act.put, List.getElem_toArray, List.getElem_cons_succ, List.getElem_cons_zero, List.setIfInBounds_toArray, List.set_cons_zero, List.set_cons_succ])
        refine wpAnyH_take (i := 14) (v := ?_) rfl (by kernel_rfl) (by kernel_rfl) (by kernel_rfl) (fun _ _ _ h => h) (Or.inl ⟨by rfl, ?_⟩) (by assumption) ?_
        case refine_2 => (intro w hSw; (try dsimp only at hSw); go_simp; (try with_reducible rfl))
        (try simp only [Act.put, List.getElem_toArray, List.getElem_cons_succ, List.getElem_cons_zero, List.setIfInBounds_toArray, List.set_cons_zero, List.set_cons_succ])
        refine wpAnyH_take (i := 15) (v := ?_) rfl (by kernel_rfl) (by kernel_rfl) (by kernel_rfl) (fun _ _ _ h => h) (Or.inl ⟨by rfl, ?_⟩) (by assumption) ?_
        case refine_2 => (intro w hSw; (try dsimp only at hSw); go_simp; (try with_reducible rfl))
        (try simp only [Act.put, List.getElem_toArray, List.getElem_cons_succ, List.getElem_cons_zero, List.setIfInBounds_toArray, List.set_cons_zero, List.set_cons_succ])
        refine wpAnyH_take (i := 16) (v := ?_) rfl (by kernel_rfl) (by kernel_rfl) (by kernel_rfl) (fun _ _ _ h => h) (Or.inl ⟨by rfl, ?_⟩) (by assumption) ?_
        case refine_2 => (intro w hSw; (try dsimp only at hSw); go_simp; (try with_reducible rfl))
        (try simp only [Act.put, List.getElem_toArray, List.getElem_cons_succ, List.getElem_cons_zero, List.setIfInBounds_toArray, List.set_cons_zero, List.set_cons_succ])
        refine wpAnyH_take (i := 17) (v := ?_) rfl (by kernel_rfl) (by kernel_rfl) (by kernel_rfl) (fun _ _ _ h => h) (Or.inl ⟨by rfl, ?_⟩) (by assumption) ?_
        case refine_2 => (intro w hSw; (try dsimp only at hSw); go_simp; (try with_reducible rfl))
        (try simp only [Act.put, List.getElem_toArray, List.getElem_cons_succ, List.getElem_cons_zero, List.setIfInBounds_toArray, List.set_cons_zero, List.set_cons_succ])
        refine wpAnyH_ready (rs := [18]) (by kernel_rfl) (by simp) ?_
        refine AllReadyH.cons rfl (fun K hK => ?_) AllReadyH.nil
        go_simp
        refine hK.out _ _ ⟨d1, d2, d3⟩ (fun hHeld => ?_)
        clear hK K
        refine wpAnyH_done (by kernel_rfl) ?_ _
        go_wp2_with fail
        go_roundw
        case rel => exact ⟨k + 1, by omega, by go_num, HN2⟩
        case measure => simp [intOf]; omega
      | false =>
        by_cases hkl : k < l
        · rcases hyr with h0 | ⟨yb, yo, rfl, _, hyc⟩
          · omega
          have cb := hyc k hkl
          have hkl' : (k : Int) < (l : Int) := by omega
          cases hbk : b k with
          | true =>
            rw [hbk] at cb
            have HN2 := HN (by simp [cutA, cutB, hkl, hbk])
            clear HN HO2 hyc hbk
            go_wp2_with fail
            refine wp_region_held_drew (S := fun v => v.cell? ⟨r, 1, none⟩ = some (.slice (some ⟨g1, 0, none⟩) m c1') ∧ v.cell? ⟨g1, k * 2, none⟩ = some (.int .i64 (a : Int)) ∧ v.cell? ⟨g1, k * 2 + 1, none⟩ = some (.string Z)) (by kernel_rfl) ⟨k1, q0, q1⟩ (fun hHeld => ?_)
            refine wpAnyH_take (i := 0) (v := ?_) rfl (by kernel_rfl) (by kernel_rfl) (by kernel_rfl) (fun _ _ _ h => h) (Or.inl ⟨by rfl, ?_⟩) (by assumption) ?_
            case refine_2 => (intro w hSw; (try dsimp only at hSw); go_simp; (try with_reducible rfl))
            (try simp only [Act.put, List.getElem_toArray, List.getElem_cons_succ, List.getElem_cons_zero, List.setIfInBounds_toArray, List.set_cons_zero, List.set_cons_succ])
            refine wpAnyH_take (i := 1) (v := ?_) rfl (by kernel_rfl) (by kernel_rfl) (by kernel_rfl) (fun _ _ _ h => h) (Or.inl ⟨by rfl, ?_⟩) (by assumption) ?_
            case refine_2 => (intro w hSw; (try dsimp only at hSw); go_simp; (try with_reducible rfl))
            (try simp only [Act.put, List.getElem_toArray, List.getElem_cons_succ, List.getElem_cons_zero, List.setIfInBounds_toArray, List.set_cons_zero, List.set_cons_succ])
            refine wpAnyH_take (i := 2) (v := ?_) rfl (by kernel_rfl) (by kernel_rfl) (by kernel_rfl) (fun _ _ _ h => h) (Or.inl ⟨by rfl, ?_⟩) (by assumption) ?_
            case refine_2 => (intro w hSw; (try dsimp only at hSw); go_simp; (try with_reducible rfl))
            (try simp only [Act.put, List.getElem_toArray, List.getElem_cons_succ, List.getElem_cons_zero, List.setIfInBounds_toArray, List.set_cons_zero, List.set_cons_succ])
            refine wpAnyH_take (i := 3) (v := ?_) rfl (by kernel_rfl) (by kernel_rfl) (by kernel_rfl) (fun _ _ _ h => h) (Or.inl ⟨by rfl, ?_⟩) (by assumption) ?_
            case refine_2 => (intro w hSw; (try dsimp only at hSw); go_simp; (try with_reducible rfl))
            (try simp only [Act.put, List.getElem_toArray, List.getElem_cons_succ, List.getElem_cons_zero, List.setIfInBounds_toArray, List.set_cons_zero, List.set_cons_succ])
            refine wpAnyH_take (i := 4) (v := ?_) rfl (by kernel_rfl) (by kernel_rfl) (by kernel_rfl) (fun _ _ _ h => h) (Or.inl ⟨by rfl, ?_⟩) (by assumption) ?_
            case refine_2 => (intro w hSw; (try dsimp only at hSw); go_simp; (try with_reducible rfl))
            (try simp only [Act.put, List.getElem_toArray, List.getElem_cons_succ, List.getElem_cons_zero, List.setIfInBounds_toArray, List.set_cons_zero, List.set_cons_succ])
            refine wpAnyH_take (i := 5) (v := ?_) rfl (by kernel_rfl) (by kernel_rfl) (by kernel_rfl) (fun _ _ _ h => h) (Or.inl ⟨by rfl, ?_⟩) (by assumption) ?_
            case refine_2 => (intro w hSw; (try dsimp only at hSw); go_simp; (try with_reducible rfl))
            (try simp only [Act.put, List.getElem_toArray, List.getElem_cons_succ, List.getElem_cons_zero, List.setIfInBounds_toArray, List.set_cons_zero, List.set_cons_succ])
            refine wpAnyH_take (i := 6) (v := ?_) rfl (by kernel_rfl) (by kernel_rfl) (by kernel_rfl) (fun _ _ _ h => h) (Or.inl ⟨by rfl, ?_⟩) (by assumption) ?_
            case refine_2 => (intro w hSw; (try dsimp only at hSw); go_simp; (try with_reducible rfl))
            (try simp only [Act.put, List.getElem_toArray, List.getElem_cons_succ, List.getElem_cons_zero, List.setIfInBounds_toArray, List.set_cons_zero, List.set_cons_succ])
            refine wpAnyH_take (i := 7) (v := ?_) rfl (by kernel_rfl) (by kernel_rfl) (by kernel_rfl) (fun _ _ _ h => h) (Or.inl ⟨by rfl, ?_⟩) (by assumption) ?_
            case refine_2 => (intro w hSw; (try dsimp only at hSw); go_simp; (try with_reducible rfl))
            (try simp only [Act.put, List.getElem_toArray, List.getElem_cons_succ, List.getElem_cons_zero, List.setIfInBounds_toArray, List.set_cons_zero, List.set_cons_succ])
            refine wpAnyH_take (i := 8) (v := ?_) rfl (by kernel_rfl) (by kernel_rfl) (by kernel_rfl) (fun _ _ _ h => h) (Or.inl ⟨by rfl, ?_⟩) (by assumption) ?_
            case refine_2 => (intro w hSw; (try dsimp only at hSw); go_simp; (try with_reducible rfl))
            (try simp only [Act.put, List.getElem_toArray, List.getElem_cons_succ, List.getElem_cons_zero, List.setIfInBounds_toArray, List.set_cons_zero, List.set_cons_succ])
            refine wpAnyH_take (i := 9) (v := ?_) rfl (by kernel_rfl) (by kernel_rfl) (by kernel_rfl) (fun _ _ _ h => h) (Or.inl ⟨by rfl, ?_⟩) (by assumption) ?_
            case refine_2 => (intro w hSw; (try dsimp only at hSw); go_simp; (try with_reducible rfl))
            (try simp only [Act.put, List.getElem_toArray, List.getElem_cons_succ, List.getElem_cons_zero, List.setIfInBounds_toArray, List.set_cons_zero, List.set_cons_succ])
            refine wpAnyH_take (i := 10) (v := ?_) rfl (by kernel_rfl) (by kernel_rfl) (by kernel_rfl) (fun _ _ _ h => h) (Or.inl ⟨by rfl, ?_⟩) (by assumption) ?_
            case refine_2 => (intro w hSw; (try dsimp only at hSw); go_simp; (try with_reducible rfl))
            (try simp only [Act.put, List.getElem_toArray, List.getElem_cons_succ, List.getElem_cons_zero, List.setIfInBounds_toArray, List.set_cons_zero, List.set_cons_succ])
            refine wpAnyH_take (i := 11) (v := ?_) rfl (by kernel_rfl) (by kernel_rfl) (by kernel_rfl) (fun _ _ _ h => h) (Or.inl ⟨by rfl, ?_⟩) (by assumption) ?_
            case refine_2 => (intro w hSw; (try dsimp only at hSw); go_simp; (try with_reducible rfl))
            (try simp only [Act.put, List.getElem_toArray, List.getElem_cons_succ, List.getElem_cons_zero, List.setIfInBounds_toArray, List.set_cons_zero, List.set_cons_succ])
            refine wpAnyH_take (i := 12) (v := ?_) rfl (by kernel_rfl) (by kernel_rfl) (by kernel_rfl) (fun _ _ _ h => h) (Or.inl ⟨by rfl, ?_⟩) (by assumption) ?_
            case refine_2 => (intro w hSw; (try dsimp only at hSw); go_simp; (try with_reducible rfl))
            (try simp only [Act.put, List.getElem_toArray, List.getElem_cons_succ, List.getElem_cons_zero, List.setIfInBounds_toArray, List.set_cons_zero, List.set_cons_succ])
            refine wpAnyH_take (i := 13) (v := ?_) rfl (by kernel_rfl) (by kernel_rfl) (by kernel_rfl) (fun _ _ _ h => h) (Or.inl ⟨by rfl, ?_⟩) (by assumption) ?_
            case refine_2 => (intro w hSw; (try dsimp only at hSw); go_simp; (try with_reducible rfl))
            (try simp only [Act.put, List.getElem_toArray, List.getElem_cons_succ, List.getElem_cons_zero, List.setIfInBounds_toArray, List.set_cons_zero, List.set_cons_succ])
            refine wpAnyH_take (i := 14) (v := ?_) rfl (by kernel_rfl) (by kernel_rfl) (by kernel_rfl) (fun _ _ _ h => h) (Or.inl ⟨by rfl, ?_⟩) (by assumption) ?_
            case refine_2 => (intro w hSw; (try dsimp only at hSw); go_simp; (try with_reducible rfl))
            (try simp only [Act.put, List.getElem_toArray, List.getElem_cons_succ, List.getElem_cons_zero, List.setIfInBounds_toArray, List.set_cons_zero, List.set_cons_succ])
            refine wpAnyH_take (i := 15) (v := ?_) rfl (by kernel_rfl) (by kernel_rfl) (by kernel_rfl) (fun _ _ _ h => h) (Or.inl ⟨by rfl, ?_⟩) (by assumption) ?_
            case refine_2 => (intro w hSw; (try dsimp only at hSw); go_simp; (try with_reducible rfl))
            (try simp only [Act.put, List.getElem_toArray, List.getElem_cons_succ, List.getElem_cons_zero, List.setIfInBounds_toArray, List.set_cons_zero, List.set_cons_succ])
            refine wpAnyH_take (i := 16) (v := ?_) rfl (by kernel_rfl) (by kernel_rfl) (by kernel_rfl) (fun _ _ _ h => h) (Or.inl ⟨by rfl, ?_⟩) (by assumption) ?_
            case refine_2 => (intro w hSw; (try dsimp only at hSw); go_simp; (try with_reducible rfl))
            (try simp only [Act.put, List.getElem_toArray, List.getElem_cons_succ, List.getElem_cons_zero, List.setIfInBounds_toArray, List.set_cons_zero, List.set_cons_succ])
            refine wpAnyH_take (i := 17) (v := ?_) rfl (by kernel_rfl) (by kernel_rfl) (by kernel_rfl) (fun _ _ _ h => h) (Or.inl ⟨by rfl, ?_⟩) (by assumption) ?_
            case refine_2 => (intro w hSw; (try dsimp only at hSw); go_simp; (try with_reducible rfl))
            (try simp only [Act.put, List.getElem_toArray, List.getElem_cons_succ, List.getElem_cons_zero, List.setIfInBounds_toArray, List.set_cons_zero, List.set_cons_succ])
            refine wpAnyH_ready (rs := [18]) (by kernel_rfl) (by simp) ?_
            refine AllReadyH.cons rfl (fun K hK => ?_) AllReadyH.nil
            go_simp
            refine hK.out _ _ ⟨d1, d2, d3⟩ (fun hHeld => ?_)
            clear hK K
            refine wpAnyH_done (by kernel_rfl) ?_ _
            go_wp2_with fail
            go_roundw
            case rel => exact ⟨k + 1, by omega, by go_num, HN2⟩
            case measure => simp [intOf]; omega
          | false =>
            rw [hbk] at cb
            have HN2 := HO2 (by simp [cutA, cutB, hbk])
            clear HN HO2 hyc hbk
            go_wp2_with fail
            go_roundw
            case rel => exact ⟨k + 1, by omega, by go_num, HN2⟩
            case measure => simp [intOf]; omega
        · have HN2 := HO2 (by simp [cutA, cutB, hkl])
          have hkl' : (l : Int) ≤ (k : Int) := by omega
          clear HN HO2 hyr
          go_wp2_with fail
          go_roundw
          case rel => exact ⟨k + 1, by omega, by go_num, HN2⟩
          case measure => simp [intOf]; omega
    · have hk2 : k = m := by omega
      subst hk2
      have HF := hid (rd_crash HH.out HB.out.1 HB.out.2 T ho (kept_lt _ HH.out.lt HH.out.ltD k))
      have bo := hr.obj
      have e0 := bo.cell (k := 0) (by omega)
      have f0 := bo.frozen 0
      have bo2 := bo.set 0 (.slice (some ⟨gl, 0, none⟩) n cl)
      have e1 := bo2.cell (k := 1) (by omega)
      have f1 := bo2.frozen 1
      clear T ho HR hr hnG bo bo2
      generalize obj2 (.slice x0 n c0') (.slice x1 k c1') 0 = V0 at *
      generalize upd (obj2 (.slice x0 n c0') (.slice x1 k c1')) 0 (.slice (some ⟨gl, 0, none⟩) n cl) 1 = V1 at *
      go_wp2_with fail
      go_end0
      exact ⟨rfl, HF.out⟩

end Go.Proofs.Ytaaeppbkbkfphaa

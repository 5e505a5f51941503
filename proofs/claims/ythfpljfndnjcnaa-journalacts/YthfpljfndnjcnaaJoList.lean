/-
  A journal's records as the statements list them; lists of lists that are alike; a list that a statement keeps of what it was handed.
  Conditions: none.
-/
import Derived.Test.YthfpljfndnjcnaaJoAwake
namespace Go.Proofs.Ythfpljfndnjcnaa
open Go.RowKit By Dk Su Jo
set_option linter.unusedVariables false
set_option linter.unusedSimpArgs false

/- A list of lists that is read. -/
structure IsG (w : World) (x : Option Addr) (m : Nat) (A : Nat → Option Addr) (ln C : Nat → Nat) (ft : Nat → Nat → Nat) : Prop where
  tops : m = 0 ∨ ∃ g, x = some ⟨g, 0, none⟩ ∧ ∀ i, i < m → w.cell? ⟨g, i, none⟩ = some (.slice (A i) (ln i) (C i))
  row : ∀ i, i < m → RowAt w (A i) (ln i) (ft i)

theorem OwnG.isG {w : World} {B : Nat} {x : Option Addr} {m c : Nat} {A : Nat → Option Addr} {ln C : Nat → Nat} {ft : Nat → Nat → Nat} (h : OwnG w B (.slice x m c) m A ln C ft) : IsG w x m A ln C ft := by
  obtain ⟨x', c', e, _, _, h4⟩ := h.form
  injection e with e1 _ _
  subst e1
  refine ⟨?_, fun i hi => (h.elt i hi).row⟩
  by_cases h0 : m = 0
  · exact .inl h0
  · obtain ⟨g, hx, _⟩ := h4 0 (by omega)
    refine .inr ⟨g, hx, fun i hi => ?_⟩
    obtain ⟨g', hx', hc⟩ := h4 i hi
    rw [hx] at hx'
    injection hx' with hx'
    injection hx' with hx' _ _
    subst hx'
    exact hc

set_option maxHeartbeats 1000000 in
theorem lists_yes (x y : Option Addr) (m c1 c2 : Nat) (A A' : Nat → Option Addr) (ln ln' C C' : Nat → Nat) (ft ft' : Nat → Nat → Nat) (w : World) (h1 : IsG w x m A ln C ft) (h2 : IsG w y m A' ln' C' ft') (he : ∀ i, i < m → ln i = ln' i ∧ ∀ j, j < ln i → ft i j = ft' i j) (hm : m ≤ 281474976710656) :
    Calls Try.prog 18 #[.slice x m c1, .slice y m c2] w fun e w' => e = .returned (.bool true) ∧ ∃ k, w' = w.drewN k := by
  have H1 := hid h1
  have H2 := hid h2
  have HE := hid he
  clear h1 h2 he
  go_enter Try.func18, Try.ntmps18
  go_wp2_with fail
  go_loopw [5] (fun i wr => ∃ k : Nat, k ≤ m ∧ i = .int .i64 k ∧ Hid (∃ q, wr = w.drewN q)) (fun i _ => m - (intOf i).toNat)
  case atStart => exact ⟨0, by omega, rfl, 0, rfl⟩
  case round =>
    obtain ⟨k, hk, rfl, HR⟩ := hrel
    obtain ⟨q, rfl⟩ := HR.out
    by_cases hlt : k < m
    · have hlt' : (k : Int) < (m : Int) := by omega
      rcases H1.out.tops with h0 | ⟨g1, rfl, t1⟩
      · omega
      rcases H2.out.tops with h0 | ⟨g2, rfl, t2⟩
      · omega
      obtain ⟨el, ef⟩ := HE.out k hlt
      have d1 : (w.drewN q).cell? ⟨g1, k, none⟩ = some (.slice (A k) (ln k) (C k)) := t1 k hlt
      have d2 : (w.drewN q).cell? ⟨g2, k, none⟩ = some (.slice (A' k) (ln' k) (C' k)) := t2 k hlt
      obtain ⟨S, hS⟩ : ∃ S, S = strOfNums (nums (ft k) (ln k)) := ⟨_, rfl⟩
      have v1 : ∀ j, (convert 31 9 (.slice (A k) (ln k) (C k))).run Try.prog (w.drewN j) = .ok (.string S) (w.drewN j) := fun j => by
        rw [hS]; exact conv_row _ _ _ _ _ (H1.out.row k hlt).drewN
      have v2 : ∀ j, (convert 31 9 (.slice (A' k) (ln' k) (C' k))).run Try.prog (w.drewN j) = .ok (.string S) (w.drewN j) := fun j => by
        rw [hS, str_congr ef, el]; exact conv_row _ _ _ _ _ (H2.out.row k hlt).drewN
      have v1' := v1 (q + 1)
      have v2' := v2 (q + 1)
      clear t1 t2 el ef hS v1 v2 HR
      generalize A k = A1 at *
      generalize ln k = l1 at *
      generalize C k = C1 at *
      generalize A' k = A2 at *
      generalize ln' k = l2 at *
      generalize C' k = C2 at *
      obtain ⟨wq, hwq⟩ : ∃ wq, wq = w.drewN q := ⟨_, rfl⟩
      have HWQ := hid hwq
      rw [← hwq] at d1 d2
      have e1 : w.drewN (q + 1) = wq.drew := by rw [hwq]; rfl
      rw [e1] at v1' v2'
      rw [← hwq]
      clear hwq e1
      go_wp2_with fail
      refine wp_region_held_drew (S := fun v => v.cell? ⟨g1, k, none⟩ = some (.slice A1 l1 C1) ∧ v.cell? ⟨g2, k, none⟩ = some (.slice A2 l2 C2) ∧ (convert 31 9 (.slice A1 l1 C1)).run Try.prog v = .ok (.string S) v ∧ (convert 31 9 (.slice A2 l2 C2)).run Try.prog v = .ok (.string S) v) (by kernel_rfl) ⟨d1, d2, v1', v2'⟩ (fun hHeld => ?_)
      refine wpAnyH_take (i := 0) (v := ?_) rfl (by kernel_rfl) (by kernel_rfl) (by kernel_rfl) (fun _ _ _ h => h) (Or.inl ⟨by rfl, ?_⟩) (by assumption) ?_
      case refine_2 => (intro w hSw; (try dsimp only at hSw); go_simp; (try with_reducible rfl))
      (try simp only [Act.put, List.getElem_toArray, List.getElem_cons_succ, List.getElem_cons_zero, List.setIfInBounds_toArray, List.set_cons_zero, List.set_cons_succ])
      refine wpAnyH_take (i := 1) (v := ?_) rfl (by kernel_rfl) (by kernel_rfl) (by kernel_rfl) (fun _ _ _ h => h) (Or.inl ⟨by rfl, ?_⟩) (by assumption) ?_
      case refine_2 => (intro w hSw; (try dsimp only at hSw); go_simp; (try with_reducible rfl))
      (try simp only [Act.put, List.getElem_toArray, List.getElem_cons_succ, List.getElem_cons_zero, List.setIfInBounds_toArray, List.set_cons_zero, List.set_cons_succ])
      refine wpAnyH_take (i := 2) (v := ?_) rfl (by kernel_rfl) (by kernel_rfl) (by kernel_rfl) (fun _ _ _ h => h) (Or.inl ⟨by rfl, ?_⟩) (by assumption) ?_
      case refine_2 => (intro w hSw; (try dsimp only at hSw); go_simp; (try with_reducible rfl))
      (try simp only [Act.put, List.getElem_toArray, List.getElem_cons_succ, List.getElem_cons_zero, List.setIfInBounds_toArray, List.set_cons_zero, List.set_cons_succ])
      refine wpAnyH_take (i := 3) (v := ?_) rfl (by kernel_rfl) (by kernel_rfl) (by kernel_rfl) (fun _ _ _ h => h) (Or.inl ⟨by rfl, ?_⟩) (by assumption) ?_
      case refine_2 => (intro w hSw; (try dsimp only at hSw); go_simp; (try with_reducible rfl))
      (try simp only [Act.put, List.getElem_toArray, List.getElem_cons_succ, List.getElem_cons_zero, List.setIfInBounds_toArray, List.set_cons_zero, List.set_cons_succ])
      refine wpAnyH_take (i := 4) (v := ?_) rfl (by kernel_rfl) (by kernel_rfl) (by kernel_rfl) (fun _ _ _ h => h) (Or.inl ⟨by rfl, ?_⟩) (by assumption) ?_
      case refine_2 => (intro w hSw; (try dsimp only at hSw); go_simp; (try with_reducible rfl))
      (try simp only [Act.put, List.getElem_toArray, List.getElem_cons_succ, List.getElem_cons_zero, List.setIfInBounds_toArray, List.set_cons_zero, List.set_cons_succ])
      refine wpAnyH_take (i := 5) (v := ?_) rfl (by kernel_rfl) (by kernel_rfl) (by kernel_rfl) (fun _ _ _ h => h) (Or.inl ⟨by rfl, ?_⟩) (by assumption) ?_
      case refine_2 => (intro w hSw; (try dsimp only at hSw); go_simp; (try with_reducible rfl))
      (try simp only [Act.put, List.getElem_toArray, List.getElem_cons_succ, List.getElem_cons_zero, List.setIfInBounds_toArray, List.set_cons_zero, List.set_cons_succ])
      refine wpAnyH_take (i := 6) (v := ?_) rfl (by kernel_rfl) (by kernel_rfl) (by kernel_rfl) (fun _ _ _ h => h) (Or.inl ⟨by rfl, ?_⟩) (by assumption) ?_
      case refine_2 => (intro w hSw; (try dsimp only at hSw); go_simp; (try with_reducible rfl))
      (try simp only [Act.put, List.getElem_toArray, List.getElem_cons_succ, List.getElem_cons_zero, List.setIfInBounds_toArray, List.set_cons_zero, List.set_cons_succ])
      refine wpAnyH_take (i := 7) (v := ?_) rfl (by kernel_rfl) (by kernel_rfl) (by kernel_rfl) (fun _ _ _ h => h) (Or.inl ⟨by rfl, ?_⟩) (by assumption) ?_
      case refine_2 => (intro w hSw; (try dsimp only at hSw); go_simp; (try with_reducible rfl))
      (try simp only [Act.put, List.getElem_toArray, List.getElem_cons_succ, List.getElem_cons_zero, List.setIfInBounds_toArray, List.set_cons_zero, List.set_cons_succ])
      refine wpAnyH_take (i := 8) (v := ?_) rfl (by kernel_rfl) (by kernel_rfl) (by kernel_rfl) (fun _ _ _ h => h) (Or.inl ⟨by rfl, ?_⟩) (by assumption) ?_
      case refine_2 => (intro w hSw; (try dsimp only at hSw); go_simp; (try with_reducible rfl))
      (try simp only [Act.put, List.getElem_toArray, List.getElem_cons_succ, List.getElem_cons_zero, List.setIfInBounds_toArray, List.set_cons_zero, List.set_cons_succ])
      refine wpAnyH_take (i := 9) (v := ?_) rfl (by kernel_rfl) (by kernel_rfl) (by kernel_rfl) (fun _ _ _ h => h) (Or.inl ⟨by rfl, ?_⟩) (by assumption) ?_
      case refine_2 => (intro w hSw; (try dsimp only at hSw); go_simp; (try with_reducible rfl))
      (try simp only [Act.put, List.getElem_toArray, List.getElem_cons_succ, List.getElem_cons_zero, List.setIfInBounds_toArray, List.set_cons_zero, List.set_cons_succ])
      refine wpAnyH_take (i := 10) (v := ?_) rfl (by kernel_rfl) (by kernel_rfl) (by kernel_rfl) (fun _ _ _ h => h) (Or.inl ⟨by rfl, ?_⟩) (by assumption) ?_
      case refine_2 => (intro w hSw; (try dsimp only at hSw); go_simp; (try with_reducible rfl))
      (try simp only [Act.put, List.getElem_toArray, List.getElem_cons_succ, List.getElem_cons_zero, List.setIfInBounds_toArray, List.set_cons_zero, List.set_cons_succ])
      refine wpAnyH_done (by kernel_rfl) ?_ _
      go_wp2_with fail
      have HN : ∃ q', wq.drew = w.drewN q' := ⟨q + 1, by rw [HWQ.out]; rfl⟩
      first
        | exact ⟨⟨k + 1, hlt, by go_num, HN⟩, show m - ((k : Int) + 1).toNat < m - ((k : Int)).toNat by omega⟩
        | (go_roundw
           case rel => exact ⟨k + 1, hlt, by go_num, HN⟩
           case measure => simp [intOf]; omega)
    · obtain rfl : k = m := by omega
      clear HR
      go_wp2_with fail
      go_ret
      exact ⟨rfl, q, rfl⟩

/- list(j). -/
set_option maxHeartbeats 1000000 in
theorem list_any {w : World} {B jp p g u m : Nat} {R : Value} {A : Nat → Option Addr} {ln C : Nat → Nat} {ft : Nat → Nat → Nat} (h : Jn w B jp p g u R m A ln C ft) (hm : m ≤ 4096) :
    Calls Try.prog 19 #[.pointer (some ⟨jp, 0, none⟩)] w fun e w' => ∃ x c A' C', e = .returned (.slice x m c) ∧ Below w.heap.size w w' ∧ OwnG w' w.heap.size (.slice x m c) m A' ln C' ft := by
  have HJ := hid h
  have H0 : Hid (OwnG (w.alloc (.cells #[] 31)) w.heap.size (.slice (some ⟨w.heap.size, 0, none⟩) 0 0) 0 A ln C ft ∧ Below w.heap.size w (w.alloc (.cells #[] 31))) := ⟨OwnG.empty w w.heap.size (Nat.le_refl _) _ _ _ _, (Below.refl _ _).alloc (Nat.le_refl _) _⟩
  clear h
  go_enter Try.func19, Try.ntmps19
  go_wp2_with fail
  go_loopw [3, 4] (fun o i wr => ∃ (k : Nat) (x : Option Addr) (c : Nat), k ≤ m ∧ i = .int .i64 k ∧ o = .slice x k c ∧ Hid (∃ A' C', OwnG wr w.heap.size (.slice x k c) k A' ln C' ft ∧ Below w.heap.size w wr)) (fun _ i _ => m - (intOf i).toNat)
  case atStart => exact ⟨0, _, _, by omega, rfl, rfl, A, C, H0.out⟩
  case round =>
    clear H0
    obtain ⟨k, x, c, hk, rfl, rfl, HR⟩ := hrel
    obtain ⟨A', C', hown, hbel⟩ := HR.out
    have hlen := (HJ.out.below hbel).len
    by_cases hlt : k < m
    · have hlt' : (k : Int) < (m : Int) := by omega
      have hget := (HJ.out.below hbel).get k (k : Int) rfl hlt
      have HPUSH : Hid (∀ (v : World) (y : Option Addr) (cy : Nat), Below wr.heap.size wr v → Elt v y (ln k) cy (ft k) → (∀ ad, y = some ad → wr.heap.size ≤ ad.block) →
          ∃ x' c' w', (Builtin.append_ #[38, 38] 38 #[.slice x k c, .slice (some ⟨v.heap.size, 0, none⟩) 1 1]).run Try.prog (v.alloc (.cells #[.slice y (ln k) cy] 31)) = .ok (.slice x' (k + 1) c') w' ∧ ∃ A' C', OwnG w' w.heap.size (.slice x' (k + 1) c') (k + 1) A' ln C' ft ∧ Below w.heap.size w w') := fun v y cy hv he hy => by
        obtain ⟨x', c', w', e1, e2, e3, _⟩ := (hown.below hv).push (Nat.le_trans hbel.size hv.size) he (fun ad e hg => by have := hown.olt _ hg; have := hy ad e; omega) (by omega)
        refine ⟨x', c', w', e1, _, _, e2.congr fun i hi => ⟨rfl, ?_, rfl, fun j hj => ?_, fun j => ?_⟩, (hbel.trans (hv.mono hbel.size)).trans (e3.below (fun q hq => hown.ob q hq) (Nat.le_trans hbel.size hv.size))⟩
        · by_cases e : i < k
          · rw [ext_old _ _ _ e]
          · obtain rfl : i = k := by omega
            rw [ext_new]
        · by_cases e : i < k
          · rw [ext_old _ _ _ e]
          · obtain rfl : i = k := by omega
            rw [ext_new]
        · by_cases e : i < k
          · exact (hown.elt i e).lt j
          · obtain rfl : i = k := by omega
            exact he.lt j
      clear hown hbel HR
      generalize ln k = lk at *
      obtain ⟨k1, hk1⟩ : ∃ k1, k1 = k + 1 := ⟨_, rfl⟩
      rw [← hk1] at HPUSH
      have hk1i : (k : Int) + 1 = (k1 : Int) := by omega
      have HK1 := hid hk1
      clear hk1
      go_wp2_with (first
        | (go_at_call 23; refine hlen.mono ?_; rintro e w' ⟨rfl, hw⟩; subst w'; clear hlen)
        | (go_at_call 27; refine hget.mono ?_; rintro e w2 ⟨y, cy, rfl, hb2, he2, hy2⟩; clear hget
           obtain ⟨x', c', w3, hap, HN⟩ := HPUSH.out w2 y cy hb2 he2 hy2
           have HN2 := hid HN
           clear hb2 he2 hy2 HN)
        | (at_builtin; refine wpList_append_run rfl _ _ 38 rfl _ _ rfl rfl hap ?_; clear hap))
      first
        | exact ⟨⟨k1, x', c', by have := HK1.out; omega, rfl, rfl, HN2.out⟩, by have := HK1.out; simp [intOf]; omega⟩
        | (go_roundw
           case rel => exact ⟨k1, x', c', by have := HK1.out; omega, rfl, rfl, HN2.out⟩
           case measure => have := HK1.out; simp [intOf]; omega)
    · obtain rfl : k = m := by omega
      clear hown hbel
      go_wp2_with (first
        | (go_at_call 23; refine hlen.mono ?_; rintro e w' ⟨rfl, hw⟩; subst w'; clear hlen))
      go_ret
      obtain ⟨A', C', h1, h2⟩ := HR.out
      exact ⟨x, c, A', C', rfl, h2, h1⟩

/- What a statement keeps of what it was handed: a list of lists that lie below. -/
structure AllG (w : World) (B : Nat) (gx m c : Nat) (A : Nat → Option Addr) (ln C : Nat → Nat) (ft : Nat → Nat → Nat) : Prop where
  lt : gx < w.heap.size
  ge : B ≤ gx
  le : m ≤ c
  tops : ∀ i, i < m → w.cell? ⟨gx, i, none⟩ = some (.slice (A i) (ln i) (C i))
  grow : w.ownsRow 0 31 1 (.slice (some ⟨gx, 0, none⟩) m c) m (rowOf (slV A ln C) m) ∨ c = m
  elt : ∀ i, i < m → EltW w (A i) (ln i) (C i) (ft i)
  low : ∀ i, i < m → ln i ≠ 0 → ∀ ad, A i = some ad → ad.block < B

section
variable {w w' : World} {B gx m c : Nat} {A : Nat → Option Addr} {ln C : Nat → Nat} {ft : Nat → Nat → Nat}

theorem AllG.isG (h : AllG w B gx m c A ln C ft) : IsG w (some ⟨gx, 0, none⟩) m A ln C ft := ⟨.inr ⟨gx, rfl, h.tops⟩, fun i hi => (h.elt i hi).row⟩

theorem AllG.turns {G : Nat → Prop} (h : AllG w B gx m c A ln C ft) (t : Turns G w w') (hx : ¬ G gx) (hG : ∀ k, G k → B ≤ k) : AllG w' B gx m c A ln C ft :=
  ⟨Nat.lt_of_lt_of_le h.lt t.size, h.ge, h.le, fun i hi => (World.cell?_of_block (a := ⟨gx, i, none⟩) (t.block gx h.lt hx)).trans (h.tops i hi), h.grow.imp (fun o => ownsRow_same o (fun q hq => by
      simp [Value.ownBlock] at hq
      subst hq
      exact t.block gx h.lt hx)) id, fun i hi => (h.elt i hi).turns t (fun h0 ad ha hg => by have := h.low i hi h0 ad ha; have := hG _ hg; omega), h.low⟩

theorem AllG.below (h : AllG w B gx m c A ln C ft) (t : Below w.heap.size w w') : AllG w' B gx m c A ln C ft :=
  h.turns (Turns.of_below (F := fun _ => False) t) (fun h => h) (fun k h => h.elim)

theorem AllG.cut (h : AllG w B gx m c A ln C ft) {k : Nat} (hk : k ≤ m) : AllG w B gx k k A ln C ft :=
  ⟨h.lt, h.ge, Nat.le_refl _, fun i hi => h.tops i (by omega), .inr rfl, fun i hi => h.elt i (by omega), fun i hi => h.low i (by omega)⟩

theorem AllG.push (h : AllG w B gx m c A ln C ft) (hB : B ≤ w.heap.size) {x : Option Addr} {l cx : Nat} {f : Nat → Nat} (k : EltW w x l cx f) (hx : l ≠ 0 → ∀ ad, x = some ad → ad.block < B) (hm : m ≤ 4096) :
    ∃ g' c' w', (Builtin.append_ #[38, 38] 38 #[.slice (some ⟨gx, 0, none⟩) m c, .slice (some ⟨w.heap.size, 0, none⟩) 1 1]).run Try.prog (w.alloc (.cells #[.slice x l cx] 31)) = .ok (.slice (some ⟨g', 0, none⟩) (m + 1) c') w' ∧
      AllG w' B g' (m + 1) c' (ext A m x) (ext ln m l) (ext C m cx) (ext ft m f) ∧ Turns (fun q => q = gx) w w' ∧ (g' = gx ∨ w.heap.size ≤ g') := by
  have b1 : Below w.heap.size w (w.alloc (.cells #[.slice x l cx] 31)) := (Below.refl _ _).alloc (Nat.le_refl _) _
  have h1 := h.below b1
  obtain ⟨i0, hi, hz0, hz1, hz2⟩ := info_parts info_list
  have hnews : ∀ j u, [Value.slice x l cx][j]? = some u → (w.alloc (.cells #[.slice x l cx] 31)).cell? ((⟨w.heap.size, 0, none⟩ : Addr).add j) = some u := fun j u hj => by
    match j, hj with
    | 0, hj => rw [add_at]; simpa using hj
    | j + 1, hj => simp at hj
  have hrow : rowOf (slV A ln C) m ++ [.slice x l cx] = rowOf (slV (ext A m x) (ext ln m l) (ext C m cx)) (m + 1) := by
    rw [rowOf_succ]
    congr 1
    · exact rowOf_congr fun i hi => by unfold slV; rw [ext_old _ _ _ hi, ext_old _ _ _ hi, ext_old _ _ _ hi]
    · unfold slV
      rw [ext_new, ext_new, ext_new]
  have hsz : (w.alloc (.cells #[.slice x l cx] 31)).heap.size = w.heap.size + 1 := by simp
  have hgo : ∃ R' w', (Builtin.append_ #[38, 38] 38 #[.slice (some ⟨gx, 0, none⟩) m c, .slice (some ⟨w.heap.size, 0, none⟩) 1 1]).run Try.prog (w.alloc (.cells #[.slice x l cx] 31)) = .ok R' w' ∧ w'.ownsRow 0 31 1 R' (m + 1) (rowOf (slV (ext A m x) (ext ln m l) (ext C m cx)) (m + 1)) ∧ Turns (fun q => q = gx) w w' ∧ (∀ q, R'.ownBlock = some q → q = gx ∨ w.heap.size ≤ q) := by
    rcases h1.grow with ho | hc
    · obtain ⟨R', w4, hap, ho4, hgr, hR'⟩ := push_gen (w.alloc (.cells #[.slice x l cx] 31)) 38 31 i0 (.slice none 0 0) 1 24 Try.underlying38 hi hz0 hz1 hz2 rfl (by decide) _ m _ ho
        ⟨w.heap.size, 0, none⟩ 1 1 [.slice x l cx] rfl hnews (fun u hu => by simp at hu; subst hu; rfl) (by omega) (by unfold maxLen; omega) (by omega)
      refine ⟨R', w4, hap, by rw [← hrow]; exact ho4, (Turns.of_below b1).grown hgr (fun q hq => .inl (by simp [Value.ownBlock] at hq; exact hq.symm)), fun q hq => ?_⟩
      rcases hR' q hq with e | e
      · left; simp [Value.ownBlock] at e; exact e.symm
      · right; omega
    · obtain ⟨R', w4, hap, ho4, hgr⟩ := run_append_arg_grows (P := Try.prog) (w.alloc (.cells #[.slice x l cx] 31)) 38 38 31 i0 (.slice none 0 0) 1 24 Try.underlying38 hi hz0 hz1 hz2 rfl (by decide)
        ⟨gx, 0, none⟩ m c (rowOf (slV A ln C) m) (by rw [rowOf_len]; omega) (fun j u hj => by
          have hjm : j < m := by
            have := (List.getElem?_eq_some_iff.1 hj).1
            rwa [rowOf_len] at this
          rw [rowOf_get _ _ _ hjm] at hj
          injection hj with hj
          subst hj
          rw [add_at, Nat.zero_add]
          exact h1.tops j hjm) ⟨w.heap.size, 0, none⟩ 1 1 [.slice x l cx] rfl hnews (by omega) (by unfold maxLen; omega) (by omega)
      rw [hrow] at ho4
      refine ⟨R', w4, hap, ⟨ho4.1, ho4.2.imp id fun ⟨g, cap, cur, e1, e2, e3⟩ => ⟨g, cap, cur, e1, Nat.zero_le _, e3⟩⟩, (Turns.of_below b1).grown hgr (fun q hq => by cases hq), fun q hq => ?_⟩
      have := (ho4.lt q hq).1
      right; omega
  obtain ⟨R', w4, hap, ho4, T4, hR'⟩ := hgo
  rcases ho4.2 with ⟨_, h0⟩ | ⟨g', c', cur, hv, _⟩
  · omega
  · subst hv
    have hg' := hR' g' rfl
    have hgx := h.ge
    refine ⟨g', c', w4, hap, ⟨(ho4.lt g' rfl).2, by rcases hg' with e | e <;> omega, ?_, fun i hi => ?_, .inl ho4, fun i hi => ?_, fun i hi h0 ad ha => ?_⟩, T4, hg'⟩
    · obtain ⟨x2, c2, e2, h2, _⟩ := ownsRow_form ho4
      injection e2 with _ _ e3
      omega
    · have := ho4.cells (g := g') rfl i _ (rowOf_get _ (m + 1) i hi)
      rw [add_at, Nat.zero_add] at this
      exact this
    · have hlow : ext ln m l i ≠ 0 → ∀ ad, ext A m x i = some ad → ad.block < B := fun h0 ad ha => by
        by_cases e : i < m
        · rw [ext_old _ _ _ e] at ha h0; exact h.low i e h0 ad ha
        · obtain rfl : i = m := by omega
          rw [ext_new] at ha h0
          exact hx h0 ad ha
      by_cases e : i < m
      · rw [ext_old _ _ _ e, ext_old _ _ _ e] at hlow
        rw [ext_old _ _ _ e, ext_old _ _ _ e, ext_old _ _ _ e, ext_old _ _ _ e]
        exact (h.elt i e).turns T4 (fun h0 ad ha hq => by have := hlow h0 ad ha; omega)
      · obtain rfl : i = m := by omega
        rw [ext_new, ext_new] at hlow
        rw [ext_new, ext_new, ext_new, ext_new]
        exact k.turns T4 (fun h0 ad ha hq => by have := hlow h0 ad ha; omega)
    · by_cases e : i < m
      · rw [ext_old _ _ _ e] at ha h0; exact h.low i e h0 ad ha
      · obtain rfl : i = m := by omega
        rw [ext_new] at ha h0
        exact hx h0 ad ha

theorem AllG.new (w : World) (B : Nat) (hB : B ≤ w.heap.size) (A : Nat → Option Addr) (ln C : Nat → Nat) (ft : Nat → Nat → Nat) : AllG (w.alloc (.cells #[] 31)) B w.heap.size 0 0 A ln C ft :=
  ⟨by simp, hB, Nat.le_refl _, fun i hi => by omega, .inr rfl, fun i hi => by omega, fun i hi => by omega⟩

end

end Go.Proofs.Ythfpljfndnjcnaa

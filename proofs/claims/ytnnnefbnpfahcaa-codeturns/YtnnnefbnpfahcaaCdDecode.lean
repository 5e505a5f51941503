/-
  What Decode of package code does: contracts over plain numbers.
  Conditions: lists that are looked at lie in memory, and take at most what any slice takes.
-/
import Derived.Test.YtnnnefbnpfahcaaCdCalls
namespace Go.Proofs.Ytnnnefbnpfahcaa
open Go.RowKit Gf
set_option linter.unusedVariables false
set_option linter.unusedSimpArgs false

theorem plc_exists (h : Nat → Bool) : ∀ p, ∃ c g, Plc h p c g
  | 0 => ⟨0, fun _ => 0, plc_start h _⟩
  | p + 1 => by
    obtain ⟨c, g, q⟩ := plc_exists h p
    cases e : h p with
    | true => exact ⟨c + 1, _, plc_true q e⟩
    | false => exact ⟨c, g, plc_false q e⟩

theorem Plc.uniq {h : Nat → Bool} {p c c' : Nat} {g g' : Nat → Nat} (q : Plc h p c g) (q' : Plc h p c' g') : c = c' ∧ ∀ r, r < c → g r = g' r := by
  have e : c = c' := by rw [q.all, q'.all]
  subst e
  exact ⟨rfl, fun r hr => cnt_inj (q.has r hr) (q'.has r hr) (by rw [q.nth r hr, q'.nth r hr])⟩

theorem places_plc (b o p cx c : Nat) (h : Nat → Bool) (g : Nat → Nat) (w : World) (hp : p ≤ 1000) (hx : BoolsAt w (some ⟨b, o, none⟩) p h) (hp0 : 0 < p) (hP : Plc h p c g) :
    Calls Try.prog 28 #[.slice (some ⟨b, o, none⟩) p cx] w fun e w' => Below w.heap.size w w' ∧ ∃ y cy, e = .returned (.slice y c cy) ∧ c ≤ cy ∧ IntsAt w' y c (fun i => (g i : Int)) ∧
      (0 < c → ∃ lb, y = some ⟨lb, 0, none⟩ ∧ lb < w'.heap.size ∧ ∀ i, i < c → w'.cell? ⟨lb, 0 + i, none⟩ = some (.int .i64 (g i : Int))) :=
  (places_any b o p cx h w hp hx hp0).mono fun e w' ⟨hb, V, c', g', he, hP', ho⟩ => by
    obtain ⟨rfl, hg⟩ := hP.uniq hP'
    refine ⟨hb, ?_⟩
    have hcell : ∀ lb cy, V = .slice (some ⟨lb, 0, none⟩) c cy → ∀ i, i < c → w'.cell? ⟨lb, 0 + i, none⟩ = some (.int .i64 (g i : Int)) := fun lb cy hV i hi => by
      subst hV
      rw [Nat.zero_add, ho.cellAt i (by omega)]
      simp [intsOf, hi, hg i hi]
    rcases ho.2 with ⟨hV, h0⟩ | ⟨lb, cy, cur, hV, hl, hh, hc, _⟩
    · subst hV
      subst h0
      exact ⟨none, 0, he, Nat.le_refl _, .inl rfl, fun h => by omega⟩
    · have hlt := (Array.getElem?_eq_some_iff.1 hh).1
      have hcl := hcell lb cy hV
      subst hV
      exact ⟨_, cy, he, hc, .inr ⟨lb, 0, rfl, hlt, hcl⟩, fun _ => ⟨lb, rfl, hlt, hcl⟩⟩

theorem IntsAt.take {w : World} {x : Option Addr} {p q : Nat} {lv : Nat → Int} (h : IntsAt w x p lv) (hq : q ≤ p) : IntsAt w x q lv := by
  rcases h with h | ⟨b, o, h1, h2, h3⟩
  · exact .inl (by omega)
  · exact .inr ⟨b, o, h1, h2, fun i hi => h3 i (by omega)⟩

theorem elem_ints : Try.prog.underlying 49 = some (.slice (Try.prog.elem 49)) := by kernel_rfl
theorem elem_ints_is : Try.prog.elem 49 = 3 := by kernel_rfl
theorem size_int (w : World) : (sizeOf 3).run Try.prog w = .ok 1 w := by kernel_rfl

theorem cut_ints (g o m c d : Nat) (w : World) (h : d ≤ c) :
    (Instr.slice 49 (.slice (some ⟨g, o, none⟩) m c) none (some (.int .i64 (d : Int))) none).run Try.prog w = .ok (.slice (some ⟨g, o, none⟩) d c) w := by
  rw [run_slice_h w 49 _ _ _ elem_ints .i64 (d : Int) (by omega) (by omega), elem_ints_is, size_int]
  simp only [Result.andThen, sliced, Int.toNat_natCast, Nat.mul_one, Option.map, Nat.sub_zero]
  have hadd : (⟨g, o, none⟩ : Addr).add 0 = ⟨g, o, none⟩ := by unfold Addr.add; split <;> simp_all
  split
  · rfl
  · rw [hadd]

theorem decode_code (a b : Int) (x y : Option Addr) (n p c c' : Nat) (w : World) (h : ¬ CauchyN a b) :
    Calls Try.prog 15 #[.int .i64 a, .int .i64 b, .slice x n c, .slice y p c'] w fun e w' => e = .returned (.tuple #[.slice none 0 0, .int .i64 1]) ∧ Below w.heap.size w w' := by
  have hc := cauchy_no a b w h
  clear h
  go_enter Try.func15, Try.ntmps15
  go_wp2_with (go_at_call 20; refine hc.mono ?_; rintro e w' ⟨rfl, rfl⟩; clear hc)
  go_ret2
  exact ⟨rfl, Below.refl _ _⟩

set_option maxHeartbeats 1000000 in
set_option maxRecDepth 100000 in
theorem decode_len (k m : Nat) (x y : Option Addr) (n p c c' : Nat) (w : World) (h1 : 1 ≤ k) (h2 : 1 ≤ m) (h3 : k + m ≤ 255) (hx : n ≠ k + m ∨ p ≠ k + m) :
    Calls Try.prog 15 #[.int .i64 k, .int .i64 m, .slice x n c, .slice y p c'] w fun e w' => e = .returned (.tuple #[.slice none 0 0, .int .i64 1]) ∧ Below w.heap.size w w' := by
  have hc := cauchy_yes k m w h1 h2 h3
  obtain ⟨s, hs⟩ : ∃ s, s = k + m := ⟨_, rfl⟩
  have hsi : (k : Int) + (m : Int) = (s : Int) := by omega
  have hs5 : s ≤ 255 := by omega
  rw [← hs] at hc
  by_cases e : n = s
  · subst e
    have g0 : ((n : Int) != (n : Int)) = false := by simp
    have g1 : ((p : Int) != (n : Int)) = true := by simp; omega
    clear h1 h2 h3 hs hx
    go_enter Try.func15, Try.ntmps15
    go_wp2_with (go_at_call 20; refine hc.mono ?_; rintro e x1 ⟨hb1, B1, G1, C1, rfl, ho1⟩; clear hc)
    go_ret2
    exact ⟨rfl, hb1⟩
  · have g1 : ((n : Int) != (s : Int)) = true := by simp; omega
    clear h1 h2 h3 hs hx e
    go_enter Try.func15, Try.ntmps15
    go_wp2_with (go_at_call 20; refine hc.mono ?_; rintro e x1 ⟨hb1, B1, G1, C1, rfl, ho1⟩; clear hc)
    go_ret2
    exact ⟨rfl, hb1⟩

set_option maxHeartbeats 2000000 in
set_option maxRecDepth 100000 in
theorem decode_uneven (k m b o hb hd cx ch c : Nat) (A : Nat → Option Addr) (L C : Nat → Nat) (f : Nat → Nat → Nat) (h : Nat → Bool) (g : Nat → Nat) (w : World) (h1 : 1 ≤ k) (h2 : 1 ≤ m) (h3 : k + m ≤ 255)
    (hG : IsGrid w (some ⟨b, o, none⟩) (k + m) A L C f) (hH : BoolsAt w (some ⟨hb, hd, none⟩) (k + m) h) (hP : Plc h (k + m) c g) (hE : ¬ EqN c (fun r => L (g r))) :
    Calls Try.prog 15 #[.int .i64 k, .int .i64 m, .slice (some ⟨b, o, none⟩) (k + m) cx, .slice (some ⟨hb, hd, none⟩) (k + m) ch] w fun e w' => e = .returned (.tuple #[.slice none 0 0, .int .i64 1]) ∧ Below w.heap.size w w' := by
  have hc := cauchy_yes k m w h1 h2 h3
  obtain ⟨s, hs⟩ : ∃ s, s = k + m := ⟨_, rfl⟩
  have hsi : (k : Int) + (m : Int) = (s : Int) := by omega
  have hs5 : s ≤ 255 := by omega
  rw [← hs] at hc hG hH hP
  rw [← hs]
  have hcs : c ≤ s := by rw [hP.all]; exact cnt_le h s
  have hpl : ∀ v, Below w.heap.size w v → Calls Try.prog 28 #[.slice (some ⟨hb, hd, none⟩) s ch] v _ := fun v hv => places_plc hb hd s ch c h g v (by omega) (hH.below (Nat.le_refl _) hv) (by omega) hP
  have hpk : ∀ v y cp, Below w.heap.size w v → IntsAt v y c (fun i => (g i : Int)) → Calls Try.prog 29 #[.slice (some ⟨b, o, none⟩) s cx, .slice y c cp] v _ := fun v y cp hv hi => picked_any b o s cx c cp y A L C f g v (by omega) (hG.below hv) hi hP.lt
  have hq : ∀ v w' : World, Build v w' c c (fun r => A (g r)) (fun r => L (g r)) (fun r => C (g r)) (fun r => f (g r)) → Calls Try.prog 21 #[.slice (some ⟨v.heap.size, 0, none⟩) c c] w' fun e w'' => e = .returned (.bool false) ∧ w'' = w' := fun v w' hB => equally_no _ c c _ _ _ w' (by omega) hB.grid.1 hE
  have g0 : ((s : Int) != (s : Int)) = false := by simp
  clear h1 h2 h3 hs hG hH hP hE
  go_enter Try.func15, Try.ntmps15
  go_wp2_with (first
    | (go_at_call 20; refine hc.mono ?_; rintro e x1 ⟨hb1, B1, G1, C1, rfl, ho1⟩; clear hc)
    | (go_at_call 28; refine (hpl _ hb1).mono ?_; rintro e x2 ⟨hb2, y2, cy2, rfl, hcy, hi2, _⟩; clear hpl; have hb02 := hb1.trans (hb2.mono hb1.size))
    | (go_at_call 29; refine (hpk _ y2 cy2 hb02 hi2).mono ?_; rintro e x3 ⟨rfl, hB3⟩; clear hpk)
    | (go_at_call 21; refine (hq _ _ hB3).mono ?_; rintro e x4 ⟨rfl, rfl⟩; clear hq))
  go_ret2
  exact ⟨rfl, hb02.trans (hB3.below.mono hb02.size)⟩

set_option maxHeartbeats 2000000 in
set_option maxRecDepth 100000 in
theorem decode_few (k m b o hb hd cx ch c : Nat) (A : Nat → Option Addr) (L C : Nat → Nat) (f : Nat → Nat → Nat) (h : Nat → Bool) (g : Nat → Nat) (w : World) (h1 : 1 ≤ k) (h2 : 1 ≤ m) (h3 : k + m ≤ 255)
    (hG : IsGrid w (some ⟨b, o, none⟩) (k + m) A L C f) (hH : BoolsAt w (some ⟨hb, hd, none⟩) (k + m) h) (hP : Plc h (k + m) c g) (hE : EqN c (fun r => L (g r))) (hck : c < k) :
    Calls Try.prog 15 #[.int .i64 k, .int .i64 m, .slice (some ⟨b, o, none⟩) (k + m) cx, .slice (some ⟨hb, hd, none⟩) (k + m) ch] w fun e w' => e = .returned (.tuple #[.slice none 0 0, .int .i64 4]) ∧ Below w.heap.size w w' := by
  have hc := cauchy_yes k m w h1 h2 h3
  obtain ⟨s, hs⟩ : ∃ s, s = k + m := ⟨_, rfl⟩
  have hsi : (k : Int) + (m : Int) = (s : Int) := by omega
  have hs5 : s ≤ 255 := by omega
  rw [← hs] at hc hG hH hP
  rw [← hs]
  have hcs : c ≤ s := by rw [hP.all]; exact cnt_le h s
  have hpl : ∀ v, Below w.heap.size w v → Calls Try.prog 28 #[.slice (some ⟨hb, hd, none⟩) s ch] v _ := fun v hv => places_plc hb hd s ch c h g v (by omega) (hH.below (Nat.le_refl _) hv) (by omega) hP
  have hpk : ∀ v y cp, Below w.heap.size w v → IntsAt v y c (fun i => (g i : Int)) → Calls Try.prog 29 #[.slice (some ⟨b, o, none⟩) s cx, .slice y c cp] v _ := fun v y cp hv hi => picked_any b o s cx c cp y A L C f g v (by omega) (hG.below hv) hi hP.lt
  have hq : ∀ v w' : World, Build v w' c c (fun r => A (g r)) (fun r => L (g r)) (fun r => C (g r)) (fun r => f (g r)) → Calls Try.prog 21 #[.slice (some ⟨v.heap.size, 0, none⟩) c c] w' fun e w'' => e = .returned (.bool true) ∧ w'' = w' := fun v w' hB => equally_yes _ c c _ _ _ w' (by omega) hB.grid.1 hE
  have g0 : ((s : Int) != (s : Int)) = false := by simp
  have hcki : (c : Int) < (k : Int) := by omega
  clear h1 h2 h3 hs hG hH hP hE
  go_enter Try.func15, Try.ntmps15
  go_wp2_with (first
    | (go_at_call 20; refine hc.mono ?_; rintro e x1 ⟨hb1, B1, G1, C1, rfl, ho1⟩; clear hc)
    | (go_at_call 28; refine (hpl _ hb1).mono ?_; rintro e x2 ⟨hb2, y2, cy2, rfl, hcy, hi2, _⟩; clear hpl; have hb02 := hb1.trans (hb2.mono hb1.size))
    | (go_at_call 29; refine (hpk _ y2 cy2 hb02 hi2).mono ?_; rintro e x3 ⟨rfl, hB3⟩; clear hpk)
    | (go_at_call 21; refine (hq _ _ hB3).mono ?_; rintro e x4 ⟨rfl, rfl⟩; clear hq))
  go_ret2
  exact ⟨rfl, hb02.trans (hB3.below.mono hb02.size)⟩

set_option maxHeartbeats 1000000 in
set_option maxRecDepth 100000 in
theorem decode_yes (k m n b o hb hd cx ch c : Nat) (A : Nat → Option Addr) (L C : Nat → Nat) (f : Nat → Nat → Nat) (h : Nat → Bool) (g : Nat → Nat) (w : World) (h1 : 1 ≤ k) (h2 : 1 ≤ m) (h3 : k + m ≤ 255) (hn : n ≤ 140737488351232)
    (hG : IsGrid w (some ⟨b, o, none⟩) (k + m) A L C f) (hH : BoolsAt w (some ⟨hb, hd, none⟩) (k + m) h) (hP : Plc h (k + m) c g) (hE : ∀ r, r < c → L (g r) = n) (hck : k ≤ c) :
    Calls Try.prog 15 #[.int .i64 k, .int .i64 m, .slice (some ⟨b, o, none⟩) (k + m) cx, .slice (some ⟨hb, hd, none⟩) (k + m) ch] w fun e w' => ∃ w1 A1 C1, Below w.heap.size w w1 ∧ e = .returned (.tuple #[.slice (some ⟨w1.heap.size, 0, none⟩) (k + m) (k + m), .int .i64 0]) ∧
      Build w1 w' (k + m) (k + m) A1 (fun _ => n) C1 (decF k m g (fun r => f (g r))) := by
  have hc := cauchy_yes k m w h1 h2 h3
  obtain ⟨s, hs⟩ : ∃ s, s = k + m := ⟨_, rfl⟩
  have hsi : (k : Int) + (m : Int) = (s : Int) := by omega
  have hs5 : s ≤ 255 := by omega
  rw [← hs] at hc hG hH hP
  rw [← hs]
  have hcs : c ≤ s := by rw [hP.all]; exact cnt_le h s
  have hf := hG.2.2
  have hpl : ∀ v, Below w.heap.size w v → Calls Try.prog 28 #[.slice (some ⟨hb, hd, none⟩) s ch] v fun e w' => Below v.heap.size v w' ∧ ∃ lb cy, e = .returned (.slice (some ⟨lb, 0, none⟩) c cy) ∧ c ≤ cy ∧ IntsAt w' (some ⟨lb, 0, none⟩) c (fun i => (g i : Int)) ∧ lb < w'.heap.size ∧ ∀ i, i < c → w'.cell? ⟨lb, 0 + i, none⟩ = some (.int .i64 (g i : Int)) := fun v hv =>
    (places_plc hb hd s ch c h g v (by omega) (hH.below (Nat.le_refl _) hv) (by omega) hP).mono fun e w' ⟨q1, y, cy, q2, q3, q4, q5⟩ => by
      obtain ⟨lb, rfl, q6, q7⟩ := q5 (by omega)
      exact ⟨q1, lb, cy, q2, q3, q4, q6, q7⟩
  have hpk : ∀ v y cp q, q ≤ c → Below w.heap.size w v → IntsAt v y c (fun i => (g i : Int)) → Calls Try.prog 29 #[.slice (some ⟨b, o, none⟩) s cx, .slice y q cp] v fun e w' => e = .returned (.slice (some ⟨v.heap.size, 0, none⟩) q q) ∧ Build v w' q q (fun r => A (g r)) (fun r => L (g r)) (fun r => C (g r)) (fun r => f (g r)) := fun v y cp q hqc hv hi => picked_any b o s cx q cp y A L C f g v (by omega) (hG.below hv) (hi.take hqc) (fun i hi => hP.lt i (by omega))
  have hq : ∀ v w' : World, Build v w' c c (fun r => A (g r)) (fun r => L (g r)) (fun r => C (g r)) (fun r => f (g r)) → Calls Try.prog 21 #[.slice (some ⟨v.heap.size, 0, none⟩) c c] w' fun e w'' => e = .returned (.bool true) ∧ w'' = w' := fun v w' hB => equally_yes _ c c _ _ _ w' (by omega) hB.grid.1 (fun r hr => by show L (g r) = L (g 0); rw [hE r hr, hE 0 (by omega)])
  have hinv : ∀ v x1 B G1 C1 lb cy, Below x1.heap.size x1 v → Own w.heap.size x1 B s k G1 C1 (cauchyF k m) → lb < v.heap.size → (∀ i, i < c → v.cell? ⟨lb, 0 + i, none⟩ = some (.int .i64 (g i : Int))) → Calls Try.prog 30 #[.slice (some ⟨B, 0, none⟩) s s, .slice (some ⟨lb, 0, none⟩) k cy] v fun e w' => Below v.heap.size v w' ∧ ∃ B G' C', e = .returned (.tuple #[.slice (some ⟨B, 0, none⟩) k k, .int .i64 0]) ∧ Own v.heap.size w' B k k G' C' (right (fun r => cauchyF k m (g r)) k) := fun v x1 B G1 C1 lb cy hv ho hl hcl =>
    inverseOf_yes B s k m s lb cy G1 C1 g v (ho.mat.below (Nat.le_refl _) hv) h1 h2 h3 hs hl (fun i hi => hcl i (by omega)) (fun i hi => hP.lt i (by omega)) (fun r q hr hq e => hP.inj (by omega) (by omega) e)
  have hcm1 : ∀ v v0 x4 B G' C', Below x4.heap.size x4 v → Own v0 x4 B k k G' C' (right (fun r => cauchyF k m (g r)) k) → Build x4 v k k (fun r => A (g r)) (fun r => L (g r)) (fun r => C (g r)) (fun r => f (g r)) → Calls Try.prog 22 #[.slice (some ⟨B, 0, none⟩) k k, .slice (some ⟨x4.heap.size, 0, none⟩) k k] v fun e w' => e = .returned (.slice (some ⟨v.heap.size, 0, none⟩) k k) ∧ ∃ A1 C1, Build v w' k k A1 (fun _ => n) C1 (mulF (right (fun r => cauchyF k m (g r)) k) (fun r => f (g r)) k) := fun v v0 x4 B G' C' hv ho hB =>
    combined_any B 0 x4.heap.size 0 k k n k k _ _ _ _ _ _ v (by omega) h1 (by omega) hn (ho.mat.grid.below hv) (hB.grid.congr (fun r hr => hE r (by omega)) (fun _ _ _ _ => rfl) (fun r j => hf _ j))
  have hcm2 : ∀ v x1 v5 B G1 C1 A1 C2, Below x1.heap.size x1 v → Own w.heap.size x1 B s k G1 C1 (cauchyF k m) → Build v5 v k k A1 (fun _ => n) C2 (mulF (right (fun r => cauchyF k m (g r)) k) (fun r => f (g r)) k) → Calls Try.prog 22 #[.slice (some ⟨B, 0, none⟩) s s, .slice (some ⟨v5.heap.size, 0, none⟩) k k] v fun e w' => e = .returned (.slice (some ⟨v.heap.size, 0, none⟩) s s) ∧ ∃ A1 C1, Build v w' s s A1 (fun _ => n) C1 (decF k m g (fun r => f (g r))) := fun v x1 v5 B G1 C1 A1 C2 hv ho hB =>
    combined_any B 0 v5.heap.size 0 s k n s k _ _ _ _ _ _ v (by omega) h1 (by omega) hn (ho.mat.grid.below hv) hB.grid
  have hpk1 := fun v y cp => hpk v y cp c (Nat.le_refl _)
  have hpk2 := fun v y cp => hpk v y cp k hck
  clear hpk
  have hcut : ∀ lb cy (v : World), c ≤ cy → (Instr.slice 49 (.slice (some ⟨lb, 0, none⟩) c cy) none (some (.int .i64 (k : Int))) none).run Try.prog v = .ok (.slice (some ⟨lb, 0, none⟩) k cy) v := fun lb cy v hcy => cut_ints lb 0 c cy k v (by omega)
  have g0 : ((s : Int) != (s : Int)) = false := by simp
  have hcki : ¬ ((c : Int) < (k : Int)) := by omega
  clear h1 h2 h3 hs hG hH hP hE hf
  go_enter Try.func15, Try.ntmps15
  go_wp2_with (first
    | (go_at_call 20; refine hc.mono ?_; rintro e x1 ⟨hb1, B1, G1, C1, rfl, ho1⟩; clear hc)
    | (go_at_call 28; refine (hpl _ hb1).mono ?_; rintro e x2 ⟨hb2, lb, cy2, rfl, hcy, hi2, hlb, hcl⟩; clear hpl; have hb02 := hb1.trans (hb2.mono hb1.size); have hct := fun v => hcut lb cy2 v hcy; clear hcut)
    | (go_at_call 29; refine (hpk1 _ (some ⟨lb, 0, none⟩) cy2 hb02 hi2).mono ?_; rintro e x3 ⟨rfl, hB3⟩; clear hpk1; have hb03 := hb02.trans (hB3.below.mono hb02.size); have hb13 := hb2.trans (hB3.below.mono hb2.size))
    | (go_at_call 21; refine (hq _ _ hB3).mono ?_; rintro e x4 ⟨rfl, rfl⟩; clear hq)
    | (go_at_call 30; refine (hinv _ x1 B1 G1 C1 lb cy2 hb13 ho1 (Nat.lt_of_lt_of_le hlb hB3.below.size) (fun i hi => (hB3.below.cell (by exact hlb)).trans (hcl i hi))).mono ?_; rintro e x5 ⟨hb5, D5, G5, C5, rfl, ho5⟩; clear hinv; have hb05 := hb03.trans (hb5.mono hb03.size); have hb15 := hb13.trans (hb5.mono hb13.size); have hi5 := (hi2.below (Nat.le_refl _) hB3.below).below (Nat.le_refl _) hb5; clear hB3)
    | (go_at_call 29; refine (hpk2 _ (some ⟨lb, 0, none⟩) cy2 hb05 hi5).mono ?_; rintro e x6 ⟨rfl, hB6⟩; clear hpk2; have hb16 := hb15.trans (hB6.below.mono hb15.size); have hb06 := hb05.trans (hB6.below.mono hb05.size))
    | (go_at_call 22; refine (hcm1 _ _ _ D5 G5 C5 hB6.below ho5 hB6).mono ?_; rintro e x7 ⟨rfl, A7, C7, hB7⟩; clear hcm1; have hb17 := hb16.trans (hB7.below.mono hb16.size); have hb07 := hb06.trans (hB7.below.mono hb06.size))
    | (go_at_call 22; refine (hcm2 _ x1 _ B1 G1 C1 A7 C7 hb17 ho1 hB7).mono ?_; rintro e x8 ⟨rfl, A8, C8, hB8⟩; clear hcm2))
  go_ret2
  exact ⟨_, A8, C8, hb07, rfl, hB8⟩

end Go.Proofs.Ytnnnefbnpfahcaa

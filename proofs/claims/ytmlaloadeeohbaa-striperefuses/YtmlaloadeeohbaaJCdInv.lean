/-
  7 texts of this proof, one behind the other: CdInv, CdCalls, CdDecode, CdAwake, CdTurn, CdLaw, CdBools.
-/
import Derived.Test.YtmlaloadeeohbaaCdPlaces
import Derived.Deep.Grids
import Derived.SizedLaws
/-
  What inverseOf of package code does: a contract over plain numbers.
  Conditions: the places are K of a code's, each another one.
-/
namespace Go.Proofs.Ytmlaloadeeohbaa
open Go.RowKit Gf
set_option linter.unusedVariables false
set_option linter.unusedSimpArgs false
set_option maxRecDepth 100000

set_option maxHeartbeats 400000 in
set_option maxRecDepth 100000 in
theorem inverseOf_yes (b n k m c lb cl : Nat) (G C : Nat → Nat) (g : Nat → Nat) (w : World) (h : Mat w b 0 n k G (fun _ => 0) C (cauchyF k m)) (h1 : 1 ≤ k) (h2 : 1 ≤ m) (h3 : k + m ≤ 255) (hn : n = k + m) (hlb : lb < w.heap.size)
    (hl : ∀ i, i < k → w.cell? ⟨lb, 0 + i, none⟩ = some (.int .i64 (g i : Int))) (hg : ∀ i, i < k → g i < n) (hinj : ∀ r s, r < k → s < k → g r = g s → r = s) :
    Calls Try.prog 32 #[.slice (some ⟨b, 0, none⟩) n c, .slice (some ⟨lb, 0, none⟩) k cl] w fun e w' => Below w.heap.size w w' ∧ ∃ B G' C', e = .returned (.tuple #[.slice (some ⟨B, 0, none⟩) k k, .int .i64 0]) ∧ Own w.heap.size w' B k k G' C' (right (fun r => cauchyF k m (g r)) k) := by
  have hrows := rows_yes b 0 lb 0 n k k c cl G (fun _ => 0) C (cauchyF k m) g w h (by omega) (by omega) h1 (by omega) h1 (by omega) hlb hl hg
  have hturn := cauchy_turns k m g h3 (fun r hr => by have := hg r hr; omega) hinj
  obtain ⟨F, hF⟩ : ∃ F : Nat → Nat → Nat, F = fun r => cauchyF k m (g r) := ⟨_, rfl⟩
  rw [← hF] at hrows hturn
  rw [← hF]
  have hinv : ∀ v B G C q, Mat v B 0 k k G (fun _ => 0) C F → Calls Try.prog 45 #[.slice (some ⟨B, 0, none⟩) k q] v fun e w' => ∃ B' G' C', e = .returned (.tuple #[.slice (some ⟨B', 0, none⟩) k k, .int .i64 0]) ∧ Below v.heap.size v w' ∧ Own v.heap.size w' B' k k G' C' (right F k) := fun v B G C q hMv =>
    (inverse_any B 0 k q G (fun _ => 0) C F v hMv h1 (by omega)).mono fun e w' h => by
      rcases h.2 with ⟨h0, _⟩ | ⟨_, B', G', C', he, ho⟩
      · omega
      · exact ⟨B', G', C', he, h.1, ho⟩
  clear hturn hF h hl hg hinj hn h1 h2 h3 hlb
  go_enter Try.func32, Try.ntmps32
  go_wp2_with (first
    | (go_at_call 44; refine hrows.mono ?_; rintro e y1 ⟨hb1, D1, P1, Q1, rfl, ho1⟩; clear hrows)
    | (go_at_call 45; refine (hinv _ D1 P1 Q1 _ ho1.mat).mono ?_; rintro e y2 ⟨D2, P2, Q2, rfl, hb2, ho2⟩; clear hinv))
  go_ret2
  exact ⟨hb1.trans (hb2.mono hb1.size), D2, P2, Q2, rfl, ho2.base_le hb1.size⟩

end Go.Proofs.Ytmlaloadeeohbaa

/-
  What Encode and Check of package code do, and the document's Check: contracts over plain numbers.
  Conditions: lists that are looked at lie in memory, and take at most what any slice takes.
-/
namespace Go.Proofs.Ytmlaloadeeohbaa
open Go.RowKit Gf
set_option linter.unusedVariables false
set_option linter.unusedSimpArgs false
set_option maxRecDepth 100000

theorem code_nat {a b : Int} (h : CauchyN a b) : ∃ k m : Nat, a = k ∧ b = m ∧ 1 ≤ k ∧ 1 ≤ m ∧ k + m ≤ 255 := by
  unfold CauchyN at h
  exact ⟨a.toNat, b.toNat, by omega, by omega, by omega, by omega, by omega⟩

theorem nat_code {k m : Nat} (h1 : 1 ≤ k) (h2 : 1 ≤ m) (h3 : k + m ≤ 255) : CauchyN k m := by unfold CauchyN; omega

set_option maxHeartbeats 1000000 in
set_option maxRecDepth 100000 in
theorem encode_no (a b : Int) (x : Option Addr) (n c : Nat) (A : Nat → Option Addr) (L C : Nat → Nat) (w : World) (hn : n ≤ 140737488351232) (ht : Tops w x n A L C) (hx : ¬ (CauchyN a b ∧ (n : Int) = a ∧ EqN n L)) :
    Calls Try.prog 22 #[.int .i64 a, .int .i64 b, .slice x n c] w fun e w' => e = .returned (.tuple #[.slice none 0 0, .int .i64 1]) ∧ Below w.heap.size w w' := by
  by_cases h : CauchyN a b
  · obtain ⟨k, m, rfl, rfl, h1, h2, h3⟩ := code_nat h
    have hc := cauchy_yes k m w h1 h2 h3
    by_cases e : n = k
    · subst e
      have hne : ¬ EqN n L := fun q => hx ⟨h, rfl, q⟩
      have hq : ∀ v, Below w.heap.size w v → Calls Try.prog 30 #[.slice x n c] v fun e w' => e = .returned (.bool false) ∧ w' = v := fun v hv => equally_no x n c A L C v hn (ht.below (Nat.le_refl _) hv) hne
      have g0 : ((n : Int) != (n : Int)) = false := by simp
      clear h hx hne ht h1 h2 h3
      go_enter Try.func22, Try.ntmps22
      go_wp2_with (first
        | (go_at_call 28; refine hc.mono ?_; rintro e x1 ⟨hb1, B1, G1, C1, rfl, ho1⟩; clear hc)
        | (go_at_call 30; refine (hq _ hb1).mono ?_; rintro e w' ⟨rfl, rfl⟩))
      go_ret2
      exact ⟨rfl, hb1⟩
    · have g0 : ((n : Int) != (k : Int)) = true := by simp; omega
      clear h hx ht h1 h2 h3 e
      go_enter Try.func22, Try.ntmps22
      go_wp2_with (go_at_call 28; refine hc.mono ?_; rintro e x1 ⟨hb1, B1, G1, C1, rfl, ho1⟩; clear hc)
      go_ret2
      exact ⟨rfl, hb1⟩
  · have hc := cauchy_no a b w h
    clear h hx ht
    go_enter Try.func22, Try.ntmps22
    go_wp2_with (go_at_call 28; refine hc.mono ?_; rintro e w' ⟨rfl, rfl⟩; clear hc)
    go_ret2
    exact ⟨rfl, Below.refl _ _⟩

set_option maxHeartbeats 1000000 in
set_option maxRecDepth 100000 in
theorem encode_yes (k m n db dd c : Nat) (A : Nat → Option Addr) (C : Nat → Nat) (X : Nat → Nat → Nat) (w : World) (h1 : 1 ≤ k) (h2 : 1 ≤ m) (h3 : k + m ≤ 255) (hn : n ≤ 140737488351232) (h : IsGrid w (some ⟨db, dd, none⟩) k A (fun _ => n) C X) :
    Calls Try.prog 22 #[.int .i64 k, .int .i64 m, .slice (some ⟨db, dd, none⟩) k c] w fun e w' => ∃ w1 A1 C1, Below w.heap.size w w1 ∧ e = .returned (.tuple #[.slice (some ⟨w1.heap.size, 0, none⟩) (k + m) (k + m), .int .i64 0]) ∧ Build w1 w' (k + m) (k + m) A1 (fun _ => n) C1 (encF k m X) := by
  have hc := cauchy_yes k m w h1 h2 h3
  have hq : ∀ v, Below w.heap.size w v → Calls Try.prog 30 #[.slice (some ⟨db, dd, none⟩) k c] v fun e w' => e = .returned (.bool true) ∧ w' = v := fun v hv => equally_yes _ k c A (fun _ => n) C v (by omega) (h.1.below (Nat.le_refl _) hv) (fun _ _ => rfl)
  have hm : ∀ v B G1 C1 s, Below w.heap.size w v → s = k + m → Own w.heap.size v B s k G1 C1 (cauchyF k m) → Calls Try.prog 33 #[.slice (some ⟨B, 0, none⟩) s s, .slice (some ⟨db, dd, none⟩) k c] v fun e w' => e = .returned (.slice (some ⟨v.heap.size, 0, none⟩) s s) ∧ ∃ A1 C1, Build v w' s s A1 (fun _ => n) C1 (encF k m X) := fun v B G1 C1 s hv hs ho =>
    combined_any B 0 db dd s k n s c _ A C1 C (cauchyF k m) X v (by omega) h1 (by omega) hn ho.mat.grid (h.below hv)
  obtain ⟨s, hs⟩ : ∃ s, s = k + m := ⟨_, rfl⟩
  rw [← hs] at hc
  rw [← hs]
  have hm := fun v B G1 C1 hv ho => hm v B G1 C1 s hv hs ho
  have g0 : ((k : Int) != (k : Int)) = false := by simp
  clear h h1 h2 h3 hs
  go_enter Try.func22, Try.ntmps22
  go_wp2_with (first
    | (go_at_call 28; refine hc.mono ?_; rintro e x1 ⟨hb1, B1, G1, C1, rfl, ho1⟩; clear hc)
    | (go_at_call 30; refine (hq _ hb1).mono ?_; rintro e w' ⟨rfl, rfl⟩; clear hq)
    | (go_at_call 33; refine (hm _ B1 G1 C1 hb1 ho1).mono ?_; rintro e x2 ⟨rfl, A2, C2, hB2⟩; clear hm))
  go_ret2
  exact ⟨_, A2, C2, hb1, rfl, hB2⟩

theorem cut_to (g o m c d : Nat) (w : World) (h : d ≤ c) :
    (Instr.slice 28 (.slice (some ⟨g, o, none⟩) m c) none (some (.int .i64 (d : Int))) none).run Try.prog w = .ok (.slice (some ⟨g, o, none⟩) d c) w := by
  rw [run_slice_h w 28 _ _ _ elem_top .i64 (d : Int) (by omega) (by omega), elem_top_is, size_top]
  simp only [Result.andThen, sliced, Int.toNat_natCast, Nat.mul_one, Option.map, Nat.sub_zero]
  have hadd : (⟨g, o, none⟩ : Addr).add 0 = ⟨g, o, none⟩ := by unfold Addr.add; split <;> simp_all
  split
  · rfl
  · rw [hadd]

theorem below_of_drewN {B m : Nat} {w x : World} (h : Below B (w.drewN m) x) : Below B w x := ⟨h.os, h.tape, h.output, h.size, h.block⟩

end Go.Proofs.Ytmlaloadeeohbaa

/-
  What Decode of package code does: contracts over plain numbers.
  Conditions: lists that are looked at lie in memory, and take at most what any slice takes.
-/
namespace Go.Proofs.Ytmlaloadeeohbaa
open Go.RowKit Gf
set_option linter.unusedVariables false
set_option linter.unusedSimpArgs false
set_option maxRecDepth 100000

theorem plc_exists (h : Nat → Bool) : ∀ p, ∃ c g, Plc h p c g
  | 0 => ⟨0, fun _ => 0, plc_start h _⟩
  | p + 1 => by
    obtain ⟨c, g, q⟩ := plc_exists h p
    cases e : h p with
    | true => exact ⟨c + 1, _, plc_true q e⟩
    | false => exact ⟨c, g, plc_false q e⟩

theorem Plc.uniq {h : Nat → Bool} {p c c' : Nat} {g g' : Nat → Nat} (q : Plc h p c g) (q' : Plc h p c' g') : c = c' ∧ ∀ r, r < c → g r = g' r := by
  have e : c = c' := by rw [q.all, q'.all]
  subst e
  exact ⟨rfl, fun r hr => cnt_inj (q.has r hr) (q'.has r hr) (by rw [q.nth r hr, q'.nth r hr])⟩

theorem places_plc (b o p cx c : Nat) (h : Nat → Bool) (g : Nat → Nat) (w : World) (hp : p ≤ 1000) (hx : BoolsAt w (some ⟨b, o, none⟩) p h) (hp0 : 0 < p) (hP : Plc h p c g) :
    Calls Try.prog 29 #[.slice (some ⟨b, o, none⟩) p cx] w fun e w' => Below w.heap.size w w' ∧ ∃ y cy, e = .returned (.slice y c cy) ∧ c ≤ cy ∧ IntsAt w' y c (fun i => (g i : Int)) ∧
      (0 < c → ∃ lb, y = some ⟨lb, 0, none⟩ ∧ lb < w'.heap.size ∧ ∀ i, i < c → w'.cell? ⟨lb, 0 + i, none⟩ = some (.int .i64 (g i : Int))) :=
  (places_any b o p cx h w hp hx hp0).mono fun e w' ⟨hb, V, c', g', he, hP', ho⟩ => by
    obtain ⟨rfl, hg⟩ := hP.uniq hP'
    refine ⟨hb, ?_⟩
    have hcell : ∀ lb cy, V = .slice (some ⟨lb, 0, none⟩) c cy → ∀ i, i < c → w'.cell? ⟨lb, 0 + i, none⟩ = some (.int .i64 (g i : Int)) := fun lb cy hV i hi => by
      subst hV
      rw [Nat.zero_add, ho.cellAt i (by omega)]
      simp [intsOf, hi, hg i hi]
    rcases ho.2 with ⟨hV, h0⟩ | ⟨lb, cy, cur, hV, hl, hh, hc, _⟩
    · subst hV
      subst h0
      exact ⟨none, 0, he, Nat.le_refl _, .inl rfl, fun h => by omega⟩
    · have hlt := (Array.getElem?_eq_some_iff.1 hh).1
      have hcl := hcell lb cy hV
      subst hV
      exact ⟨_, cy, he, hc, .inr ⟨lb, 0, rfl, hlt, hcl⟩, fun _ => ⟨lb, rfl, hlt, hcl⟩⟩

theorem IntsAt.take {w : World} {x : Option Addr} {p q : Nat} {lv : Nat → Int} (h : IntsAt w x p lv) (hq : q ≤ p) : IntsAt w x q lv := by
  rcases h with h | ⟨b, o, h1, h2, h3⟩
  · exact .inl (by omega)
  · exact .inr ⟨b, o, h1, h2, fun i hi => h3 i (by omega)⟩

theorem elem_ints : Try.prog.underlying 54 = some (.slice (Try.prog.elem 54)) := by kernel_rfl
theorem elem_ints_is : Try.prog.elem 54 = 3 := by kernel_rfl
theorem size_int (w : World) : (sizeOf 3).run Try.prog w = .ok 1 w := by kernel_rfl

theorem cut_ints (g o m c d : Nat) (w : World) (h : d ≤ c) :
    (Instr.slice 54 (.slice (some ⟨g, o, none⟩) m c) none (some (.int .i64 (d : Int))) none).run Try.prog w = .ok (.slice (some ⟨g, o, none⟩) d c) w := by
  rw [run_slice_h w 54 _ _ _ elem_ints .i64 (d : Int) (by omega) (by omega), elem_ints_is, size_int]
  simp only [Result.andThen, sliced, Int.toNat_natCast, Nat.mul_one, Option.map, Nat.sub_zero]
  have hadd : (⟨g, o, none⟩ : Addr).add 0 = ⟨g, o, none⟩ := by unfold Addr.add; split <;> simp_all
  split
  · rfl
  · rw [hadd]

theorem decode_code (a b : Int) (x y : Option Addr) (n p c c' : Nat) (w : World) (h : ¬ CauchyN a b) :
    Calls Try.prog 17 #[.int .i64 a, .int .i64 b, .slice x n c, .slice y p c'] w fun e w' => e = .returned (.tuple #[.slice none 0 0, .int .i64 1]) ∧ Below w.heap.size w w' := by
  have hc := cauchy_no a b w h
  clear h
  go_enter Try.func17, Try.ntmps17
  go_wp2_with (go_at_call 28; refine hc.mono ?_; rintro e w' ⟨rfl, rfl⟩; clear hc)
  go_ret2
  exact ⟨rfl, Below.refl _ _⟩

set_option maxHeartbeats 1000000 in
set_option maxRecDepth 100000 in
theorem decode_len (k m : Nat) (x y : Option Addr) (n p c c' : Nat) (w : World) (h1 : 1 ≤ k) (h2 : 1 ≤ m) (h3 : k + m ≤ 255) (hx : n ≠ k + m ∨ p ≠ k + m) :
    Calls Try.prog 17 #[.int .i64 k, .int .i64 m, .slice x n c, .slice y p c'] w fun e w' => e = .returned (.tuple #[.slice none 0 0, .int .i64 1]) ∧ Below w.heap.size w w' := by
  have hc := cauchy_yes k m w h1 h2 h3
  obtain ⟨s, hs⟩ : ∃ s, s = k + m := ⟨_, rfl⟩
  have hsi : (k : Int) + (m : Int) = (s : Int) := by omega
  have hs5 : s ≤ 255 := by omega
  rw [← hs] at hc
  by_cases e : n = s
  · subst e
    have g0 : ((n : Int) != (n : Int)) = false := by simp
    have g1 : ((p : Int) != (n : Int)) = true := by simp; omega
    clear h1 h2 h3 hs hx
    go_enter Try.func17, Try.ntmps17
    go_wp2_with (go_at_call 28; refine hc.mono ?_; rintro e x1 ⟨hb1, B1, G1, C1, rfl, ho1⟩; clear hc)
    go_ret2
    exact ⟨rfl, hb1⟩
  · have g1 : ((n : Int) != (s : Int)) = true := by simp; omega
    clear h1 h2 h3 hs hx e
    go_enter Try.func17, Try.ntmps17
    go_wp2_with (go_at_call 28; refine hc.mono ?_; rintro e x1 ⟨hb1, B1, G1, C1, rfl, ho1⟩; clear hc)
    go_ret2
    exact ⟨rfl, hb1⟩

set_option maxHeartbeats 2000000 in
set_option maxRecDepth 100000 in
theorem decode_uneven (k m b o hb hd cx ch c : Nat) (A : Nat → Option Addr) (L C : Nat → Nat) (f : Nat → Nat → Nat) (h : Nat → Bool) (g : Nat → Nat) (w : World) (h1 : 1 ≤ k) (h2 : 1 ≤ m) (h3 : k + m ≤ 255)
    (hG : IsGrid w (some ⟨b, o, none⟩) (k + m) A L C f) (hH : BoolsAt w (some ⟨hb, hd, none⟩) (k + m) h) (hP : Plc h (k + m) c g) (hE : ¬ EqN c (fun r => L (g r))) :
    Calls Try.prog 17 #[.int .i64 k, .int .i64 m, .slice (some ⟨b, o, none⟩) (k + m) cx, .slice (some ⟨hb, hd, none⟩) (k + m) ch] w fun e w' => e = .returned (.tuple #[.slice none 0 0, .int .i64 1]) ∧ Below w.heap.size w w' := by
  have hc := cauchy_yes k m w h1 h2 h3
  obtain ⟨s, hs⟩ : ∃ s, s = k + m := ⟨_, rfl⟩
  have hsi : (k : Int) + (m : Int) = (s : Int) := by omega
  have hs5 : s ≤ 255 := by omega
  rw [← hs] at hc hG hH hP
  rw [← hs]
  have hcs : c ≤ s := by rw [hP.all]; exact cnt_le h s
  have hpl : ∀ v, Below w.heap.size w v → Calls Try.prog 29 #[.slice (some ⟨hb, hd, none⟩) s ch] v _ := fun v hv => places_plc hb hd s ch c h g v (by omega) (hH.below (Nat.le_refl _) hv) (by omega) hP
  have hpk : ∀ v y cp, Below w.heap.size w v → IntsAt v y c (fun i => (g i : Int)) → Calls Try.prog 31 #[.slice (some ⟨b, o, none⟩) s cx, .slice y c cp] v _ := fun v y cp hv hi => picked_any b o s cx c cp y A L C f g v (by omega) (hG.below hv) hi hP.lt
  have hq : ∀ v w' : World, Build v w' c c (fun r => A (g r)) (fun r => L (g r)) (fun r => C (g r)) (fun r => f (g r)) → Calls Try.prog 30 #[.slice (some ⟨v.heap.size, 0, none⟩) c c] w' fun e w'' => e = .returned (.bool false) ∧ w'' = w' := fun v w' hB => equally_no _ c c _ _ _ w' (by omega) hB.grid.1 hE
  have g0 : ((s : Int) != (s : Int)) = false := by simp
  clear h1 h2 h3 hs hG hH hP hE
  go_enter Try.func17, Try.ntmps17
  go_wp2_with (first
    | (go_at_call 28; refine hc.mono ?_; rintro e x1 ⟨hb1, B1, G1, C1, rfl, ho1⟩; clear hc)
    | (go_at_call 29; refine (hpl _ hb1).mono ?_; rintro e x2 ⟨hb2, y2, cy2, rfl, hcy, hi2, _⟩; clear hpl; have hb02 := hb1.trans (hb2.mono hb1.size))
    | (go_at_call 31; refine (hpk _ y2 cy2 hb02 hi2).mono ?_; rintro e x3 ⟨rfl, hB3⟩; clear hpk)
    | (go_at_call 30; refine (hq _ _ hB3).mono ?_; rintro e x4 ⟨rfl, rfl⟩; clear hq))
  go_ret2
  exact ⟨rfl, hb02.trans (hB3.below.mono hb02.size)⟩

set_option maxHeartbeats 2000000 in
set_option maxRecDepth 100000 in
theorem decode_few (k m b o hb hd cx ch c : Nat) (A : Nat → Option Addr) (L C : Nat → Nat) (f : Nat → Nat → Nat) (h : Nat → Bool) (g : Nat → Nat) (w : World) (h1 : 1 ≤ k) (h2 : 1 ≤ m) (h3 : k + m ≤ 255)
    (hG : IsGrid w (some ⟨b, o, none⟩) (k + m) A L C f) (hH : BoolsAt w (some ⟨hb, hd, none⟩) (k + m) h) (hP : Plc h (k + m) c g) (hE : EqN c (fun r => L (g r))) (hck : c < k) :
    Calls Try.prog 17 #[.int .i64 k, .int .i64 m, .slice (some ⟨b, o, none⟩) (k + m) cx, .slice (some ⟨hb, hd, none⟩) (k + m) ch] w fun e w' => e = .returned (.tuple #[.slice none 0 0, .int .i64 4]) ∧ Below w.heap.size w w' := by
  have hc := cauchy_yes k m w h1 h2 h3
  obtain ⟨s, hs⟩ : ∃ s, s = k + m := ⟨_, rfl⟩
  have hsi : (k : Int) + (m : Int) = (s : Int) := by omega
  have hs5 : s ≤ 255 := by omega
  rw [← hs] at hc hG hH hP
  rw [← hs]
  have hcs : c ≤ s := by rw [hP.all]; exact cnt_le h s
  have hpl : ∀ v, Below w.heap.size w v → Calls Try.prog 29 #[.slice (some ⟨hb, hd, none⟩) s ch] v _ := fun v hv => places_plc hb hd s ch c h g v (by omega) (hH.below (Nat.le_refl _) hv) (by omega) hP
  have hpk : ∀ v y cp, Below w.heap.size w v → IntsAt v y c (fun i => (g i : Int)) → Calls Try.prog 31 #[.slice (some ⟨b, o, none⟩) s cx, .slice y c cp] v _ := fun v y cp hv hi => picked_any b o s cx c cp y A L C f g v (by omega) (hG.below hv) hi hP.lt
  have hq : ∀ v w' : World, Build v w' c c (fun r => A (g r)) (fun r => L (g r)) (fun r => C (g r)) (fun r => f (g r)) → Calls Try.prog 30 #[.slice (some ⟨v.heap.size, 0, none⟩) c c] w' fun e w'' => e = .returned (.bool true) ∧ w'' = w' := fun v w' hB => equally_yes _ c c _ _ _ w' (by omega) hB.grid.1 hE
  have g0 : ((s : Int) != (s : Int)) = false := by simp
  have hcki : (c : Int) < (k : Int) := by omega
  clear h1 h2 h3 hs hG hH hP hE
  go_enter Try.func17, Try.ntmps17
  go_wp2_with (first
    | (go_at_call 28; refine hc.mono ?_; rintro e x1 ⟨hb1, B1, G1, C1, rfl, ho1⟩; clear hc)
    | (go_at_call 29; refine (hpl _ hb1).mono ?_; rintro e x2 ⟨hb2, y2, cy2, rfl, hcy, hi2, _⟩; clear hpl; have hb02 := hb1.trans (hb2.mono hb1.size))
    | (go_at_call 31; refine (hpk _ y2 cy2 hb02 hi2).mono ?_; rintro e x3 ⟨rfl, hB3⟩; clear hpk)
    | (go_at_call 30; refine (hq _ _ hB3).mono ?_; rintro e x4 ⟨rfl, rfl⟩; clear hq))
  go_ret2
  exact ⟨rfl, hb02.trans (hB3.below.mono hb02.size)⟩

set_option maxHeartbeats 1000000 in
set_option maxRecDepth 100000 in
theorem decode_cap (k m n b o hb hd cx ch c : Nat) (A : Nat → Option Addr) (L C : Nat → Nat) (f : Nat → Nat → Nat) (h : Nat → Bool) (g : Nat → Nat) (w : World) (h1 : 1 ≤ k) (h2 : 1 ≤ m) (h3 : k + m ≤ 255) (hn : n ≤ 140737488351232)
    (hG : IsGrid w (some ⟨b, o, none⟩) (k + m) A L C f) (hH : BoolsAt w (some ⟨hb, hd, none⟩) (k + m) h) (hP : Plc h (k + m) c g) (hE : ∀ r, r < c → L (g r) = n) (hck : k ≤ c) :
    Calls Try.prog 17 #[.int .i64 k, .int .i64 m, .slice (some ⟨b, o, none⟩) (k + m) cx, .slice (some ⟨hb, hd, none⟩) (k + m) ch] w fun e w' => ∃ w1 A1, Below w.heap.size w w1 ∧ e = .returned (.tuple #[.slice (some ⟨w1.heap.size, 0, none⟩) (k + m) (k + m), .int .i64 0]) ∧
      Build w1 w' (k + m) (k + m) A1 (fun _ => n) (fun _ => n) (decF k m g (fun r => f (g r))) := by
  have hc := cauchy_yes k m w h1 h2 h3
  obtain ⟨s, hs⟩ : ∃ s, s = k + m := ⟨_, rfl⟩
  have hsi : (k : Int) + (m : Int) = (s : Int) := by omega
  have hs5 : s ≤ 255 := by omega
  rw [← hs] at hc hG hH hP
  rw [← hs]
  have hcs : c ≤ s := by rw [hP.all]; exact cnt_le h s
  have hf := hG.2.2
  have hpl : ∀ v, Below w.heap.size w v → Calls Try.prog 29 #[.slice (some ⟨hb, hd, none⟩) s ch] v fun e w' => Below v.heap.size v w' ∧ ∃ lb cy, e = .returned (.slice (some ⟨lb, 0, none⟩) c cy) ∧ c ≤ cy ∧ IntsAt w' (some ⟨lb, 0, none⟩) c (fun i => (g i : Int)) ∧ lb < w'.heap.size ∧ ∀ i, i < c → w'.cell? ⟨lb, 0 + i, none⟩ = some (.int .i64 (g i : Int)) := fun v hv =>
    (places_plc hb hd s ch c h g v (by omega) (hH.below (Nat.le_refl _) hv) (by omega) hP).mono fun e w' ⟨q1, y, cy, q2, q3, q4, q5⟩ => by
      obtain ⟨lb, rfl, q6, q7⟩ := q5 (by omega)
      exact ⟨q1, lb, cy, q2, q3, q4, q6, q7⟩
  have hpk : ∀ v y cp q, q ≤ c → Below w.heap.size w v → IntsAt v y c (fun i => (g i : Int)) → Calls Try.prog 31 #[.slice (some ⟨b, o, none⟩) s cx, .slice y q cp] v fun e w' => e = .returned (.slice (some ⟨v.heap.size, 0, none⟩) q q) ∧ Build v w' q q (fun r => A (g r)) (fun r => L (g r)) (fun r => C (g r)) (fun r => f (g r)) := fun v y cp q hqc hv hi => picked_any b o s cx q cp y A L C f g v (by omega) (hG.below hv) (hi.take hqc) (fun i hi => hP.lt i (by omega))
  have hq : ∀ v w' : World, Build v w' c c (fun r => A (g r)) (fun r => L (g r)) (fun r => C (g r)) (fun r => f (g r)) → Calls Try.prog 30 #[.slice (some ⟨v.heap.size, 0, none⟩) c c] w' fun e w'' => e = .returned (.bool true) ∧ w'' = w' := fun v w' hB => equally_yes _ c c _ _ _ w' (by omega) hB.grid.1 (fun r hr => by show L (g r) = L (g 0); rw [hE r hr, hE 0 (by omega)])
  have hinv : ∀ v x1 B G1 C1 lb cy, Below x1.heap.size x1 v → Own w.heap.size x1 B s k G1 C1 (cauchyF k m) → lb < v.heap.size → (∀ i, i < c → v.cell? ⟨lb, 0 + i, none⟩ = some (.int .i64 (g i : Int))) → Calls Try.prog 32 #[.slice (some ⟨B, 0, none⟩) s s, .slice (some ⟨lb, 0, none⟩) k cy] v fun e w' => Below v.heap.size v w' ∧ ∃ B G' C', e = .returned (.tuple #[.slice (some ⟨B, 0, none⟩) k k, .int .i64 0]) ∧ Own v.heap.size w' B k k G' C' (right (fun r => cauchyF k m (g r)) k) := fun v x1 B G1 C1 lb cy hv ho hl hcl =>
    inverseOf_yes B s k m s lb cy G1 C1 g v (ho.mat.below (Nat.le_refl _) hv) h1 h2 h3 hs hl (fun i hi => hcl i (by omega)) (fun i hi => hP.lt i (by omega)) (fun r q hr hq e => hP.inj (by omega) (by omega) e)
  have hcm1 : ∀ v v0 x4 B G' C', Below x4.heap.size x4 v → Own v0 x4 B k k G' C' (right (fun r => cauchyF k m (g r)) k) → Build x4 v k k (fun r => A (g r)) (fun r => L (g r)) (fun r => C (g r)) (fun r => f (g r)) → Calls Try.prog 33 #[.slice (some ⟨B, 0, none⟩) k k, .slice (some ⟨x4.heap.size, 0, none⟩) k k] v fun e w' => e = .returned (.slice (some ⟨v.heap.size, 0, none⟩) k k) ∧ ∃ A1 C1, Build v w' k k A1 (fun _ => n) C1 (mulF (right (fun r => cauchyF k m (g r)) k) (fun r => f (g r)) k) := fun v v0 x4 B G' C' hv ho hB =>
    combined_any B 0 x4.heap.size 0 k k n k k _ _ _ _ _ _ v (by omega) h1 (by omega) hn (ho.mat.grid.below hv) (hB.grid.congr (fun r hr => hE r (by omega)) (fun _ _ _ _ => rfl) (fun r j => hf _ j))
  have hcm2 : ∀ v x1 v5 B G1 C1 A1 C2, Below x1.heap.size x1 v → Own w.heap.size x1 B s k G1 C1 (cauchyF k m) → Build v5 v k k A1 (fun _ => n) C2 (mulF (right (fun r => cauchyF k m (g r)) k) (fun r => f (g r)) k) → Calls Try.prog 33 #[.slice (some ⟨B, 0, none⟩) s s, .slice (some ⟨v5.heap.size, 0, none⟩) k k] v fun e w' => e = .returned (.slice (some ⟨v.heap.size, 0, none⟩) s s) ∧ ∃ A1, Build v w' s s A1 (fun _ => n) (fun _ => n) (decF k m g (fun r => f (g r))) := fun v x1 v5 B G1 C1 A1 C2 hv ho hB =>
    combined_cap B 0 v5.heap.size 0 s k n s k _ _ _ _ _ _ v (by omega) h1 (by omega) hn (ho.mat.grid.below hv) hB.grid
  have hpk1 := fun v y cp => hpk v y cp c (Nat.le_refl _)
  have hpk2 := fun v y cp => hpk v y cp k hck
  clear hpk
  have hcut : ∀ lb cy (v : World), c ≤ cy → (Instr.slice 54 (.slice (some ⟨lb, 0, none⟩) c cy) none (some (.int .i64 (k : Int))) none).run Try.prog v = .ok (.slice (some ⟨lb, 0, none⟩) k cy) v := fun lb cy v hcy => cut_ints lb 0 c cy k v (by omega)
  have g0 : ((s : Int) != (s : Int)) = false := by simp
  have hcki : ¬ ((c : Int) < (k : Int)) := by omega
  clear h1 h2 h3 hs hG hH hP hE hf
  go_enter Try.func17, Try.ntmps17
  go_wp2_with (first
    | (go_at_call 28; refine hc.mono ?_; rintro e x1 ⟨hb1, B1, G1, C1, rfl, ho1⟩; clear hc)
    | (go_at_call 29; refine (hpl _ hb1).mono ?_; rintro e x2 ⟨hb2, lb, cy2, rfl, hcy, hi2, hlb, hcl⟩; clear hpl; have hb02 := hb1.trans (hb2.mono hb1.size); have hct := fun v => hcut lb cy2 v hcy; clear hcut)
    | (go_at_call 31; refine (hpk1 _ (some ⟨lb, 0, none⟩) cy2 hb02 hi2).mono ?_; rintro e x3 ⟨rfl, hB3⟩; clear hpk1; have hb03 := hb02.trans (hB3.below.mono hb02.size); have hb13 := hb2.trans (hB3.below.mono hb2.size))
    | (go_at_call 30; refine (hq _ _ hB3).mono ?_; rintro e x4 ⟨rfl, rfl⟩; clear hq)
    | (go_at_call 32; refine (hinv _ x1 B1 G1 C1 lb cy2 hb13 ho1 (Nat.lt_of_lt_of_le hlb hB3.below.size) (fun i hi => (hB3.below.cell (by exact hlb)).trans (hcl i hi))).mono ?_; rintro e x5 ⟨hb5, D5, G5, C5, rfl, ho5⟩; clear hinv; have hb05 := hb03.trans (hb5.mono hb03.size); have hb15 := hb13.trans (hb5.mono hb13.size); have hi5 := (hi2.below (Nat.le_refl _) hB3.below).below (Nat.le_refl _) hb5; clear hB3)
    | (go_at_call 31; refine (hpk2 _ (some ⟨lb, 0, none⟩) cy2 hb05 hi5).mono ?_; rintro e x6 ⟨rfl, hB6⟩; clear hpk2; have hb16 := hb15.trans (hB6.below.mono hb15.size); have hb06 := hb05.trans (hB6.below.mono hb05.size))
    | (go_at_call 33; refine (hcm1 _ _ _ D5 G5 C5 hB6.below ho5 hB6).mono ?_; rintro e x7 ⟨rfl, A7, C7, hB7⟩; clear hcm1; have hb17 := hb16.trans (hB7.below.mono hb16.size); have hb07 := hb06.trans (hB7.below.mono hb06.size))
    | (go_at_call 33; refine (hcm2 _ x1 _ B1 G1 C1 A7 C7 hb17 ho1 hB7).mono ?_; rintro e x8 ⟨rfl, A8, hB8⟩; clear hcm2))
  go_ret2
  exact ⟨_, A8, hb07, rfl, hB8⟩

theorem decode_yes (k m n b o hb hd cx ch c : Nat) (A : Nat → Option Addr) (L C : Nat → Nat) (f : Nat → Nat → Nat) (h : Nat → Bool) (g : Nat → Nat) (w : World) (h1 : 1 ≤ k) (h2 : 1 ≤ m) (h3 : k + m ≤ 255) (hn : n ≤ 140737488351232)
    (hG : IsGrid w (some ⟨b, o, none⟩) (k + m) A L C f) (hH : BoolsAt w (some ⟨hb, hd, none⟩) (k + m) h) (hP : Plc h (k + m) c g) (hE : ∀ r, r < c → L (g r) = n) (hck : k ≤ c) :
    Calls Try.prog 17 #[.int .i64 k, .int .i64 m, .slice (some ⟨b, o, none⟩) (k + m) cx, .slice (some ⟨hb, hd, none⟩) (k + m) ch] w fun e w' => ∃ w1 A1 C1, Below w.heap.size w w1 ∧ e = .returned (.tuple #[.slice (some ⟨w1.heap.size, 0, none⟩) (k + m) (k + m), .int .i64 0]) ∧
      Build w1 w' (k + m) (k + m) A1 (fun _ => n) C1 (decF k m g (fun r => f (g r))) :=
  (decode_cap k m n b o hb hd cx ch c A L C f h g w h1 h2 h3 hn hG hH hP hE hck).mono fun e w' ⟨w1, A1, q1, q2, q3⟩ => ⟨w1, A1, _, q1, q2, q3⟩

end Go.Proofs.Ytmlaloadeeohbaa

/-
  What the laws' own awake answers: true.
  Conditions: none.
-/
namespace Go.Proofs.Ytmlaloadeeohbaa
open Go.RowKit Gf
set_option linter.unusedVariables false
set_option linter.unusedSimpArgs false
set_option maxRecDepth 100000

def X57 : Nat → Nat → Nat := fun r _ => if r = 0 then 5 else 7

theorem X57_lt (r j : Nat) : X57 r j < 256 := by unfold X57; split <;> omega

theorem rowIs_one (w : World) (v : Value) (t : TypeId) : (w.alloc (.cells #[v] t)).rowIs w.heap.size t 1 (fun _ => v) := World.rowIs_alloc w _ _ _ (fun i hi => by
  have : i = 0 := by simpa using hi
  subst this; rfl)

theorem encode_57 (w : World) : Calls Try.prog 22 #[.int .i64 2, .int .i64 1, .slice (some ⟨w.heap.size + 1 + 1, 0, none⟩) 2 2]
    (((w.alloc (.cells #[.int .u8 5] 5)).alloc (.cells #[.int .u8 7] 5)).alloc (.cells #[.slice (some ⟨w.heap.size, 0, none⟩) 1 1, .slice (some ⟨w.heap.size + 1, 0, none⟩) 1 1] 22)) fun e w' =>
    ∃ w1 A1 C1, Below w.heap.size w w1 ∧ e = .returned (.tuple #[.slice (some ⟨w1.heap.size, 0, none⟩) 3 3, .int .i64 0]) ∧ Build w1 w' 3 3 A1 (fun _ => 1) C1 (encF 2 1 X57) := by
  have e1 : (w.alloc (.cells #[.int .u8 5] 5)).heap.size = w.heap.size + 1 := by simp
  have e2 : ((w.alloc (.cells #[.int .u8 5] 5)).alloc (.cells #[.int .u8 7] 5)).heap.size = w.heap.size + 1 + 1 := by simp
  have r1 := ((rowIs_one w (.int .u8 5) 5).alloc (.cells #[.int .u8 7] 5)).alloc (.cells #[.slice (some ⟨w.heap.size, 0, none⟩) 1 1, .slice (some ⟨w.heap.size + 1, 0, none⟩) 1 1] 22)
  have r2 := (rowIs_one (w.alloc (.cells #[.int .u8 5] 5)) (.int .u8 7) 5).alloc (.cells #[.slice (some ⟨w.heap.size, 0, none⟩) 1 1, .slice (some ⟨w.heap.size + 1, 0, none⟩) 1 1] 22)
  rw [e1] at r2
  have r3 := World.rowIs_alloc ((w.alloc (.cells #[.int .u8 5] 5)).alloc (.cells #[.int .u8 7] 5)) #[.slice (some ⟨w.heap.size, 0, none⟩) 1 1, .slice (some ⟨w.heap.size + 1, 0, none⟩) 1 1] 22 (fun r => .slice (some ⟨w.heap.size + r, 0, none⟩) 1 1) (fun i hi => by
    have hi2 : i < 2 := by simpa using hi
    match i, hi2 with
    | 0, _ => rfl
    | 1, _ => rfl)
  rw [e2] at r3
  have hG : IsGrid (((w.alloc (.cells #[.int .u8 5] 5)).alloc (.cells #[.int .u8 7] 5)).alloc (.cells #[.slice (some ⟨w.heap.size, 0, none⟩) 1 1, .slice (some ⟨w.heap.size + 1, 0, none⟩) 1 1] 22)) (some ⟨w.heap.size + 1 + 1, 0, none⟩) 2 (fun r => some ⟨w.heap.size + r, 0, none⟩) (fun _ => 1) (fun _ => 1) X57 :=
    ⟨.inr ⟨w.heap.size + 1 + 1, 0, rfl, r3.lt, fun r hr => by rw [Nat.zero_add]; exact r3.cell hr⟩, fun r hr => .inr ⟨w.heap.size + r, 0, rfl, by simp; omega, fun i hi => by
      have hi0 : i = 0 := by have : i < 1 := hi; omega
      subst hi0
      match r, hr with
      | 0, _ => exact r1.cell (by omega)
      | 1, _ => exact r2.cell (by omega)⟩, X57_lt⟩
  refine (encode_yes 2 1 1 (w.heap.size + 1 + 1) 0 2 _ _ X57 _ (by omega) (by omega) (by omega) (by omega) hG).mono fun e w' ⟨w1, A1, C1, hb, he, hB⟩ => ⟨w1, A1, C1, ?_, he, hB⟩
  exact ((((Below.refl w.heap.size w).alloc (Nat.le_refl _) _).alloc (by simp) _).alloc (by simp; omega) _).trans (hb.mono (by simp; omega))

theorem plc_57 : Plc (fun i => decide (i ≠ 0)) 3 2 (fun r => r + 1) := by
  refine ⟨by decide, fun r hr => by omega, fun r hr => by simp, fun r hr => ?_⟩
  match r, hr with
  | 0, _ => decide
  | 1, _ => decide

theorem decode_57 (w1 x : World) (A1 : Nat → Option Addr) (C1 : Nat → Nat) (h : Build w1 x 3 3 A1 (fun _ => 1) C1 (encF 2 1 X57)) :
    Calls Try.prog 17 #[.int .i64 2, .int .i64 1, .slice (some ⟨w1.heap.size, 0, none⟩) 3 3, .slice (some ⟨x.heap.size, 0, none⟩) 3 3] ((x.setCell ⟨w1.heap.size, 0, none⟩ (.slice none 0 0)).alloc (.cells #[.bool false, .bool true, .bool true] 4)) fun e w' =>
      ∃ B g o c, e = .returned (.tuple #[.slice (some ⟨B, 0, none⟩) 3 3, .int .i64 0]) ∧ Below w1.heap.size w1 w' ∧ w'.cell? ⟨B, 0, none⟩ = some (.slice (some ⟨g, o, none⟩) 1 c) ∧ w'.cell? ⟨g, o, none⟩ = some (.int .u8 5) := by
  have hp := h.put (r := 0) (i' := 3) (l := 0) (c := 0) (a := none) (f' := fun _ => 0) (by omega) (fun s hs => by omega) (.inl rfl) (fun _ => by omega)
  have hq := hp.more (Nat.le_refl _) ((Below.refl _ _).alloc (Nat.le_refl _) (.cells #[.bool false, .bool true, .bool true] 4))
  have r3 := World.rowIs_alloc (x.setCell ⟨w1.heap.size, 0, none⟩ (.slice none 0 0)) #[.bool false, .bool true, .bool true] 4 (fun i => .bool (decide (i ≠ 0))) (fun i hi => by
    have hi2 : i < 3 := by simpa using hi
    match i, hi2 with
    | 0, _ => rfl
    | 1, _ => rfl
    | 2, _ => rfl)
  rw [show (x.setCell ⟨w1.heap.size, 0, none⟩ (.slice none 0 0)).heap.size = x.heap.size by simp] at r3
  have hH : BoolsAt ((x.setCell ⟨w1.heap.size, 0, none⟩ (.slice none 0 0)).alloc (.cells #[.bool false, .bool true, .bool true] 4)) (some ⟨x.heap.size, 0, none⟩) (2 + 1) (fun i => decide (i ≠ 0)) :=
    .inr ⟨x.heap.size, 0, rfl, r3.lt, fun i hi => by rw [Nat.zero_add]; exact r3.cell hi⟩
  refine (decode_yes 2 1 1 w1.heap.size 0 x.heap.size 0 3 3 2 _ _ _ _ (fun i => decide (i ≠ 0)) (fun r => r + 1) _ (by omega) (by omega) (by omega) (by omega) hq.grid hH plc_57 (fun r hr => by simp) (by omega)).mono fun e w' ⟨w2, A2, C2, hb, he, hB⟩ => ?_
  have hv : decF 2 1 (fun r => r + 1) (fun r => (fun s j => if s = 0 then (fun _ => 0) j else encF 2 1 X57 s j) (r + 1)) 0 0 = 5 := by
    rw [decF_all (X := X57) X57_lt (fun r j => by simp; exact encF_lt X57_lt _ _) (by omega) (fun r hr => by omega) (fun r s _ _ h => by omega) 1 (fun r hr j hj => by simp) 0 0 (by omega), encF_data X57_lt (by omega)]
    rfl
  have hrow := hB.rowAt (r := 0) (by omega)
  rcases hrow with h0 | ⟨g, o, hA, hg, hc⟩
  · exact absurd h0 (by show ¬ (1 = 0); omega)
  · refine ⟨w2.heap.size, g, o, C2 0, he, ?_, ?_, ?_⟩
    · exact hq.below.trans ((hb.trans (hB.below.mono hb.size)).mono (Nat.le_of_lt hq.hb))
    · have := hB.top 0 (by omega)
      rw [hA] at this
      exact this
    · have := hc 0 (by show 0 < 1; omega)
      rw [hv] at this
      exact this

end Go.Proofs.Ytmlaloadeeohbaa

/-
  What Delta and Apply of package code do: contracts over plain numbers.
  Conditions: lists that are looked at lie in memory, and take at most what any slice takes.
-/
namespace Go.Proofs.Ytmlaloadeeohbaa
open Go.RowKit Gf
set_option linter.unusedVariables false
set_option linter.unusedSimpArgs false
set_option maxRecDepth 100000

theorem delta_no (a b i : Int) (x y : Option Addr) (n p c c' : Nat) (w : World) (h : ¬ (CauchyN a b ∧ 0 ≤ i ∧ i < a)) :
    Calls Try.prog 35 #[.int .i64 a, .int .i64 b, .int .i64 i, .slice x n c, .slice y p c'] w fun e w' => e = .returned (.tuple #[.slice none 0 0, .int .i64 1]) ∧ Below w.heap.size w w' := by
  by_cases hN : CauchyN a b
  · obtain ⟨k, m, rfl, rfl, h1, h2, h3⟩ := code_nat hN
    have hc := cauchy_yes k m w h1 h2 h3
    by_cases hi : i < 0
    · clear h hN h1 h2 h3
      go_enter Try.func35, Try.ntmps35
      go_wp2_with (go_at_call 28; refine hc.mono ?_; rintro e x1 ⟨hb1, B1, G1, C1, rfl, ho1⟩; clear hc)
      go_ret2
      exact ⟨rfl, hb1⟩
    · have hik : (k : Int) ≤ i := by
        apply Classical.byContradiction
        intro q
        exact h ⟨hN, by omega, by omega⟩
      clear h hN h1 h2 h3
      go_enter Try.func35, Try.ntmps35
      go_wp2_with (go_at_call 28; refine hc.mono ?_; rintro e x1 ⟨hb1, B1, G1, C1, rfl, ho1⟩; clear hc)
      go_ret2
      exact ⟨rfl, hb1⟩
  · have hc := cauchy_no a b w hN
    clear h hN
    go_enter Try.func35, Try.ntmps35
    go_wp2_with (go_at_call 28; refine hc.mono ?_; rintro e w' ⟨rfl, rfl⟩; clear hc)
    go_ret2
    exact ⟨rfl, Below.refl _ _⟩

set_option maxHeartbeats 1000000 in
set_option maxRecDepth 100000 in
theorem delta_len (k m i : Nat) (x y : Option Addr) (n p c c' : Nat) (w : World) (h1 : 1 ≤ k) (h2 : 1 ≤ m) (h3 : k + m ≤ 255) (hi : i < k) (hnp : n ≠ p) :
    Calls Try.prog 35 #[.int .i64 k, .int .i64 m, .int .i64 i, .slice x n c, .slice y p c'] w fun e w' => e = .returned (.tuple #[.slice none 0 0, .int .i64 1]) ∧ Below w.heap.size w w' := by
  have hc := cauchy_yes k m w h1 h2 h3
  have ha : ∀ v, Calls Try.prog 37 #[.slice x n c, .slice y p c', .int .u8 1] v fun e w' => e = .returned (.tuple #[.slice none 0 0, .bool false]) ∧ w' = v := fun v => addmul_ne x y n p c c' 1 v hnp
  have g1 : ¬ ((i : Int) < 0) := by omega
  have g2 : ¬ ((k : Int) ≤ (i : Int)) := by omega
  clear h1 h2 h3 hi hnp
  go_enter Try.func35, Try.ntmps35
  go_wp2_with (first | (go_at_call 28; refine hc.mono ?_; rintro e x1 ⟨hb1, B1, G1, C1, rfl, ho1⟩; clear hc) | (go_at_call 37; refine (ha _).mono ?_; rintro e w' ⟨rfl, rfl⟩; clear ha))
  go_ret2
  exact ⟨rfl, hb1⟩

theorem cut_one (g k c i : Nat) (w : World) (h : i < c) :
    (Instr.slice 22 (.slice (some ⟨g, 0, none⟩) k c) (some (.int .i64 (i : Int))) (some (.int .i64 ((i : Int) + 1))) none).run Try.prog w = .ok (.slice (some ⟨g, i, none⟩) 1 (c - i)) w := by
  rw [run_slice_lh w 22 _ _ _ elem_row .i64 .i64 (i : Int) ((i : Int) + 1) (by omega) (by omega) (by omega), elem_is, size_byte]
  simp only [Result.andThen, sliced, Int.toNat_natCast, Nat.mul_one, Option.map]
  have e1 : ((i : Int) + 1).toNat = i + 1 := by omega
  rw [if_neg (by omega), e1, show i + 1 - i = 1 by omega]
  have hadd : (⟨g, 0, none⟩ : Addr).add i = ⟨g, i, none⟩ := by unfold Addr.add; split <;> simp_all
  rw [hadd]

def deltaF (k m i : Nat) (X Y : Nat → Nat) : Nat → Nat → Nat := fun p j => tmul (cauchyF k m (k + p) i) (X j ^^^ Y j)

theorem deltaF_lt {k m i : Nat} {X Y : Nat → Nat} (hX : ∀ j, X j < 256) (hY : ∀ j, Y j < 256) (p j : Nat) : deltaF k m i X Y p j < 256 := tmul_lt _ _ (cauchyF_lt k m _ i) (xor_lt _ _ (hX j) (hY j))

set_option maxHeartbeats 2000000 in
set_option maxRecDepth 100000 in
theorem delta_yes (k m i n : Nat) (x y : Option Addr) (c c' : Nat) (X Y : Nat → Nat) (w : World) (h1 : 1 ≤ k) (h2 : 1 ≤ m) (h3 : k + m ≤ 255) (hi : i < k) (hn : n ≤ 140737488351232) (hX : RowAt w x n X) (hY : RowAt w y n Y) (hXl : ∀ j, X j < 256) (hYl : ∀ j, Y j < 256) :
    Calls Try.prog 35 #[.int .i64 k, .int .i64 m, .int .i64 i, .slice x n c, .slice y n c'] w fun e w' => ∃ w1 A1 C1, Below w.heap.size w w1 ∧ e = .returned (.tuple #[.slice (some ⟨w1.heap.size, 0, none⟩) m m, .int .i64 0]) ∧ Build w1 w' m m A1 (fun _ => n) C1 (deltaF k m i X Y) := by
  have hc := cauchy_yes k m w h1 h2 h3
  have ha : ∀ v, Below w.heap.size w v → Calls Try.prog 37 #[.slice x n c, .slice y n c', .int .u8 1] v fun e w' => e = .returned (.tuple #[.slice (some ⟨v.heap.size, 0, none⟩) n n, .bool true]) ∧ Below v.heap.size v w' ∧ v.heap.size < w'.heap.size ∧ ∀ j, j < n → w'.cell? ⟨v.heap.size, j, none⟩ = some (.int .u8 ((X j ^^^ Y j : Nat) : Int)) := fun v hv =>
    (addmul_eq x y n c c' 1 X Y v (by omega) hXl hYl hn (hX.below hv) (hY.below hv)).mono fun e w' h => ⟨h.1, h.2.1, h.2.2.1, fun j hj => by rw [h.2.2.2 j hj, one_tmul _ (hYl j)]⟩
  have hmk := run_make_row' (P := Try.prog) 28 22 (.slice none 0 0) 24 Try.underlying28 info_row rfl .i64 .i64 m (by omega) (by omega)
  have hcm : ∀ (x1 x2 v : World) (Bx : Nat) (G1 C1 : Nat → Nat), Build x2 v m m (fun r => some ⟨G1 (k + r), i, none⟩) (fun _ => 1) (fun r => C1 (k + r) - i) (fun r j => cauchyF k m (k + r) (i + j)) → x1.heap.size < x2.heap.size → (∀ j, j < n → x2.cell? ⟨x1.heap.size, j, none⟩ = some (.int .u8 ((X j ^^^ Y j : Nat) : Int))) → Bx = v.heap.size →
      Calls Try.prog 33 #[.slice (some ⟨x2.heap.size, 0, none⟩) m m, .slice (some ⟨Bx, 0, none⟩) 1 1] (v.alloc (.cells #[.slice (some ⟨x1.heap.size, 0, none⟩) n n] 22)) fun e w' => e = .returned (.slice (some ⟨(v.alloc (.cells #[.slice (some ⟨x1.heap.size, 0, none⟩) n n] 22)).heap.size, 0, none⟩) m m) ∧ ∃ A1 C1, Build (v.alloc (.cells #[.slice (some ⟨x1.heap.size, 0, none⟩) n n] 22)) w' m m A1 (fun _ => n) C1 (deltaF k m i X Y) := fun x1 x2 v Bx G1 C1 hB hlt hcell hBx => by
    subst hBx
    have hb : Below v.heap.size v (v.alloc (.cells #[.slice (some ⟨x1.heap.size, 0, none⟩) n n] 22)) := (Below.refl _ _).alloc (Nat.le_refl _) _
    have r1 := rowIs_one v (.slice (some ⟨x1.heap.size, 0, none⟩) n n) 22
    have hl : IsGrid (v.alloc (.cells #[.slice (some ⟨x1.heap.size, 0, none⟩) n n] 22)) (some ⟨v.heap.size, 0, none⟩) 1 (fun _ => some ⟨x1.heap.size, 0, none⟩) (fun _ => n) (fun _ => n) (fun _ j => X j ^^^ Y j) :=
      ⟨.inr ⟨v.heap.size, 0, rfl, r1.lt, fun r hr => by rw [Nat.zero_add]; exact r1.cell hr⟩, fun r hr => .inr ⟨x1.heap.size, 0, rfl, by have := hB.below.size; have := hb.size; omega, fun j hj => by
        rw [Nat.zero_add]
        exact (hb.cell (by show x1.heap.size < v.heap.size; have := hB.below.size; omega)).trans ((hB.below.cell (by exact hlt)).trans (hcell j hj))⟩, fun r j => xor_lt _ _ (hXl j) (hYl j)⟩
    refine (combined_any x2.heap.size 0 v.heap.size 0 m 1 n m 1 _ _ _ _ _ _ _ (by omega) (by omega) (by omega) hn (hB.grid.below hb) hl).mono fun e w' ⟨he, A1, C1, hB1⟩ => ⟨he, A1, C1, hB1.congr (fun _ _ => rfl) (fun r _ j _ => ?_) (deltaF_lt hXl hYl)⟩
    show 0 ^^^ tmul (cauchyF k m (k + r) (i + 0)) (X j ^^^ Y j) = deltaF k m i X Y r j
    rw [Nat.zero_xor]
    rfl
  obtain ⟨s, hs⟩ : ∃ s, s = k + m := ⟨_, rfl⟩
  rw [← hs] at hc
  have g1 : ¬ ((i : Int) < 0) := by omega
  have g2 : ¬ ((k : Int) ≤ (i : Int)) := by omega
  have hk5 : k ≤ 255 := by omega
  have hm5 : m ≤ 255 := by omega
  have HS : Hid (s = k + m) := hs
  have hcut := cut_one
  clear h1 h2 h3 hX hY hXl hYl hs
  go_enter Try.func35, Try.ntmps35
  go_wp2_with (first
    | (go_at_call 28; refine hc.mono ?_; rintro e x1 ⟨hb1, B1, G1, C1, rfl, ho1⟩; clear hc)
    | (go_at_call 37; refine (ha _ hb1).mono ?_; rintro e x2 ⟨rfl, hb2, hlt2, hcell⟩; clear ha))
  have HO : Hid (Own w.heap.size x1 B1 s k G1 C1 (cauchyF k m)) := ho1
  have HB2 : Hid (Below x1.heap.size x1 x2) := hb2
  have HCL : Hid (∀ j, j < n → x2.cell? ⟨x1.heap.size, j, none⟩ = some (.int .u8 ((X j ^^^ Y j : Nat) : Int))) := hcell
  have HB02 : Hid (Below w.heap.size w x2) := hb1.trans (hb2.mono hb1.size)
  have HA : Hid (Build x2 (x2.alloc (.cells (madeCells #[.slice none 0 0] m) 22)) m 0 (fun r => some ⟨G1 (k + r), i, none⟩) (fun _ => 1) (fun r => C1 (k + r) - i) (fun r j => cauchyF k m (k + r) (i + j))) := build_start x2 m _ _ _ _ (fun r j => cauchyF_lt k m _ _)
  have HCM : Hid (∀ v, Build x2 v m m (fun r => some ⟨G1 (k + r), i, none⟩) (fun _ => 1) (fun r => C1 (k + r) - i) (fun r j => cauchyF k m (k + r) (i + j)) → Calls Try.prog 33 #[.slice (some ⟨x2.heap.size, 0, none⟩) m m, .slice (some ⟨v.heap.size, 0, none⟩) 1 1] (v.alloc (.cells #[.slice (some ⟨x1.heap.size, 0, none⟩) n n] 22)) _) := fun v hB => hcm x1 x2 v _ G1 C1 hB hlt2 hcell rfl
  clear ho1 hb2 hcell hmk hb1 hcm
  go_loopw [47] (fun j wr => ∃ q : Nat, q ≤ m ∧ j = .int .i64 q ∧ Hid (Build x2 wr m q (fun r => some ⟨G1 (k + r), i, none⟩) (fun _ => 1) (fun r => C1 (k + r) - i) (fun r j => cauchyF k m (k + r) (i + j)))) (fun j _ => m - (intOf j).toNat)
  case atStart => exact ⟨0, by omega, rfl, HA⟩
  case round =>
    clear HA
    obtain ⟨q, hq, rfl, HW⟩ := hrel
    by_cases hlt : q < m
    · have hqm : (q : Int) < (m : Int) := by omega
      have hss := HS.out
      obtain ⟨p, hp⟩ : ∃ p, p = k + q := ⟨_, rfl⟩
      have hpi : (k : Int) + (q : Int) = (p : Int) := by omega
      have hps : (p : Int) < (s : Int) := by omega
      have ho := HO.out.below (Nat.le_refl _) (HB2.out.trans (HW.out.below.mono HB2.out.size))
      have t1 := ho.top p (by omega)
      have hct := fun v => hcut (G1 p) k (C1 p) i v (by have := HO.out.cap p (by omega); omega)
      obtain ⟨u, hu⟩ := HW.out.there q hlt
      have f1 := HW.out.fb q
      have HN : Hid (Build x2 (wr.setCell ⟨x2.heap.size, q, none⟩ (.slice (some ⟨G1 p, i, none⟩) 1 (C1 p - i))) m (q + 1) (fun r => some ⟨G1 (k + r), i, none⟩) (fun _ => 1) (fun r => C1 (k + r) - i) (fun r j => cauchyF k m (k + r) (i + j))) := by
        have hrow : (1 = 0) ∨ ∃ g o, (some ⟨G1 p, i, none⟩ : Option Addr) = some ⟨g, o, none⟩ ∧ g ≠ x2.heap.size ∧ g < wr.heap.size ∧ ∀ j, j < 1 → wr.cell? ⟨g, o + j, none⟩ = some (.int .u8 (cauchyF k m (k + q) (i + j) : Int)) := .inr ⟨G1 p, i, rfl, by have := (HO.out.hG p (by omega)).2.1; have := HB2.out.size; omega, (ho.hG p (by omega)).2.1, fun j hj => by
          have hj0 : j = 0 := by omega
          subst hj0
          have := ho.cell p (by omega) i hi
          rw [hp] at this ⊢
          exact this⟩
        have hpt := HW.out.put (r := q) (i' := q + 1) (l := 1) (c := C1 p - i) (a := some ⟨G1 p, i, none⟩) (f' := fun j => cauchyF k m (k + q) (i + j)) hlt (fun s hs => by omega) hrow (fun j => cauchyF_lt k m _ _)
        have e1 : (fun s => if s = q then (some ⟨G1 p, i, none⟩ : Option Addr) else some ⟨G1 (k + s), i, none⟩) = fun s => some ⟨G1 (k + s), i, none⟩ := by funext s; by_cases e : s = q <;> simp [e, hp]
        have e2 : (fun s : Nat => if s = q then 1 else 1) = fun _ => 1 := by funext s; simp
        have e3 : (fun s => if s = q then C1 p - i else C1 (k + s) - i) = fun s => C1 (k + s) - i := by funext s; by_cases e : s = q <;> simp [e, hp]
        have e4 : (fun s j => if s = q then cauchyF k m (k + q) (i + j) else cauchyF k m (k + s) (i + j)) = fun s j => cauchyF k m (k + s) (i + j) := by funext s j; by_cases e : s = q <;> simp [e]
        rw [e1, e2, e3, e4] at hpt
        exact hpt
      clear HW ho hp hss hcut
      go_wp2_with fail
      go_roundw
      case rel => exact ⟨q + 1, by omega, by go_num, HN⟩
      case measure => simp [intOf]; omega
    · obtain rfl : q = m := by omega
      have hcomb := HCM.out wr HW.out
      have HBW : Hid (Below w.heap.size w (wr.alloc (.cells #[.slice (some ⟨x1.heap.size, 0, none⟩) n n] 22))) := (HB02.out.trans (HW.out.below.mono HB02.out.size)).alloc (by have := HB02.out.size; have := HW.out.below.size; omega) _
      clear HW HCM hcut
      go_wp2_with (go_at_call 33; refine hcomb.mono ?_; rintro e x5 ⟨rfl, A5, C5, hB5⟩; clear hcomb)
      go_ret2
      have hsz : (wr.alloc (.cells #[.slice (some ⟨x1.heap.size, 0, none⟩) n n] 22)).heap.size = wr.heap.size + 1 := by simp
      exact ⟨_, A5, C5, HBW.out, by rw [hsz]; rfl, hB5⟩

/- No such shard. -/
set_option maxHeartbeats 1000000 in
set_option maxRecDepth 100000 in
theorem apply_no (k m n b o c : Nat) (i : Int) (y : Option Addr) (p c' : Nat) (A : Nat → Option Addr) (C : Nat → Nat) (w : World) (h1 : 1 ≤ k) (h2 : 1 ≤ m) (h3 : k + m ≤ 255) (hx : i < 0 ∨ (k : Int) ≤ i) (h : Tops w (some ⟨b, o, none⟩) (k + m) A (fun _ => n) C) :
    Calls Try.prog 19 #[.int .i64 k, .int .i64 m, .slice (some ⟨b, o, none⟩) (k + m) c, .int .i64 i, .slice y p c'] w fun e w' => e = .returned (.tuple #[.slice none 0 0, .int .i64 1]) ∧ Below w.heap.size w w' := by
  have hc := cauchy_yes k m w h1 h2 h3
  have hq : ∀ v, Below w.heap.size w v → Calls Try.prog 34 #[.int .i64 k, .int .i64 m, .slice (some ⟨b, o, none⟩) (k + m) c] v fun e w' => e = .returned (.bool true) ∧ w' = v := fun v hv => whole_any _ k m (k + m) c true A (fun _ => n) C v (by omega) (by omega) (by omega) (h.below (Nat.le_refl _) hv) (fun _ _ => rfl) (fun q => absurd ⟨rfl, fun _ _ => rfl⟩ q)
  obtain ⟨s, hs⟩ : ∃ s, s = k + m := ⟨_, rfl⟩
  rw [← hs] at hc
  simp only [← hs] at hq
  rw [← hs]
  by_cases hi : i < 0
  · clear h h1 h2 h3 hs hx
    go_enter Try.func19, Try.ntmps19
    go_wp2_with (first
      | (go_at_call 28; refine hc.mono ?_; rintro e x1 ⟨hb1, B1, G1, C1, rfl, ho1⟩; clear hc)
      | (go_at_call 34; refine (hq _ hb1).mono ?_; rintro e w' ⟨rfl, rfl⟩; clear hq))
    go_ret2
    exact ⟨rfl, hb1⟩
  · have hik : (k : Int) ≤ i := by omega
    clear h h1 h2 h3 hs hx
    go_enter Try.func19, Try.ntmps19
    go_wp2_with (first
      | (go_at_call 28; refine hc.mono ?_; rintro e x1 ⟨hb1, B1, G1, C1, rfl, ho1⟩; clear hc)
      | (go_at_call 34; refine (hq _ hb1).mono ?_; rintro e w' ⟨rfl, rfl⟩; clear hq))
    go_ret2
    exact ⟨rfl, hb1⟩

/- Another length. -/
set_option maxHeartbeats 1000000 in
set_option maxRecDepth 100000 in
theorem apply_len (k m n b o c i : Nat) (y : Option Addr) (p c' : Nat) (A : Nat → Option Addr) (C : Nat → Nat) (w : World) (h1 : 1 ≤ k) (h2 : 1 ≤ m) (h3 : k + m ≤ 255) (hi : i < k) (hp : n ≠ p) (h : Tops w (some ⟨b, o, none⟩) (k + m) A (fun _ => n) C) :
    Calls Try.prog 19 #[.int .i64 k, .int .i64 m, .slice (some ⟨b, o, none⟩) (k + m) c, .int .i64 i, .slice y p c'] w fun e w' => e = .returned (.tuple #[.slice none 0 0, .int .i64 1]) ∧ Below w.heap.size w w' := by
  have hc := cauchy_yes k m w h1 h2 h3
  have hq : ∀ v, Below w.heap.size w v → Calls Try.prog 34 #[.int .i64 k, .int .i64 m, .slice (some ⟨b, o, none⟩) (k + m) c] v fun e w' => e = .returned (.bool true) ∧ w' = v := fun v hv => whole_any _ k m (k + m) c true A (fun _ => n) C v (by omega) (by omega) (by omega) (h.below (Nat.le_refl _) hv) (fun _ _ => rfl) (fun q => absurd ⟨rfl, fun _ _ => rfl⟩ q)
  have hd : ∀ v, Calls Try.prog 35 #[.int .i64 k, .int .i64 m, .int .i64 i, .slice (A i) n (C i), .slice y p c'] v fun e w' => e = .returned (.tuple #[.slice none 0 0, .int .i64 1]) ∧ Below v.heap.size v w' := fun v => delta_len k m i (A i) y n p (C i) c' v h1 h2 h3 hi hp
  have ht : ∀ v, Below w.heap.size w v → v.cell? ⟨b, o + i, none⟩ = some (.slice (A i) n (C i)) := fun v hv => by
    rcases h.below (Nat.le_refl _) hv with h0 | ⟨b', o', q1, q2, q3⟩
    · omega
    · injection q1 with q1
      injection q1 with e1 e2 _
      subst e1; subst e2
      exact q3 i (by omega)
  obtain ⟨s, hs⟩ : ∃ s, s = k + m := ⟨_, rfl⟩
  rw [← hs] at hc
  simp only [← hs] at hq
  rw [← hs]
  have g1 : ¬ ((i : Int) < 0) := by omega
  have g2 : ¬ ((k : Int) ≤ (i : Int)) := by omega
  have g3 : (i : Int) < (s : Int) := by omega
  clear h h1 h2 h3 hs hi hp
  go_enter Try.func19, Try.ntmps19
  go_wp2_with (first
    | (go_at_call 28; refine hc.mono ?_; rintro e x1 ⟨hb1, B1, G1, C1, rfl, ho1⟩; clear hc; have t1 := ht _ hb1; clear ht)
    | (go_at_call 34; refine (hq _ hb1).mono ?_; rintro e w' ⟨rfl, rfl⟩; clear hq)
    | (go_at_call 35; refine (hd _).mono ?_; rintro e x2 ⟨rfl, hb2⟩; clear hd))
  go_ret2
  exact ⟨rfl, hb1.trans (hb2.mono hb1.size)⟩

def applyF (k m i : Nat) (f : Nat → Nat → Nat) (Y : Nat → Nat) : Nat → Nat → Nat := fun r j => if r < k then (if r = i then Y j else f r j) else f r j ^^^ deltaF k m i (f i) Y (r - k) j

theorem applyF_lt {k m i : Nat} {f : Nat → Nat → Nat} {Y : Nat → Nat} (hf : ∀ r j, f r j < 256) (hY : ∀ j, Y j < 256) (r j : Nat) : applyF k m i f Y r j < 256 := by
  unfold applyF
  split
  · split
    · exact hY j
    · exact hf r j
  · exact xor_lt _ _ (hf r j) (deltaF_lt (hf i) hY _ j)

/- A copy, or a sum, is laid at the next place. -/
theorem build_next {w0 wr w1 : World} {N q n : Nat} {A : Nat → Option Addr} {C : Nat → Nat} {F : Nat → Nat → Nat} {y : Option Addr} {cy : Nat} (h : Build w0 wr N q A (fun _ => n) C F) (hq : q < N) (hb : Below wr.heap.size wr w1)
    (hrow : n = 0 ∨ ∃ g o, y = some ⟨g, o, none⟩ ∧ wr.heap.size ≤ g ∧ g < w1.heap.size ∧ ∀ j, j < n → w1.cell? ⟨g, o + j, none⟩ = some (.int .u8 (F q j : Int))) :
    ∃ A' C', Build w0 (w1.setCell ⟨w0.heap.size, q, none⟩ (.slice y n cy)) N (q + 1) A' (fun _ => n) C' F := by
  refine ⟨_, _, ((h.more (Nat.le_refl _) hb).put (r := q) (i' := q + 1) (l := n) (c := cy) (a := y) (f' := F q) hq (fun s hs => by omega) ?_ (h.lt q)).congr (fun r hr => ?_) (fun r hr j hj => ?_) h.lt⟩
  · rcases hrow with h0 | ⟨g, o, h1, h2, h3, h4⟩
    · exact .inl h0
    · exact .inr ⟨g, o, h1, by have := h.hb; omega, h3, h4⟩
  · split <;> rfl
  · by_cases e : r = q
    · subst e; rw [if_pos rfl]
    · rw [if_neg e]

/- A copy is laid at a place that has been laid. -/
theorem build_over {w0 wr w1 : World} {N q n i : Nat} {A : Nat → Option Addr} {C : Nat → Nat} {F F' : Nat → Nat → Nat} {y : Option Addr} {cy : Nat} (h : Build w0 wr N q A (fun _ => n) C F) (hq : q ≤ N) (hi : i < q) (hb : Below wr.heap.size wr w1)
    (hrow : n = 0 ∨ ∃ g o, y = some ⟨g, o, none⟩ ∧ wr.heap.size ≤ g ∧ g < w1.heap.size ∧ ∀ j, j < n → w1.cell? ⟨g, o + j, none⟩ = some (.int .u8 (F' i j : Int))) (hF : ∀ r, r < q → r ≠ i → ∀ j, F r j = F' r j) (hl : ∀ r j, F' r j < 256) :
    ∃ A' C', Build w0 (w1.setCell ⟨w0.heap.size, i, none⟩ (.slice y n cy)) N q A' (fun _ => n) C' F' := by
  refine ⟨_, _, ((h.more (Nat.le_refl _) hb).put (r := i) (i' := q) (l := n) (c := cy) (a := y) (f' := F' i) (by omega) (fun s hs => .inr hs) ?_ (hl i)).congr (fun r hr => ?_) (fun r hr j hj => ?_) hl⟩
  · rcases hrow with h0 | ⟨g, o, h1, h2, h3, h4⟩
    · exact .inl h0
    · exact .inr ⟨g, o, h1, by have := h.hb; omega, h3, h4⟩
  · split <;> rfl
  · by_cases e : r = i
    · subst e; rw [if_pos rfl]
    · rw [if_neg e]; exact hF r hr e j

set_option maxHeartbeats 4000000 in
set_option maxRecDepth 100000 in
theorem apply_yes (k m n b c i : Nat) (y : Option Addr) (c' : Nat) (G C : Nat → Nat) (f : Nat → Nat → Nat) (Y : Nat → Nat) (w : World) (h1 : 1 ≤ k) (h2 : 1 ≤ m) (h3 : k + m ≤ 255) (hi : i < k) (hn : n ≤ 140737488351232) (h : Mat w b 0 (k + m) n G (fun _ => 0) C f) (hY : RowAt w y n Y) (hYl : ∀ j, Y j < 256) (hnil : y = none → n = 0 ∧ c' = 0) :
    Calls Try.prog 19 #[.int .i64 k, .int .i64 m, .slice (some ⟨b, 0, none⟩) (k + m) c, .int .i64 i, .slice y n c'] w fun e w' => ∃ w1 A1 C1, Below w.heap.size w w1 ∧ e = .returned (.tuple #[.slice (some ⟨w1.heap.size, 0, none⟩) (k + m) (k + m), .int .i64 0]) ∧ Build w1 w' (k + m) (k + m) A1 (fun _ => n) C1 (applyF k m i f Y) := by
  have hc := cauchy_yes k m w h1 h2 h3
  have hf := h.lt
  have hq : ∀ v, Below w.heap.size w v → Calls Try.prog 34 #[.int .i64 k, .int .i64 m, .slice (some ⟨b, 0, none⟩) (k + m) c] v fun e w' => e = .returned (.bool true) ∧ w' = v := fun v hv => whole_any _ k m (k + m) c true _ (fun _ => n) C v (by omega) (by omega) (by omega) ((h.below (Nat.le_refl _) hv).tops) (fun _ _ => rfl) (fun q => absurd ⟨rfl, fun _ _ => rfl⟩ q)
  obtain ⟨s, hs⟩ : ∃ s, s = k + m := ⟨_, rfl⟩
  rw [← hs] at hc h
  simp only [← hs] at hq
  rw [← hs]
  have hd : ∀ v, Below w.heap.size w v → Calls Try.prog 35 #[.int .i64 k, .int .i64 m, .int .i64 i, .slice (some ⟨G i, 0, none⟩) n (C i), .slice y n c'] v fun e w' => ∃ w1 A1 C1, Below v.heap.size v w1 ∧ e = .returned (.tuple #[.slice (some ⟨w1.heap.size, 0, none⟩) m m, .int .i64 0]) ∧ Build w1 w' m m A1 (fun _ => n) C1 (deltaF k m i (f i) Y) := fun v hv =>
    delta_yes k m i n _ y (C i) c' (f i) Y v h1 h2 h3 hi hn ((h.below (Nat.le_refl _) hv).row (r := i) (by omega)) (hY.below hv) (hf i) hYl
  have hmk := run_make_row' (P := Try.prog) 28 22 (.slice none 0 0) 24 Try.underlying28 info_row rfl .i64 .i64 s (by omega) (by omega)
  have hsi : (k : Int) + (m : Int) = (s : Int) := by omega
  have g1 : ¬ ((i : Int) < 0) := by omega
  have g2 : ¬ ((k : Int) ≤ (i : Int)) := by omega
  have g3 : (i : Int) < (s : Int) := by omega
  have HM : Hid (∀ v, Below w.heap.size w v → Mat v b 0 s n G (fun _ => 0) C f) := fun v hv => h.below (Nat.le_refl _) hv
  have HYR : Hid (∀ v, Below w.heap.size w v → RowAt v y n Y) := fun v hv => hY.below hv
  have ht : ∀ v, Below w.heap.size w v → v.cell? ⟨b, i, none⟩ = some (.slice (some ⟨G i, 0, none⟩) n (C i)) := fun v hv => by
    have := (HM.out v hv).top i (by omega)
    rwa [Nat.zero_add] at this
  have HF : Hid (∀ r j, f r j < 256) := hf
  have HY : Hid (∀ j, Y j < 256) := hYl
  have HNIL : Hid (y = none → n = 0 ∧ c' = 0) := hnil
  have HS : Hid (s = k + m) := hs
  have hs5 : s ≤ 255 := by omega
  have hk5 : k ≤ 255 := by omega
  have hm5 : m ≤ 255 := by omega
  clear h hf h1 h2 h3 hs hY hYl hnil
  go_enter Try.func19, Try.ntmps19
  go_wp2_with (first
    | (go_at_call 28; refine hc.mono ?_; rintro e x1 ⟨hb1, B1, G1, C1, rfl, ho1⟩; clear hc ho1; have t1 := ht _ hb1; clear ht; have hdd := hd _ hb1; clear hd)
    | (go_at_call 34; refine (hq _ hb1).mono ?_; rintro e w' ⟨rfl, rfl⟩; clear hq)
    | (go_at_call 35; refine hdd.mono ?_; rintro e x2 ⟨w2, A2, C2, hb2, rfl, hB2⟩; clear hdd))
  have HD : Hid (Build w2 x2 m m A2 (fun _ => n) C2 (deltaF k m i (f i) Y)) := hB2
  have hb02 := hb1.trans (hb2.mono hb1.size)
  have HB : Hid (Below w.heap.size w x2) := hb02.trans (hB2.below.mono hb02.size)
  have HA : Hid (∃ A1 C1, Build x2 (x2.alloc (.cells (madeCells #[.slice none 0 0] s) 22)) s 0 A1 (fun _ => n) C1 f) := ⟨fun _ => none, fun _ => 0, build_start x2 s _ _ _ _ HF.out⟩
  clear hB2 hb02 hb1 hb2 hmk t1
  go_loopw [63] (fun j wr => ∃ q : Nat, q ≤ k ∧ j = .int .i64 q ∧ Hid (∃ A1 C1, Build x2 wr s q A1 (fun _ => n) C1 f)) (fun j _ => k - (intOf j).toNat)
  case atStart => exact ⟨0, by omega, rfl, HA⟩
  case round =>
    clear HA
    obtain ⟨q, hq, rfl, HW⟩ := hrel
    obtain ⟨A1, C1, hB⟩ := HW.out
    have hbw : Below w.heap.size w wr := HB.out.trans (hB.below.mono HB.out.size)
    by_cases hlt : q < k
    · have hqk : (q : Int) < (k : Int) := by omega
      have hss := HS.out
      have hqs : (q : Int) < (s : Int) := by omega
      have t1 : wr.cell? ⟨b, q, none⟩ = some (.slice (some ⟨G q, 0, none⟩) n (C q)) := by
        have := (HM.out wr hbw).top q (by omega)
        rwa [Nat.zero_add] at this
      have hcl := clone_any (some ⟨G q, 0, none⟩) n (C q) (f q) wr ((HM.out wr hbw).row (r := q) (by omega)) hn (fun h => by cases h)
      have HBq : Hid (Build x2 wr s q A1 (fun _ => n) C1 f) := hB
      clear hB HW hbw hss
      go_wp2_with (go_at_call 36; refine hcl.mono ?_; rintro e x3 ⟨y3, cy3, rfl, hb3, hr3⟩; clear hcl; have hss := HS.out; obtain ⟨A3, C3, hB3⟩ := build_next (cy := cy3) HBq.out (by omega) hb3 hr3; have hmr := HBq.out.more (Nat.le_refl _) hb3; obtain ⟨u3, hu3⟩ := hmr.there q (by omega); have f3 := hmr.fb q; have HN : Hid (∃ A1 C1, Build x2 (x3.setCell ⟨x2.heap.size, q, none⟩ (.slice y3 n cy3)) s (q + 1) A1 (fun _ => n) C1 f) := ⟨A3, C3, hB3⟩; clear hmr hB3 hr3 hss)
      go_roundw
      case rel => exact ⟨q + 1, by omega, by go_num, HN⟩
      case measure => simp [intOf]; omega
    · obtain rfl : q = k := by omega
      have hcl := clone_any y n c' Y wr (HYR.out wr hbw) hn HNIL.out
      have HBq : Hid (Build x2 wr s q A1 (fun _ => n) C1 f) := hB
      clear hB HW hbw
      go_wp2_with (go_at_call 36; refine hcl.mono ?_; rintro e x3 ⟨y3, cy3, rfl, hb3, hr3⟩; clear hcl; have hss := HS.out; obtain ⟨A3, C3, hB3⟩ := build_over (F' := applyF q m i f Y) (cy := cy3) HBq.out (by omega) hi hb3 (by rcases hr3 with h0 | ⟨g, o, e1, e2, e3, e4⟩; exact .inl h0; exact .inr ⟨g, o, e1, e2, e3, fun j hj => by rw [e4 j hj]; unfold applyF; rw [if_pos hi, if_pos rfl]⟩) (fun r hr hri j => by unfold applyF; rw [if_pos hr, if_neg hri]) (applyF_lt HF.out HY.out); have hmr := HBq.out.more (Nat.le_refl _) hb3; obtain ⟨u3, hu3⟩ := hmr.there i (by omega); have f3 := hmr.fb i; have HN : Hid (∃ A1 C1, Build x2 (x3.setCell ⟨x2.heap.size, i, none⟩ (.slice y3 n cy3)) s (q + 0) A1 (fun _ => n) C1 (applyF q m i f Y)) := ⟨A3, C3, hB3⟩; clear hmr hB3 hr3 hss)
      go_loopw [81] (fun j wr => ∃ p : Nat, p ≤ m ∧ j = .int .i64 p ∧ Hid (∃ A1 C1, Build x2 wr s (q + p) A1 (fun _ => n) C1 (applyF q m i f Y))) (fun j _ => m - (intOf j).toNat)
      case atStart => exact ⟨0, by omega, rfl, HN⟩
      case round =>
        clear HN hu3 f3
        obtain ⟨p, hp, rfl, HW⟩ := hrel
        obtain ⟨A4, C4, hB⟩ := HW.out
        have hss := HS.out
        by_cases hlt2 : p < m
        · have hpm : (p : Int) < (m : Int) := by omega
          obtain ⟨z, hz⟩ : ∃ z, z = q + p := ⟨_, rfl⟩
          have hzi : (q : Int) + (p : Int) = (z : Int) := by omega
          have hzs : (z : Int) < (s : Int) := by omega
          have hwz : IntKind.i64.wrap (z : Int) = (z : Int) := IntWalk.i64_in _ (by omega)
          have hbw : Below w.heap.size w wr := HB.out.trans (hB.below.mono HB.out.size)
          have hMr := HM.out wr hbw
          have k1 : wr.drew.cell? ⟨b, z, none⟩ = some (.slice (some ⟨G z, 0, none⟩) n (C z)) := by
            have := hMr.top z (by omega)
            rwa [Nat.zero_add] at this
          have hDr := HD.out.more (Nat.le_refl _) hB.below
          have k2 : wr.drew.cell? ⟨w2.heap.size, p, none⟩ = some (.slice (A2 p) n (C2 p)) := hDr.top p hlt2
          have hcall : Calls Try.prog 37 #[.slice (some ⟨G z, 0, none⟩) n (C z), .slice (A2 p) n (C2 p), .int .u8 1] wr.drew fun e w' => e = .returned (.tuple #[.slice (some ⟨wr.heap.size, 0, none⟩) n n, .bool true]) ∧ Below wr.heap.size wr.drew w' ∧ wr.heap.size < w'.heap.size ∧ ∀ j, j < n → w'.cell? ⟨wr.heap.size, j, none⟩ = some (.int .u8 (applyF q m i f Y z j : Int)) :=
            (addmul_eq (some ⟨G z, 0, none⟩) (A2 p) n (C z) (C2 p) 1 (f z) (deltaF q m i (f i) Y p) wr.drew (by omega) (HF.out z) (deltaF_lt (HF.out i) HY.out p) hn (hMr.row (r := z) (by omega)) (hDr.rowAt hlt2)).mono fun e w' h => ⟨h.1, h.2.1, h.2.2.1, fun j hj => by
              refine (h.2.2.2 j hj).trans ?_
              rw [one_tmul _ (deltaF_lt (HF.out i) HY.out p j)]
              unfold applyF
              rw [if_neg (by omega), show z - q = p by omega]⟩
          have hbb : b < wr.heap.size := hMr.hb
          have hw2 : w2.heap.size < wr.heap.size := hDr.hb
          have HBq : Hid (Build x2 wr s z A4 (fun _ => n) C4 (applyF q m i f Y)) := by rw [hz]; exact hB
          have hzn : z < s := by omega
          have HZ : Hid (z = q + p) := hz
          clear hB HW hbw hMr hDr hz hss
          go_wp2_with fail
          refine wp_region_mid (fun w' => w'.cell? ⟨b, z, none⟩ = some (.slice (some ⟨G z, 0, none⟩) n (C z)) ∧ w'.cell? ⟨w2.heap.size, p, none⟩ = some (.slice (A2 p) n (C2 p))) 19 (by kernel_rfl) ⟨k1, k2⟩ (fun hS => ?_)
          refine wpAnyM_take (i := 0) (v := ?_) rfl (by kernel_rfl) (by kernel_rfl) (by kernel_rfl) (by kernel_rfl) (by kernel_rfl) (fun _ _ _ h => h) hS (Or.inl ⟨by rfl, ?_⟩) ?_
          case refine_2 => (intro w hSw; (try dsimp only at hSw); go_simp; (try with_reducible rfl))
          (try simp only [Act.put, List.setIfInBounds_toArray, List.set_cons_zero, List.set_cons_succ])
          refine wpAnyM_take (i := 1) (v := ?_) rfl (by kernel_rfl) (by kernel_rfl) (by kernel_rfl) (by kernel_rfl) (by kernel_rfl) (fun _ _ _ h => h) hS (Or.inl ⟨by rfl, ?_⟩) ?_
          case refine_2 => (intro w hSw; (try dsimp only at hSw); go_simp; (try with_reducible rfl))
          (try simp only [Act.put, List.setIfInBounds_toArray, List.set_cons_zero, List.set_cons_succ])
          refine wpAnyM_take (i := 2) (v := ?_) rfl (by kernel_rfl) (by kernel_rfl) (by kernel_rfl) (by kernel_rfl) (by kernel_rfl) (fun _ _ _ h => h) hS (Or.inl ⟨by rfl, ?_⟩) ?_
          case refine_2 => (intro w hSw; (try dsimp only at hSw); go_simp; (try with_reducible rfl))
          (try simp only [Act.put, List.setIfInBounds_toArray, List.set_cons_zero, List.set_cons_succ])
          refine wpAnyM_take (i := 3) (v := ?_) rfl (by kernel_rfl) (by kernel_rfl) (by kernel_rfl) (by kernel_rfl) (by kernel_rfl) (fun _ _ _ h => h) hS (Or.inl ⟨by rfl, ?_⟩) ?_
          case refine_2 => (intro w hSw; (try dsimp only at hSw); go_simp; (try with_reducible rfl))
          (try simp only [Act.put, List.setIfInBounds_toArray, List.set_cons_zero, List.set_cons_succ])
          refine wpAnyM_take (i := 4) (v := ?_) rfl (by kernel_rfl) (by kernel_rfl) (by kernel_rfl) (by kernel_rfl) (by kernel_rfl) (fun _ _ _ h => h) hS (Or.inl ⟨by rfl, ?_⟩) ?_
          case refine_2 => (intro w hSw; (try dsimp only at hSw); go_simp; (try with_reducible rfl))
          (try simp only [Act.put, List.setIfInBounds_toArray, List.set_cons_zero, List.set_cons_succ])
          refine wpAnyM_take (i := 5) (v := ?_) rfl (by kernel_rfl) (by kernel_rfl) (by kernel_rfl) (by kernel_rfl) (by kernel_rfl) (fun _ _ _ h => h) hS (Or.inl ⟨by rfl, ?_⟩) ?_
          case refine_2 => (intro w hSw; (try dsimp only at hSw); go_simp; (try with_reducible rfl))
          (try simp only [Act.put, List.setIfInBounds_toArray, List.set_cons_zero, List.set_cons_succ])
          refine wpAnyM_take (i := 6) (v := ?_) rfl (by kernel_rfl) (by kernel_rfl) (by kernel_rfl) (by kernel_rfl) (by kernel_rfl) (fun _ _ _ h => h) hS (Or.inl ⟨by rfl, ?_⟩) ?_
          case refine_2 => (intro w hSw; (try dsimp only at hSw); go_simp; (try with_reducible rfl))
          (try simp only [Act.put, List.setIfInBounds_toArray, List.set_cons_zero, List.set_cons_succ])
          refine wpAnyM_take (i := 7) (v := ?_) rfl (by kernel_rfl) (by kernel_rfl) (by kernel_rfl) (by kernel_rfl) (by kernel_rfl) (fun _ _ _ h => h) hS (Or.inl ⟨by rfl, ?_⟩) ?_
          case refine_2 => (intro w hSw; (try dsimp only at hSw); go_simp; (try with_reducible rfl))
          (try simp only [Act.put, List.setIfInBounds_toArray, List.set_cons_zero, List.set_cons_succ])
          refine wpAnyM_take (i := 8) (v := ?_) rfl (by kernel_rfl) (by kernel_rfl) (by kernel_rfl) (by kernel_rfl) (by kernel_rfl) (fun _ _ _ h => h) hS (Or.inl ⟨by rfl, ?_⟩) ?_
          case refine_2 => (intro w hSw; (try dsimp only at hSw); go_simp; (try with_reducible rfl))
          (try simp only [Act.put, List.setIfInBounds_toArray, List.set_cons_zero, List.set_cons_succ])
          refine wpAnyM_take (i := 9) (v := ?_) rfl (by kernel_rfl) (by kernel_rfl) (by kernel_rfl) (by kernel_rfl) (by kernel_rfl) (fun _ _ _ h => h) hS (Or.inl ⟨by rfl, ?_⟩) ?_
          case refine_2 => (intro w hSw; (try dsimp only at hSw); go_simp; (try with_reducible rfl))
          (try simp only [Act.put, List.setIfInBounds_toArray, List.set_cons_zero, List.set_cons_succ])
          refine wpAnyM_take (i := 10) (v := ?_) rfl (by kernel_rfl) (by kernel_rfl) (by kernel_rfl) (by kernel_rfl) (by kernel_rfl) (fun _ _ _ h => h) hS (Or.inl ⟨by rfl, ?_⟩) ?_
          case refine_2 => (intro w hSw; (try dsimp only at hSw); go_simp; (try with_reducible rfl))
          (try simp only [Act.put, List.setIfInBounds_toArray, List.set_cons_zero, List.set_cons_succ])
          refine wpAnyM_take (i := 11) (v := ?_) rfl (by kernel_rfl) (by kernel_rfl) (by kernel_rfl) (by kernel_rfl) (by kernel_rfl) (fun _ _ _ h => h) hS (Or.inl ⟨by rfl, ?_⟩) ?_
          case refine_2 => (intro w hSw; (try dsimp only at hSw); go_simp; (try with_reducible rfl))
          (try simp only [Act.put, List.setIfInBounds_toArray, List.set_cons_zero, List.set_cons_succ])
          refine wpAnyM_take (i := 12) (v := ?_) rfl (by kernel_rfl) (by kernel_rfl) (by kernel_rfl) (by kernel_rfl) (by kernel_rfl) (fun _ _ _ h => h) hS (Or.inl ⟨by rfl, ?_⟩) ?_
          case refine_2 => (intro w hSw; (try dsimp only at hSw); go_simp; (try with_reducible rfl))
          (try simp only [Act.put, List.setIfInBounds_toArray, List.set_cons_zero, List.set_cons_succ])
          refine wpAnyM_take (i := 13) (v := ?_) rfl (by kernel_rfl) (by kernel_rfl) (by kernel_rfl) (by kernel_rfl) (by kernel_rfl) (fun _ _ _ h => h) hS (Or.inl ⟨by rfl, ?_⟩) ?_
          case refine_2 => (intro w hSw; (try dsimp only at hSw); go_simp; (try with_reducible rfl))
          (try simp only [Act.put, List.setIfInBounds_toArray, List.set_cons_zero, List.set_cons_succ])
          refine wpAnyM_one (i := 14) (by kernel_rfl) rfl (fun K hK => ?_)
          go_simp
          refine hcall.mono ?_
          rintro e w1 ⟨rfl, hb1, hs1, hc1⟩
          have hb1' : Below wr.heap.size wr w1 := ⟨hb1.os, hb1.tape, hb1.output, hb1.size, hb1.block⟩
          have hmr := HBq.out.more (Nat.le_refl _) hb1'
          have hS : w1.cell? ⟨b, z, none⟩ = some (.slice (some ⟨G z, 0, none⟩) n (C z)) ∧ w1.cell? ⟨w2.heap.size, p, none⟩ = some (.slice (A2 p) n (C2 p)) := ⟨(hb1.cell (by exact hbb)).trans k1, (hb1.cell (by exact hw2)).trans k2⟩
          obtain ⟨u3, hu3⟩ := hmr.there z hzn
          have f3 := hmr.fb z
          obtain ⟨A5, C5, hB5⟩ := build_next (y := some ⟨wr.heap.size, 0, none⟩) (cy := n) HBq.out hzn hb1' (.inr ⟨wr.heap.size, 0, rfl, Nat.le_refl _, hs1, fun j hj => by rw [Nat.zero_add]; exact hc1 j hj⟩)
          have HN : Hid (∃ A1 C1, Build x2 (w1.setCell ⟨x2.heap.size, z, none⟩ (.slice (some ⟨wr.heap.size, 0, none⟩) n n)) s (q + (p + 1)) A1 (fun _ => n) C1 (applyF q m i f Y)) := ⟨A5, C5, by have := HZ.out; rw [show q + (p + 1) = z + 1 by omega]; exact hB5⟩
          clear hmr hB5 hc1 hb1 hb1' HBq HZ
          refine hK.out _ _ (fun _ => hS) ?_
          clear hK
          refine wpAnyM_take (i := 15) (v := ?_) rfl (by kernel_rfl) (by kernel_rfl) (by kernel_rfl) (by kernel_rfl) (by kernel_rfl) (fun _ _ _ h => h) hS (Or.inl ⟨by rfl, ?_⟩) ?_
          case refine_2 => (intro w hSw; (try dsimp only at hSw); go_simp; (try with_reducible rfl))
          (try simp only [Act.put, List.setIfInBounds_toArray, List.set_cons_zero, List.set_cons_succ])
          refine wpAnyM_take (i := 16) (v := ?_) rfl (by kernel_rfl) (by kernel_rfl) (by kernel_rfl) (by kernel_rfl) (by kernel_rfl) (fun _ _ _ h => h) hS (Or.inl ⟨by rfl, ?_⟩) ?_
          case refine_2 => (intro w hSw; (try dsimp only at hSw); go_simp; (try with_reducible rfl))
          (try simp only [Act.put, List.setIfInBounds_toArray, List.set_cons_zero, List.set_cons_succ])
          refine wpAnyM_takeP (i := 17) (v := ?_) rfl (by decide) (by kernel_rfl) (by kernel_rfl) (by kernel_rfl) (fun _ _ _ h => h) hS (Or.inl ⟨by rfl, ?_⟩) ?_
          case refine_2 => (intro w hSw; (try dsimp only at hSw); go_simp; (try with_reducible rfl))
          (try simp only [Act.put, List.setIfInBounds_toArray, List.set_cons_zero, List.set_cons_succ])
          refine wpAnyM_take (i := 18) (v := ?_) rfl (by kernel_rfl) (by kernel_rfl) (by kernel_rfl) (by kernel_rfl) (by kernel_rfl) (fun _ _ _ h => h) hS (Or.inl ⟨by rfl, ?_⟩) ?_
          case refine_2 => (intro w hSw; (try dsimp only at hSw); go_simp; (try with_reducible rfl))
          (try simp only [Act.put, List.setIfInBounds_toArray, List.set_cons_zero, List.set_cons_succ])
          refine wpAnyM_one (i := 19) (by kernel_rfl) rfl (fun K2 hK2 => ?_)
          go_simp
          refine hK2.out _ _ (fun h => by cases h) ?_
          refine wpAnyM_done (by kernel_rfl) ?_ _
          go_wp2_with fail
          go_roundw
          case rel => exact ⟨p + 1, by omega, by go_num, HN⟩
          case measure => simp [intOf]; omega
        · obtain rfl : p = m := by omega
          have HE : Hid (Build x2 wr s s A4 (fun _ => n) C4 (applyF q p i f Y)) := by rw [← hss] at hB; exact hB
          clear hB HW hss
          go_wp2_with fail
          go_ret2
          exact ⟨x2, A4, C4, HB.out, rfl, HE.out⟩

end Go.Proofs.Ytmlaloadeeohbaa

/-
  What a law is told of lists of lists of bytes, of a list of bytes and of a struct Lost that came in, with their reach.
  Conditions: none.
-/
namespace Go.Proofs.Ytmlaloadeeohbaa
open Go.RowKit Gf Go.ChangeShapes Go.WideShapes Go.Deep
set_option linter.unusedVariables false

theorem mem_weightsAll {H : Type} {P : Program} {e : TypeId} {d : DataW H} {n : Nat} (hn : n ∈ d.weights P e) : ∀ {ds : List (DataW H)}, d ∈ ds → n ∈ DataW.weightsAll P e ds
  | d0 :: ds, h => by
    simp only [DataW.weightsAll, List.mem_append]
    rcases List.mem_cons.1 h with h | h
    · subst h; exact .inl hn
    · exact .inr (mem_weightsAll hn h)

structure GridIn (w : World) (a : Option Addr) (len cap : Nat) (A : Nat → Option Addr) (L C : Nat → Nat) (f : Nat → Nat → Nat) : Prop where
  grid : IsGrid w a len A L C f
  row : ∀ r, r < len → L r ≤ 140737488351232
  le : len ≤ cap
  small : len ≤ 5864062014634
  nil : a = none → len = 0 ∧ cap = 0

structure BytesIn (w : World) (a : Option Addr) (len cap : Nat) (f : Nat → Nat) : Prop where
  row : RowAt w a len f
  lt : ∀ i, f i < 256
  le : len ≤ cap
  small : len ≤ 140737488351232
  nil : a = none → len = 0 ∧ cap = 0

structure BoolsIn (w : World) (a : Option Addr) (len cap : Nat) (h : Nat → Bool) : Prop where
  row : BoolsAt w a len h
  le : len ≤ cap
  small : len ≤ 140737488351232
  nil : a = none → len = 0 ∧ cap = 0

section
variable {H : Type} {enc : TypeId × Value → H} {W : World} {base fuel : Nat} {held : Bool} {cs : List Value} {d : DataW H} {p : List MemPlace}

theorem grid_in (hf : DataW.trod enc Try.prog W base (fun _ => true) held fuel 28 cs = some (d, p)) (hw : ∀ x ∈ d.weights Try.prog 28, x ≤ reachBytes) :
    ∃ a len cap A L C f, cs = [.slice a len cap] ∧ GridIn W a len cap A L C f := by
  rcases open_int_rows Try.underlying28 Try.underlying22 Try.underlying5 (by kernel_rfl) (by kernel_rfl) hf with ⟨hcs, _⟩ | ⟨x, len, cap, A, L, C, Z, hcs, _, hl, hm, hx, hr⟩
  · exact ⟨none, 0, 0, fun _ => none, fun _ => 0, fun _ => 0, fun _ _ => 0, hcs, ⟨.inl rfl, fun r hr => by omega, fun _ _ => Nat.zero_lt_succ _⟩, fun r hr => by omega, Nat.le_refl _, by omega, fun _ => ⟨rfl, rfl⟩⟩
  · simp only [Prod.mk.injEq] at hx
    have hd := hx.1
    subst hd
    have hb24 : Try.prog.bytesOf 22 = 24 := by kernel_rfl
    have hb1 : Try.prog.bytesOf 5 = 1 := by kernel_rfl
    simp only [DataW.weights, Try.underlying28, List.mem_cons, List.mem_append, hb24] at hw
    have hw0 := hw _ (.inl rfl)
    simp only [List.length_map, List.length_range, reachBytes] at hw0
    have hrow : ∀ r, r < len → C r ≤ 140737488351232 := fun r hrl => by
      obtain ⟨_, h1, h2, h3, h4, h5, h6⟩ := hr r (by omega)
      cases e : A r with
      | none => rw [h5 e]; omega
      | some a' =>
        have h9 := hw (C r) (.inr (.inl (mem_weightsAll (d := intRow .u8 (A r) (L r) (Z r)) (by
          rw [e]
          simp only [intRow, DataW.weights, Try.underlying22, List.mem_cons, hb1]
          left
          simp only [lits, List.length_map, List.length_take, List.length_drop, h3]
          omega) (List.mem_map.2 ⟨r, List.mem_range.2 hrl, rfl⟩))))
        simpa [reachBytes] using h9
    refine ⟨some x, len, cap, A, L, C, fun r i => if r < cap then ((Z r).getD i 0).toNat else 0, hcs, ⟨?_, fun r hlt => ?_, fun r j => ?_⟩, fun r hrl => Nat.le_trans (hr r (by omega)).2.1 (hrow r hrl), hl, by omega, fun h => by cases h⟩
    · by_cases h0 : len = 0
      · exact .inl h0
      · obtain ⟨b, off, spot⟩ := x
        have hspot : spot = none := by simpa [Addr.add] using World.cell?_spot (hr 0 (by omega)).1
        subst hspot
        refine .inr ⟨b, off, rfl, cell_lt' (hr 0 (by omega)).1, fun r hlt => ?_⟩
        have := (hr r (by omega)).1
        rwa [add_at] at this
    · obtain ⟨_, h1, h2, h3, h4, h5, h6⟩ := hr r (by omega)
      cases e : A r with
      | none => exact .inl (by have := h5 e; omega)
      | some a' =>
        have := row_at (w := W) (a := a') (n := L r) h4 (fun c hc => (h6 a' e).2 c (by omega))
        simpa [show r < cap by omega] using this
    · by_cases e : r < cap
      · obtain ⟨n, h1, h2⟩ := u8_getD (hr r e).2.2.2.2.1 j
        simp only [e, if_true]
        omega
      · simp [e]

theorem bytes_in (hf : DataW.trod enc Try.prog W base (fun _ => true) held fuel 22 cs = some (d, p)) (hw : ∀ x ∈ d.weights Try.prog 22, x ≤ reachBytes) :
    ∃ a len cap f, cs = [.slice a len cap] ∧ BytesIn W a len cap f := by
  rcases open_ints Try.underlying22 Try.underlying5 (by kernel_rfl) hf with ⟨hcs, _⟩ | ⟨x, len, cap, zs, hcs, _, hl, hm, hz, hx, hcell, hwz⟩
  · exact ⟨none, 0, 0, fun _ => 0, hcs, .inl rfl, fun _ => Nat.zero_lt_succ _, Nat.le_refl _, by omega, fun _ => ⟨rfl, rfl⟩⟩
  · simp only [if_true] at hz
    simp only [Prod.mk.injEq] at hx
    have hd := hx.1
    subst hd
    have hb1 : Try.prog.bytesOf 5 = 1 := by kernel_rfl
    simp only [DataW.weights, Try.underlying22, List.mem_cons, hb1] at hw
    have hw0 := hw _ (.inl rfl)
    simp only [lits, List.length_map, List.length_take, List.length_drop, reachBytes] at hw0
    refine ⟨some x, len, cap, _, hcs, row_at hwz (fun c hc => hcell c (by omega)), fun i => ?_, hl, by omega, fun h => by cases h⟩
    obtain ⟨n, h1, h2⟩ := u8_getD hwz i
    omega

theorem bools_in (hf : DataW.trod enc Try.prog W base (fun _ => true) held fuel 33 cs = some (d, p)) (hw : ∀ x ∈ d.weights Try.prog 33, x ≤ reachBytes) :
    ∃ a len cap h, cs = [.slice a len cap] ∧ BoolsIn W a len cap h := by
  rcases open_bools Try.underlying33 Try.underlying4 (by kernel_rfl) hf with ⟨hcs, _⟩ | ⟨x, len, cap, B, hcs, _, hl, hm, hx, hcell⟩
  · exact ⟨none, 0, 0, fun _ => false, hcs, .inl rfl, Nat.le_refl _, by omega, fun _ => ⟨rfl, rfl⟩⟩
  · simp only [Prod.mk.injEq] at hx
    have hd := hx.1
    subst hd
    have hb1 : Try.prog.bytesOf 4 = 1 := by kernel_rfl
    simp only [boolRow, DataW.weights, Try.underlying33, List.mem_cons, hb1] at hw
    have hw0 := hw _ (.inl rfl)
    simp only [List.length_map, List.length_range, reachBytes] at hw0
    refine ⟨some x, len, cap, B, hcs, ?_, hl, by omega, fun h => by cases h⟩
    by_cases h0 : len = 0
    · exact .inl h0
    · obtain ⟨b, off, spot⟩ := x
      have hspot : spot = none := by simpa [Addr.add] using World.cell?_spot (hcell 0 (by omega))
      subst hspot
      refine .inr ⟨b, off, rfl, cell_lt' (hcell 0 (by omega)), fun i hi => ?_⟩
      have := hcell i (by omega)
      rwa [add_at] at this

end

structure LostIn (w : World) (K M : Int) (a : Option Addr) (len cap : Nat) (y : Option Addr) (p c : Nat) (A : Nat → Option Addr) (L C : Nat → Nat) (f : Nat → Nat → Nat) (h : Nat → Bool) : Prop where
  k : (Lit.int .i64 K).wf = true
  m : (Lit.int .i64 M).wf = true
  data : GridIn w a len cap A L C f
  have_ : BoolsIn w y p c h

section
variable {H : Type} {enc : TypeId × Value → H} {W : World} {base : Nat} {held : Bool} {v : Value} {d : DataW H} {p : List MemPlace}

end

end Go.Proofs.Ytmlaloadeeohbaa

/-
  Lists of bools, and of lists of bytes, copied by append: what they are in memory.
  Conditions: none.
-/
namespace Go.Proofs.Ytmlaloadeeohbaa
open Go.RowKit Gf
set_option linter.unusedVariables false
set_option linter.unusedSimpArgs false
set_option maxRecDepth 100000

def boolsOf (h : Nat → Bool) (n : Nat) : List Value := (List.range n).map fun i => Value.bool (h i)

theorem boolsOf_congr {h h' : Nat → Bool} {n : Nat} (e : ∀ i, i < n → h i = h' i) : boolsOf h n = boolsOf h' n := List.map_congr_left (fun i hi => by rw [e i (List.mem_range.1 hi)])

theorem info_b : (Try.prog.info? 4).map (fun i => (i.zero, i.size, i.bytes)) = some (some (.bool false), 1, 1) := by kernel_rfl

theorem empty_cells (w : World) (e : TypeId) : (w.alloc (.cells #[] e)).ownsRow w.heap.size e 1 (.slice (some ⟨w.heap.size, 0, none⟩) 0 0) 0 [] :=
  ⟨rfl, .inr ⟨w.heap.size, 0, #[], rfl, Nat.le_refl _, heap_alloc_new _ _, Nat.le_refl _, Nat.zero_le _, rfl, rfl⟩⟩

theorem bools_copy (w : World) (x : Option Addr) (p c : Nat) (h : Nat → Bool) (hl : BoolsAt w x p h) (hp : p ≤ 140737488351232) (hnil : x = none → p = 0 ∧ c = 0) :
    ∃ y cy w', (Builtin.append_ #[33, 33] 33 #[.slice (some ⟨w.heap.size, 0, none⟩) 0 0, .slice x p c]).run Try.prog (w.alloc (.cells #[] 4)) = .ok (.slice y p cy) w' ∧ Below w.heap.size w w' ∧ w'.ownsRow w.heap.size 4 1 (.slice y p cy) p (boolsOf h p) := by
  obtain ⟨i0, hi, hz0, hz1, hz2⟩ := info_parts info_b
  have hown := empty_cells w 4
  cases x with
  | none =>
    obtain ⟨rfl, rfl⟩ := hnil rfl
    have hr := run_append_owned_none (P := Try.prog) (w.alloc (.cells #[] 4)) w.heap.size 33 33 4 i0 1 Try.underlying33 hi _ 0 [] hown
    exact ⟨_, 0, _, hr, (Below.refl _ _).alloc (Nat.le_refl _) _, hown⟩
  | some ad =>
    obtain ⟨v', w', hr, h2, h3, h4⟩ := run_append_own (P := Try.prog) (w.alloc (.cells #[] 4)) w.heap.size 33 33 4 i0 (.bool false) 1 1 Try.underlying33 hi hz0 hz1 hz2 rfl (by decide) _ 0 [] hown
      ad p c (boolsOf h p) (by simp [boolsOf]) (fun j u hj => by
        have hjm : j < p := by
          have := (List.getElem?_eq_some_iff.1 hj).1
          simpa [boolsOf] using this
        have e : u = .bool (h j) := by simp [boolsOf, hjm] at hj; exact hj.symm
        rcases hl with hl | ⟨b, o, hx, hb, hc⟩
        · omega
        · injection hx with hx
          subst hx
          rw [e, add_at]
          exact ((Below.refl w.heap.size w).alloc (Nat.le_refl _) _ |>.cell (by exact hb)).trans (hc j hjm)) (fun u hu => by
        simp [boolsOf] at hu
        obtain ⟨j, _, rfl⟩ := hu
        rfl) (by unfold maxLen; omega) (by omega) (by simp)
    rw [Nat.zero_add, List.nil_append] at h2
    have hb : Below w.heap.size w w' := ((Below.refl w.heap.size w).alloc (Nat.le_refl _) _).grown h3 (by simp) (fun k hk => (hown.lt k hk).1)
    rcases h2.2 with ⟨hv, h0⟩ | ⟨g, cy, cur, hv, _⟩
    · subst hv
      subst h0
      exact ⟨none, 0, w', hr, hb, h2⟩
    · subst hv
      exact ⟨_, cy, w', hr, hb, h2⟩

theorem push_bool (w : World) (base : Nat) (V : Value) (q : Nat) (h : Nat → Bool) (hown : w.ownsRow base 4 1 V q (boolsOf h q)) (hq : q ≤ 1000) (hb : base ≤ w.heap.size) (ht : h q = true) :
    ∃ y cy w', (Builtin.append_ #[33, 33] 33 #[V, .slice (some ⟨w.heap.size, 0, none⟩) 1 1]).run Try.prog (w.alloc (.cells #[.bool true] 4)) = .ok (.slice y (q + 1) cy) w' ∧
      w'.ownsRow base 4 1 (.slice y (q + 1) cy) (q + 1) (boolsOf h (q + 1)) ∧ Below base w w' := by
  obtain ⟨i0, hi, hz0, hz1, hz2⟩ := info_parts info_b
  obtain ⟨v', w', hr, h2, h3, h4⟩ := run_append_own (P := Try.prog) (w.alloc (.cells #[.bool true] 4)) base 33 33 4 i0 (.bool false) 1 1 Try.underlying33 hi hz0 hz1 hz2 rfl (by decide) V q _ (hown.alloc _)
    ⟨w.heap.size, 0, none⟩ 1 1 [.bool true] rfl (one_at w _ _) (by simp [Value.oneCell']) (by unfold maxLen; omega) (by omega) (by simp; omega)
  have hb' : Below base w w' := ((Below.refl base w).alloc hb _).grown h3 (by simp; omega) (fun k hk => (hown.lt k hk).1)
  rw [show boolsOf h q ++ [.bool true] = boolsOf h (q + 1) by simp [boolsOf, List.range_succ, ht]] at h2
  rcases h2.2 with ⟨_, h0⟩ | ⟨g, cy, cur, hv, _⟩
  · omega
  · subst hv
    exact ⟨_, cy, w', hr, h2, hb'⟩

theorem bools_own {w : World} {base g q c : Nat} {h : Nat → Bool} (ho : w.ownsRow base 4 1 (.slice (some ⟨g, 0, none⟩) q c) q (boolsOf h q)) (hg : g < w.heap.size) : BoolsAt w (some ⟨g, 0, none⟩) q h :=
  .inr ⟨g, 0, rfl, hg, fun i hi => by
    rw [Nat.zero_add, ho.cellAt i (by omega)]
    simp [boolsOf, hi]⟩

theorem BoolsAt.take {w : World} {x : Option Addr} {p q : Nat} {h : Nat → Bool} (b : BoolsAt w x p h) (hq : q ≤ p) : BoolsAt w x q h := by
  rcases b with b | ⟨g, o, h1, h2, h3⟩
  · exact .inl (by omega)
  · exact .inr ⟨g, o, h1, h2, fun i hi => h3 i (by omega)⟩

theorem elem_bools : Try.prog.underlying 33 = some (.slice (Try.prog.elem 33)) := by kernel_rfl
theorem elem_bools_is : Try.prog.elem 33 = 4 := by kernel_rfl
theorem size_bool (w : World) : (sizeOf 4).run Try.prog w = .ok 1 w := by kernel_rfl

theorem cut_bools (g o m c d : Nat) (w : World) (h : d ≤ c) :
    (Instr.slice 33 (.slice (some ⟨g, o, none⟩) m c) none (some (.int .i64 (d : Int))) none).run Try.prog w = .ok (.slice (some ⟨g, o, none⟩) d c) w := by
  rw [run_slice_h w 33 _ _ _ elem_bools .i64 (d : Int) (by omega) (by omega), elem_bools_is, size_bool]
  simp only [Result.andThen, sliced, Int.toNat_natCast, Nat.mul_one, Option.map, Nat.sub_zero]
  have hadd : (⟨g, o, none⟩ : Addr).add 0 = ⟨g, o, none⟩ := by unfold Addr.add; split <;> simp_all
  split
  · rfl
  · rw [hadd]

def lenV : Value → Nat
  | .slice _ n _ => n
  | _ => 0

/- A list of lists that was copied, and may be written. -/
structure Tab (x w : World) (g n : Nat) (A : Nat → Option Addr) (L C : Nat → Nat) (f : Nat → Nat → Nat) : Prop where
  below : Below x.heap.size x w
  hg : x.heap.size ≤ g ∧ g < w.heap.size
  fb : ∀ j, w.frozen? ⟨g, j, none⟩ = false
  top : ∀ r, r < n → w.cell? ⟨g, r, none⟩ = some (.slice (A r) (L r) (C r))
  row : ∀ r, r < n → L r = 0 ∨ ∃ q o, A r = some ⟨q, o, none⟩ ∧ q ≠ g ∧ q < w.heap.size ∧ ∀ j, j < L r → w.cell? ⟨q, o + j, none⟩ = some (.int .u8 (f r j : Int))
  lt : ∀ r j, f r j < 256

theorem Tab.more {x w w' : World} {g n B : Nat} {A : Nat → Option Addr} {L C : Nat → Nat} {f : Nat → Nat → Nat} (h : Tab x w g n A L C f) (hB : w.heap.size ≤ B) (k : Below B w w') : Tab x w' g n A L C f := by
  have hb : g < B := Nat.lt_of_lt_of_le h.hg.2 hB
  refine ⟨h.below.trans (k.mono (Nat.le_trans h.below.size hB)), ⟨h.hg.1, Nat.lt_of_lt_of_le h.hg.2 k.size⟩, fun j => (k.frozen (by exact hb)).trans (h.fb j), fun r hr => (k.cell (by exact hb)).trans (h.top r hr), fun r hr => ?_, h.lt⟩
  rcases h.row r hr with h0 | ⟨q, o, h1, h2, h3, h4⟩
  · exact .inl h0
  · exact .inr ⟨q, o, h1, h2, Nat.lt_of_lt_of_le h3 k.size, fun j hj => (k.cell (by exact Nat.lt_of_lt_of_le h3 hB)).trans (h4 j hj)⟩

theorem Tab.congr {x w : World} {g n : Nat} {A : Nat → Option Addr} {L L' C : Nat → Nat} {f f' : Nat → Nat → Nat} (h : Tab x w g n A L C f) (hL : ∀ r, r < n → L r = L' r) (hf : ∀ r, r < n → ∀ j, j < L r → f r j = f' r j) (lt : ∀ r j, f' r j < 256) : Tab x w g n A L' C f' :=
  ⟨h.below, h.hg, h.fb, fun r hr => by rw [← hL r hr]; exact h.top r hr, fun r hr => by
    rcases h.row r hr with h0 | ⟨q, o, h1, h2, h3, h4⟩
    · exact .inl ((hL r hr).symm.trans h0)
    · exact .inr ⟨q, o, h1, h2, h3, fun j hj => by
        have hj' : j < L r := by rw [hL r hr]; exact hj
        rw [← hf r hr j hj']; exact h4 j hj'⟩, lt⟩

theorem Tab.put {x w : World} {g n : Nat} {A : Nat → Option Addr} {L C : Nat → Nat} {f : Nat → Nat → Nat} (h : Tab x w g n A L C f) {r l c : Nat} {a : Option Addr} {f' : Nat → Nat} (hr : r < n)
    (hrow : l = 0 ∨ ∃ q o, a = some ⟨q, o, none⟩ ∧ q ≠ g ∧ q < w.heap.size ∧ ∀ j, j < l → w.cell? ⟨q, o + j, none⟩ = some (.int .u8 (f' j : Int))) (hl : ∀ j, f' j < 256) :
    Tab x (w.setCell ⟨g, r, none⟩ (.slice a l c)) g n (fun s => if s = r then a else A s) (fun s => if s = r then l else L s) (fun s => if s = r then c else C s) (fun s j => if s = r then f' j else f s j) := by
  have t : Touch g w (w.setCell ⟨g, r, none⟩ (.slice a l c)) := (Touch.refl _ w).setCell (p := ⟨g, r, none⟩) rfl _
  refine ⟨h.below.setCell h.hg.1 _, ⟨h.hg.1, by simpa using h.hg.2⟩, fun j => by simpa using h.fb j, fun s hs => ?_, fun s hs => ?_, fun s j => ?_⟩
  · by_cases e : s = r
    · subst e
      simpa using World.cell?_setCell_same _ _ _ (h.top s hs)
    · simp only [e, if_false]
      rw [World.cell?_setCell_other _ _ _ _ (fun h => e (by injection h with _ h2 _; exact h2.symm))]
      exact h.top s hs
  · by_cases e : s = r
    · subst e
      simp only [if_true]
      rcases hrow with h0 | ⟨q, o, h1, h2, h3, h4⟩
      · exact .inl h0
      · exact .inr ⟨q, o, h1, h2, by simpa using h3, fun j hj => (t.cell h2).trans (h4 j hj)⟩
    · simp only [e, if_false]
      rcases h.row s hs with h0 | ⟨q, o, h1, h2, h3, h4⟩
      · exact .inl h0
      · exact .inr ⟨q, o, h1, h2, by simpa using h3, fun j hj => (t.cell h2).trans (h4 j hj)⟩
  · by_cases e : s = r
    · simpa [e] using hl j
    · simpa [e] using h.lt s j

theorem Tab.grid {x w : World} {g n : Nat} {A : Nat → Option Addr} {L C : Nat → Nat} {f : Nat → Nat → Nat} (h : Tab x w g n A L C f) : IsGrid w (some ⟨g, 0, none⟩) n A L C f :=
  ⟨.inr ⟨g, 0, rfl, h.hg.2, fun r hr => by rw [Nat.zero_add]; exact h.top r hr⟩, fun r hr => by
    rcases h.row r hr with h0 | ⟨q, o, h1, _, h3, h4⟩
    · exact .inl h0
    · exact .inr ⟨q, o, h1, h3, h4⟩, h.lt⟩

theorem tops_copy (x : World) (b o n c : Nat) (A : Nat → Option Addr) (L C : Nat → Nat) (f : Nat → Nat → Nat) (h : IsGrid x (some ⟨b, o, none⟩) n A L C f) (h0 : 0 < n) (hn : n ≤ 1000) :
    ∃ g cy w', (Builtin.append_ #[28, 28] 28 #[.slice (some ⟨x.heap.size, 0, none⟩) 0 0, .slice (some ⟨b, o, none⟩) n c]).run Try.prog (x.alloc (.cells #[] 22)) = .ok (.slice (some ⟨g, 0, none⟩) n cy) w' ∧ n ≤ cy ∧ Tab x w' g n A L C f := by
  obtain ⟨i0, hi, hz0, hz1, hz2⟩ := info_parts info_row
  have hown := empty_cells x 22
  obtain ⟨b', _, e', hbx⟩ := grid_some h h0
  injection e' with e'
  injection e' with e1 _ _
  have hbx' : b < x.heap.size := by omega
  obtain ⟨v', w', hr, h2, h3, h4⟩ := run_append_own (P := Try.prog) (x.alloc (.cells #[] 22)) x.heap.size 28 28 22 i0 (.slice none 0 0) 1 24 Try.underlying28 hi hz0 hz1 hz2 rfl (by decide) _ 0 [] hown
      ⟨b, o, none⟩ n c ((List.range n).map fun r => Value.slice (A r) (L r) (C r)) (by simp) (fun j u hj => by
        have hjm : j < n := by
          have := (List.getElem?_eq_some_iff.1 hj).1
          simpa using this
        have e : u = .slice (A j) (L j) (C j) := by simp [hjm] at hj; exact hj.symm
        rw [e, add_at]
        exact ((Below.refl x.heap.size x).alloc (Nat.le_refl _) _ |>.cell (by exact hbx')).trans (grid_tops h hjm)) (fun u hu => by
        simp at hu
        obtain ⟨j, _, rfl⟩ := hu
        rfl) (by unfold maxLen; omega) (by omega) (by simp)
  rw [Nat.zero_add, List.nil_append] at h2
  have hb : Below x.heap.size x w' := ((Below.refl x.heap.size x).alloc (Nat.le_refl _) _).grown h3 (by simp) (fun k hk => (hown.lt k hk).1)
  have ho := h2
  rcases h2.2 with ⟨_, h00⟩ | ⟨g, cy, cur, hv, hg, hh, hcy, _⟩
  · omega
  · subst hv
    refine ⟨g, cy, w', hr, hcy, hb, ⟨hg, (Array.getElem?_eq_some_iff.1 hh).1⟩, fun j => ho.frozenAt j, fun r hr => ?_, fun r hr => ?_, h.2.2⟩
    · rw [ho.cellAt r (by omega)]
      simp [hr]
    · rcases h.2.1 r hr with q0 | ⟨q, oo, q1, q2, q3⟩
      · exact .inl q0
      · exact .inr ⟨q, oo, q1, by omega, Nat.lt_of_lt_of_le q2 hb.size, fun j hj => (hb.cell (by exact q2)).trans (q3 j hj)⟩

end Go.Proofs.Ytmlaloadeeohbaa

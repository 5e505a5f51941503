/-
  Of a codeword of which a data shard is turned, and to whose parity the difference is added, package code tells the codeword of the turned data, and the difference: 'mooringlaw03.CodeTurns' returns true and leaves its arguments as they were.
  Conditions: none.
-/
import Derived.Test.YtnnnefbnpfahcaaRows
import Derived.WalkKit
import Derived.ProofKit
import Derived.OpenShut
import Derived.SizedLaws
import Derived.ShutString
import Derived.ChangeOld
import Derived.Below
import Derived.Test.YtnnnefbnpfahcaaCdLaw
import Derived.Test.YtnnnefbnpfahcaaCdTurn
import Derived.Deep.QuietTactic
import Derived.BigQuiet
namespace Go.Proofs.Ytnnnefbnpfahcaa.codeTurns
open Go.ChangeShapes Go.WideShapes Go.ChangeAt Go.RowKit
open Gf
set_option linter.unusedSimpArgs false
set_option linter.unusedVariables false

theorem own : ownKnob Try.prog.godebug = none := by kernel_rfl
theorem laidOut : laidOutB Try.prog = true := by kernel_rfl

theorem empty_cells (w : World) (e : TypeId) : (w.alloc (.cells #[] e)).ownsRow w.heap.size e 1 (.slice (some ⟨w.heap.size, 0, none⟩) 0 0) 0 [] :=
  ⟨rfl, .inr ⟨w.heap.size, 0, #[], rfl, Nat.le_refl _, heap_alloc_new _ _, Nat.le_refl _, Nat.zero_le _, rfl, rfl⟩⟩

/- A list of lists that was copied, and may be written. -/
structure Tab (x w : World) (g n : Nat) (A : Nat → Option Addr) (L C : Nat → Nat) (f : Nat → Nat → Nat) : Prop where
  below : Below x.heap.size x w
  hg : x.heap.size ≤ g ∧ g < w.heap.size
  fb : ∀ j, w.frozen? ⟨g, j, none⟩ = false
  top : ∀ r, r < n → w.cell? ⟨g, r, none⟩ = some (.slice (A r) (L r) (C r))
  row : ∀ r, r < n → L r = 0 ∨ ∃ q o, A r = some ⟨q, o, none⟩ ∧ q ≠ g ∧ q < w.heap.size ∧ ∀ j, j < L r → w.cell? ⟨q, o + j, none⟩ = some (.int .u8 (f r j : Int))
  lt : ∀ r j, f r j < 256

theorem Tab.more {x w w' : World} {g n B : Nat} {A : Nat → Option Addr} {L C : Nat → Nat} {f : Nat → Nat → Nat} (h : Tab x w g n A L C f) (hB : w.heap.size ≤ B) (k : Below B w w') : Tab x w' g n A L C f := by
  have hb : g < B := Nat.lt_of_lt_of_le h.hg.2 hB
  refine ⟨h.below.trans (k.mono (Nat.le_trans h.below.size hB)), ⟨h.hg.1, Nat.lt_of_lt_of_le h.hg.2 k.size⟩, fun j => (k.frozen (by exact hb)).trans (h.fb j), fun r hr => (k.cell (by exact hb)).trans (h.top r hr), fun r hr => ?_, h.lt⟩
  rcases h.row r hr with h0 | ⟨q, o, h1, h2, h3, h4⟩
  · exact .inl h0
  · exact .inr ⟨q, o, h1, h2, Nat.lt_of_lt_of_le h3 k.size, fun j hj => (k.cell (by exact Nat.lt_of_lt_of_le h3 hB)).trans (h4 j hj)⟩

theorem Tab.congr {x w : World} {g n : Nat} {A : Nat → Option Addr} {L L' C : Nat → Nat} {f f' : Nat → Nat → Nat} (h : Tab x w g n A L C f) (hL : ∀ r, r < n → L r = L' r) (hf : ∀ r, r < n → ∀ j, j < L r → f r j = f' r j) (lt : ∀ r j, f' r j < 256) : Tab x w g n A L' C f' :=
  ⟨h.below, h.hg, h.fb, fun r hr => by rw [← hL r hr]; exact h.top r hr, fun r hr => by
    rcases h.row r hr with h0 | ⟨q, o, h1, h2, h3, h4⟩
    · exact .inl ((hL r hr).symm.trans h0)
    · exact .inr ⟨q, o, h1, h2, h3, fun j hj => by
        have hj' : j < L r := by rw [hL r hr]; exact hj
        rw [← hf r hr j hj']; exact h4 j hj'⟩, lt⟩

theorem Tab.put {x w : World} {g n : Nat} {A : Nat → Option Addr} {L C : Nat → Nat} {f : Nat → Nat → Nat} (h : Tab x w g n A L C f) {r l c : Nat} {a : Option Addr} {f' : Nat → Nat} (hr : r < n)
    (hrow : l = 0 ∨ ∃ q o, a = some ⟨q, o, none⟩ ∧ q ≠ g ∧ q < w.heap.size ∧ ∀ j, j < l → w.cell? ⟨q, o + j, none⟩ = some (.int .u8 (f' j : Int))) (hl : ∀ j, f' j < 256) :
    Tab x (w.setCell ⟨g, r, none⟩ (.slice a l c)) g n (fun s => if s = r then a else A s) (fun s => if s = r then l else L s) (fun s => if s = r then c else C s) (fun s j => if s = r then f' j else f s j) := by
  have t : Touch g w (w.setCell ⟨g, r, none⟩ (.slice a l c)) := (Touch.refl _ w).setCell (p := ⟨g, r, none⟩) rfl _
  refine ⟨h.below.setCell h.hg.1 _, ⟨h.hg.1, by simpa using h.hg.2⟩, fun j => by simpa using h.fb j, fun s hs => ?_, fun s hs => ?_, fun s j => ?_⟩
  · by_cases e : s = r
    · subst e
      simpa using World.cell?_setCell_same _ _ _ (h.top s hs)
    · simp only [e, if_false]
      rw [World.cell?_setCell_other _ _ _ _ (fun h => e (by injection h with _ h2 _; exact h2.symm))]
      exact h.top s hs
  · by_cases e : s = r
    · subst e
      simp only [if_true]
      rcases hrow with h0 | ⟨q, o, h1, h2, h3, h4⟩
      · exact .inl h0
      · exact .inr ⟨q, o, h1, h2, by simpa using h3, fun j hj => (t.cell h2).trans (h4 j hj)⟩
    · simp only [e, if_false]
      rcases h.row s hs with h0 | ⟨q, o, h1, h2, h3, h4⟩
      · exact .inl h0
      · exact .inr ⟨q, o, h1, h2, by simpa using h3, fun j hj => (t.cell h2).trans (h4 j hj)⟩
  · by_cases e : s = r
    · simpa [e] using hl j
    · simpa [e] using h.lt s j

theorem Tab.grid {x w : World} {g n : Nat} {A : Nat → Option Addr} {L C : Nat → Nat} {f : Nat → Nat → Nat} (h : Tab x w g n A L C f) : IsGrid w (some ⟨g, 0, none⟩) n A L C f :=
  ⟨.inr ⟨g, 0, rfl, h.hg.2, fun r hr => by rw [Nat.zero_add]; exact h.top r hr⟩, fun r hr => by
    rcases h.row r hr with h0 | ⟨q, o, h1, _, h3, h4⟩
    · exact .inl h0
    · exact .inr ⟨q, o, h1, h3, h4⟩, h.lt⟩

theorem tops_copy (x : World) (b o n c : Nat) (A : Nat → Option Addr) (L C : Nat → Nat) (f : Nat → Nat → Nat) (h : IsGrid x (some ⟨b, o, none⟩) n A L C f) (h0 : 0 < n) (hn : n ≤ 1000) :
    ∃ g cy w', (Builtin.append_ #[22, 22] 22 #[.slice (some ⟨x.heap.size, 0, none⟩) 0 0, .slice (some ⟨b, o, none⟩) n c]).run Try.prog (x.alloc (.cells #[] 34)) = .ok (.slice (some ⟨g, 0, none⟩) n cy) w' ∧ n ≤ cy ∧ Tab x w' g n A L C f := by
  obtain ⟨i0, hi, hz0, hz1, hz2⟩ := info_parts info_row
  have hown := empty_cells x 34
  obtain ⟨b', _, e', hbx⟩ := grid_some h h0
  injection e' with e'
  injection e' with e1 _ _
  have hbx' : b < x.heap.size := by omega
  obtain ⟨v', w', hr, h2, h3, h4⟩ := run_append_own (P := Try.prog) (x.alloc (.cells #[] 34)) x.heap.size 22 22 34 i0 (.slice none 0 0) 1 24 Try.underlying22 hi hz0 hz1 hz2 rfl (by decide) _ 0 [] hown
      ⟨b, o, none⟩ n c ((List.range n).map fun r => Value.slice (A r) (L r) (C r)) (by simp) (fun j u hj => by
        have hjm : j < n := by
          have := (List.getElem?_eq_some_iff.1 hj).1
          simpa using this
        have e : u = .slice (A j) (L j) (C j) := by simp [hjm] at hj; exact hj.symm
        rw [e, add_at]
        exact ((Below.refl x.heap.size x).alloc (Nat.le_refl _) _ |>.cell (by exact hbx')).trans (grid_tops h hjm)) (fun u hu => by
        simp at hu
        obtain ⟨j, _, rfl⟩ := hu
        rfl) (by unfold maxLen; omega) (by omega) (by simp)
  rw [Nat.zero_add, List.nil_append] at h2
  have hb : Below x.heap.size x w' := ((Below.refl x.heap.size x).alloc (Nat.le_refl _) _).grown h3 (by simp) (fun k hk => (hown.lt k hk).1)
  have ho := h2
  rcases h2.2 with ⟨_, h00⟩ | ⟨g, cy, cur, hv, hg, hh, hcy, _⟩
  · omega
  · subst hv
    refine ⟨g, cy, w', hr, hcy, hb, ⟨hg, (Array.getElem?_eq_some_iff.1 hh).1⟩, fun j => ho.frozenAt j, fun r hr => ?_, fun r hr => ?_, h.2.2⟩
    · rw [ho.cellAt r (by omega)]
      simp [hr]
    · rcases h.2.1 r hr with q0 | ⟨q, oo, q1, q2, q3⟩
      · exact .inl q0
      · exact .inr ⟨q, oo, q1, by omega, Nat.lt_of_lt_of_le q2 hb.size, fun j hj => (hb.cell (by exact q2)).trans (q3 j hj)⟩

set_option maxHeartbeats 2000000 in
set_option maxRecDepth 100000 in
theorem bad (K M i : Int) (a : Option Addr) (len cap : Nat) (y : Option Addr) (q c : Nat) (fr : Option Addr) (p cf : Nat) (A : Nat → Option Addr) (L C : Nat → Nat) (f : Nat → Nat → Nat) (w : World) (g : GridIn w a len cap A L C f) (hx : ¬ (CauchyN K M ∧ (len : Int) = K ∧ EqN len L)) :
    Calls Try.prog 7 #[.agg #[.int .i64 K, .int .i64 M, .slice a len cap, .slice y q c], .int .i64 i, .slice fr p cf] w fun e w' => e = .returned (.bool true) ∧ Below w.heap.size w w' := by
  have hs := g.small
  have hr : ∀ v, Below w.heap.size w v → Calls Try.prog 11 #[.int .i64 K, .int .i64 M, .slice a len cap] v fun e w' => e = .returned (.tuple #[.slice none 0 0, .int .i64 1]) ∧ ∃ m, w' = v.drewN m := fun v hv => rencode_no K M a len cap A L C v (by omega) (g.grid.1.below (Nat.le_refl _) hv) hx
  clear g hx
  go_enter Try.func7, Try.ntmps7
  go_wp2_with (first
    | (go_at_call 11; refine (hr _ (by exact (Below.refl _ _).alloc (Nat.le_refl _) _)).mono ?_; rintro e x2 ⟨rfl, q2, rfl⟩; clear hr)
    | (go_at_call 9; refine (awake3 _).mono ?_; rintro e x6 ⟨rfl, hb6⟩))
  go_ret
  exact ⟨rfl, ((Below.refl w.heap.size w).alloc (Nat.le_refl _) _).trans (below_of_drewN (hb6.mono (by simp)))⟩

set_option maxHeartbeats 4000000 in
set_option maxRecDepth 100000 in
theorem no (k m b o n cap q c : Nat) (y : Option Addr) (i : Int) (fr : Option Addr) (p cf : Nat) (A : Nat → Option Addr) (C : Nat → Nat) (f : Nat → Nat → Nat) (w : World) (h1 : 1 ≤ k) (h2 : 1 ≤ m) (h3 : k + m ≤ 255) (hn : n ≤ 140737488351232) (g : IsGrid w (some ⟨b, o, none⟩) k A (fun _ => n) C f) (hx : i < 0 ∨ (k : Int) ≤ i ∨ p ≠ n) :
    Calls Try.prog 7 #[.agg #[.int .i64 k, .int .i64 m, .slice (some ⟨b, o, none⟩) k cap, .slice y q c], .int .i64 i, .slice fr p cf] w fun e w' => e = .returned (.bool true) ∧ Below w.heap.size w w' := by
  obtain ⟨wb, hwb⟩ : ∃ wb, wb = w.alloc (.cells #[.int .i64 k, .int .i64 m, .slice (some ⟨b, o, none⟩) k cap, .slice y q c] 33) := ⟨_, rfl⟩
  have hbb : Below w.heap.size w wb := by rw [hwb]; exact (Below.refl _ _).alloc (Nat.le_refl _) _
  have hbs : wb.heap.size = w.heap.size + 1 := by rw [hwb]; simp
  have rb := World.rowIs_alloc w #[.int .i64 k, .int .i64 m, .slice (some ⟨b, o, none⟩) k cap, .slice y q c] 33 (fun i => if i = 0 then .int .i64 k else if i = 1 then .int .i64 m else if i = 2 then .slice (some ⟨b, o, none⟩) k cap else .slice y q c) (fun i hi => by
    have hi2 : i < 4 := by simpa using hi
    match i, hi2 with
    | 0, _ => rfl
    | 1, _ => rfl
    | 2, _ => rfl
    | 3, _ => rfl)
  rw [← hwb] at rb
  have HF : Hid (∀ v, Below wb.heap.size wb v → v.cell? ⟨w.heap.size, 0, none⟩ = some (.int .i64 k) ∧ v.cell? ⟨w.heap.size, 1, none⟩ = some (.int .i64 m) ∧ v.cell? ⟨w.heap.size, 2, none⟩ = some (.slice (some ⟨b, o, none⟩) k cap)) := fun v hv =>
    ⟨(hv.cell (by show w.heap.size < wb.heap.size; omega)).trans (rb.cell (i := 0) (by simp)), (hv.cell (by show w.heap.size < wb.heap.size; omega)).trans (rb.cell (i := 1) (by simp)), (hv.cell (by show w.heap.size < wb.heap.size; omega)).trans (rb.cell (i := 2) (by simp))⟩
  obtain ⟨s, hs⟩ : ∃ s, s = k + m := ⟨_, rfl⟩
  have hr : Calls Try.prog 11 #[.int .i64 k, .int .i64 m, .slice (some ⟨b, o, none⟩) k cap] wb fun e w' => Below wb.heap.size wb w' ∧
      ∃ B c2 G1 C1, e = .returned (.tuple #[.slice (some ⟨B, 0, none⟩) s c2, .int .i64 0]) ∧ Own wb.heap.size w' B s n G1 C1 (encF k m f) := by
    rw [hs]; exact rencode_yes k m n b o cap A C f wb h1 h2 h3 hn (g.below hbb)
  have hlight : ∀ v B c2 G1 C1, Own wb.heap.size v B s n G1 C1 (encF k m f) → Calls Try.prog 8 #[.int .i64 k, .int .i64 m, .slice (some ⟨B, 0, none⟩) s c2] v fun e w' => w' = v ∧ ∃ t, e = .returned (.bool t) := fun v B c2 G1 C1 ho =>
    (light_any k m (some ⟨B, 0, none⟩) s c2 _ (fun _ => n) C1 v ho.mat.tops (fun _ _ => hn)).mono fun e w' ⟨q1, t, q2, _⟩ => ⟨q1, t, q2⟩
  have happ : ∀ v B c2 G1 C1, Own wb.heap.size v B s n G1 C1 (encF k m f) → Calls Try.prog 18 #[.int .i64 k, .int .i64 m, .slice (some ⟨B, 0, none⟩) s c2, .int .i64 i, .slice fr p cf] v fun e w' => e = .returned (.tuple #[.slice none 0 0, .int .i64 1]) ∧ Below v.heap.size v w' := fun v B c2 G1 C1 ho => by
    have ht := ho.mat.tops
    rw [hs] at ht ⊢
    by_cases hi : i < 0 ∨ (k : Int) ≤ i
    · exact apply_no k m n B 0 c2 i fr p cf _ C1 v h1 h2 h3 hi ht
    · obtain ⟨i', rfl⟩ : ∃ i' : Nat, i = i' := ⟨i.toNat, by omega⟩
      exact apply_len k m n B 0 c2 i' fr p cf _ C1 v h1 h2 h3 (by omega) (by omega) ht
  have hdel : ∀ v g0 c0, Calls Try.prog 19 #[.int .i64 k, .int .i64 m, .int .i64 i, .slice (some ⟨g0, 0, none⟩) n c0, .slice fr p cf] v fun e w' => e = .returned (.tuple #[.slice none 0 0, .int .i64 1]) ∧ Below v.heap.size v w' := fun v g0 c0 => by
    by_cases hi : i < 0 ∨ (k : Int) ≤ i
    · exact delta_no k m i _ fr n p c0 cf v (fun q => by omega)
    · obtain ⟨i', rfl⟩ : ∃ i' : Nat, i = i' := ⟨i.toNat, by omega⟩
      exact delta_len k m i' _ fr n p c0 cf v h1 h2 h3 (by omega) (by omega)
  have hs5 : s ≤ 255 := by omega
  have hs0 : (0 : Int) < (s : Int) := by omega
  have hsN : 0 < s := by omega
  have HS2 : Hid (2 ≤ s) := by show 2 ≤ s; omega
  have HWB : Hid (Below w.heap.size w wb) := hbb
  have hw0 : w.heap.size < wb.heap.size := by omega
  by_cases ca : i < 0
  · have gg : decide (i < 0) = true := by simp [ca]
    clear hx h1 h2 h3 hs g rb hbb hbs
    go_enter Try.func7, Try.ntmps7
    rw [hwb] at hr
    go_wp2_with (first
      | (go_at_call 11; refine hr.mono ?_; rintro e x1 ⟨hb1, B1, c1, G1, C1, rfl, ho1⟩; clear hr; rw [← hwb] at hb1 ho1; have b0 := (HF.out x1 hb1).1; have b1 := (HF.out x1 hb1).2.1)
      | (go_at_call 8; refine (hlight _ B1 c1 G1 C1 ho1).mono ?_; rintro e w' ⟨rfl, t, rfl⟩; clear hlight)
      | (go_at_call 9; refine (awake3 _).mono ?_; rintro e x6 ⟨rfl, hb6⟩)
      | (go_at_call 18; refine (happ _ B1 c1 G1 C1 ho1).mono ?_; rintro e x2 ⟨rfl, hb2⟩; clear happ; have hb02 := hb1.trans (hb2.mono hb1.size); have d0 := (HF.out x2 hb02).1; have d1 := (HF.out x2 hb02).2.1; have ho2 := ho1.below (Nat.le_refl _) hb2; have d2 := ho2.top 0 (by have := HS2.out; omega); have d3 := ho2.hb.2; clear ho2))
    · go_ret
      exact ⟨rfl, HWB.out.trans ((hb1.trans (hb6.mono hb1.size)).mono HWB.out.size)⟩
    · have hd := hdel x2.drew (G1 0) (C1 0)
      have hwx : w.heap.size < x2.heap.size := Nat.lt_of_lt_of_le hw0 hb02.size
      have HB02 : Hid (Below wb.heap.size wb x2) := hb02
      clear hdel hb02 ho1 hb1 hb2
      go_region_held3 (fun v => v.cell? ⟨w.heap.size, 0, none⟩ = some (.int .i64 k) ∧ v.cell? ⟨w.heap.size, 1, none⟩ = some (.int .i64 m) ∧ v.cell? ⟨B1, 0, none⟩ = some (.slice (some ⟨G1 0, 0, none⟩) n (C1 0))) (first | exact ⟨(hb3.cell (by exact hwx)).trans d0, (hb3.cell (by exact hwx)).trans d1, (hb3.cell (by exact d3)).trans d2⟩ | go_keep) (first | (go_at_call 19; refine hd.mono ?_; rintro e x3 ⟨rfl, hb3⟩))
      go_wp2_with (go_at_call 9; refine (awake3 _).mono ?_; rintro e x6 ⟨rfl, hb6⟩)
      go_ret
      have k1 := HB02.out.trans ((⟨hb3.os, hb3.tape, hb3.output, hb3.size, hb3.block⟩ : Below x2.heap.size x2 x3).mono HB02.out.size)
      exact ⟨rfl, HWB.out.trans ((k1.trans (hb6.mono k1.size)).mono HWB.out.size)⟩
  · by_cases cb : (k : Int) ≤ i
    · have gg : decide (i < 0) = false := by simp; omega
      clear hx h1 h2 h3 hs g rb hbb hbs
      go_enter Try.func7, Try.ntmps7
      rw [hwb] at hr
      go_wp2_with (first
        | (go_at_call 11; refine hr.mono ?_; rintro e x1 ⟨hb1, B1, c1, G1, C1, rfl, ho1⟩; clear hr; rw [← hwb] at hb1 ho1; have b0 := (HF.out x1 hb1).1; have b1 := (HF.out x1 hb1).2.1)
        | (go_at_call 8; refine (hlight _ B1 c1 G1 C1 ho1).mono ?_; rintro e w' ⟨rfl, t, rfl⟩; clear hlight)
        | (go_at_call 9; refine (awake3 _).mono ?_; rintro e x6 ⟨rfl, hb6⟩)
        | (go_at_call 18; refine (happ _ B1 c1 G1 C1 ho1).mono ?_; rintro e x2 ⟨rfl, hb2⟩; clear happ; have hb02 := hb1.trans (hb2.mono hb1.size); have d0 := (HF.out x2 hb02).1; have d1 := (HF.out x2 hb02).2.1; have ho2 := ho1.below (Nat.le_refl _) hb2; have d2 := ho2.top 0 (by have := HS2.out; omega); have d3 := ho2.hb.2; clear ho2))
      · go_ret
        exact ⟨rfl, HWB.out.trans ((hb1.trans (hb6.mono hb1.size)).mono HWB.out.size)⟩
      · have hd := hdel x2.drew (G1 0) (C1 0)
        have hwx : w.heap.size < x2.heap.size := Nat.lt_of_lt_of_le hw0 hb02.size
        have HB02 : Hid (Below wb.heap.size wb x2) := hb02
        clear hdel hb02 ho1 hb1 hb2
        go_region_held3 (fun v => v.cell? ⟨w.heap.size, 0, none⟩ = some (.int .i64 k) ∧ v.cell? ⟨w.heap.size, 1, none⟩ = some (.int .i64 m) ∧ v.cell? ⟨B1, 0, none⟩ = some (.slice (some ⟨G1 0, 0, none⟩) n (C1 0))) (first | exact ⟨(hb3.cell (by exact hwx)).trans d0, (hb3.cell (by exact hwx)).trans d1, (hb3.cell (by exact d3)).trans d2⟩ | go_keep) (first | (go_at_call 19; refine hd.mono ?_; rintro e x3 ⟨rfl, hb3⟩))
        go_wp2_with (go_at_call 9; refine (awake3 _).mono ?_; rintro e x6 ⟨rfl, hb6⟩)
        go_ret
        have k1 := HB02.out.trans ((⟨hb3.os, hb3.tape, hb3.output, hb3.size, hb3.block⟩ : Below x2.heap.size x2 x3).mono HB02.out.size)
        exact ⟨rfl, HWB.out.trans ((k1.trans (hb6.mono k1.size)).mono HWB.out.size)⟩
    · have gg : decide (i < 0) = false := by simp; omega
      have g3 : ((p : Int) != (n : Int)) = true := by simp; omega
      clear hx h1 h2 h3 hs g rb hbb hbs
      go_enter Try.func7, Try.ntmps7
      rw [hwb] at hr
      go_wp2_with (first
        | (go_at_call 11; refine hr.mono ?_; rintro e x1 ⟨hb1, B1, c1, G1, C1, rfl, ho1⟩; clear hr; rw [← hwb] at hb1 ho1; have b0 := (HF.out x1 hb1).1; have b1 := (HF.out x1 hb1).2.1)
        | (go_at_call 8; refine (hlight _ B1 c1 G1 C1 ho1).mono ?_; rintro e w' ⟨rfl, t, rfl⟩; clear hlight)
        | (go_at_call 9; refine (awake3 _).mono ?_; rintro e x6 ⟨rfl, hb6⟩)
        | (go_at_call 18; refine (happ _ B1 c1 G1 C1 ho1).mono ?_; rintro e x2 ⟨rfl, hb2⟩; clear happ; have hb02 := hb1.trans (hb2.mono hb1.size); have d0 := (HF.out x2 hb02).1; have d1 := (HF.out x2 hb02).2.1; have ho2 := ho1.below (Nat.le_refl _) hb2; have d2 := ho2.top 0 (by have := HS2.out; omega); have d3 := ho2.hb.2; clear ho2))
      · go_ret
        exact ⟨rfl, HWB.out.trans ((hb1.trans (hb6.mono hb1.size)).mono HWB.out.size)⟩
      · have hd := hdel x2.drew (G1 0) (C1 0)
        have hwx : w.heap.size < x2.heap.size := Nat.lt_of_lt_of_le hw0 hb02.size
        have HB02 : Hid (Below wb.heap.size wb x2) := hb02
        clear hdel hb02 ho1 hb1 hb2
        go_region_held3 (fun v => v.cell? ⟨w.heap.size, 0, none⟩ = some (.int .i64 k) ∧ v.cell? ⟨w.heap.size, 1, none⟩ = some (.int .i64 m) ∧ v.cell? ⟨B1, 0, none⟩ = some (.slice (some ⟨G1 0, 0, none⟩) n (C1 0))) (first | exact ⟨(hb3.cell (by exact hwx)).trans d0, (hb3.cell (by exact hwx)).trans d1, (hb3.cell (by exact d3)).trans d2⟩ | go_keep) (first | (go_at_call 19; refine hd.mono ?_; rintro e x3 ⟨rfl, hb3⟩))
        go_wp2_with (go_at_call 9; refine (awake3 _).mono ?_; rintro e x6 ⟨rfl, hb6⟩)
        go_ret
        have k1 := HB02.out.trans ((⟨hb3.os, hb3.tape, hb3.output, hb3.size, hb3.block⟩ : Below x2.heap.size x2 x3).mono HB02.out.size)
        exact ⟨rfl, HWB.out.trans ((k1.trans (hb6.mono k1.size)).mono HWB.out.size)⟩

theorem turned_same {k m i n s : Nat} {X : Nat → Nat → Nat} {Y : Nat → Nat} (hX : ∀ r j, X r j < 256) (hY : ∀ j, Y j < 256) (hi : i < k) (hs : s = k + m) : SameN s s (fun _ => n) (fun _ => n) (applyF k m i (encF k m X) Y) (encF k m (turnF X i Y)) := by
  refine ⟨rfl, fun r hr => ⟨rfl, fun j hj => ?_⟩⟩
  unfold applyF
  by_cases e : r < k
  · rw [if_pos e, encF_data (turnF_lt hX hY) e]
    unfold turnF
    by_cases e2 : r = i
    · rw [if_pos e2, if_pos e2]
    · rw [if_neg e2, if_neg e2, encF_data hX e]
  · rw [if_neg e, encF_turn hX hY hi]
    unfold deltaF
    rw [encF_data hX hi, show k + (r - k) = r by omega]

theorem turned_delta {k m i p j : Nat} {X : Nat → Nat → Nat} {Y : Nat → Nat} (hX : ∀ r j, X r j < 256) (hY : ∀ j, Y j < 256) (hi : i < k) : encF k m (turnF X i Y) (k + p) j ^^^ encF k m X (k + p) j = deltaF k m i (X i) Y p j := by
  rw [encF_turn hX hY hi, Nat.xor_comm, ← Nat.xor_assoc, Nat.xor_self, Nat.zero_xor]
  rfl

set_option maxHeartbeats 8000000 in
set_option maxRecDepth 100000 in
theorem good (k m b o n cap q c i : Nat) (y : Option Addr) (fr : Option Addr) (cf : Nat) (A : Nat → Option Addr) (C : Nat → Nat) (f : Nat → Nat → Nat) (Y : Nat → Nat) (w : World) (h1 : 1 ≤ k) (h2 : 1 ≤ m) (h3 : k + m ≤ 255) (hn : n ≤ 140737488351232) (hi : i < k) (g : IsGrid w (some ⟨b, o, none⟩) k A (fun _ => n) C f) (gf : BytesIn w fr n cf Y) :
    Calls Try.prog 7 #[.agg #[.int .i64 k, .int .i64 m, .slice (some ⟨b, o, none⟩) k cap, .slice y q c], .int .i64 i, .slice fr n cf] w fun e w' => e = .returned (.bool true) ∧ Below w.heap.size w w' := by
  obtain ⟨wb, hwb⟩ : ∃ wb, wb = w.alloc (.cells #[.int .i64 k, .int .i64 m, .slice (some ⟨b, o, none⟩) k cap, .slice y q c] 33) := ⟨_, rfl⟩
  have hbb : Below w.heap.size w wb := by rw [hwb]; exact (Below.refl _ _).alloc (Nat.le_refl _) _
  have hbs : wb.heap.size = w.heap.size + 1 := by rw [hwb]; simp
  have rb := World.rowIs_alloc w #[.int .i64 k, .int .i64 m, .slice (some ⟨b, o, none⟩) k cap, .slice y q c] 33 (fun i => if i = 0 then .int .i64 k else if i = 1 then .int .i64 m else if i = 2 then .slice (some ⟨b, o, none⟩) k cap else .slice y q c) (fun i hi => by
    have hi2 : i < 4 := by simpa using hi
    match i, hi2 with
    | 0, _ => rfl
    | 1, _ => rfl
    | 2, _ => rfl
    | 3, _ => rfl)
  rw [← hwb] at rb
  have HF : Hid (∀ v, Below wb.heap.size wb v → v.cell? ⟨w.heap.size, 0, none⟩ = some (.int .i64 k) ∧ v.cell? ⟨w.heap.size, 1, none⟩ = some (.int .i64 m) ∧ v.cell? ⟨w.heap.size, 2, none⟩ = some (.slice (some ⟨b, o, none⟩) k cap)) := fun v hv =>
    ⟨(hv.cell (by show w.heap.size < wb.heap.size; omega)).trans (rb.cell (i := 0) (by simp)), (hv.cell (by show w.heap.size < wb.heap.size; omega)).trans (rb.cell (i := 1) (by simp)), (hv.cell (by show w.heap.size < wb.heap.size; omega)).trans (rb.cell (i := 2) (by simp))⟩
  obtain ⟨s, hs⟩ : ∃ s, s = k + m := ⟨_, rfl⟩
  have hr : Calls Try.prog 11 #[.int .i64 k, .int .i64 m, .slice (some ⟨b, o, none⟩) k cap] wb fun e w' => Below wb.heap.size wb w' ∧
      ∃ B c2 G1 C1, e = .returned (.tuple #[.slice (some ⟨B, 0, none⟩) s c2, .int .i64 0]) ∧ Own wb.heap.size w' B s n G1 C1 (encF k m f) := by
    rw [hs]; exact rencode_yes k m n b o cap A C f wb h1 h2 h3 hn (g.below hbb)
  have hlight : ∀ v B c2 G1 C1, Own wb.heap.size v B s n G1 C1 (encF k m f) → Calls Try.prog 8 #[.int .i64 k, .int .i64 m, .slice (some ⟨B, 0, none⟩) s c2] v fun e w' => w' = v ∧ ∃ t, e = .returned (.bool t) := fun v B c2 G1 C1 ho =>
    (light_any k m (some ⟨B, 0, none⟩) s c2 _ (fun _ => n) C1 v ho.mat.tops (fun _ _ => hn)).mono fun e w' ⟨q1, t, q2, _⟩ => ⟨q1, t, q2⟩
  have hX := g.2.2
  have happ : ∀ v B c2 G1 C1, Below wb.heap.size wb v → Own wb.heap.size v B s n G1 C1 (encF k m f) → Calls Try.prog 18 #[.int .i64 k, .int .i64 m, .slice (some ⟨B, 0, none⟩) s c2, .int .i64 i, .slice fr n cf] v fun e w' => ∃ w1 A1 C1, Below v.heap.size v w1 ∧ e = .returned (.tuple #[.slice (some ⟨w1.heap.size, 0, none⟩) s s, .int .i64 0]) ∧ Build w1 w' s s A1 (fun _ => n) C1 (applyF k m i (encF k m f) Y) := fun v B c2 G1 C1 hv ho => by
    have hM := ho.mat
    rw [hs] at hM ⊢
    exact apply_yes k m n B c2 i fr cf G1 C1 (encF k m f) Y v h1 h2 h3 hi hn hM (gf.row.below (hbb.trans (hv.mono hbb.size))) gf.lt gf.nil
  have hcopy : ∀ v, Below wb.heap.size wb v → ∃ gd cy w', (Builtin.append_ #[22, 22] 22 #[.slice (some ⟨v.heap.size, 0, none⟩) 0 0, .slice (some ⟨b, o, none⟩) k cap]).run Try.prog (v.alloc (.cells #[] 34)) = .ok (.slice (some ⟨gd, 0, none⟩) k cy) w' ∧ k ≤ cy ∧ Tab v w' gd k A (fun _ => n) C f := fun v hv => tops_copy v b o k cap A _ C f ((g.below hbb).below hv) (by omega) (by omega)
  have hput : ∀ v x gd, Below wb.heap.size wb v → Tab v x gd k A (fun _ => n) C f → ∃ A' C', Tab v (x.setCell ⟨gd, i, none⟩ (.slice fr n cf)) gd k A' (fun _ => n) C' (turnF f i Y) := fun v x gd hv hT => by
    have hrow : n = 0 ∨ ∃ q o, fr = some ⟨q, o, none⟩ ∧ q ≠ gd ∧ q < x.heap.size ∧ ∀ j, j < n → x.cell? ⟨q, o + j, none⟩ = some (.int .u8 (Y j : Int)) := by
      have hwv := hbb.trans (hv.mono hbb.size)
      rcases gf.row.below hwv with h0 | ⟨q, o, e1, e2, e3⟩
      · exact .inl h0
      · exact .inr ⟨q, o, e1, by have := hT.hg.1; omega, Nat.lt_of_lt_of_le e2 hT.below.size, fun j hj => (hT.below.cell (by exact e2)).trans (e3 j hj)⟩
    refine ⟨_, _, (hT.put (r := i) (l := n) (c := cf) (a := fr) (f' := Y) hi hrow gf.lt).congr (fun r _ => ?_) (fun r _ j _ => ?_) (turnF_lt hX gf.lt)⟩
    · split <;> rfl
    · rfl
  have hr2 : ∀ v B A' C' cy, IsGrid v (some ⟨B, 0, none⟩) k A' (fun _ => n) C' (turnF f i Y) → Calls Try.prog 11 #[.int .i64 k, .int .i64 m, .slice (some ⟨B, 0, none⟩) k cy] v fun e w' => Below v.heap.size v w' ∧
      ∃ B c2 G1 C1, e = .returned (.tuple #[.slice (some ⟨B, 0, none⟩) s c2, .int .i64 0]) ∧ Own v.heap.size w' B s n G1 C1 (encF k m (turnF f i Y)) := fun v B A' C' cy hg => by
    rw [hs]; exact rencode_yes k m n B 0 cy A' C' (turnF f i Y) v h1 h2 h3 hn hg
  have hdel : ∀ v, Below wb.heap.size wb v → Calls Try.prog 19 #[.int .i64 k, .int .i64 m, .int .i64 i, .slice (A i) n (C i), .slice fr n cf] v fun e w' => ∃ w1 A1 C1, Below v.heap.size v w1 ∧ e = .returned (.tuple #[.slice (some ⟨w1.heap.size, 0, none⟩) m m, .int .i64 0]) ∧ Build w1 w' m m A1 (fun _ => n) C1 (deltaF k m i (f i) Y) := fun v hv =>
    delta_yes k m i n (A i) fr (C i) cf (f i) Y v h1 h2 h3 hi hn (((g.below hbb).below hv).2.1 i hi) (gf.row.below (hbb.trans (hv.mono hbb.size))) (hX i) gf.lt
  have HDT : Hid (∀ v, Below wb.heap.size wb v → v.cell? ⟨b, o + i, none⟩ = some (.slice (A i) n (C i))) := fun v hv => grid_tops ((g.below hbb).below hv) hi
  have HB : Hid (b < wb.heap.size) := by obtain ⟨b', _, e1, e2⟩ := grid_some (g.below hbb) (by omega); injection e1 with e1; injection e1 with e1 _ _; show b < _; omega
  have hsame : ∀ v ws Bw cw Gw Cw As Cs, Build ws v s s As (fun _ => n) Cs (applyF k m i (encF k m f) Y) → Mat v Bw 0 s n Gw (fun _ => 0) Cw (encF k m (turnF f i Y)) → Calls Try.prog 12 #[.slice (some ⟨ws.heap.size, 0, none⟩) s s, .slice (some ⟨Bw, 0, none⟩) s cw] v fun e w' => e = .returned (.bool true) ∧ ∃ m, w' = v.drewN m := fun v ws Bw cw Gw Cw As Cs hBs hMw =>
    same_grid _ _ s s s cw true As _ (fun _ => n) (fun _ => n) Cs Cw _ _ v (by omega) hBs.grid hMw.grid (fun _ => rfl) (fun q => absurd (turned_same hX gf.lt hi hs) q)
  have hs5 : s ≤ 255 := by omega
  have hs0 : (0 : Int) < (s : Int) := by omega
  have hsN : 0 < s := by omega
  have hik : (i : Int) < (k : Int) := by omega
  have gg1 : decide ((i : Int) < 0) = false := by simp
  have gg2 : ¬ ((k : Int) ≤ (i : Int)) := by omega
  have gg3 : ((n : Int) != (n : Int)) = false := by simp
  have hk5 : k ≤ 255 := by omega
  have hm5 : m ≤ 255 := by omega
  have HS : Hid (s = k + m) := hs
  have HWB : Hid (Below w.heap.size w wb) := hbb
  have hw0 : w.heap.size < wb.heap.size := by omega
  have HX : Hid (∀ r j, f r j < 256) := hX
  have HYL : Hid (∀ j, Y j < 256) := gf.lt
  have HI : Hid (i < k) := hi
  clear h1 h2 h3 hs g gf rb hbb hbs hX
  go_enter Try.func7, Try.ntmps7
  rw [hwb] at hr
  go_wp2_with (first
    | (go_at_call 11; refine hr.mono ?_; rintro e x1 ⟨hb1, B1, c1, G1, C1, rfl, ho1⟩; clear hr; rw [← hwb] at hb1 ho1; have b0 := (HF.out x1 hb1).1; have b1 := (HF.out x1 hb1).2.1; have hap := happ x1 B1 c1 G1 C1 hb1 ho1; clear happ)
    | (go_at_call 8; refine (hlight _ B1 c1 G1 C1 ho1).mono ?_; rintro e w' ⟨rfl, t, rfl⟩; clear hlight)
    | (go_at_call 9; refine (awake3 _).mono ?_; rintro e x6 ⟨rfl, hb6⟩)
    | (go_at_call 18; refine hap.mono ?_; rintro e x2 ⟨ws, As, Cs, hb2, rfl, hBs⟩; clear hap; have hb12 := hb2.trans (hBs.below.mono hb2.size); have hb02 := hb1.trans (hb12.mono hb1.size); have d0 := (HF.out x2 hb02).1; have d1 := (HF.out x2 hb02).2.1; have d4 : ∀ ob, (x2.alloc ob).cell? ⟨w.heap.size, 2, none⟩ = some (.slice (some ⟨b, o, none⟩) k cap) := fun ob => (HF.out _ (hb02.alloc hb02.size ob)).2.2; have ho2 := ho1.below (Nat.le_refl _) hb12; have d2 := ho2.top 0 hsN; obtain ⟨gd, cyd, x5, hrun5, hcy5, hT5⟩ := hcopy x2 hb02; clear hcopy; have st1 := hT5.top i hi; have st2 := hT5.fb i; obtain ⟨A6, C6, hT6⟩ := hput x2 x5 gd hb02 hT5; clear hput hT5; have hb06 := hb02.trans (hT6.below.mono hb02.size); have e0 := (HF.out _ hb06).1; have e1 := (HF.out _ hb06).2.1; have hrr := hr2 _ gd A6 C6 cyd hT6.grid; clear hr2)
    | (at_builtin; refine wpList_append_run rfl _ _ 22 rfl _ _ rfl rfl hrun5 ?_; clear hrun5)
    | (go_at_call 11; refine hrr.mono ?_; rintro e x7 ⟨hb7, Bw, cw, Gw, Cw, rfl, how⟩; clear hrr; have hb07 := hb06.trans (hb7.mono hb06.size)))
  · go_ret
    exact ⟨rfl, HWB.out.trans ((hb1.trans (hb6.mono hb1.size)).mono HWB.out.size)⟩
  · have hd := hdel x7.drew (below_drewN' hb07 1)
    have dd0 := (HF.out x7 hb07).1
    have dd1 := (HF.out x7 hb07).2.1
    have dd2 := (HF.out x7 hb07).2.2
    have dd3 := HDT.out x7 hb07
    have hwx : w.heap.size < x7.heap.size := Nat.lt_of_lt_of_le hw0 hb07.size
    have hbx : b < x7.heap.size := Nat.lt_of_lt_of_le HB.out hb07.size
    have HB07 : Hid (Below wb.heap.size wb x7) := hb07
    have HL7 : Hid (Mat x7 B1 0 s n G1 (fun _ => 0) C1 (encF k m f)) := ((ho2.below (Nat.le_refl _) hT6.below).below (Nat.le_refl _) hb7).mat
    have HW7 : Hid (Mat x7 Bw 0 s n Gw (fun _ => 0) Cw (encF k m (turnF f i Y))) := how.mat
    have HS7 : Hid (Build ws x7 s s As (fun _ => n) Cs (applyF k m i (encF k m f) Y)) := (hBs.more (Nat.le_refl _) hT6.below).more (Nat.le_refl _) hb7
    clear hdel hb07 hb7 how hT6 ho2 hBs hb06 hb02 hb12 hb2 hb1 ho1 b0 b1 d0 d1 d2 d4 st1 st2 e0 e1 hcy5
    go_region_held3 (fun v => v.cell? ⟨w.heap.size, 0, none⟩ = some (.int .i64 k) ∧ v.cell? ⟨w.heap.size, 1, none⟩ = some (.int .i64 m) ∧ v.cell? ⟨w.heap.size, 2, none⟩ = some (.slice (some ⟨b, o, none⟩) k cap) ∧ v.cell? ⟨b, o + i, none⟩ = some (.slice (A i) n (C i))) (first | exact ⟨(hb8.cell (by exact hwx)).trans dd0, (hb8.cell (by exact hwx)).trans dd1, (hb8.cell (by exact hwx)).trans dd2, (hb8.cell (by exact hbx)).trans dd3⟩ | go_keep) (first | (go_at_call 19; refine hd.mono ?_; rintro e x8 ⟨wd, Ad, Cd, hb8a, rfl, hBd⟩; have hb8 := hb8a.trans (hBd.below.mono hb8a.size)))
    have hb8' : Below x7.heap.size x7 x8 := ⟨hb8.os, hb8.tape, hb8.output, hb8.size, hb8.block⟩
    have HB8 : Hid (Below wb.heap.size wb x8) := HB07.out.trans (hb8'.mono HB07.out.size)
    have HL8 : Hid (Mat x8 B1 0 s n G1 (fun _ => 0) C1 (encF k m f)) := HL7.out.below (Nat.le_refl _) hb8'
    have HW8 : Hid (Mat x8 Bw 0 s n Gw (fun _ => 0) Cw (encF k m (turnF f i Y))) := HW7.out.below (Nat.le_refl _) hb8'
    have HD8 : Hid (Build wd x8 m m Ad (fun _ => n) Cd (deltaF k m i (f i) Y)) := hBd
    have hsm := hsame x8 ws Bw cw Gw Cw As Cs (HS7.out.more (Nat.le_refl _) hb8') HW8.out
    have k1 := (HF.out x8 HB8.out).2.1
    have k1d : ∀ qq, (x8.drewN qq).cell? ⟨w.heap.size, 1, none⟩ = some (.int .i64 m) := fun _ => k1
    have gg4 : ((m : Int) != (m : Int)) = false := by simp
    clear hsame hd hb8 hb8a hb8' hBd dd0 dd1 dd2 dd3 hbx hwx HL7 HW7 HS7
    go_wp2_with (go_at_call 12; refine hsm.mono ?_; rintro e x9 ⟨rfl, q9, rfl⟩; clear hsm)
    clear k1d
    go_loopw [17] (fun pv wr => ∃ p : Nat, p ≤ m ∧ pv = .int .i64 p ∧ Hid (∃ mm, wr = x8.drewN mm)) (fun pv _ => m - (intOf pv).toNat)
    case atStart => exact ⟨0, by omega, rfl, q9, rfl⟩
    case round =>
      obtain ⟨p, hp, rfl, HW⟩ := hrel
      have b1 : wr.cell? ⟨w.heap.size, 1, none⟩ = some (.int .i64 m) := by obtain ⟨mm, hm⟩ := HW.out; rw [hm]; exact k1
      by_cases hlt : p < m
      · have hpm : (p : Int) < (m : Int) := by omega
        have q1 : wr.cell? ⟨wd.heap.size, p, none⟩ = some (.slice (Ad p) n (Cd p)) := by obtain ⟨mm, hm⟩ := HW.out; rw [hm]; exact HD8.out.top p hlt
        have HR0 : Hid (∃ mm, wr = x8.drewN mm) := HW
        go_wp2_with fail
        go_loopw [18] (fun av wr => ∃ a : Nat, a ≤ n ∧ av = .int .i64 a ∧ Hid (∃ mm, wr = x8.drewN mm)) (fun av _ => n - (intOf av).toNat)
        case atStart => exact ⟨0, by omega, rfl, HR0⟩
        case round =>
          clear q1 b1 HR0 HW
          obtain ⟨a, ha, rfl, HW⟩ := hrel
          by_cases hlt2 : a < n
          · have han : (a : Int) < (n : Int) := by omega
            have hss := HS.out
            obtain ⟨z, hz⟩ : ∃ z, z = k + p := ⟨_, rfl⟩
            have hzi : (k : Int) + (p : Int) = (z : Int) := by omega
            have hzs : (z : Int) < (s : Int) := by omega
            have hwz : IntKind.i64.wrap (z : Int) = (z : Int) := IntWalk.i64_in _ (by omega)
            have q3 : wr.cell? ⟨w.heap.size, 0, none⟩ = some (.int .i64 k) := by obtain ⟨mm, hm⟩ := HW.out; rw [hm]; exact (HF.out x8 HB8.out).1
            have q1' : wr.cell? ⟨wd.heap.size, p, none⟩ = some (.slice (Ad p) n (Cd p)) := by obtain ⟨mm, hm⟩ := HW.out; rw [hm]; exact HD8.out.top p hlt
            have q4 : wr.cell? ⟨Bw, z, none⟩ = some (.slice (some ⟨Gw z, 0, none⟩) n (Cw z)) := by
              obtain ⟨mm, hm⟩ := HW.out
              rw [hm]
              have := HW8.out.top z (by omega)
              rwa [Nat.zero_add] at this
            have q6 : wr.cell? ⟨B1, z, none⟩ = some (.slice (some ⟨G1 z, 0, none⟩) n (C1 z)) := by
              obtain ⟨mm, hm⟩ := HW.out
              rw [hm]
              have := HL8.out.top z (by omega)
              rwa [Nat.zero_add] at this
            have q5' : wr.cell? ⟨Gw z, a, none⟩ = some (.int .u8 (encF k m (turnF f i Y) z a : Int)) := by
              obtain ⟨mm, hm⟩ := HW.out
              rw [hm]
              have := HW8.out.cell z (by omega) a hlt2
              rwa [Nat.zero_add] at this
            have q7' : wr.cell? ⟨G1 z, a, none⟩ = some (.int .u8 (encF k m f z a : Int)) := by
              obtain ⟨mm, hm⟩ := HW.out
              rw [hm]
              have := HL8.out.cell z (by omega) a hlt2
              rwa [Nat.zero_add] at this
            rcases HD8.out.row p hlt with h0 | ⟨gp, op, hAp, _, _, hcp⟩
            · exact absurd h0 (by show ¬ n = 0; omega)
            · rw [hAp] at q1'
              have q1 := q1'
              have q2' : wr.cell? ⟨gp, op + a, none⟩ = some (.int .u8 (deltaF k m i (f i) Y p a : Int)) := by obtain ⟨mm, hm⟩ := HW.out; rw [hm]; exact hcp a hlt2
              have hval := turned_delta (k := k) (m := m) (i := i) (p := p) (j := a) HX.out HYL.out HI.out
              rw [← hz] at hval
              have hwl := encF_lt (k := k) (m := m) (turnF_lt (i := i) HX.out HYL.out) z a
              have hll := encF_lt (k := k) (m := m) HX.out z a
              obtain ⟨DV, hDV⟩ : ∃ DV, DV = deltaF k m i (f i) Y p a := ⟨_, rfl⟩
              obtain ⟨WV, hWV⟩ : ∃ WV, WV = encF k m (turnF f i Y) z a := ⟨_, rfl⟩
              obtain ⟨LV, hLV⟩ : ∃ LV, LV = encF k m f z a := ⟨_, rfl⟩
              rw [← hDV] at q2' hval
              rw [← hWV] at q5' hval hwl
              rw [← hLV] at q7' hval hll
              have q2 := q2'
              have q5 := q5'
              have q7 := q7'
              have hxo := u8_xor_nat WV LV hwl hll
              rw [hval] at hxo
              have gg5 : ((DV : Int) != (DV : Int)) = false := by simp
              clear q1' q2' q5' q7' hDV hWV hLV hval hcp hAp hss hz hwl hll
              go_wp2_with fail
              go_quiet (fail)
              go_wp2_with fail
              go_roundw
              case rel => exact ⟨a + 1, by omega, by go_num, drewN_more HW.out⟩
              case measure => simp [intOf]; omega
          · obtain rfl : a = n := by omega
            go_wp2_with fail
            go_roundw
            case rel => exact ⟨p + 1, by omega, by go_num, HW⟩
            case measure => simp [intOf]; omega
      · obtain rfl : p = m := by omega
        have HFW : Hid (Below w.heap.size w wr) := by
          obtain ⟨mm, hm⟩ := HW.out
          rw [hm]
          exact below_drewN' (HWB.out.trans (HB8.out.mono HWB.out.size)) mm
        clear HW
        go_wp2_with (go_at_call 9; refine (awake3 _).mono ?_; rintro e x6 ⟨rfl, hb6⟩)
        go_ret
        exact ⟨rfl, HFW.out.trans (hb6.mono HFW.out.size)⟩

theorem walk (K M : Int) (a : Option Addr) (len cap : Nat) (y : Option Addr) (q c : Nat) (A : Nat → Option Addr) (L C : Nat → Nat) (f : Nat → Nat → Nat) (h : Nat → Bool) (i : Int) (fr : Option Addr) (p cf : Nat) (Y : Nat → Nat) (w : World) (g : LostIn w K M a len cap y q c A L C f h) (wi : (Lit.int .i64 i).wf = true) (gf : BytesIn w fr p cf Y) :
    Calls Try.prog 7 #[.agg #[.int .i64 K, .int .i64 M, .slice a len cap, .slice y q c], .int .i64 i, .slice fr p cf] w fun e w' => e = .returned (.bool true) ∧ Below w.heap.size w w' := by
  by_cases hx : CauchyN K M ∧ (len : Int) = K ∧ EqN len L
  · obtain ⟨hc, hl, he⟩ := hx
    obtain ⟨k, m, rfl, rfl, h1, h2, h3⟩ := code_nat hc
    obtain rfl : len = k := by omega
    have gg := g.data
    obtain ⟨b, o, rfl, _⟩ := grid_some gg.grid (by omega)
    have hgr := gg.grid.congr (L' := fun _ => L 0) (fun r hr => he r hr) (fun _ _ _ _ => rfl) gg.grid.2.2
    by_cases hno : i < 0 ∨ (len : Int) ≤ i ∨ p ≠ L 0
    · exact no len m b o (L 0) cap q c y i fr p cf A C f w h1 h2 h3 (gg.row 0 (by omega)) hgr hno
    · obtain ⟨i', rfl⟩ : ∃ i' : Nat, i = i' := ⟨i.toNat, by omega⟩
      obtain rfl : p = L 0 := by omega
      exact good len m b o (L 0) cap q c i' y fr cf A C f Y w h1 h2 h3 (gg.row 0 (by omega)) (by omega) hgr gf
  · exact bad K M i a len cap y q c fr p cf A L C f w g.data hx

set_option maxRecDepth 100000 in
theorem lifted (os : Os) (started : os.Started) (H : Type) (enc : TypeId × Value → H) :
    ReturnsInHanded {} Try.checked os 7 .any (Rows.codeTurnsSpec.pre6 enc Try.prog Try.f7 Rows.codeTurnsRow.domain false) (Rows.codeTurnsSpec.post enc Try.prog Try.f7 false true false false) := by
  refine returnsInHanded_of_change_sized (C := Try.checked) own started (by kernel_rfl) Try.func7
    (ChangeSpec.witness6 (enc := enc) (C := Try.checked) false ⟨#[], #[.agg #[.int .i64 0, .int .i64 0, .slice none 0 0, .slice none 0 0], .int .i64 0, .slice none 0 0], []⟩ 8 (by kernel_rfl) (by kernel_rfl) (by kernel_rfl) (by kernel_rfl)) ?_
  intro W base args ds gs before hval0 hW hcnd hsz0 _
  have hsz : (DataW.weightsEach Try.prog (Try.f7.params.toList ++ Rows.codeTurnsSpec.plain.varTypes Try.prog) (ds ++ gs)).all (· ≤ reachBytes) = true := hsz0
  have hval : ∀ (j : Nat) t v, Try.f7.params[j]? = some t → args[j]? = some v → Value.okWide Try.prog W .any base t v := hval0
  have hW' := hW
  obtain ⟨p, q, hA0, hV, rfl, hfz, hnd⟩ := hW
  have hA : DataW.TrodAll enc Try.prog W 0 (fun _ => true) true Try.f7.params.toList args.toList ds p := hA0
  rw [Try.params7] at hA hval hsz
  obtain ⟨v0, vs0, d0, ds0, p0, q0, hargs, rfl, rfl, h0, r0⟩ := trodAll_cons hA
  obtain ⟨v1, vs1, d1, ds1, p1, q1, rfl, rfl, rfl, h1, r1⟩ := trodAll_cons r0
  obtain ⟨v2, vs2, d2, ds2, p2, q2, rfl, rfl, rfl, h2, r2⟩ := trodAll_cons r1
  obtain ⟨rfl, rfl, rfl⟩ := trodAll_nil r2
  obtain rfl : args = #[v0, v1, v2] := by cases args; simp_all
  obtain ⟨rfl, rfl⟩ := trodVars_none hV
  have k0 := h0
  have lt0 : ∀ x ∈ p0, x.block < W.heap.size := by obtain ⟨m, hm⟩ := k0; exact DataW.trod_lt m _ _ _ hm
  have s0 : ∀ x ∈ d0.weights Try.prog 33, x ≤ reachBytes := fun x hx => by
    have := List.all_eq_true.1 hsz x (DataW.weights_mem_each (j := 0) rfl rfl x hx)
    simpa using this
  obtain ⟨K0, M0, a0, len0, cap0, y0, q0, c0, A0, L0, C0, f0, g0, rfl, w0⟩ := lost_in (okWide_struct Try.underlying33 (hval 0 33 v0 rfl rfl)) h0 s0
  obtain ⟨a1, rfl, rfl, rfl, w1⟩ := open_int Try.underlying3 (hval 1 3 v1 rfl rfl) h1
  have k2 := h2
  have lt2 : ∀ x ∈ p2, x.block < W.heap.size := by obtain ⟨m, hm⟩ := k2; exact DataW.trod_lt m _ _ _ hm
  have s2 : ∀ x ∈ d2.weights Try.prog 34, x ≤ reachBytes := fun x hx => by
    have := List.all_eq_true.1 hsz x (DataW.weights_mem_each (j := 2) rfl rfl x hx)
    simpa using this
  obtain ⟨b2, nn2, cc2, rfl⟩ := okWide_slice Try.underlying34 (hval 2 34 v2 rfl rfl)
  obtain ⟨fu2, hf2⟩ := h2
  obtain ⟨a2, len2, cap2, f2, e2, w2⟩ := bytes_in hf2 s2
  simp [Value.cells] at e2
  obtain ⟨rfl, rfl, rfl⟩ := e2
  clear hA0 hval0
  refine (walk K0 M0 a0 len0 cap0 y0 q0 c0 A0 L0 C0 f0 g0 a1 b2 nn2 cc2 f2 W w0 w1 w2).mono fun e W' ⟨he, bel⟩ => ?_
  subst he
  exact ⟨_, rfl, _, _, _, [], _, [], hW', trodAll_mk1 (shut_bool Try.underlying4 _), (trodAll_cons_mk (Below.trod laidOut (by kernel_rfl) (of_decide_eq_true (by kernel_rfl)) k0 bel lt0) (trodAll_cons_mk (shut_int Try.underlying3 w1) (trodAll_cons_mk (Below.trod laidOut (by kernel_rfl) (of_decide_eq_true (by kernel_rfl)) k2 bel lt2) trodAll_mk0))), rfl, bel.frame _, fun h => by cases h⟩

theorem over : Rows.codeTurnsRow.holds Try.pinned (OpenSpec.ofChange Rows.codeTurnsSpec) :=
  OpenClaim.holds_of_wide 7 Try.f7 rfl rfl rfl rfl rfl rfl rfl ⟨rfl, rfl, rfl, rfl, rfl⟩ rfl rfl rfl rfl rfl (by kernel_rfl) Try.func7 (by kernel_rfl)
    (of_decide_eq_true (by kernel_rfl)) (by unfold Func.isWrapper; first | (rw [if_pos (by decide +kernel)]; kernel_rfl) | (rw [if_neg (by decide +kernel)]; exact ⟨rfl, rfl⟩))
    (fun os started H enc _ => lifted os started H enc)

theorem proved : Rows.CodeTurnsSaid := over
#print axioms proved
end Go.Proofs.Ytnnnefbnpfahcaa.codeTurns

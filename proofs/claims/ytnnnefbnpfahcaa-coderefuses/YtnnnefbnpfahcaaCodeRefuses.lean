/-
  Of any lists and of any list of what one has package code refuses what the document does, and else tells a codeword that has the first K that one has: 'mooringlaw03.CodeRefuses' returns true and leaves its arguments as they were.
  Conditions: none.
-/
import Derived.Test.YtnnnefbnpfahcaaRows
import Derived.WalkKit
import Derived.ProofKit
import Derived.OpenShut
import Derived.SizedLaws
import Derived.ShutString
import Derived.ChangeOld
import Derived.Below
import Derived.Test.YtnnnefbnpfahcaaCdLaw
namespace Go.Proofs.Ytnnnefbnpfahcaa.codeRefuses
open Go.ChangeShapes Go.WideShapes Go.ChangeAt Go.RowKit
open Gf
set_option linter.unusedVariables false

theorem own : ownKnob Try.prog.godebug = none := by kernel_rfl
theorem laidOut : laidOutB Try.prog = true := by kernel_rfl

set_option maxHeartbeats 2000000 in
set_option maxRecDepth 100000 in
theorem shape (a0 a1 K M : Int) (a : Option Addr) (len cap : Nat) (y : Option Addr) (q c : Nat) (A : Nat → Option Addr) (L C : Nat → Nat) (f : Nat → Nat → Nat) (w : World) (g : GridIn w a len cap A L C f) (hq : q ≤ 140737488351232) (hx : ¬ (CauchyN a0 a1 ∧ len = q ∧ (len : Int) = a0 + a1)) :
    Calls Try.prog 6 #[.int .i64 a0, .int .i64 a1, .agg #[.int .i64 K, .int .i64 M, .slice a len cap, .slice y q c]] w fun e w' => e = .returned (.bool true) ∧ Below w.heap.size w w' := by
  obtain ⟨wb, hwb⟩ : ∃ wb, wb = w.alloc (.cells #[.int .i64 K, .int .i64 M, .slice a len cap, .slice y q c] 33) := ⟨_, rfl⟩
  have hbb : Below w.heap.size w wb := by rw [hwb]; exact (Below.refl _ _).alloc (Nat.le_refl _) _
  have hbs : wb.heap.size = w.heap.size + 1 := by rw [hwb]; simp
  have rb := World.rowIs_alloc w #[.int .i64 K, .int .i64 M, .slice a len cap, .slice y q c] 33 (fun i => if i = 0 then .int .i64 K else if i = 1 then .int .i64 M else if i = 2 then .slice a len cap else .slice y q c) (fun i hi => by
    have hi2 : i < 4 := by simpa using hi
    match i, hi2 with
    | 0, _ => rfl
    | 1, _ => rfl
    | 2, _ => rfl
    | 3, _ => rfl)
  rw [← hwb] at rb
  have HF : Hid (∀ v, Below wb.heap.size wb v → v.cell? ⟨w.heap.size, 2, none⟩ = some (.slice a len cap) ∧ v.cell? ⟨w.heap.size, 3, none⟩ = some (.slice y q c)) := fun v hv =>
    ⟨(hv.cell (by show w.heap.size < wb.heap.size; omega)).trans (rb.cell (i := 2) (by simp)), (hv.cell (by show w.heap.size < wb.heap.size; omega)).trans (rb.cell (i := 3) (by simp))⟩
  have hs := g.small
  have hl := (light_any a0 a1 a len cap A L C wb (g.grid.1.below (Nat.le_refl _) hbb) g.row)
  have hd : Calls Try.prog 15 #[.int .i64 a0, .int .i64 a1, .slice a len cap, .slice y q c] wb fun e w' => e = .returned (.tuple #[.slice none 0 0, .int .i64 1]) ∧ Below wb.heap.size wb w' := by
    by_cases hN : CauchyN a0 a1
    · obtain ⟨k, m, rfl, rfl, h1, h2, h3⟩ := code_nat hN
      refine decode_len k m a y len q cap c wb h1 h2 h3 ?_
      apply Classical.byContradiction
      intro hh
      exact hx ⟨hN, by omega, by omega⟩
    · exact decode_code a0 a1 a y len q cap c wb hN
  rw [hwb] at hl hd
  have hw0 : Below w.heap.size w (w.alloc (.cells #[.int .i64 K, .int .i64 M, .slice a len cap, .slice y q c] 33)) := (Below.refl _ _).alloc (Nat.le_refl _) _
  have hfin : ∀ v, Below wb.heap.size wb v → Below w.heap.size w v := fun v hv => hbb.trans (hv.mono hbb.size)
  by_cases hN : CauchyN a0 a1
  · have hcode : ∀ v, Calls Try.prog 17 #[.int .i64 a0, .int .i64 a1] v fun e w' => e = .returned (.bool true) ∧ w' = v := fun v => rcode_yes a0 a1 v hN
    by_cases hlq : len = q
    · subst hlq
      have hsum : ¬ ((len : Int) = a0 + a1) := fun e => hx ⟨hN, rfl, e⟩
      obtain ⟨k, m, rfl, rfl, h1, h2, h3⟩ := code_nat hN
      obtain ⟨s, hss⟩ : ∃ s, s = k + m := ⟨_, rfl⟩
      have hsi : (k : Int) + (m : Int) = (s : Int) := by omega
      have g1 : ((len : Int) == (s : Int)) = false := by simp; omega
      have g2 : ((len : Int) == (len : Int)) = true := by simp
      have hs5 : s ≤ 255 := by omega
      clear g hx rb hbb hbs hN hsum hss h1 h2 h3
      go_enter Try.func6, Try.ntmps6
      go_wp2_with (first
        | (go_at_call 8; refine hl.mono ?_; rintro e w' ⟨rfl, t, rfl, _⟩; clear hl)
        | (go_at_call 15; refine hd.mono ?_; rintro e x1 ⟨rfl, hb1⟩; clear hd; rw [← hwb] at hb1; have b2 := (HF.out x1 hb1).1; have b3 := (HF.out x1 hb1).2; have hf1 := hfin x1 hb1)
        | (go_at_call 17; refine (hcode _).mono ?_; rintro e w5 ⟨rfl, rfl⟩; clear hcode)
        | (go_at_call 9; refine (awake3 _).mono ?_; rintro e x6 ⟨rfl, hb6⟩))
      · go_ret
        exact ⟨rfl, hw0.trans (hb6.mono (by simp))⟩
      · refine wp_loop_rounds 1 ?_
        rw [rounds_succ]
        go_wp2_with (go_at_call 9; refine (awake3 _).mono ?_; rintro e x6 ⟨rfl, hb6⟩)
        go_ret
        exact ⟨rfl, hf1.trans (hb6.mono hf1.size)⟩
    · have g1 : ((len : Int) == (q : Int)) = false := by simp; omega
      clear g hx rb hbb hbs hN hlq
      go_enter Try.func6, Try.ntmps6
      go_wp2_with (first
        | (go_at_call 8; refine hl.mono ?_; rintro e w' ⟨rfl, t, rfl, _⟩; clear hl)
        | (go_at_call 15; refine hd.mono ?_; rintro e x1 ⟨rfl, hb1⟩; clear hd; rw [← hwb] at hb1; have b2 := (HF.out x1 hb1).1; have b3 := (HF.out x1 hb1).2; have hf1 := hfin x1 hb1)
        | (go_at_call 17; refine (hcode _).mono ?_; rintro e w5 ⟨rfl, rfl⟩; clear hcode)
        | (go_at_call 9; refine (awake3 _).mono ?_; rintro e x6 ⟨rfl, hb6⟩))
      · go_ret
        exact ⟨rfl, hw0.trans (hb6.mono (by simp))⟩
      · refine wp_loop_rounds 1 ?_
        rw [rounds_succ]
        go_wp2_with (go_at_call 9; refine (awake3 _).mono ?_; rintro e x6 ⟨rfl, hb6⟩)
        go_ret
        exact ⟨rfl, hf1.trans (hb6.mono hf1.size)⟩
  · have hcode : ∀ v, Calls Try.prog 17 #[.int .i64 a0, .int .i64 a1] v fun e w' => e = .returned (.bool false) ∧ w' = v := fun v => rcode_no a0 a1 v hN
    clear g hx rb hbb hbs hN
    go_enter Try.func6, Try.ntmps6
    go_wp2_with (first
      | (go_at_call 8; refine hl.mono ?_; rintro e w' ⟨rfl, t, rfl, _⟩; clear hl)
      | (go_at_call 15; refine hd.mono ?_; rintro e x1 ⟨rfl, hb1⟩; clear hd; rw [← hwb] at hb1; have b2 := (HF.out x1 hb1).1; have b3 := (HF.out x1 hb1).2; have hf1 := hfin x1 hb1)
      | (go_at_call 17; refine (hcode _).mono ?_; rintro e w5 ⟨rfl, rfl⟩; clear hcode)
      | (go_at_call 9; refine (awake3 _).mono ?_; rintro e x6 ⟨rfl, hb6⟩))
    · go_ret
      exact ⟨rfl, hw0.trans (hb6.mono (by simp))⟩
    · refine wp_loop_rounds 1 ?_
      rw [rounds_succ]
      go_wp2_with (go_at_call 9; refine (awake3 _).mono ?_; rintro e x6 ⟨rfl, hb6⟩)
      go_ret
      exact ⟨rfl, hf1.trans (hb6.mono hf1.size)⟩

/- What the law's own look for another length has found. -/
def Seen (h : Nat → Bool) (L : Nat → Nat) (s : Nat) (t : Bool) (lv : Int) (r : Nat) : Prop :=
  (t = true ∧ lv = -1 ∧ ∀ u, u < r → h u = false) ∨ (t = true ∧ ∃ n u : Nat, lv = (n : Int) ∧ u < r ∧ h u = true ∧ L u = n ∧ ∀ v, v < r → h v = true → L v = n) ∨
  (t = false ∧ ∃ u v, u < s ∧ v < s ∧ h u = true ∧ h v = true ∧ L u ≠ L v)

theorem seen_start (h : Nat → Bool) (L : Nat → Nat) (s : Nat) : Seen h L s true (-1) 0 := .inl ⟨rfl, rfl, fun u hu => by omega⟩

theorem seen_skip {h : Nat → Bool} {L : Nat → Nat} {s r : Nat} {lv : Int} (q : Seen h L s true lv r) (hr : h r = false) : Seen h L s true lv (r + 1) := by
  rcases q with ⟨_, hlv, hn⟩ | ⟨_, n, u, hlv, hu, ht, hl, ha⟩ | ⟨ht, _⟩
  · exact .inl ⟨rfl, hlv, fun u hu => by
      by_cases e : u = r
      · subst e; exact hr
      · exact hn u (by omega)⟩
  · exact .inr (.inl ⟨rfl, n, u, hlv, by omega, ht, hl, fun v hv hv1 => by
      by_cases e : v = r
      · subst e; rw [hr] at hv1; cases hv1
      · exact ha v (by omega) hv1⟩)
  · cases ht

theorem seen_take {h : Nat → Bool} {L : Nat → Nat} {s r : Nat} {lv : Int} (q : Seen h L s true lv r) (hr : h r = true) (hrs : r < s) : (lv < 0 ∧ Seen h L s true (L r : Int) (r + 1)) ∨ (0 ≤ lv ∧ lv = (L r : Int) ∧ Seen h L s true (L r : Int) (r + 1)) ∨ (0 ≤ lv ∧ lv ≠ (L r : Int) ∧ Seen h L s false (L r : Int) (r + 1)) := by
  rcases q with ⟨_, hlv, hn⟩ | ⟨_, n, u, hlv, hu, ht, hl, ha⟩ | ⟨ht, _⟩
  · exact .inl ⟨by omega, .inr (.inl ⟨rfl, L r, r, rfl, by omega, hr, rfl, fun v hv hv1 => by
      by_cases e : v = r
      · subst e; rfl
      · rw [hn v (by omega)] at hv1; cases hv1⟩)⟩
  · by_cases e : n = L r
    · refine .inr (.inl ⟨by omega, by omega, .inr (.inl ⟨rfl, L r, r, rfl, by omega, hr, rfl, fun v hv hv1 => ?_⟩)⟩)
      by_cases e2 : v = r
      · subst e2; rfl
      · rw [ha v (by omega) hv1]; exact e
    · exact .inr (.inr ⟨by omega, by omega, .inr (.inr ⟨rfl, u, r, by omega, hrs, ht, hr, by rw [hl]; exact e⟩)⟩)
  · cases ht

theorem seen_end {h : Nat → Bool} {L : Nat → Nat} {s c : Nat} {g : Nat → Nat} {lv : Int} (q : Seen h L s true lv s) (hP : Plc h s c g) : EqN c (fun r => L (g r)) := by
  intro r hr
  rcases q with ⟨_, hlv, hn⟩ | ⟨_, n, u, hlv, hu, ht, hl, ha⟩ | ⟨ht, _⟩
  · have := hP.has r hr
    rw [hn _ (hP.lt r hr)] at this
    cases this
  · show L (g r) = L (g 0)
    rw [ha _ (hP.lt r hr) (hP.has r hr), ha _ (hP.lt 0 (by omega)) (hP.has 0 (by omega))]
  · cases ht

theorem seen_bad {h : Nat → Bool} {L : Nat → Nat} {s c r : Nat} {g : Nat → Nat} {lv : Int} (q : Seen h L s false lv r) (hP : Plc h s c g) : ¬ EqN c (fun r => L (g r)) := by
  intro he
  rcases q with ⟨ht, _⟩ | ⟨ht, _⟩ | ⟨_, u, v, hu, hv, h1, h2, hl⟩
  · cases ht
  · cases ht
  · obtain ⟨a1, a2⟩ := hP.find hu h1
    obtain ⟨b1, b2⟩ := hP.find hv h2
    have e1 : L (g (cnt h u)) = L (g 0) := he _ a1
    have e2 : L (g (cnt h v)) = L (g 0) := he _ b1
    rw [a2] at e1
    rw [b2] at e2
    exact hl (by omega)

theorem seen_lv {h : Nat → Bool} {L : Nat → Nat} {s r : Nat} {t : Bool} {lv : Int} (q : Seen h L s t lv r) (ht : t = true) : -1 ≤ lv := by
  rcases q with ⟨_, hlv, hn⟩ | ⟨_, n, u, hlv, hu⟩ | ⟨hf, _⟩
  · omega
  · omega
  · rw [hf] at ht; cases ht

theorem cnt_min {h : Nat → Bool} {k r n : Nat} (hn : n = min (cnt h r) k) (ht : h r = true) (hlt : n < k) : n + 1 = min (cnt h (r + 1)) k ∧ cnt h r = n := by
  rw [cnt_true ht]
  omega

theorem cnt_min' {h : Nat → Bool} {k r n : Nat} (hn : n = min (cnt h r) k) (ht : h r = true) (hlt : ¬ n < k) : n = min (cnt h (r + 1)) k := by
  rw [cnt_true ht]
  omega

theorem cnt_min0 {h : Nat → Bool} {k r n : Nat} (hn : n = min (cnt h r) k) (ht : h r = false) : n = min (cnt h (r + 1)) k := by
  rw [cnt_false ht]
  exact hn

set_option maxHeartbeats 8000000 in
set_option maxRecDepth 100000 in
theorem good (k m b o hb ho s cap c : Nat) (K M : Int) (A : Nat → Option Addr) (L C : Nat → Nat) (f : Nat → Nat → Nat) (h : Nat → Bool) (w : World) (h1 : 1 ≤ k) (h2 : 1 ≤ m) (h3 : k + m ≤ 255) (hs : s = k + m) (g : GridIn w (some ⟨b, o, none⟩) s cap A L C f) (gb : BoolsIn w (some ⟨hb, ho, none⟩) s c h) :
    Calls Try.prog 6 #[.int .i64 k, .int .i64 m, .agg #[.int .i64 K, .int .i64 M, .slice (some ⟨b, o, none⟩) s cap, .slice (some ⟨hb, ho, none⟩) s c]] w fun e w' => e = .returned (.bool true) ∧ Below w.heap.size w w' := by
  obtain ⟨wb, hwb⟩ : ∃ wb, wb = w.alloc (.cells #[.int .i64 K, .int .i64 M, .slice (some ⟨b, o, none⟩) s cap, .slice (some ⟨hb, ho, none⟩) s c] 33) := ⟨_, rfl⟩
  have hbb : Below w.heap.size w wb := by rw [hwb]; exact (Below.refl _ _).alloc (Nat.le_refl _) _
  have hbs : wb.heap.size = w.heap.size + 1 := by rw [hwb]; simp
  have rb := World.rowIs_alloc w #[.int .i64 K, .int .i64 M, .slice (some ⟨b, o, none⟩) s cap, .slice (some ⟨hb, ho, none⟩) s c] 33 (fun i => if i = 0 then .int .i64 K else if i = 1 then .int .i64 M else if i = 2 then .slice (some ⟨b, o, none⟩) s cap else .slice (some ⟨hb, ho, none⟩) s c) (fun i hi => by
    have hi2 : i < 4 := by simpa using hi
    match i, hi2 with
    | 0, _ => rfl
    | 1, _ => rfl
    | 2, _ => rfl
    | 3, _ => rfl)
  rw [← hwb] at rb
  have HF : Hid (∀ v, Below wb.heap.size wb v → v.cell? ⟨w.heap.size, 2, none⟩ = some (.slice (some ⟨b, o, none⟩) s cap) ∧ v.cell? ⟨w.heap.size, 3, none⟩ = some (.slice (some ⟨hb, ho, none⟩) s c)) := fun v hv =>
    ⟨(hv.cell (by show w.heap.size < wb.heap.size; omega)).trans (rb.cell (i := 2) (by simp)), (hv.cell (by show w.heap.size < wb.heap.size; omega)).trans (rb.cell (i := 3) (by simp))⟩
  have HG : Hid (∀ v, Below wb.heap.size wb v → IsGrid v (some ⟨b, o, none⟩) s A L C f) := fun v hv => (g.grid.below hbb).below hv
  have HH : Hid (∀ v, Below wb.heap.size wb v → BoolsAt v (some ⟨hb, ho, none⟩) s h) := fun v hv => (gb.row.below (Nat.le_refl _) hbb).below (Nat.le_refl _) hv
  have HC : Hid (∀ v, Below wb.heap.size wb v → ∀ i, i < s → v.cell? ⟨hb, ho + i, none⟩ = some (.bool (h i))) := fun v hv i hi => by
    rcases HH.out v hv with h0 | ⟨b', o', e1, _, e3⟩
    · omega
    · injection e1 with e1
      injection e1 with e1 e2 _
      subst e1; subst e2
      exact e3 i hi
  have hl := (light_any k m (some ⟨b, o, none⟩) s cap A L C wb (g.grid.below hbb).1 g.row)
  have hcode : ∀ v, Calls Try.prog 17 #[.int .i64 k, .int .i64 m] v fun e w' => e = .returned (.bool true) ∧ w' = v := fun v => rcode_yes k m v (nat_code h1 h2 h3)
  obtain ⟨cc, gg, hP⟩ := plc_exists h s
  have hd : Calls Try.prog 15 #[.int .i64 k, .int .i64 m, .slice (some ⟨b, o, none⟩) s cap, .slice (some ⟨hb, ho, none⟩) s c] wb fun e w' => ∃ dx dn dc ev, e = .returned (.tuple #[.slice dx dn dc, .int .i64 ev]) ∧ Below wb.heap.size wb w' ∧
      Hid ((¬ EqN cc (fun r => L (gg r)) ∧ dn = 0 ∧ ev = 1) ∨ (EqN cc (fun r => L (gg r)) ∧ cc < k ∧ dn = 0 ∧ ev = 4) ∨ (EqN cc (fun r => L (gg r)) ∧ k ≤ cc ∧ ev = 0 ∧ ∃ w1 A1 C1, dx = some ⟨w1.heap.size, 0, none⟩ ∧ s = dn ∧ s = dc ∧ Build w1 w' s s A1 (fun _ => L (gg 0)) C1 (decF k m gg (fun r => f (gg r))))) := by
    have q1 : IsGrid wb (some ⟨b, o, none⟩) (k + m) A L C f := by rw [← hs]; exact g.grid.below hbb
    have q2 : BoolsAt wb (some ⟨hb, ho, none⟩) (k + m) h := by rw [← hs]; exact gb.row.below (Nat.le_refl _) hbb
    have q3 : Plc h (k + m) cc gg := by rw [← hs]; exact hP
    by_cases hE : EqN cc (fun r => L (gg r))
    · by_cases hck : cc < k
      · have := decode_few k m b o hb ho cap c cc A L C f h gg wb h1 h2 h3 q1 q2 q3 hE hck
        rw [← hs] at this
        exact this.mono fun e w' ⟨p1, p2⟩ => ⟨none, 0, 0, 4, p1, p2, .inr (.inl ⟨hE, hck, rfl, rfl⟩)⟩
      · have := decode_yes k m (L (gg 0)) b o hb ho cap c cc A L C f h gg wb h1 h2 h3 (g.row _ (hP.lt 0 (by omega))) q1 q2 q3 (fun r hr => hE r hr) (by omega)
        rw [← hs] at this
        exact this.mono fun e w' ⟨w1, A1, C1, p1, p2, p3⟩ => ⟨_, s, s, 0, p2, p1.trans (p3.below.mono p1.size), .inr (.inr ⟨hE, by omega, rfl, w1, A1, C1, rfl, rfl, rfl, p3⟩)⟩
    · have := decode_uneven k m b o hb ho cap c cc A L C f h gg wb h1 h2 h3 q1 q2 q3 hE
      rw [← hs] at this
      exact this.mono fun e w' ⟨p1, p2⟩ => ⟨none, 0, 0, 1, p1, p2, .inl ⟨hE, rfl, rfl⟩⟩
  rw [hwb] at hl hd
  have hsi : (k : Int) + (m : Int) = (s : Int) := by omega
  have hs5 : s ≤ 255 := by omega
  have hs2 : 2 ≤ s := by omega
  have hk5 : k ≤ 255 := by omega
  have g2 : ((s : Int) == (s : Int)) = true := by simp
  have hw0 : Below w.heap.size w (w.alloc (.cells #[.int .i64 K, .int .i64 M, .slice (some ⟨b, o, none⟩) s cap, .slice (some ⟨hb, ho, none⟩) s c] 33)) := (Below.refl _ _).alloc (Nat.le_refl _) _
  have HFIN : Hid (∀ v, Below wb.heap.size wb v → Below w.heap.size w v) := fun v hv => hbb.trans (hv.mono hbb.size)
  have HP : Hid (Plc h s cc gg) := hP
  have HS : Hid (s = k + m) := hs
  have H1 : Hid (1 ≤ k ∧ 1 ≤ m ∧ k + m ≤ 255) := ⟨h1, h2, h3⟩
  have HLR : Hid (∀ r, r < s → L r ≤ 140737488351232) := g.row
  have HFL : Hid (∀ r j, f r j < 256) := g.grid.2.2
  clear g gb rb hbb hbs hP hs h1 h2 h3
  go_enter Try.func6, Try.ntmps6
  go_wp2_with (first
    | (go_at_call 8; refine hl.mono ?_; rintro e w' ⟨rfl, t, rfl, _⟩; clear hl)
    | (go_at_call 15; refine hd.mono ?_; rintro e x1 ⟨dx, dn, dc, ev, rfl, hb1, HD⟩; clear hd; rw [← hwb] at hb1; have b2 := (HF.out x1 hb1).1; have b3 := (HF.out x1 hb1).2)
    | (go_at_call 17; refine (hcode _).mono ?_; rintro e w5 ⟨rfl, rfl⟩; clear hcode)
    | (go_at_call 9; refine (awake3 _).mono ?_; rintro e x6 ⟨rfl, hb6⟩))
  · go_ret
    exact ⟨rfl, hw0.trans (hb6.mono (by simp))⟩
  · have HB1 : Hid (Below wb.heap.size wb w5) := hb1
    clear hwb hb1 hw0
    go_loopw [9, 10, 11] (fun ov lv iv wr => ∃ (r : Nat) (l : Int) (t : Bool), r ≤ s ∧ ov = .bool t ∧ lv = .int .i64 l ∧ iv = .int .i64 r ∧ wr = w5 ∧ Hid (Seen h L s t l r)) (fun _ _ iv _ => s - (intOf iv).toNat)
    case atStart => exact ⟨0, -1, true, by omega, rfl, rfl, rfl, rfl, seen_start h L s⟩
    case round =>
      obtain ⟨r, l, t, hr, rfl, rfl, rfl, rfl, HQ⟩ := hrel
      cases t with
      | false =>
        have hbad := seen_bad HQ.out HP.out
        rcases HD.out with ⟨_, e1, e2⟩ | ⟨q, _⟩ | ⟨q, _⟩
        · subst e1
          subst e2
          clear hbad HD HQ HG HH HC
          go_wp2_with (go_at_call 9; refine (awake3 _).mono ?_; rintro e x6 ⟨rfl, hb6⟩)
          go_ret
          have hf1 := HFIN.out _ HB1.out
          exact ⟨rfl, hf1.trans (hb6.mono hf1.size)⟩
        · exact absurd q hbad
        · exact absurd q hbad
      | true =>
        by_cases hlt : r < s
        · have hrs : (r : Int) < (s : Int) := by omega
          have hc := HC.out wr HB1.out r hlt
          have t2 := grid_tops (HG.out wr HB1.out) hlt
          have hlv := seen_lv HQ.out rfl
          have hLr := HLR.out r hlt
          cases hh : h r with
          | false =>
            rw [hh] at hc
            have HN : Hid (Seen h L s true l (r + 1)) := seen_skip HQ.out hh
            clear HQ hh HD
            go_wp2_with fail
            go_roundw
            case rel => exact ⟨r + 1, l, true, by omega, rfl, rfl, by go_num, trivial, HN⟩
            case measure => simp [intOf]; omega
          | true =>
            rw [hh] at hc
            rcases seen_take HQ.out hh hlt with ⟨c1, hN⟩ | ⟨c1, c2, hN⟩ | ⟨c1, c2, hN⟩
            · have HN : Hid (Seen h L s true (L r : Int) (r + 1)) := hN
              clear HQ hh HD hN
              go_wp2_with fail
              go_roundw
              case rel => exact ⟨r + 1, (L r : Int), true, by omega, rfl, rfl, by go_num, trivial, HN⟩
              case measure => simp [intOf]; omega
            · have HN : Hid (Seen h L s true (L r : Int) (r + 1)) := hN
              have g3 : ¬ (l < 0) := by omega
              have g4 : (l == (L r : Int)) = true := by simp [c2]
              clear HQ hh HD hN c1 c2
              go_wp2_with fail
              go_roundw
              case rel => exact ⟨r + 1, (L r : Int), true, by omega, rfl, rfl, by go_num, trivial, HN⟩
              case measure => simp [intOf]; omega
            · have HN : Hid (Seen h L s false (L r : Int) (r + 1)) := hN
              have g3 : ¬ (l < 0) := by omega
              have g4 : (l == (L r : Int)) = false := by simp [c2]
              clear HQ hh HD hN c1 c2
              go_wp2_with fail
              go_roundw
              case rel => exact ⟨r + 1, (L r : Int), false, by omega, rfl, rfl, by go_num, trivial, HN⟩
              case measure => simp [intOf]; omega
        · obtain rfl : r = s := by omega
          have hE := seen_end HQ.out HP.out
          have hcnt : Calls Try.prog 16 #[.slice (some ⟨hb, ho, none⟩) r c] wr fun e w' => e = .returned (.int .i64 (cc : Int)) ∧ w' = wr := by
            have := count_any (some ⟨hb, ho, none⟩) r c h wr (by omega) (HH.out wr HB1.out)
            rwa [← HP.out.all] at this
          rcases HD.out with ⟨q, _⟩ | ⟨_, hck, e1, e2⟩ | ⟨_, hck, e2, w1, A1, C1, e3, e4, e5, hB⟩
          · exact absurd hE q
          · subst e1
            subst e2
            have hcki : (cc : Int) < (k : Int) := by omega
            clear hE HD HQ HG HH HC
            go_wp2_with (first | (go_at_call 16; refine hcnt.mono ?_; rintro e w7 ⟨rfl, rfl⟩; clear hcnt) | (go_at_call 9; refine (awake3 _).mono ?_; rintro e x6 ⟨rfl, hb6⟩))
            go_ret
            have hf1 := HFIN.out _ HB1.out
            exact ⟨rfl, hf1.trans (hb6.mono hf1.size)⟩
          · subst e2
            subst e3
            subst e4
            subst e5
            have hcki : ¬ ((cc : Int) < (k : Int)) := by omega
            obtain ⟨n0, hn0⟩ : ∃ n0, n0 = L (gg 0) := ⟨_, rfl⟩
            rw [← hn0] at hB
            have hn9 : n0 ≤ 140737488351232 := by rw [hn0]; exact HLR.out _ (HP.out.lt 0 (by have := H1.out.1; omega))
            have HEQ : Hid (∀ t, t < cc → L (gg t) = n0) := fun t ht => by rw [hn0]; exact hE t ht
            obtain ⟨D, hD⟩ : ∃ D : Nat → Nat → Nat, D = decF k m gg (fun r => f (gg r)) := ⟨_, rfl⟩
            rw [← hD] at hB
            have hss := HS.out
            have hchk := rcheck_yes k m n0 w1.heap.size 0 r true A1 C1 D wr H1.out.1 H1.out.2.1 H1.out.2.2 hn9 (by omega) (by rw [← hss]; exact hB.grid) (fun _ => rfl) (fun t _ q => absurd (fun j _ => by rw [hD]; exact decF_code (fun r j => HFL.out _ j) _ j) q)
            rw [← hss] at hchk
            have HDK : Hid (∀ t, t < k → ∀ j, D (gg t) j = f (gg t) j) := fun t ht j => by
              rw [hD]
              exact decF_kept (Y := fun r => f (gg r)) (fun r j => HFL.out _ j) H1.out.2.2 (fun t ht => by have := HP.out.lt t (by omega); omega) (fun t u ht hu e => HP.out.inj (by omega) (by omega) e) ht j
            have HBD : Hid (Build w1 wr r r A1 (fun _ => n0) C1 D) := hB
            clear hE HD HQ hn0 hD hB hss
            go_wp2_with (first | (go_at_call 16; refine hcnt.mono ?_; rintro e w7 ⟨rfl, rfl⟩; clear hcnt) | (go_at_call 14; refine hchk.mono ?_; rintro e x9 ⟨rfl, hb9⟩; clear hchk))
            have HB9 : Hid (Below wb.heap.size wb x9) := HB1.out.trans (hb9.mono HB1.out.size)
            have HBD9 : Hid (Build w1 x9 r r A1 (fun _ => n0) C1 D) := HBD.out.more (Nat.le_refl _) hb9
            clear hb9 HBD HB1
            go_loopw [14, 15] (fun nv iv wr => ∃ p nn : Nat, p ≤ r ∧ nn ≤ k ∧ nv = .int .i64 nn ∧ iv = .int .i64 p ∧ Hid (nn = min (cnt h p) k) ∧ Hid (∃ mm, wr = x9.drewN mm)) (fun _ iv _ => r - (intOf iv).toNat)
            case atStart => exact ⟨0, 0, by omega, by omega, rfl, rfl, by show 0 = min 0 k; omega, 0, rfl⟩
            case round =>
              obtain ⟨p, nn, hp, hnk, rfl, rfl, HM, HW⟩ := hrel
              have hbw : Below wb.heap.size wb wr := by obtain ⟨mm, hm⟩ := HW.out; rw [hm]; exact below_drewN' HB9.out mm
              have k2 := (HF.out wr hbw).1
              have k3 := (HF.out wr hbw).2
              by_cases hlt2 : p < r
              · have hps : (p : Int) < (r : Int) := by omega
                have hc := HC.out wr hbw p hlt2
                cases hh : h p with
                | false =>
                  rw [hh] at hc
                  have HN : Hid (nn = min (cnt h (p + 1)) k) := cnt_min0 HM.out hh
                  clear HM hh hbw
                  go_wp2_with fail
                  go_roundw
                  case rel => exact ⟨p + 1, nn, by omega, hnk, rfl, by go_num, HN, HW⟩
                  case measure => simp [intOf]; omega
                | true =>
                  rw [hh] at hc
                  by_cases hnn : nn < k
                  · have hnni : (nn : Int) < (k : Int) := by omega
                    obtain ⟨hm1, hm2⟩ := cnt_min HM.out hh hnn
                    have HN : Hid (nn + 1 = min (cnt h (p + 1)) k) := hm1
                    obtain ⟨_, hgp⟩ := HP.out.find hlt2 hh
                    rw [hm2] at hgp
                    have hLp : L p = n0 := by rw [← hgp]; exact HEQ.out nn (by omega)
                    have hDp : ∀ j, D p j = f p j := fun j => by
                      have := HDK.out nn hnn j
                      rwa [hgp] at this
                    have hB : Build w1 wr r r A1 (fun _ => n0) C1 D := by obtain ⟨mm, hm⟩ := HW.out; rw [hm]; exact HBD9.out.more (Nat.le_refl _) (below_drewN' (Below.refl _ _) mm)
                    have t1 := hB.top p hlt2
                    have t2 := grid_tops (HG.out wr hbw) hlt2
                    have r1 : RowAt wr (A1 p) n0 (D p) := hB.rowAt hlt2
                    have r2 : RowAt wr (A p) (L p) (f p) := (HG.out wr hbw).2.1 p hlt2
                    rw [hLp] at t2 r2
                    have v1 := conv_row wr _ _ (C1 p) (D p) r1
                    have v2 := conv_row wr _ _ (C p) (f p) r2
                    have v1d := conv_row wr.drew _ _ (C1 p) (D p) r1
                    have v2d := conv_row wr.drew _ _ (C p) (f p) r2
                    have hstr : strOfNums (nums (f p) n0) = strOfNums (nums (D p) n0) := (str_congr (fun j _ => hDp j)).symm
                    rw [hstr] at v2 v2d
                    generalize strOfNums (nums (D p) n0) = S at v1 v2 v1d v2d
                    clear r1 r2 hB hDp hstr hgp hm1 hm2 HM hh hbw hLp
                    go_wp2_with fail
                    go_region
                    go_wp2_with fail
                    go_roundw
                    case rel => exact ⟨p + 1, nn + 1, by omega, by omega, by go_num, by go_num, HN, drewN_more (n := 1) HW.out⟩
                    case measure => simp [intOf]; omega
                  · have hnni : ¬ ((nn : Int) < (k : Int)) := by omega
                    have HN : Hid (nn = min (cnt h (p + 1)) k) := cnt_min' HM.out hh hnn
                    clear HM hh hbw
                    go_wp2_with fail
                    go_roundw
                    case rel => exact ⟨p + 1, nn, by omega, hnk, rfl, by go_num, HN, HW⟩
                    case measure => simp [intOf]; omega
              · obtain rfl : p = r := by omega
                have HFW : Hid (Below w.heap.size w wr) := HFIN.out wr hbw
                clear hbw HM HW
                go_wp2_with (go_at_call 9; refine (awake3 _).mono ?_; rintro e x6 ⟨rfl, hb6⟩)
                go_ret
                exact ⟨rfl, HFW.out.trans (hb6.mono HFW.out.size)⟩

theorem walk (a0 a1 K M : Int) (a : Option Addr) (len cap : Nat) (y : Option Addr) (q c : Nat) (A : Nat → Option Addr) (L C : Nat → Nat) (f : Nat → Nat → Nat) (h : Nat → Bool) (w : World) (w0 : (Lit.int .i64 a0).wf = true) (w1 : (Lit.int .i64 a1).wf = true) (g : LostIn w K M a len cap y q c A L C f h) :
    Calls Try.prog 6 #[.int .i64 a0, .int .i64 a1, .agg #[.int .i64 K, .int .i64 M, .slice a len cap, .slice y q c]] w fun e w' => e = .returned (.bool true) ∧ Below w.heap.size w w' := by
  by_cases hx : CauchyN a0 a1 ∧ len = q ∧ (len : Int) = a0 + a1
  · obtain ⟨hc, hq, hl⟩ := hx
    obtain ⟨k, m, rfl, rfl, h1, h2, h3⟩ := code_nat hc
    subst hq
    obtain ⟨b, o, rfl, _⟩ := grid_some g.data.grid (by omega)
    have gb := g.have_
    rcases gb.row with h0 | ⟨hb, ho, rfl, _⟩
    · omega
    · exact good k m b o hb ho len cap c K M A L C f h w h1 h2 h3 (by omega) g.data gb
  · exact shape a0 a1 K M a len cap y q c A L C f w g.data g.have_.small hx

set_option maxRecDepth 100000 in
theorem lifted (os : Os) (started : os.Started) (H : Type) (enc : TypeId × Value → H) :
    ReturnsInHanded {} Try.checked os 6 .any (Rows.codeRefusesSpec.pre6 enc Try.prog Try.f6 Rows.codeRefusesRow.domain false) (Rows.codeRefusesSpec.post enc Try.prog Try.f6 false true false false) := by
  refine returnsInHanded_of_change_sized (C := Try.checked) own started (by kernel_rfl) Try.func6
    (ChangeSpec.witness6 (enc := enc) (C := Try.checked) false ⟨#[], #[.int .i64 0, .int .i64 0, .agg #[.int .i64 0, .int .i64 0, .slice none 0 0, .slice none 0 0]], []⟩ 8 (by kernel_rfl) (by kernel_rfl) (by kernel_rfl) (by kernel_rfl)) ?_
  intro W base args ds gs before hval0 hW hcnd hsz0 _
  have hsz : (DataW.weightsEach Try.prog (Try.f6.params.toList ++ Rows.codeRefusesSpec.plain.varTypes Try.prog) (ds ++ gs)).all (· ≤ reachBytes) = true := hsz0
  have hval : ∀ (j : Nat) t v, Try.f6.params[j]? = some t → args[j]? = some v → Value.okWide Try.prog W .any base t v := hval0
  have hW' := hW
  obtain ⟨p, q, hA0, hV, rfl, hfz, hnd⟩ := hW
  have hA : DataW.TrodAll enc Try.prog W 0 (fun _ => true) true Try.f6.params.toList args.toList ds p := hA0
  rw [Try.params6] at hA hval hsz
  obtain ⟨v0, vs0, d0, ds0, p0, q0, hargs, rfl, rfl, h0, r0⟩ := trodAll_cons hA
  obtain ⟨v1, vs1, d1, ds1, p1, q1, rfl, rfl, rfl, h1, r1⟩ := trodAll_cons r0
  obtain ⟨v2, vs2, d2, ds2, p2, q2, rfl, rfl, rfl, h2, r2⟩ := trodAll_cons r1
  obtain ⟨rfl, rfl, rfl⟩ := trodAll_nil r2
  obtain rfl : args = #[v0, v1, v2] := by cases args; simp_all
  obtain ⟨rfl, rfl⟩ := trodVars_none hV
  obtain ⟨a0, rfl, rfl, rfl, w0⟩ := open_int Try.underlying3 (hval 0 3 v0 rfl rfl) h0
  obtain ⟨a1, rfl, rfl, rfl, w1⟩ := open_int Try.underlying3 (hval 1 3 v1 rfl rfl) h1
  have k2 := h2
  have lt2 : ∀ x ∈ p2, x.block < W.heap.size := by obtain ⟨m, hm⟩ := k2; exact DataW.trod_lt m _ _ _ hm
  have s2 : ∀ x ∈ d2.weights Try.prog 33, x ≤ reachBytes := fun x hx => by
    have := List.all_eq_true.1 hsz x (DataW.weights_mem_each (j := 2) rfl rfl x hx)
    simpa using this
  obtain ⟨K2, M2, a2, len2, cap2, y2, q2, c2, A2, L2, C2, f2, g2, rfl, w2⟩ := lost_in (okWide_struct Try.underlying33 (hval 2 33 v2 rfl rfl)) h2 s2
  clear hA0 hval0
  refine (walk a0 a1 K2 M2 a2 len2 cap2 y2 q2 c2 A2 L2 C2 f2 g2 W w0 w1 w2).mono fun e W' ⟨he, bel⟩ => ?_
  subst he
  exact ⟨_, rfl, _, _, _, [], _, [], hW', trodAll_mk1 (shut_bool Try.underlying4 _), (trodAll_cons_mk (shut_int Try.underlying3 w0) (trodAll_cons_mk (shut_int Try.underlying3 w1) (trodAll_cons_mk (Below.trod laidOut (by kernel_rfl) (of_decide_eq_true (by kernel_rfl)) k2 bel lt2) trodAll_mk0))), rfl, bel.frame _, fun h => by cases h⟩

theorem over : Rows.codeRefusesRow.holds Try.pinned (OpenSpec.ofChange Rows.codeRefusesSpec) :=
  OpenClaim.holds_of_wide 6 Try.f6 rfl rfl rfl rfl rfl rfl rfl ⟨rfl, rfl, rfl, rfl, rfl⟩ rfl rfl rfl rfl rfl (by kernel_rfl) Try.func6 (by kernel_rfl)
    (of_decide_eq_true (by kernel_rfl)) (by unfold Func.isWrapper; first | (rw [if_pos (by decide +kernel)]; kernel_rfl) | (rw [if_neg (by decide +kernel)]; exact ⟨rfl, rfl⟩))
    (fun os started H enc _ => lifted os started H enc)

theorem proved : Rows.CodeRefusesSaid := over
#print axioms proved
end Go.Proofs.Ytnnnefbnpfahcaa.codeRefuses

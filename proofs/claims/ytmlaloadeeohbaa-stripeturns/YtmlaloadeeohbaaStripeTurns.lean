/-
  Where a byte of an object is turned, its data shard and the parity turn by what layer 3 says is added, and nothing else: 'mooringlaw20.StripeTurns' returns true and leaves its arguments as they were.
  Conditions: none.
-/
import Derived.Test.YtmlaloadeeohbaaByHk
import Derived.Test.YtmlaloadeeohbaaRows
import Derived.WalkKit
import Derived.ProofKit
import Derived.OpenShut
import Derived.SizedLaws
import Derived.ShutString
import Derived.ChangeOld
import Derived.Below
import Derived.Test.YtmlaloadeeohbaaJSpPlain
import Derived.Deep.Cut
namespace Go.Proofs.Ytmlaloadeeohbaa.stripeTurns
open Go.ChangeShapes Go.WideShapes Go.ChangeAt Go.RowKit
open Gf
set_option linter.unusedSimpArgs false
set_option maxRecDepth 100000
set_option linter.unusedVariables false

theorem own : ownKnob Try.prog.godebug = none := by kernel_rfl
theorem laidOut : laidOutB Try.prog = true := by kernel_rfl

set_option maxHeartbeats 400000 in
set_option maxRecDepth 100000 in
theorem bad (K M z at_ b : Int) (a : Option Addr) (len cap : Nat) (y : Option Addr) (q c : Nat) (w : World) (hz : z ≠ 0)
    (hr : ∀ v : World, Calls Try.prog 13 #[.int .i64 K, .int .i64 M, .slice a len cap] v fun e w' => e = .returned (.tuple #[.slice none 0 0, .int .i64 z]) ∧ w' = v) :
    Calls Try.prog 7 #[.agg #[.int .i64 K, .int .i64 M, .slice a len cap, .slice y q c], .int .i64 at_, .int .u8 b] w fun e w' => e = .returned (.bool true) ∧ Below w.heap.size w w' := by
  have g : (z != 0) = true := by simp [hz]
  clear hz
  go_enter Try.func7, Try.ntmps7
  go_wp2_with (first
    | (go_at_call 13; refine (hr _).mono ?_; rintro e x1 ⟨rfl, rfl⟩; clear hr)
    | (go_at_call 11; refine (awake_any _).mono ?_; rintro e x6 ⟨rfl, hb6⟩))
  go_ret
  exact ⟨rfl, ((Below.refl w.heap.size w).alloc (Nat.le_refl _) _).trans (hb6.mono (by simp))⟩

/- Out of the object. -/
set_option maxHeartbeats 400000 in
set_option maxRecDepth 100000 in
theorem out (k m n : Nat) (at_ b : Int) (a : Option Addr) (cap : Nat) (y : Option Addr) (q c : Nat) (f : Nat → Nat) (w : World) (h1 : 1 ≤ k) (h2 : 1 ≤ m) (h3 : k + m ≤ 255) (hn : n ≤ 4096) (hf : ∀ i, f i < 256) (hx : RowAt w a n f) (ho : at_ < 0 ∨ (n : Int) ≤ at_) :
    Calls Try.prog 7 #[.agg #[.int .i64 k, .int .i64 m, .slice a n cap, .slice y q c], .int .i64 at_, .int .u8 b] w fun e w' => e = .returned (.bool true) ∧ Below w.heap.size w w' := by
  obtain ⟨wb, hwb, hbb, hbs, hF⟩ := box4 w (.int .i64 k) (.int .i64 m) (.slice a n cap) (.slice y q c) 35
  have hr := rsplit_yes k m n cap a f wb h1 h2 h3 hn hf (hx.below hbb)
  have hl := fun v => slight_any k m v
  obtain ⟨s, hs⟩ : ∃ s, s = k + m := ⟨_, rfl⟩
  rw [← hs] at hr
  generalize encF k m (dealF k n f) = E at hr
  generalize 16 * stN k n = L at hr
  rw [hwb] at hr hF
  have HB := hid hbb
  rw [hwb] at HB
  have hc : at_ < 0 ∨ (¬ (at_ < 0) ∧ (n : Int) ≤ at_) := by omega
  clear h1 h2 h3 hx hf hwb hbb hbs hs ho
  rcases hc with hc | ⟨hc, hc2⟩
  · go_enter Try.func7, Try.ntmps7
    go_wp2_with (first
      | (go_at_call 13; refine hr.mono ?_; rintro e x1 ⟨hb1, B1, c1, G1, C1, rfl, ho1⟩; clear hr; obtain ⟨b0, b1, b2, _⟩ := hF x1 hb1; have HW := hid (HB.out.trans (hb1.mono HB.out.size)); clear hF hb1 ho1)
      | (go_at_call 10; refine (hl _).mono ?_; rintro e x2 ⟨rfl, t, rfl⟩; clear hl)
      | (go_at_call 11; refine (awake_any _).mono ?_; rintro e x6 ⟨rfl, hb6⟩))
    all_goals (go_ret; exact ⟨rfl, HW.out.trans (hb6.mono HW.out.size)⟩)
  · go_enter Try.func7, Try.ntmps7
    go_wp2_with (first
      | (go_at_call 13; refine hr.mono ?_; rintro e x1 ⟨hb1, B1, c1, G1, C1, rfl, ho1⟩; clear hr; obtain ⟨b0, b1, b2, _⟩ := hF x1 hb1; have HW := hid (HB.out.trans (hb1.mono HB.out.size)); clear hF hb1 ho1)
      | (go_at_call 10; refine (hl _).mono ?_; rintro e x2 ⟨rfl, t, rfl⟩; clear hl)
      | (go_at_call 11; refine (awake_any _).mono ?_; rintro e x6 ⟨rfl, hb6⟩))
    all_goals (go_ret; exact ⟨rfl, HW.out.trans (hb6.mono HW.out.size)⟩)

set_option maxHeartbeats 1000000 in
set_option maxRecDepth 100000 in
theorem good (k m n p b : Nat) (ad : Addr) (cap : Nat) (y : Option Addr) (q c : Nat) (f : Nat → Nat) (w : World) (h1 : 1 ≤ k) (h2 : 1 ≤ m) (h3 : k + m ≤ 255) (hn : n ≤ 4096) (hf : ∀ i, f i < 256) (hx : RowAt w (some ad) n f) (hp : p < n) (hb : b < 256) :
    Calls Try.prog 7 #[.agg #[.int .i64 k, .int .i64 m, .slice (some ad) n cap, .slice y q c], .int .i64 p, .int .u8 b] w fun e w' => e = .returned (.bool true) ∧ Below w.heap.size w w' := by
  obtain ⟨wb, hwb, hbb, hbs, hF⟩ := box4 w (.int .i64 k) (.int .i64 m) (.slice (some ad) n cap) (.slice y q c) 35
  have hr := rsplit_yes k m n cap (some ad) f wb h1 h2 h3 hn hf (hx.below hbb)
  have hl := fun v => slight_any k m v
  have hcp := fun (v : World) (hv : Below w.heap.size w v) => copy_own v ad n cap f (hx.below hv) (by omega)
  obtain ⟨vb, hvb⟩ : ∃ vb, vb = f p ^^^ b := ⟨_, rfl⟩
  have hvb5 : vb < 256 := by rw [hvb]; exact xor_lt _ _ (hf p) hb
  have hxo := u8_xor_nat (f p) b (hf p) hb
  rw [← hvb] at hxo
  have hsp : ∀ (v : World) g cy, n ≤ cy → RowAt v (some ⟨g, 0, none⟩) n (turnB f p vb) → Calls Try.prog 12 #[.int .i64 k, .int .i64 m, .slice (some ⟨g, 0, none⟩) n cy] v _ := fun v g cy hcy hv => split_yes k m n cy (some ⟨g, 0, none⟩) (turnB f p vb) v h1 h2 h3 hn hcy (turnB_lt hf hvb5) hv
  obtain ⟨E, hE⟩ : ∃ E, E = encF k m (dealF k n f) := ⟨_, rfl⟩
  obtain ⟨E', hE'⟩ : ∃ E', E' = encF k m (dealF k n (turnB f p vb)) := ⟨_, rfl⟩
  obtain ⟨i, hi⟩ : ∃ i, i = p / 16 % k := ⟨_, rfl⟩
  have hik : i < k := by rw [hi]; exact Nat.mod_lt _ (by omega)
  have hE'l : ∀ r j, E' r j < 256 := by rw [hE']; exact encF_lt (dealF_lt (turnB_lt hf hvb5))
  have happ : ∀ (v : World) B0 cc G C (yy : Addr) yc, Mat v B0 0 (k + m) (16 * stN k n) G (fun _ => 0) C E → RowAt v (some yy) (16 * stN k n) (E' i) → Calls Try.prog 19 #[.int .i64 k, .int .i64 m, .slice (some ⟨B0, 0, none⟩) (k + m) cc, .int .i64 i, .slice (some yy) (16 * stN k n) yc] v _ := fun v B0 cc G C yy yc hM hY =>
    apply_yes k m (16 * stN k n) B0 cc i (some yy) yc G C E (E' i) v h1 h2 h3 hik (by have := stN_le (n := n) h1; omega) hM hY (hE'l i) (fun h => by cases h)
  have hL0 : 0 < 16 * stN k n := by
    have := stN_all' (n := n) h1
    rcases Nat.eq_zero_or_pos (16 * stN k n) with e | e
    · rw [e] at this; omega
    · exact e
  obtain ⟨s, hs⟩ : ∃ s, s = k + m := ⟨_, rfl⟩
  have hT : ∀ r, r < s → ∀ j, applyF k m i E (E' i) r j = E' r j := fun r hr j => by
    rw [hE, hE', hi]
    exact turned_stripe (L := 0) hf hvb5 h1 hs r j hr
  have hsm : ∀ (w1 w2 v v2 : World) A1 C1 A2 C2, Build w1 v2 s s A1 (fun _ => 16 * stN k n) C1 (applyF k m i E (E' i)) → Build w2 v s s A2 (fun _ => 16 * stN k n) C2 E' → Below v.heap.size v v2 →
      Calls Try.prog 14 #[.slice (some ⟨w1.heap.size, 0, none⟩) s s, .slice (some ⟨w2.heap.size, 0, none⟩) s s] v2 fun e w' => e = .returned (.bool true) ∧ ∃ q, w' = v2.drewN q := fun w1 w2 v v2 A1 C1 A2 C2 hB1 hB2 hv =>
    same_grid _ _ s s s s true A1 A2 _ _ C1 C2 _ _ v2 (by omega) hB1.grid (hB2.grid.below hv) (fun _ => rfl) (fun q => absurd ⟨rfl, fun r hr => ⟨rfl, fun j _ => hT r hr j⟩⟩ q)
  rw [← hE, ← hs] at hr
  simp only [← hE', ← hs] at hsp
  simp only [← hs] at happ
  generalize 16 * stN k n = L at hr hsp happ hsm hL0
  obtain ⟨p1, hp1⟩ : ∃ p1, p1 = p / 16 := ⟨_, rfl⟩
  have e1 : (p : Int).tdiv 16 = (p1 : Int) := by rw [Int.tdiv_eq_ediv_of_nonneg (by omega), hp1]; exact rfl
  have e1' : (p : Int) / 16 = (p1 : Int) := by rw [hp1]; exact rfl
  have e2 : (p1 : Int).tmod (k : Int) = (i : Int) := by rw [Int.tmod_eq_emod_of_nonneg (by omega), hi, hp1]; exact rfl
  have hk0 : (k : Int) ≠ 0 := by omega
  have hk00 : ¬ (k = 0) := by omega
  have hp15 : p1 ≤ 4096 := by omega
  have hpi : ¬ ((p : Int) < 0) := by omega
  have hpn : ¬ ((n : Int) ≤ (p : Int)) := by omega
  have hpn2 : (p : Int) < (n : Int) := by omega
  have gss : ((s : Int) != (s : Int)) = false := by simp
  have his : i < s := by omega
  have hisi : (i : Int) < (s : Int) := by omega
  have HV := hid hvb
  clear hvb
  have HP := hid (show p < n ∧ 0 < L ∧ i < s from ⟨hp, hL0, his⟩)
  have HF := hid hF
  have HB := hid hbb
  have HS := hid hbs
  clear h1 h2 h3 hx hf hbb hs hF hbs hi hE hE' hik hT hp1 hE'l
  go_enter Try.func7, Try.ntmps7
  rw [hwb] at hr
  go_upto_region 4 with (first
    | (go_at_call 13; refine hr.mono ?_; rintro e x1 ⟨hb1, B1, c1, G1, C1, rfl, ho1⟩; clear hr; rw [← hwb] at hb1 ho1; obtain ⟨b0, b1, b2, _⟩ := HF.out x1 hb1; have HB1 := hid hb1; have HO1 := hid ho1; have HW := hid (HB.out.trans (hb1.mono HB.out.size)); clear hb1 ho1)
    | (go_at_call 10; refine (hl _).mono ?_; rintro e x2 ⟨rfl, t, rfl⟩; clear hl)
    | (go_at_call 11; refine (awake_any _).mono ?_; rintro e x6 ⟨rfl, hb6⟩))
  · obtain ⟨g, cy, x3, hrun, hb3, hg1, hg2, hcy, hfz, hcl⟩ := hcp x2 HW.out
    have hB13 : Below wb.heap.size wb x3 := HB1.out.trans (hb3.mono HB1.out.size)
    have b2a : ∀ o, (x2.alloc o).cell? ⟨w.heap.size, 2, none⟩ = some (.slice (some ad) n cap) := fun o => (HF.out _ (HB1.out.alloc HB1.out.size o)).2.2.1
    have k1 := hcl p hp
    have k2 := hfz p
    have hle : wb.heap.size ≤ g := Nat.le_trans HB1.out.size hg1
    have t4 : Touch g x3 (x3.setCell ⟨g, p, none⟩ (.int .u8 (vb : Int))) := (Touch.refl _ x3).setCell (p := ⟨g, p, none⟩) rfl _
    have hB14 : Below wb.heap.size wb (x3.setCell ⟨g, p, none⟩ (.int .u8 (vb : Int))) := hB13.trans (t4.below hle)
    have hrow4 : RowAt (x3.setCell ⟨g, p, none⟩ (.int .u8 (vb : Int))) (some ⟨g, 0, none⟩) n (turnB f p vb) := .inr ⟨g, 0, rfl, by rw [t4.size]; exact hg2, fun j hj => by
      rw [Nat.zero_add]
      unfold turnB
      by_cases e : j = p
      · rw [if_pos e, e]
        simpa using World.cell?_setCell_same _ _ _ (hcl p hp)
      · rw [if_neg e, World.cell?_setCell_other _ _ _ _ (fun h => e (by injection h with _ h2 _; exact h2.symm))]
        exact hcl j hj⟩
    have hs4 := hsp _ g cy hcy hrow4
    obtain ⟨d0, d1, _, _⟩ := HF.out _ hB14
    have H4 := hid (show Below wb.heap.size wb (x3.setCell ⟨g, p, none⟩ (.int .u8 (vb : Int))) ∧ Below x2.heap.size x2 (x3.setCell ⟨g, p, none⟩ (.int .u8 (vb : Int))) from ⟨hB14, hb3.trans (t4.below hg1)⟩)
    clear hcp hsp hb3 hg1 hg2 hfz hcl hB13 hB14 t4 hrow4 hle hcy b2 b0 b1
    go_upto_region 10 with (first
      | (at_builtin; refine wpList_append_run rfl _ _ 22 rfl _ _ rfl rfl hrun ?_; clear hrun b2a)
      | (go_at_call 12; refine hs4.mono ?_; rintro e x5 ⟨w1, A1, C2, hb5, rfl, hB5⟩; clear hs4 k1 k2 d0 d1; have hb45 := hb5.trans (hB5.below.mono hb5.size); obtain ⟨f0, f1, _, _⟩ := HF.out x5 (H4.out.1.trans (hb45.mono H4.out.1.size)); have H5 := hid (show Below wb.heap.size wb x5 ∧ Below x2.heap.size x2 x5 from ⟨H4.out.1.trans (hb45.mono H4.out.1.size), H4.out.2.trans (hb45.mono H4.out.2.size)⟩); have HB5 := hid hB5; clear hb5 hB5 hb45))
    have hrow := HB5.out.row i HP.out.2.2
    rcases hrow with h0 | ⟨qb, qo, hA, _, hqb, hqc⟩
    · exact absurd h0 (by have := HP.out.2.1; show ¬ (L = 0); omega)
    · have hdr : Below x5.heap.size x5 x5.drew := (Below.refl _ _).drew
      have c3 := HB5.out.top i HP.out.2.2
      rw [hA] at c3
      have ha6 := happ x5.drew B1 c1 G1 C1 ⟨qb, qo, none⟩ (C2 i) (HO1.out.mat.below (Nat.le_refl _) (H5.out.2.trans (hdr.mono H5.out.2.size))) (.inr ⟨qb, qo, rfl, hqb, hqc⟩)
      have HB5d : Hid (Build w1 x5.drew s s A1 (fun _ => L) C2 E') := HB5.out.more (Nat.le_refl _) hdr
      have hkeep : ∀ v, Below x5.heap.size x5.drew v → v.cell? ⟨w.heap.size, 0, none⟩ = some (.int .i64 (k : Int)) ∧ v.cell? ⟨w.heap.size, 1, none⟩ = some (.int .i64 (m : Int)) ∧ v.cell? ⟨w1.heap.size, i, none⟩ = some (.slice (some ⟨qb, qo, none⟩) L (C2 i)) := fun v hv => by
        have hv' := hdr.trans hv
        obtain ⟨q0, q1, _, _⟩ := HF.out v (H5.out.1.trans (hv'.mono H5.out.1.size))
        exact ⟨q0, q1, (hv'.cell (by exact HB5.out.hb)).trans c3⟩
      have hS := hkeep x5.drew (Below.refl _ _)
      clear happ hA hqb hqc c3 f0 f1 hdr HV
      refine wp_region_held_drew (S := fun v => v.cell? ⟨w.heap.size, 0, none⟩ = some (.int .i64 (k : Int)) ∧ v.cell? ⟨w.heap.size, 1, none⟩ = some (.int .i64 (m : Int)) ∧ v.cell? ⟨w1.heap.size, i, none⟩ = some (.slice (some ⟨qb, qo, none⟩) L (C2 i))) (by kernel_rfl) hS (fun hHeld => ?_)
      refine By.hk 0 ?_
      refine By.hk 1 ?_
      refine By.hk 2 ?_
      refine By.hk 3 ?_
      refine By.hk 4 ?_
      refine By.hk 5 ?_
      refine By.hk 6 ?_
      refine By.hk 7 ?_
      refine By.hk 8 ?_
      refine By.hk 9 ?_
      refine wpAnyH_ready (rs := [10]) (by kernel_rfl) (by simp) ?_
      refine AllReadyH.cons rfl (fun K hK => ?_) AllReadyH.nil
      go_simp
      refine ha6.mono ?_
      rintro e x6 ⟨w2, A2, C3, hb6, rfl, hB6⟩
      have hb56 := hb6.trans (hB6.below.mono hb6.size)
      have hs6 := hsm w2 w1 x5.drew x6 A2 C3 A1 C2 hB6 HB5d.out hb56
      have HB6 := hid (show Below w.heap.size w x6 from HW.out.trans ((H5.out.2.trans (((Below.refl x5.heap.size x5).drew.trans hb56).mono H5.out.2.size)).mono HW.out.size))
      clear ha6 hsm
      refine hK.out _ _ (hkeep x6 hb56) (fun hHeld => ?_)
      clear hK K
      clear hb6 hb56 hB6 hS hkeep
      refine By.hk 11 ?_
      refine By.hk 12 ?_
      refine By.hk 13 ?_
      refine By.hk 14 ?_
      refine By.hk 15 ?_
      refine wpAnyH_done (by kernel_rfl) ?_ _
      clear hHeld
      go_wp2_with (first
        | (go_at_call 14; refine hs6.mono ?_; rintro e x7 ⟨rfl, q7, rfl⟩; clear hs6)
        | (go_at_call 11; refine (awake_any _).mono ?_; rintro e x8 ⟨rfl, hb8⟩))
      go_ret
      exact ⟨rfl, HB6.out.trans (below_of_drewN (hb8.mono (by exact HB6.out.size)))⟩
  · go_ret
    exact ⟨rfl, HW.out.trans (hb6.mono HW.out.size)⟩
  · go_ret
    exact ⟨rfl, HW.out.trans (hb6.mono HW.out.size)⟩

theorem walk (K M : Int) (a : Option Addr) (len cap : Nat) (y : Option Addr) (q c : Nat) (f : Nat → Nat) (h : Nat → Bool) (at_ b : Int) (w : World) (g : SLostIn w K M a len cap y q c f h) (hat : (Lit.int .i64 at_).wf = true) (hb : (Lit.int .u8 b).wf = true) :
    Calls Try.prog 7 #[.agg #[.int .i64 K, .int .i64 M, .slice a len cap, .slice y q c], .int .i64 at_, .int .u8 b] w fun e w' => e = .returned (.bool true) ∧ Below w.heap.size w w' := by
  by_cases hc : CauchyN K M
  · obtain ⟨k, m, rfl, rfl, h1, h2, h3⟩ := code_nat hc
    by_cases hn : 4096 < len
    · exact bad k m 3 at_ b a len cap y q c w (by omega) (fun v => rsplit_long k m a len cap v h1 h2 h3 hn)
    · by_cases ho : at_ < 0 ∨ (len : Int) ≤ at_
      · exact out k m len at_ b a cap y q c f w h1 h2 h3 (by omega) g.data.lt g.data.row ho
      · obtain ⟨p, rfl⟩ : ∃ p : Nat, at_ = p := ⟨at_.toNat, by omega⟩
        have bb := bounds_u8 hb
        obtain ⟨b0, rfl⟩ : ∃ b0 : Nat, b = b0 := ⟨b.toNat, by omega⟩
        rcases g.data.row with h0 | ⟨x, o, rfl, _, _⟩
        · omega
        · exact good k m len p b0 ⟨x, o, none⟩ cap y q c f w h1 h2 h3 (by omega) g.data.lt g.data.row (by omega) (by omega)
  · exact bad K M 1 at_ b a len cap y q c w (by omega) (fun v => rsplit_code K M a len cap v hc)

set_option maxRecDepth 100000 in
theorem lifted (os : Os) (started : os.Started) (H : Type) (enc : TypeId × Value → H) :
    ReturnsInHanded {} Try.checked os 7 .any (Rows.stripeTurnsSpec.pre6 enc Try.prog Try.f7 Rows.stripeTurnsRow.domain false) (Rows.stripeTurnsSpec.post enc Try.prog Try.f7 false true false false) := by
  refine returnsInHanded_of_change_sized (C := Try.checked) own started (by kernel_rfl) Try.func7
    (ChangeSpec.witness6 (enc := enc) (C := Try.checked) false ⟨#[], #[.agg #[.int .i64 0, .int .i64 0, .slice none 0 0, .slice none 0 0], .int .i64 0, .int .u8 0], []⟩ 8 (by kernel_rfl) (by kernel_rfl) (by kernel_rfl) (by kernel_rfl)) ?_
  intro W base args ds gs before hval0 hW hcnd hsz0 _
  have hsz : (DataW.weightsEach Try.prog (Try.f7.params.toList ++ Rows.stripeTurnsSpec.plain.varTypes Try.prog) (ds ++ gs)).all (· ≤ reachBytes) = true := hsz0
  have hval : ∀ (j : Nat) t v, Try.f7.params[j]? = some t → args[j]? = some v → Value.okWide Try.prog W .any base t v := hval0
  have hW' := hW
  obtain ⟨p, q, hA0, hV, rfl, hfz, hnd⟩ := hW
  have hA : DataW.TrodAll enc Try.prog W 0 (fun _ => true) true Try.f7.params.toList args.toList ds p := hA0
  rw [Try.params7] at hA hval hsz
  obtain ⟨v0, vs0, d0, ds0, p0, q0, hargs, rfl, rfl, h0, r0⟩ := trodAll_cons hA
  obtain ⟨v1, vs1, d1, ds1, p1, q1, rfl, rfl, rfl, h1, r1⟩ := trodAll_cons r0
  obtain ⟨v2, vs2, d2, ds2, p2, q2, rfl, rfl, rfl, h2, r2⟩ := trodAll_cons r1
  obtain ⟨rfl, rfl, rfl⟩ := trodAll_nil r2
  obtain rfl : args = #[v0, v1, v2] := by cases args; simp_all
  obtain ⟨rfl, rfl⟩ := trodVars_none hV
  have k0 := h0
  have lt0 : ∀ x ∈ p0, x.block < W.heap.size := by obtain ⟨m, hm⟩ := k0; exact DataW.trod_lt m _ _ _ hm
  have s0 : ∀ x ∈ d0.weights Try.prog 35, x ≤ reachBytes := fun x hx => by
    have := List.all_eq_true.1 hsz x (DataW.weights_mem_each (j := 0) rfl rfl x hx)
    simpa using this
  obtain ⟨K0, M0, a0, len0, cap0, y0, q0, c0, f0, g0, rfl, w0⟩ := slost_in (okWide_struct Try.underlying35 (hval 0 35 v0 rfl rfl)) h0 s0
  obtain ⟨a1, rfl, rfl, rfl, w1⟩ := open_int Try.underlying3 (hval 1 3 v1 rfl rfl) h1
  obtain ⟨a2, rfl, rfl, rfl, w2⟩ := open_int Try.underlying5 (hval 2 5 v2 rfl rfl) h2
  clear hA0 hval0
  refine (walk K0 M0 a0 len0 cap0 y0 q0 c0 f0 g0 a1 a2 W w0 w1 w2).mono fun e W' ⟨he, bel⟩ => ?_
  subst he
  exact ⟨_, rfl, _, _, _, [], _, [], hW', trodAll_mk1 (shut_bool Try.underlying4 _), (trodAll_cons_mk (Below.trod laidOut (by kernel_rfl) (of_decide_eq_true (by kernel_rfl)) k0 bel lt0) (trodAll_cons_mk (shut_int Try.underlying3 w1) (trodAll_cons_mk (shut_int Try.underlying5 w2) trodAll_mk0))), rfl, bel.frame _, fun h => by cases h⟩

theorem over : Rows.stripeTurnsRow.holds Try.pinned (OpenSpec.ofChange Rows.stripeTurnsSpec) :=
  OpenClaim.holds_of_wide 7 Try.f7 rfl rfl rfl rfl rfl rfl rfl ⟨rfl, rfl, rfl, rfl, rfl⟩ rfl rfl rfl rfl rfl (by kernel_rfl) Try.func7 (by kernel_rfl)
    (of_decide_eq_true (by kernel_rfl)) (by unfold Func.isWrapper; first | (rw [if_pos (by decide +kernel)]; kernel_rfl) | (rw [if_neg (by decide +kernel)]; exact ⟨rfl, rfl⟩))
    (fun os started H enc _ => lifted os started H enc)

theorem proved : Rows.StripeTurnsSaid := over
#print axioms proved
end Go.Proofs.Ytmlaloadeeohbaa.stripeTurns

/-
  Whatever shards of a codeword are lost, as long as K are left package code tells the codeword, else that there is none: 'mooringlaw03.CodeDecodes' returns true and leaves its arguments as they were.
  Conditions: none.
-/
import Derived.Test.YtnnnefbnpfahcaaRows
import Derived.WalkKit
import Derived.ProofKit
import Derived.OpenShut
import Derived.SizedLaws
import Derived.ShutString
import Derived.ChangeOld
import Derived.Below
import Derived.Test.YtnnnefbnpfahcaaCdLaw
import Derived.Test.YtnnnefbnpfahcaaCdBools
import Derived.Deep.QuietTactic
import Derived.BigQuiet
namespace Go.Proofs.Ytnnnefbnpfahcaa.codeDecodes
open Go.ChangeShapes Go.WideShapes Go.ChangeAt Go.RowKit
open Gf
set_option linter.unusedVariables false

theorem own : ownKnob Try.prog.godebug = none := by kernel_rfl
theorem laidOut : laidOutB Try.prog = true := by kernel_rfl

set_option maxHeartbeats 2000000 in
set_option maxRecDepth 100000 in
theorem bad (K M : Int) (a : Option Addr) (len cap : Nat) (y : Option Addr) (q c : Nat) (A : Nat → Option Addr) (L C : Nat → Nat) (f : Nat → Nat → Nat) (w : World) (g : GridIn w a len cap A L C f) (hx : ¬ (CauchyN K M ∧ (len : Int) = K ∧ EqN len L)) :
    Calls Try.prog 5 #[.agg #[.int .i64 K, .int .i64 M, .slice a len cap, .slice y q c]] w fun e w' => e = .returned (.bool true) ∧ Below w.heap.size w w' := by
  have hs := g.small
  have hr : ∀ v, Below w.heap.size w v → Calls Try.prog 11 #[.int .i64 K, .int .i64 M, .slice a len cap] v fun e w' => e = .returned (.tuple #[.slice none 0 0, .int .i64 1]) ∧ ∃ m, w' = v.drewN m := fun v hv => rencode_no K M a len cap A L C v (by omega) (g.grid.1.below (Nat.le_refl _) hv) hx
  clear g hx
  go_enter Try.func5, Try.ntmps5
  go_wp2_with (first
    | (go_at_call 11; refine (hr _ (by exact (Below.refl _ _).alloc (Nat.le_refl _) _)).mono ?_; rintro e x2 ⟨rfl, q2, rfl⟩; clear hr)
    | (go_at_call 9; refine (awake3 _).mono ?_; rintro e x6 ⟨rfl, hb6⟩))
  go_ret
  exact ⟨rfl, ((Below.refl w.heap.size w).alloc (Nat.le_refl _) _).trans (below_of_drewN (hb6.mono (by simp)))⟩

def had (h : Nat → Bool) (q : Nat) : Nat → Bool := fun i => if i < q then h i else true
def lostL (h : Nat → Bool) (n r : Nat) : Nat → Nat := fun t => if t < r ∧ h t = false then 3 else n
def lostF (h : Nat → Bool) (E : Nat → Nat → Nat) (r : Nat) : Nat → Nat → Nat := fun t j => if t < r ∧ h t = false then (if j < 3 then j + 1 else 0) else E t j

theorem lostF_lt {h : Nat → Bool} {E : Nat → Nat → Nat} (hE : ∀ r j, E r j < 256) (r t j : Nat) : lostF h E r t j < 256 := by
  unfold lostF
  split
  · split <;> omega
  · exact hE t j

theorem lost_keep {x w : World} {g n s r : Nat} {A : Nat → Option Addr} {C : Nat → Nat} {h : Nat → Bool} {E : Nat → Nat → Nat} (hE : ∀ r j, E r j < 256) (q : Tab x w g s A (lostL h n r) C (lostF h E r)) (hr : h r = true) : Tab x w g s A (lostL h n (r + 1)) C (lostF h E (r + 1)) := by
  have key : ∀ t, (t < r ∧ h t = false) ↔ (t < r + 1 ∧ h t = false) := fun t => by
    constructor
    · rintro ⟨h1, h2⟩; exact ⟨by omega, h2⟩
    · rintro ⟨h1, h2⟩
      refine ⟨?_, h2⟩
      by_cases e : t = r
      · subst e; rw [hr] at h2; cases h2
      · omega
  exact q.congr (fun t _ => by unfold lostL; simp only [key t]) (fun t _ j _ => by unfold lostF; simp only [key t]) (lostF_lt hE (r + 1))

theorem lost_put {x w : World} {g n s r : Nat} {A : Nat → Option Addr} {C : Nat → Nat} {h : Nat → Bool} {E : Nat → Nat → Nat} (hE : ∀ r j, E r j < 256) (q : Tab x w g s A (lostL h n r) C (lostF h E r)) (hrs : r < s) (hr : h r = false) :
    ∃ A' C', Tab x ((w.alloc (.cells #[.int .u8 1, .int .u8 2, .int .u8 3] 5)).setCell ⟨g, r, none⟩ (.slice (some ⟨w.heap.size, 0, none⟩) 3 3)) g s A' (lostL h n (r + 1)) C' (lostF h E (r + 1)) := by
  have hb : Below w.heap.size w (w.alloc (.cells #[.int .u8 1, .int .u8 2, .int .u8 3] 5)) := (Below.refl _ _).alloc (Nat.le_refl _) _
  have r3 := World.rowIs_alloc w #[.int .u8 1, .int .u8 2, .int .u8 3] 5 (fun j => .int .u8 ((if j < 3 then j + 1 else 0 : Nat) : Int)) (fun i hi => by
    have hi2 : i < 3 := by simpa using hi
    match i, hi2 with
    | 0, _ => rfl
    | 1, _ => rfl
    | 2, _ => rfl)
  refine ⟨_, _, ((q.more (Nat.le_refl _) hb).put (r := r) (l := 3) (c := 3) (a := some ⟨w.heap.size, 0, none⟩) (f' := fun j => if j < 3 then j + 1 else 0) hrs (.inr ⟨w.heap.size, 0, rfl, by have := q.hg.2; omega, r3.lt, fun j hj => by rw [Nat.zero_add]; exact r3.cell hj⟩) (fun j => by split <;> omega)).congr (fun t _ => ?_) (fun t _ j _ => ?_) (lostF_lt hE (r + 1))⟩
  · unfold lostL
    by_cases e : t = r
    · subst e; simp [hr]
    · have : (t < r ∧ h t = false) ↔ (t < r + 1 ∧ h t = false) := ⟨fun ⟨h1, h2⟩ => ⟨by omega, h2⟩, fun ⟨h1, h2⟩ => ⟨by omega, h2⟩⟩
      simp only [e, if_false, this]
  · unfold lostF
    by_cases e : t = r
    · subst e; simp [hr]
    · have : (t < r ∧ h t = false) ↔ (t < r + 1 ∧ h t = false) := ⟨fun ⟨h1, h2⟩ => ⟨by omega, h2⟩, fun ⟨h1, h2⟩ => ⟨by omega, h2⟩⟩
      simp only [e, if_false, this]

set_option maxHeartbeats 8000000 in
set_option maxRecDepth 100000 in
theorem good (k m b o n cap q c : Nat) (y : Option Addr) (A : Nat → Option Addr) (C : Nat → Nat) (f : Nat → Nat → Nat) (h : Nat → Bool) (w : World) (h1 : 1 ≤ k) (h2 : 1 ≤ m) (h3 : k + m ≤ 255) (hn : n ≤ 140737488351232) (g : IsGrid w (some ⟨b, o, none⟩) k A (fun _ => n) C f) (gb : BoolsIn w y q c h) :
    Calls Try.prog 5 #[.agg #[.int .i64 k, .int .i64 m, .slice (some ⟨b, o, none⟩) k cap, .slice y q c]] w fun e w' => e = .returned (.bool true) ∧ Below w.heap.size w w' := by
  obtain ⟨wb, hwb⟩ : ∃ wb, wb = w.alloc (.cells #[.int .i64 k, .int .i64 m, .slice (some ⟨b, o, none⟩) k cap, .slice y q c] 33) := ⟨_, rfl⟩
  have hbb : Below w.heap.size w wb := by rw [hwb]; exact (Below.refl _ _).alloc (Nat.le_refl _) _
  have hbs : wb.heap.size = w.heap.size + 1 := by rw [hwb]; simp
  have rb := World.rowIs_alloc w #[.int .i64 k, .int .i64 m, .slice (some ⟨b, o, none⟩) k cap, .slice y q c] 33 (fun i => if i = 0 then .int .i64 k else if i = 1 then .int .i64 m else if i = 2 then .slice (some ⟨b, o, none⟩) k cap else .slice y q c) (fun i hi => by
    have hi2 : i < 4 := by simpa using hi
    match i, hi2 with
    | 0, _ => rfl
    | 1, _ => rfl
    | 2, _ => rfl
    | 3, _ => rfl)
  rw [← hwb] at rb
  have HF : Hid (∀ v, Below wb.heap.size wb v → v.cell? ⟨w.heap.size, 0, none⟩ = some (.int .i64 k) ∧ v.cell? ⟨w.heap.size, 1, none⟩ = some (.int .i64 m) ∧ v.cell? ⟨w.heap.size, 3, none⟩ = some (.slice y q c)) := fun v hv =>
    ⟨(hv.cell (by show w.heap.size < wb.heap.size; omega)).trans (rb.cell (i := 0) (by simp)), (hv.cell (by show w.heap.size < wb.heap.size; omega)).trans (rb.cell (i := 1) (by simp)), (hv.cell (by show w.heap.size < wb.heap.size; omega)).trans (rb.cell (i := 3) (by simp))⟩
  obtain ⟨s, hs⟩ : ∃ s, s = k + m := ⟨_, rfl⟩
  have hE := encF_lt (k := k) (m := m) g.2.2
  have hr : Calls Try.prog 11 #[.int .i64 k, .int .i64 m, .slice (some ⟨b, o, none⟩) k cap] wb fun e w' => Below wb.heap.size wb w' ∧
      ∃ B c2 G1 C1, e = .returned (.tuple #[.slice (some ⟨B, 0, none⟩) s c2, .int .i64 0]) ∧ Own wb.heap.size w' B s n G1 C1 (encF k m f) := by
    rw [hs]; exact rencode_yes k m n b o cap A C f wb h1 h2 h3 hn (g.below hbb)
  have hlight : ∀ v B c2 G1 C1, Own wb.heap.size v B s n G1 C1 (encF k m f) → Calls Try.prog 8 #[.int .i64 k, .int .i64 m, .slice (some ⟨B, 0, none⟩) s c2] v fun e w' => w' = v ∧ ∃ t, e = .returned (.bool t) := fun v B c2 G1 C1 ho =>
    (light_any k m (some ⟨B, 0, none⟩) s c2 _ (fun _ => n) C1 v ho.mat.tops (fun _ _ => hn)).mono fun e w' ⟨q1, t, q2, _⟩ => ⟨q1, t, q2⟩
  have hcopy : ∀ v, Below wb.heap.size wb v → ∃ y' cy' w', (Builtin.append_ #[31, 31] 31 #[.slice (some ⟨v.heap.size, 0, none⟩) 0 0, .slice y q c]).run Try.prog (v.alloc (.cells #[] 4)) = .ok (.slice y' q cy') w' ∧ Below v.heap.size v w' ∧ w'.ownsRow v.heap.size 4 1 (.slice y' q cy') q (boolsOf (had h q) q) := fun v hv => by
    obtain ⟨y', cy', w', e1, e2, e3⟩ := bools_copy v y q c h ((gb.row.below (Nat.le_refl _) hbb).below (Nat.le_refl _) hv) gb.small gb.nil
    rw [boolsOf_congr (h := h) (h' := had h q) (fun i hi => by unfold had; rw [if_pos hi])] at e3
    exact ⟨y', cy', w', e1, e2, e3⟩
  obtain ⟨cc, gg, hP⟩ := plc_exists (had h q) s
  have hq := gb.small
  have hs5 : s ≤ 255 := by omega
  have hs2 : 2 ≤ s := by omega
  have HS : Hid (s = k + m) := hs
  have H1 : Hid (1 ≤ k ∧ 1 ≤ m ∧ k + m ≤ 255) := ⟨h1, h2, h3⟩
  have HE : Hid (∀ r j, encF k m f r j < 256) := hE
  have HX : Hid (∀ r j, f r j < 256) := g.2.2
  have HP : Hid (Plc (had h q) s cc gg) := hP
  have HWB : Hid (Below w.heap.size w wb ∧ wb.heap.size = w.heap.size + 1) := ⟨hbb, hbs⟩
  have hk5 : k ≤ 255 := by omega
  clear h1 h2 h3 hs g gb hE hP rb hbb hbs
  go_enter Try.func5, Try.ntmps5
  rw [hwb] at hr
  go_wp2_with (first
    | (go_at_call 11; refine hr.mono ?_; rintro e x1 ⟨hb1, B1, c1, G1, C1, rfl, ho1⟩; clear hr; rw [← hwb] at hb1 ho1; have hcells := HF.out x1 hb1; have b0 := hcells.1; have b1 := hcells.2.1; have b3 : ∀ ob, (x1.alloc ob).cell? ⟨w.heap.size, 3, none⟩ = some (.slice y q c) := fun ob => (HF.out _ (hb1.alloc hb1.size ob)).2.2; clear hcells; obtain ⟨y2, cy2, x2, hrun2, hb2, ho2⟩ := hcopy x1 hb1; clear hcopy)
    | (go_at_call 8; refine (hlight _ B1 c1 G1 C1 ho1).mono ?_; rintro e w' ⟨rfl, t, rfl⟩; clear hlight)
    | (go_at_call 9; refine (awake3 _).mono ?_; rintro e x6 ⟨rfl, hb6⟩)
    | (at_builtin; refine wpList_append_run rfl _ _ 31 rfl _ _ rfl rfl hrun2 ?_; clear hrun2))
  · go_ret
    exact ⟨rfl, HWB.out.1.trans ((hb1.trans (hb6.mono hb1.size)).mono HWB.out.1.size)⟩
  · have HB1 : Hid (Below wb.heap.size wb w') := hb1
    have HO1 : Hid (Own wb.heap.size w' B1 s n G1 C1 (encF k m f)) := ho1
    have HA : Hid (Below w'.heap.size w' x2 ∧ x2.ownsRow w'.heap.size 4 1 (.slice y2 q cy2) q (boolsOf (had h q) q)) := ⟨hb2, ho2⟩
    clear hb1 ho1 hb2 ho2 b0 b1 b3 hwb
    go_loopw [5] (fun V wr => ∃ (p : Nat) (y' : Option Addr) (cy' : Nat), V = .slice y' p cy' ∧ q ≤ p ∧ (p ≤ s ∨ p = q) ∧ Hid (Below w'.heap.size w' wr ∧ wr.ownsRow w'.heap.size 4 1 (.slice y' p cy') p (boolsOf (had h q) p))) (fun V _ => s - lenV V)
    case atStart => exact ⟨q, y2, cy2, rfl, by omega, .inr rfl, HA⟩
    case round =>
      clear HA
      obtain ⟨p, y', cy', rfl, hqp, hps, HW⟩ := hrel
      by_cases hlt : p < s
      · have hpi : (p : Int) < (s : Int) := by omega
        obtain ⟨y3, cy3, w3, hrun, ho3, hb3⟩ := push_bool wr w'.heap.size _ p (had h q) HW.out.2 (by omega) HW.out.1.size (by unfold had; rw [if_neg (by omega)])
        have HN : Hid (Below w'.heap.size w' w3 ∧ w3.ownsRow w'.heap.size 4 1 (.slice y3 (p + 1) cy3) (p + 1) (boolsOf (had h q) (p + 1))) := ⟨HW.out.1.trans hb3, ho3⟩
        clear ho3 hb3 HW hps
        go_wp2_with (at_builtin; refine wpList_append_run rfl _ _ 31 rfl _ _ rfl rfl hrun ?_; clear hrun)
        go_roundw
        case rel => exact ⟨p + 1, y3, cy3, rfl, by omega, .inl (by omega), HN⟩
        case measure => simp [lenV]; omega
      · have hpi : ¬ ((p : Int) < (s : Int)) := by omega
        have hp9 : p ≤ 140737488351232 := by omega
        obtain ⟨gb, cb, hV, _, hgb, hcb, _⟩ := own_slice HW.out.2 (by omega)
        injection hV with hV1 _ hV2
        subst hV1
        subst hV2
        have HBO : Hid (BoolsAt wr (some ⟨gb, 0, none⟩) s (had h q)) := (bools_own HW.out.2 hgb).take (by omega)
        have hcut := fun v => cut_bools gb 0 p cy' s v (by omega)
        have HBW : Hid (Below w'.heap.size w' wr) := HW.out.1
        obtain ⟨gs, cys, x5, hrun5, hcys, hT⟩ := tops_copy wr B1 0 s c1 _ _ _ _ (HO1.out.mat.grid.below HBW.out) (by omega) (by omega)
        have HA : Hid (∃ A' C', Tab wr x5 gs s A' (lostL (had h q) n 0) C' (lostF (had h q) (encF k m f) 0)) := ⟨_, _, hT.congr (fun r _ => by unfold lostL; rw [if_neg (by omega)]) (fun r _ j _ => by unfold lostF; rw [if_neg (by omega)]) (lostF_lt HE.out 0)⟩
        obtain ⟨wo, hwo⟩ : ∃ wo, wo = wr := ⟨_, rfl⟩
        subst hwo
        clear HW hT hps hlt
        go_wp2_with (at_builtin; refine wpList_append_run rfl _ _ 22 rfl _ _ rfl rfl hrun5 ?_; clear hrun5)
        clear hcut
        go_loopw [7] (fun i wr => ∃ r : Nat, r ≤ s ∧ i = .int .i64 r ∧ Hid (∃ A' C', Tab wo wr gs s A' (lostL (had h q) n r) C' (lostF (had h q) (encF k m f) r))) (fun i _ => s - (intOf i).toNat)
        case atStart => exact ⟨0, by omega, rfl, HA⟩
        case round =>
          clear HA
          obtain ⟨r, hr, rfl, HT⟩ := hrel
          obtain ⟨A6, C6, hT⟩ := HT.out
          by_cases hlt2 : r < s
          · have hrs : (r : Int) < (s : Int) := by omega
            have hcell : wr.cell? ⟨gb, r, none⟩ = some (.bool (had h q r)) := by
              rcases HBO.out.below (Nat.le_refl _) hT.below with h0 | ⟨b', o', e1, _, e3⟩
              · omega
              · injection e1 with e1
                injection e1 with e1 e2 _
                subst e1; subst e2
                have := e3 r hlt2
                rwa [Nat.zero_add] at this
            cases hh : had h q r with
            | true =>
              rw [hh] at hcell
              have HN : Hid (∃ A' C', Tab wo wr gs s A' (lostL (had h q) n (r + 1)) C' (lostF (had h q) (encF k m f) (r + 1))) := ⟨A6, C6, lost_keep HE.out hT hh⟩
              clear hT HT hh
              go_wp2_with fail
              go_roundw
              case rel => exact ⟨r + 1, by omega, by go_num, HN⟩
              case measure => simp [intOf]; omega
            | false =>
              rw [hh] at hcell
              obtain ⟨A7, C7, hT7⟩ := lost_put HE.out hT hlt2 hh
              have HN : Hid (∃ A' C', Tab wo ((wr.alloc (.cells #[.int .u8 1, .int .u8 2, .int .u8 3] 5)).setCell ⟨gs, r, none⟩ (.slice (some ⟨wr.heap.size, 0, none⟩) 3 3)) gs s A' (lostL (had h q) n (r + 1)) C' (lostF (had h q) (encF k m f) (r + 1))) := ⟨A7, C7, hT7⟩
              have hst1 : ∀ ob, (wr.alloc ob).cell? ⟨gs, r, none⟩ = some (.slice (A6 r) (lostL (had h q) n r r) (C6 r)) := fun ob => (Below.cell ((Below.refl wr.heap.size wr).alloc (Nat.le_refl _) ob) (by exact hT.hg.2)).trans (hT.top r hlt2)
              have hst2 : ∀ ob, (wr.alloc ob).frozen? ⟨gs, r, none⟩ = false := fun ob => (Below.frozen ((Below.refl wr.heap.size wr).alloc (Nat.le_refl _) ob) (by exact hT.hg.2)).trans (hT.fb r)
              clear hT HT hh hT7
              go_wp2_with fail
              go_roundw
              case rel => exact ⟨r + 1, by omega, by go_num, HN⟩
              case measure => simp [intOf]; omega
          · obtain rfl : r = s := by omega
            have hss := HS.out
            have hwo1 : Below wb.heap.size wb wo := HB1.out.trans (HBW.out.mono HB1.out.size)
            have hwr1 : Below wb.heap.size wb wr := hwo1.trans (hT.below.mono hwo1.size)
            have hH := HBO.out.below (Nat.le_refl _) hT.below
            have hL : ∀ t, t < cc → lostL (had h q) n r (gg t) = n := fun t ht => by unfold lostL; rw [if_neg (by rw [HP.out.has t ht]; simp)]
            have hkeepl : IsGrid wr (some ⟨B1, 0, none⟩) r (fun r => some ⟨G1 r, 0, none⟩) (fun _ => n) C1 (encF k m f) := (HO1.out.mat.grid.below HBW.out).below hT.below
            have hcnt : ∀ v, Below wr.heap.size wr v → ∀ nq, Calls Try.prog 16 #[.slice (some ⟨gb, 0, none⟩) r cy'] (v.drewN nq) fun e w' => e = .returned (.int .i64 (cc : Int)) ∧ w' = v.drewN nq := fun v hv nq => by
              have := count_any (some ⟨gb, 0, none⟩) r cy' (had h q) (v.drewN nq) (by omega) ((hH.below (Nat.le_refl _) hv).below (Nat.le_refl _) (below_drewN' (Below.refl _ _) nq))
              rwa [← HP.out.all] at this
            have b0 := (HF.out wr hwr1).1
            have b1 := (HF.out wr hwr1).2.1
            have hout : ∀ v, Below wr.heap.size wr v → v.cell? ⟨w.heap.size, 0, none⟩ = some (.int .i64 k) ∧ Below w.heap.size w v := fun v hv => ⟨(HF.out v (hwr1.trans (hv.mono hwr1.size))).1, HWB.out.1.trans ((hwr1.trans (hv.mono hwr1.size)).mono HWB.out.1.size)⟩
            by_cases hck : cc < k
            · have hdec := decode_few k m gs 0 gb 0 cys cy' cc A6 (lostL (had h q) n r) C6 (lostF (had h q) (encF k m f) r) (had h q) gg wr H1.out.1 H1.out.2.1 H1.out.2.2 (by rw [← hss]; exact hT.grid) (by rw [← hss]; exact hH) (by rw [← hss]; exact HP.out) (fun t ht => by show lostL _ _ _ _ = lostL _ _ _ _; rw [hL t ht, hL 0 (by omega)]) hck
              rw [← hss] at hdec
              have hcki : (cc : Int) < (k : Int) := by omega
              clear hT HT hss hwo1 hwr1 hH hL hkeepl HBO HBW
              go_wp2_with (go_at_call 15; refine hdec.mono ?_; rintro e x7 ⟨rfl, hb7⟩; clear hdec; have hc7 := hcnt x7 hb7; clear hcnt; have k0 := (hout x7 hb7).1; have HO7 : Hid (Below w.heap.size w x7) := (hout x7 hb7).2; clear hout)
              go_quiet ((go_at_call 16; exact Calls.quiet_of_same (hc7 _)))
              go_wp2_with (go_at_call 9; refine (awake3 _).mono ?_; rintro e x9 ⟨rfl, hb9⟩)
              go_ret
              exact ⟨rfl, HO7.out.trans (below_of_drewN (hb9.mono (by exact HO7.out.size)))⟩
            · have hdec := decode_yes k m n gs 0 gb 0 cys cy' cc A6 (lostL (had h q) n r) C6 (lostF (had h q) (encF k m f) r) (had h q) gg wr H1.out.1 H1.out.2.1 H1.out.2.2 hn (by rw [← hss]; exact hT.grid) (by rw [← hss]; exact hH) (by rw [← hss]; exact HP.out) hL (by omega)
              rw [← hss] at hdec
              have hcki : ¬ ((cc : Int) < (k : Int)) := by omega
              have hdf : ∀ t, t < r → ∀ j, j < n → decF k m gg (fun t => lostF (had h q) (encF k m f) r (gg t)) t j = encF k m f t j := fun t _ j hj =>
                decF_all (X := f) HX.out (fun t j => lostF_lt HE.out r (gg t) j) H1.out.2.2 (fun t ht => by have := HP.out.lt t (by omega); omega) (fun t u ht hu e => HP.out.inj (by omega) (by omega) e) n (fun t ht j _ => by unfold lostF; rw [if_neg (by rw [HP.out.has t (by omega)]; simp)]) t j hj
              have hsame : ∀ w1 x7 A1 C1' nq, Below wr.heap.size wr x7 → Build w1 x7 r r A1 (fun _ => n) C1' (decF k m gg (fun t => lostF (had h q) (encF k m f) r (gg t))) → Calls Try.prog 12 #[.slice (some ⟨w1.heap.size, 0, none⟩) r r, .slice (some ⟨B1, 0, none⟩) r c1] (x7.drewN nq) fun e w' => e = .returned (.bool true) ∧ ∃ m, w' = (x7.drewN nq).drewN m := fun w1 x7 A1 C1' nq hv hB =>
                same_grid _ _ r r r c1 true A1 _ (fun _ => n) (fun _ => n) C1' C1 _ (encF k m f) (x7.drewN nq) (by omega) (hB.grid.below (below_drewN' (Below.refl _ _) nq)) ((hkeepl.below hv).below (below_drewN' (Below.refl _ _) nq)) (fun _ => rfl) (fun q => absurd ⟨rfl, fun t ht => ⟨rfl, fun j hj => hdf t ht j hj⟩⟩ q)
              clear hT HT hss hwo1 hwr1 hH hL hkeepl HBO HBW hdf
              go_wp2_with (go_at_call 15; refine hdec.mono ?_; rintro e x7 ⟨w6, A7, C7, hb6, rfl, hB7⟩; clear hdec; have hb7 := hb6.trans (hB7.below.mono hb6.size); have hc7 := hcnt x7 hb7; clear hcnt; have k0 := (hout x7 hb7).1; have HO7 : Hid (Below w.heap.size w x7) := (hout x7 hb7).2; clear hout; have hs7 := fun nq => hsame w6 x7 A7 C7 nq hb7 hB7; clear hsame)
              go_quiet ((go_at_call 16; exact Calls.quiet_of_same (hc7 _)))
              go_wp2_with (first | (go_at_call 12; refine (hs7 _).mono ?_; rintro e x8 ⟨rfl, q8, rfl⟩; clear hs7) | (go_at_call 9; refine (awake3 _).mono ?_; rintro e x9 ⟨rfl, hb9⟩))
              go_ret
              exact ⟨rfl, HO7.out.trans (below_of_drewN (hb9.mono (by exact HO7.out.size)))⟩

theorem walk (K M : Int) (a : Option Addr) (len cap : Nat) (y : Option Addr) (q c : Nat) (A : Nat → Option Addr) (L C : Nat → Nat) (f : Nat → Nat → Nat) (h : Nat → Bool) (w : World) (g : LostIn w K M a len cap y q c A L C f h) :
    Calls Try.prog 5 #[.agg #[.int .i64 K, .int .i64 M, .slice a len cap, .slice y q c]] w fun e w' => e = .returned (.bool true) ∧ Below w.heap.size w w' := by
  by_cases hx : CauchyN K M ∧ (len : Int) = K ∧ EqN len L
  · obtain ⟨hc, hl, he⟩ := hx
    obtain ⟨k, m, rfl, rfl, h1, h2, h3⟩ := code_nat hc
    obtain rfl : len = k := by omega
    have gg := g.data
    obtain ⟨b, o, rfl, _⟩ := grid_some gg.grid (by omega)
    exact good len m b o (L 0) cap q c y A C f h w h1 h2 h3 (gg.row 0 (by omega)) (gg.grid.congr (fun r hr => he r hr) (fun _ _ _ _ => rfl) gg.grid.2.2) g.have_
  · exact bad K M a len cap y q c A L C f w g.data hx

set_option maxRecDepth 100000 in
theorem lifted (os : Os) (started : os.Started) (H : Type) (enc : TypeId × Value → H) :
    ReturnsInHanded {} Try.checked os 5 .any (Rows.codeDecodesSpec.pre6 enc Try.prog Try.f5 Rows.codeDecodesRow.domain false) (Rows.codeDecodesSpec.post enc Try.prog Try.f5 false true false false) := by
  refine returnsInHanded_of_change_sized (C := Try.checked) own started (by kernel_rfl) Try.func5
    (ChangeSpec.witness6 (enc := enc) (C := Try.checked) false ⟨#[], #[.agg #[.int .i64 0, .int .i64 0, .slice none 0 0, .slice none 0 0]], []⟩ 8 (by kernel_rfl) (by kernel_rfl) (by kernel_rfl) (by kernel_rfl)) ?_
  intro W base args ds gs before hval0 hW hcnd hsz0 _
  have hsz : (DataW.weightsEach Try.prog (Try.f5.params.toList ++ Rows.codeDecodesSpec.plain.varTypes Try.prog) (ds ++ gs)).all (· ≤ reachBytes) = true := hsz0
  have hval : ∀ (j : Nat) t v, Try.f5.params[j]? = some t → args[j]? = some v → Value.okWide Try.prog W .any base t v := hval0
  have hW' := hW
  obtain ⟨p, q, hA0, hV, rfl, hfz, hnd⟩ := hW
  have hA : DataW.TrodAll enc Try.prog W 0 (fun _ => true) true Try.f5.params.toList args.toList ds p := hA0
  rw [Try.params5] at hA hval hsz
  obtain ⟨v0, vs0, d0, ds0, p0, q0, hargs, rfl, rfl, h0, r0⟩ := trodAll_cons hA
  obtain ⟨rfl, rfl, rfl⟩ := trodAll_nil r0
  obtain rfl : args = #[v0] := by cases args; simp_all
  obtain ⟨rfl, rfl⟩ := trodVars_none hV
  have k0 := h0
  have lt0 : ∀ x ∈ p0, x.block < W.heap.size := by obtain ⟨m, hm⟩ := k0; exact DataW.trod_lt m _ _ _ hm
  have s0 : ∀ x ∈ d0.weights Try.prog 33, x ≤ reachBytes := fun x hx => by
    have := List.all_eq_true.1 hsz x (DataW.weights_mem_each (j := 0) rfl rfl x hx)
    simpa using this
  obtain ⟨K0, M0, a0, len0, cap0, y0, q0, c0, A0, L0, C0, f0, g0, rfl, w0⟩ := lost_in (okWide_struct Try.underlying33 (hval 0 33 v0 rfl rfl)) h0 s0
  clear hA0 hval0
  refine (walk K0 M0 a0 len0 cap0 y0 q0 c0 A0 L0 C0 f0 g0 W w0).mono fun e W' ⟨he, bel⟩ => ?_
  subst he
  exact ⟨_, rfl, _, _, _, [], _, [], hW', trodAll_mk1 (shut_bool Try.underlying4 _), (trodAll_cons_mk (Below.trod laidOut (by kernel_rfl) (of_decide_eq_true (by kernel_rfl)) k0 bel lt0) trodAll_mk0), rfl, bel.frame _, fun h => by cases h⟩

theorem over : Rows.codeDecodesRow.holds Try.pinned (OpenSpec.ofChange Rows.codeDecodesSpec) :=
  OpenClaim.holds_of_wide 5 Try.f5 rfl rfl rfl rfl rfl rfl rfl ⟨rfl, rfl, rfl, rfl, rfl⟩ rfl rfl rfl rfl rfl (by kernel_rfl) Try.func5 (by kernel_rfl)
    (of_decide_eq_true (by kernel_rfl)) (by unfold Func.isWrapper; first | (rw [if_pos (by decide +kernel)]; kernel_rfl) | (rw [if_neg (by decide +kernel)]; exact ⟨rfl, rfl⟩))
    (fun os started H enc _ => lifted os started H enc)

theorem proved : Rows.CodeDecodesSaid := over
#print axioms proved
end Go.Proofs.Ytnnnefbnpfahcaa.codeDecodes

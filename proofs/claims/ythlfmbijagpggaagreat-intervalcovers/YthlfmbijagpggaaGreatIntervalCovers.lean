/-
  Each epoch is in one interval, and two one behind the other are unlike: 'mooringlaw19.IntervalCovers' returns true and leaves its arguments as they were.
  Conditions: none.
-/
import Derived.Test.YthlfmbijagpggaaGreatRows
import Derived.WalkKit
import Derived.ProofKit
import Derived.OpenShut
import Derived.SizedLaws
import Derived.ShutString
import Derived.ChangeOld
import Derived.Below
import Derived.Test.YthlfmbijagpggaaGreatByRows
import Derived.Test.YthlfmbijagpggaaGreatAtItem
import Derived.Test.YthlfmbijagpggaaGreatJIvAll
import Derived.Test.YthlfmbijagpggaaGreatJIvMaps
import Derived.Test.YthlfmbijagpggaaGreatJIvEqual
namespace Go.Proofs.YthlfmbijagpggaaGreat.intervalCovers
open Go.ChangeShapes Go.WideShapes Go.ChangeAt Go.RowKit By
open Fl At Cr Pl Iv
set_option linter.unusedVariables false
set_option linter.unusedSimpArgs false
set_option maxRecDepth 100000

theorem own : ownKnob Tryz.prog.godebug = none := by kernel_rfl
theorem laidOut : laidOutB Tryz.prog = true := by kernel_rfl

theorem okM_of {p : Pool} {ms : List Mp} {pg : Int} (h : okR p 0 ms = true) (hne : ms ≠ []) (hl : ms.length ≤ 4096) (h0 : 0 ≤ pg) (h1 : pg < p.pgs) : okM ms pg = true := by
  cases ms with
  | nil => exact absurd rfl hne
  | cons m t =>
    obtain ⟨g1, g2, g3⟩ := okR_get h 0 m rfl
    have g3' : m.ep = 0 := by simpa using g3
    rw [okM_cons m t pg (by simpa using hl) h0 (by rw [g2]; exact h1), g2, g3']
    exact h

theorem pool_pgs {p : Pool} (h : poolB p = true) : 0 < p.pgs := by
  unfold poolB at h
  simp only [Bool.and_eq_true, decide_eq_true_eq, wi_iff] at h
  omega

set_option maxHeartbeats 1600000 in
theorem walk_no (V0 : Pool) (x : Option Addr) (n c : Nat) (l : List Ch) (w : World) (hk : V0.k ≤ 9223372036854775807) (h : Cs w x n c l) (hno : poolB V0 = false ∨ 8 < V0.k + V0.m) : Calls Tryz.prog 4 #[vP V0, .slice x n c] w fun e w' => e = .returned (.bool true) ∧ Below w.heap.size w w' := by
  have hW := fun W => awake_any W
  have b0 := al w (.cells #[.int .i64 V0.k, .int .i64 V0.m, .int .i64 V0.pgs, .int .i64 V0.dom] 23)
  have cM : Calls Tryz.prog 5 #[vP V0, .slice x n c] (w.alloc (.cells #[.int .i64 V0.k, .int .i64 V0.m, .int .i64 V0.pgs, .int .i64 V0.dom] 23)) fun e w' => e = .returned (.tuple #[.slice none 0 0, .bool false]) ∧ Below (w.alloc (.cells #[.int .i64 V0.k, .int .i64 V0.m, .int .i64 V0.pgs, .int .i64 V0.dom] 23)).heap.size (w.alloc (.cells #[.int .i64 V0.k, .int .i64 V0.m, .int .i64 V0.pgs, .int .i64 V0.dom] 23)) w' := by
    refine (maps_any V0 (h.below b0) hk).mono ?_
    rintro e w' hm
    rcases hm with ⟨_, h2, h3⟩ | ⟨h1, h2, _⟩
    · exact ⟨h2, h3⟩
    · rcases hno with q | q
      · rw [q] at h1
        cases h1
      · omega
  have HB := hid b0
  unfold vP at *
  clear h hno hk b0
  go_enter Tryz.func4, Tryz.ntmps4
  go_wp2_with (first
    | (go_at_call 5; refine cM.mono ?_; rintro e w1 ⟨rfl, hb1⟩; clear cM)
    | (go_at_call 6; refine (hW _).mono ?_; rintro e w7 ⟨rfl, hb7⟩; clear hW))
  go_ret
  exact ⟨rfl, on HB.out (on hb1 hb7)⟩

/- All lies within. -/
theorem cov_bounds {e0 e1 : Int} {L : List Span} (h : Cov e0 e1 L) (i : Nat) (s : Span) (hs : L[i]? = some s) : e0 ≤ s.fr ∧ s.til ≤ e1 := by
  constructor
  · induction i generalizing s with
    | zero => rw [h.hd s hs]; exact Int.le_refl _
    | succ i ih =>
      obtain ⟨u, hu⟩ : ∃ u, L[i]? = some u := by
        have := (List.getElem?_eq_some_iff.1 hs).1
        exact ⟨L[i]'(by omega), List.getElem?_eq_getElem (by omega)⟩
      have h1 := ih u hu
      have h2 := h.each i u hu
      have h3 := (h.next i u s hu hs).1
      omega
  · have hl := (List.getElem?_eq_some_iff.1 hs).1
    obtain ⟨d, hd⟩ : ∃ d, i + d + 1 = L.length := ⟨L.length - 1 - i, by omega⟩
    induction d generalizing i s with
    | zero => rw [h.lst s (by rw [show L.length - 1 = i by omega]; exact hs)]; exact Int.le_refl _
    | succ d ih =>
      obtain ⟨u, hu⟩ : ∃ u, L[i + 1]? = some u := ⟨L[i + 1]'(by omega), List.getElem?_eq_getElem (by omega)⟩
      have h1 := ih (i + 1) u hu (by omega) (by omega)
      have h2 := h.each (i + 1) u hu
      have h3 := (h.next i s u hs hu).1
      omega

/- What All tells of such maps, in the form in which the statement reads it. -/
structure Cv (w1 w2 : World) (yn g na ca : Nat) (LS : List SpV) : Prop where
  bel : Below w1.heap.size w1 w2
  own : Fl.Own w2 w1.heap.size 36 6 enS (.slice (some ⟨g, 0, none⟩) na ca) LS
  spa : ∀ v ∈ LS, SpAt w2 v
  cov : Cov 0 ((yn : Int) - 1) (LS.map SpV.s)
  pos : 1 ≤ na
  small : na ≤ 41

theorem cv_of {w1 w2 : World} {y : Option Addr} {yn yc : Nat} {LM : List MV} {p : Pool} {e : Ending} (hM : Ms w1 y yn yc LM) (hok : okR p 0 (LM.map MV.m) = true) (h1 : 1 ≤ yn) (h2 : yn ≤ 41) (hp : 0 < p.pgs) (h : AllSays w1 (LM.map MV.m) 0 e w2) :
    ∃ g na ca LS, e = .returned (.tuple #[.slice (some ⟨g, 0, none⟩) na ca, .int .i64 0]) ∧ Hid (Cv w1 w2 yn g na ca LS) := by
  have hl := hM.len
  have hne : LM.map MV.m ≠ [] := fun e => by
    have := congrArg List.length e
    rw [List.length_map, hl] at this
    simp at this
    omega
  have hm := okM_of hok hne (by rw [List.length_map]; omega) (Int.le_refl 0) hp
  rcases h with ⟨q, _⟩ | ⟨_, x, n, c, he, LS, q1, q2, q3, q4⟩
  · rw [hm] at q
    cases q
  · have hT : ivs (LM.map MV.m) 0 ≠ [] := ivs_ne hne 0
    have hLS : LS ≠ [] := fun e => by
      rw [e] at q3
      exact hT q3.symm
    obtain ⟨g, c6, e6, _, _, _, _⟩ := q2.there hLS
    have hn := form_slice q2
    injection e6 with e61 e62 e63
    subst e61
    have hcov := cov_ivs (ms := LM.map MV.m) (e0 := 0) (fun i m hi => (okR_get hok i m hi).2.2) hne 0
    rw [List.length_map, hl] at hcov
    have hlen : (LS.map SpV.s).length = (ivs (LM.map MV.m) 0).length := by rw [q3]
    rw [List.length_map] at hlen
    have hle := ivs_len (LM.map MV.m) 0
    rw [List.length_map] at hle
    refine ⟨g, n, c, LS, he, q1, q2, fun v hv => (q4 v hv).1, ?_, ?_, by omega⟩
    · rw [q3]
      have e0 : (0 : Int) + (yn : Int) - 1 = (yn : Int) - 1 := by omega
      rw [e0] at hcov
      exact hcov
    · have := List.length_pos_iff.2 hLS
      omega

set_option maxHeartbeats 6400000 in
theorem walk_yes (V0 : Pool) (x : Option Addr) (n c : Nat) (l : List Ch) (w : World) (hk : V0.k ≤ 9223372036854775807) (h : Cs w x n c l) (hp : poolB V0 = true) (h8 : V0.k + V0.m ≤ 8) : Calls Tryz.prog 4 #[vP V0, .slice x n c] w fun e w' => e = .returned (.bool true) ∧ Below w.heap.size w w' := by
  have hW := fun W => awake_any W
  obtain ⟨w0, hw0⟩ : ∃ w0, w0 = w.alloc (.cells #[.int .i64 V0.k, .int .i64 V0.m, .int .i64 V0.pgs, .int .i64 V0.dom] 23) := ⟨_, rfl⟩
  have b0 : Below w.heap.size w w0 := by rw [hw0]; exact al _ _
  have cM : Calls Tryz.prog 5 #[vP V0, .slice x n c] w0 fun e w' => ∃ y yn yc, e = .returned (.tuple #[.slice y yn yc, .bool true]) ∧ Hid (∃ LM : List MV, Below w0.heap.size w0 w' ∧ Ms w' y yn yc LM ∧ okR V0 0 (LM.map MV.m) = true ∧ 1 ≤ yn ∧ yn ≤ 41) := by
    refine (maps_any V0 (h.below b0) hk).mono ?_
    rintro e w' hm
    rcases hm with ⟨h1, _⟩ | ⟨_, _, y, yn, yc, he, LM, h1, h2, h3, h4, h5⟩
    · rcases h1 with q | q
      · rw [hp] at q
        cases q
      · omega
    · exact ⟨y, yn, yc, he, LM, h1, h2, h3, h4, h5⟩
  have HPG := hid (pool_pgs hp)
  have HB := hid b0
  have HW0 := hid hw0
  rw [hw0] at cM
  unfold vP at *
  clear h hk b0 hp h8 hw0
  go_enter Tryz.func4, Tryz.ntmps4
  go_wp2_with (first
    | (go_at_call 5
       refine cM.mono ?_
       rintro e w1 ⟨y, yn, yc, rfl, H1⟩
       clear cM
       rw [← HW0.out] at H1
       have hyn : 1 ≤ yn ∧ yn ≤ 41 := by obtain ⟨LM, _, _, _, q1, q2⟩ := H1.out; exact ⟨q1, q2⟩
       have cA : Calls Tryz.prog 7 #[.slice y yn yc, .int .i64 0] w1 fun e w' => ∃ g na ca LS, e = .returned (.tuple #[.slice (some ⟨g, 0, none⟩) na ca, .int .i64 0]) ∧ Hid (Cv w1 w' yn g na ca LS) := by
         obtain ⟨LM, q0, q1, q2, q3, q4⟩ := H1.out
         exact (all_any q1 0).mono fun e w' hh => cv_of q1 q2 q3 q4 HPG.out hh
       have H1b : Hid (Below w0.heap.size w0 w1) := by obtain ⟨LM, q0, _⟩ := H1.out; exact q0
       clear H1)
    | (go_at_call 7
       refine cA.mono ?_
       rintro e w2 ⟨g, na, ca, LS, rfl, H2⟩
       clear cA
       have hna : 1 ≤ na ∧ na ≤ 41 := ⟨H2.out.pos, H2.out.small⟩
       have hln := form_slice H2.out.own
       have hnz : ((na : Int) == 0) = false := by simp; omega
       have hn0 : (0 : Int) < (na : Int) := by omega
       obtain ⟨qa, hqa⟩ : ∃ qa : Nat, na = qa + 1 := ⟨na - 1, by omega⟩
       have hqa1 : (na : Int) - 1 = (qa : Int) := by omega
       have hqa2 : (qa : Int) < (na : Int) := by omega
       obtain ⟨v0, hv0⟩ : ∃ v, LS[0]? = some v := ⟨LS[0]'(by omega), List.getElem?_eq_getElem (by omega)⟩
       obtain ⟨v9, hv9⟩ : ∃ v, LS[qa]? = some v := ⟨LS[qa]'(by omega), List.getElem?_eq_getElem (by omega)⟩
       have d0 : w2.cell? ⟨g, 0, none⟩ = some (.int .i64 0) := by
         have := (cells6 H2.out.own hv0).1
         rw [Nat.zero_mul, H2.out.cov.hd v0.s (by rw [List.getElem?_map, hv0]; rfl)] at this
         exact this
       obtain ⟨ty, hty⟩ : ∃ ty : Int, (yn : Int) - 1 = ty := ⟨_, rfl⟩
       have d1 : w2.cell? ⟨g, qa * 6 + 1, none⟩ = some (.int .i64 ty) := by
         have := (cells6 H2.out.own hv9).2.1
         rw [H2.out.cov.lst v9.s (by rw [List.length_map, hln, hqa, Nat.add_sub_cancel, List.getElem?_map, hv9]; rfl), hty] at this
         exact this
       have HLN := hid (And.intro hln hqa)
       clear hv0 hv9 hln hqa))
  clear d0 d1 hnz hn0 hqa1 hqa2 hty
  have H20 : Hid (Below w2.heap.size w2 w2) := Below.refl _ _
  go_loopw [9] (fun i wr => ∃ k : Nat, k ≤ na ∧ i = .int .i64 k ∧ Hid (Below w2.heap.size w2 wr)) (fun i _ => na - (intOf i).toNat)
  case atStart => exact ⟨0, by omega, rfl, H20.out⟩
  case round =>
    clear H20
    obtain ⟨k, hk, rfl, HR⟩ := hrel
    by_cases hlt : k < na
    · have hkn : (k : Int) < (na : Int) := by omega
      obtain ⟨v, hv⟩ : ∃ v, LS[k]? = some v := ⟨LS[k]'(by have := HLN.out.1; omega), List.getElem?_eq_getElem (by have := HLN.out.1; omega)⟩
      have hvs : (LS.map SpV.s)[k]? = some v.s := by rw [List.getElem?_map, hv]; rfl
      have heach := H2.out.cov.each k v.s hvs
      have hle : ¬ v.s.til < v.s.fr := by omega
      have hle2 : decide (v.s.til < v.s.fr) = false := by simp; omega
      obtain ⟨c0, c1, c2, c3, c4, c5⟩ := cells6 H2.out.own hv
      have s0 := After.cell (keep HR.out c0)
      have s1 := After.cell (keep HR.out c1)
      have s2 := After.cell (keep HR.out c2)
      have s3 := After.cell (keep HR.out c3)
      have s4 := After.cell (keep HR.out c4)
      clear c0 c1 c2 c3 c4 c5
      haveI := After.ne wr
      by_cases hk0 : k = 0
      · have hkz : decide ((0 : Int) < (k : Int)) = false := by simp; omega
        have hkz2 : decide (0 < k) = false := by simp; omega
        have HK := hid hk0
        clear hk0 hv hvs heach
        go_wp2_with fail
        refine wp_region_after (by kernel_rfl) (by kernel_rfl) ?_
        repeat (go_big_quiet_step ((fail)))
        refine wpQuiet_nil ?_
        rintro _ ⟨p, rfl⟩
        go_wp2_with fail
        go_roundw
        case rel => exact ⟨k + 1, by omega, by go_num, on HR.out p.h⟩
        case measure => simp [intOf]; omega
      · obtain ⟨kp, hkp⟩ : ∃ kp : Nat, k = kp + 1 := ⟨k - 1, by omega⟩
        have hkp1 : (k : Int) - 1 = (kp : Int) := by omega
        have hkp2 : (kp : Int) < (na : Int) := by omega
        have hkw : IntKind.i64.wrap (kp : Int) = (kp : Int) := by rw [IntKind.wrap_i64]; omega
        have hkz : decide ((0 : Int) < (k : Int)) = true := by simp; omega
        have hkz2 : decide (0 < k) = true := by simp; omega
        obtain ⟨u, hu⟩ : ∃ u, LS[kp]? = some u := ⟨LS[kp]'(by have := HLN.out.1; omega), List.getElem?_eq_getElem (by have := HLN.out.1; omega)⟩
        have hus : (LS.map SpV.s)[kp]? = some u.s := by rw [List.getElem?_map, hu]; rfl
        obtain ⟨hnx, hlk⟩ := H2.out.cov.next kp u.s v.s hus (by rw [← hkp]; exact hvs)
        have hlast : u.s.til ≤ 4611686018427387904 ∧ -4611686018427387904 ≤ u.s.til := by 
          have b1 := H2.out.cov
          have e1 : ∀ (i : Nat) (s : Span), (LS.map SpV.s)[i]? = some s → 0 ≤ s.fr ∧ s.til ≤ (yn : Int) - 1 := cov_bounds b1
          have := e1 kp u.s hus
          have := b1.each kp u.s hus
          omega
        have hwr : IntKind.i64.wrap (u.s.til + 1) = u.s.til + 1 := by rw [IntKind.wrap_i64]; omega
        have hfr : (v.s.fr != u.s.til + 1) = false := by simpa using hnx
        obtain ⟨c0, c1, c2, c3, c4, c5⟩ := cells6 H2.out.own hu
        have t1 := After.cell (keep HR.out c1)
        have t2 := After.cell (keep HR.out c2)
        have t3 := After.cell (keep HR.out c3)
        have t4 := After.cell (keep HR.out c4)
        have sv := (H2.out.spa v (List.mem_of_getElem? hv)).below HR.out
        have su := (H2.out.spa u (List.mem_of_getElem? hu)).below HR.out
        have hI1 := fun p : After wr => Iv.ints_any (sv.a.below p.h) (su.a.below p.h) (by have := sv.sm; omega)
        have hI2 := fun p : After wr => Iv.ints_any (sv.l.below p.h) (su.l.below p.h) (by have := sv.sm; omega)
        have hI3 := fun p : After wr => Iv.ints_any (sv.b.below p.h) (su.b.below p.h) (by have := sv.sm; omega)
        have HLK : Hid ((decide (v.s.ac = u.s.ac) && decide (v.s.lv = u.s.lv) && decide (v.s.bt = u.s.bt)) = false) := hlk
        clear c0 c1 c2 c3 c4 c5 hv hu hvs hus hnx hlk heach hkp hlast sv su hk0
        generalize decide (v.s.ac = u.s.ac) = q1 at *
        generalize decide (v.s.lv = u.s.lv) = q2 at *
        generalize decide (v.s.bt = u.s.bt) = q3 at *
        go_wp2_with fail
        cases q1 with
        | false =>
          refine wp_region_after (by kernel_rfl) (by kernel_rfl) ?_
          repeat (go_big_quiet_step ((first | (go_at_call 13; with_reducible refine Calls.after_of (hI1 _)) | (go_at_call 13; with_reducible refine Calls.after_of (hI2 _)) | (go_at_call 13; with_reducible refine Calls.after_of (hI3 _)))))
          refine wpQuiet_nil ?_
          rintro _ ⟨p, rfl⟩
          go_wp2_with fail
          go_roundw
          case rel => exact ⟨k + 1, by omega, by go_num, on HR.out p.h⟩
          case measure => simp [intOf]; omega
        | true =>
          cases q2 with
          | false =>
            refine wp_region_after (by kernel_rfl) (by kernel_rfl) ?_
            repeat (go_big_quiet_step ((first | (go_at_call 13; with_reducible refine Calls.after_of (hI1 _)) | (go_at_call 13; with_reducible refine Calls.after_of (hI2 _)) | (go_at_call 13; with_reducible refine Calls.after_of (hI3 _)))))
            refine wpQuiet_nil ?_
            rintro _ ⟨p, rfl⟩
            go_wp2_with fail
            go_roundw
            case rel => exact ⟨k + 1, by omega, by go_num, on HR.out p.h⟩
            case measure => simp [intOf]; omega
          | true =>
            cases q3 with
            | false =>
              refine wp_region_after (by kernel_rfl) (by kernel_rfl) ?_
              repeat (go_big_quiet_step ((first | (go_at_call 13; with_reducible refine Calls.after_of (hI1 _)) | (go_at_call 13; with_reducible refine Calls.after_of (hI2 _)) | (go_at_call 13; with_reducible refine Calls.after_of (hI3 _)))))
              refine wpQuiet_nil ?_
              rintro _ ⟨p, rfl⟩
              go_wp2_with fail
              go_roundw
              case rel => exact ⟨k + 1, by omega, by go_num, on HR.out p.h⟩
              case measure => simp [intOf]; omega
            | true =>
              have := HLK.out
              simp at this
    · have hk2 : k = na := by omega
      subst hk2
      go_wp2_with (go_at_call 6; refine (hW _).mono ?_; rintro e w7 ⟨rfl, hb7⟩; clear hW)
      go_ret
      exact ⟨rfl, on HB.out (on H1b.out (on H2.out.bel (on HR.out hb7)))⟩

theorem walk (V0 : Pool) (x : Option Addr) (n c : Nat) (l : List Ch) (w : World) (hk : V0.k ≤ 9223372036854775807) (h : Cs w x n c l) : Calls Tryz.prog 4 #[vP V0, .slice x n c] w fun e w' => e = .returned (.bool true) ∧ Below w.heap.size w w' := by
  cases hp : poolB V0 with
  | false => exact walk_no V0 x n c l w hk h (.inl hp)
  | true =>
    by_cases h8 : 8 < V0.k + V0.m
    · exact walk_no V0 x n c l w hk h (.inr h8)
    · exact walk_yes V0 x n c l w hk h hp (by omega)

set_option maxRecDepth 100000 in
theorem lifted (os : Os) (started : os.Started) (H : Type) (enc : TypeId × Value → H) :
    ReturnsInHanded {} Tryz.checked os 4 .any (Rows.intervalCoversSpec.pre6 enc Tryz.prog Tryz.f4 Rows.intervalCoversRow.domain false) (Rows.intervalCoversSpec.post enc Tryz.prog Tryz.f4 false true false false) := by
  refine returnsInHanded_of_change_sized (C := Tryz.checked) own started (by kernel_rfl) Tryz.func4
    (ChangeSpec.witness6 (enc := enc) (C := Tryz.checked) false ⟨#[], #[.agg #[.int .i64 0, .int .i64 0, .int .i64 0, .int .i64 0], .slice none 0 0], []⟩ 8 (by kernel_rfl) (by kernel_rfl) (by kernel_rfl) (by kernel_rfl)) ?_
  intro W base args ds gs before hval0 hW hcnd hsz0 _
  have hsz : (DataW.weightsEach Tryz.prog (Tryz.f4.params.toList ++ Rows.intervalCoversSpec.plain.varTypes Tryz.prog) (ds ++ gs)).all (· ≤ reachBytes) = true := hsz0
  have hval : ∀ (j : Nat) t v, Tryz.f4.params[j]? = some t → args[j]? = some v → Value.okWide Tryz.prog W .any base t v := hval0
  have hW' := hW
  obtain ⟨p, q, hA0, hV, rfl, hfz, hnd⟩ := hW
  have hA : DataW.TrodAll enc Tryz.prog W 0 (fun _ => true) true Tryz.f4.params.toList args.toList ds p := hA0
  rw [Tryz.params4] at hA hval hsz
  obtain ⟨v0, vs0, d0, ds0, p0, q0, hargs, rfl, rfl, h0, r0⟩ := trodAll_cons hA
  obtain ⟨v1, vs1, d1, ds1, p1, q1, rfl, rfl, rfl, h1, r1⟩ := trodAll_cons r0
  obtain ⟨rfl, rfl, rfl⟩ := trodAll_nil r1
  obtain rfl : args = #[v0, v1] := by cases args; simp_all
  obtain ⟨rfl, rfl⟩ := trodVars_none hV
  have k0 := h0
  have lt0 : ∀ x ∈ p0, x.block < W.heap.size := by obtain ⟨m, hm⟩ := k0; exact DataW.trod_lt m _ _ _ hm
  have s0 : ∀ x ∈ d0.weights Tryz.prog 23, x ≤ reachBytes := fun x hx => by
    have := List.all_eq_true.1 hsz x (DataW.weights_mem_each (j := 0) rfl rfl x hx)
    simpa using this
  obtain ⟨V0, rfl, w0⟩ := At.pool_in (okWide_struct Tryz.underlying23 (hval 0 23 v0 rfl rfl)) h0
  have k1 := h1
  have lt1 : ∀ x ∈ p1, x.block < W.heap.size := by obtain ⟨m, hm⟩ := k1; exact DataW.trod_lt m _ _ _ hm
  have s1 : ∀ x ∈ d1.weights Tryz.prog 24, x ≤ reachBytes := fun x hx => by
    have := List.all_eq_true.1 hsz x (DataW.weights_mem_each (j := 1) rfl rfl x hx)
    simpa using this
  obtain ⟨b1, nn1, cc1, rfl⟩ := okWide_slice Tryz.underlying24 (hval 1 24 v1 rfl rfl)
  obtain ⟨fu1, hf1⟩ := h1
  obtain ⟨a1, len1, cap1, V1, e1, w1, _⟩ := At.chs_in hf1 s1
  simp [Value.cells] at e1
  obtain ⟨rfl, rfl, rfl⟩ := e1
  clear hA0 hval0
  refine (walk V0 b1 nn1 cc1 V1 W w0 w1).mono fun e W' ⟨he, bel⟩ => ?_
  subst he
  exact ⟨_, rfl, _, _, _, [], _, [], hW', trodAll_mk1 (shut_bool Tryz.underlying4 _), (trodAll_cons_mk (Below.trod laidOut (by kernel_rfl) (of_decide_eq_true (by kernel_rfl)) k0 bel lt0) (trodAll_cons_mk (Below.trod laidOut (by kernel_rfl) (of_decide_eq_true (by kernel_rfl)) k1 bel lt1) trodAll_mk0)), rfl, bel.frame _, fun h => by cases h⟩

theorem over : Rows.intervalCoversRow.holds Tryz.pinned (OpenSpec.ofChange Rows.intervalCoversSpec) :=
  OpenClaim.holds_of_wide 4 Tryz.f4 rfl rfl rfl rfl rfl rfl rfl ⟨rfl, rfl, rfl, rfl, rfl⟩ rfl rfl rfl rfl rfl (by kernel_rfl) Tryz.func4 (by kernel_rfl)
    (of_decide_eq_true (by kernel_rfl)) (by unfold Func.isWrapper; first | (rw [if_pos (by decide +kernel)]; kernel_rfl) | (rw [if_neg (by decide +kernel)]; exact ⟨rfl, rfl⟩))
    (fun os started H enc _ => lifted os started H enc)

theorem proved : Rows.IntervalCoversSaid := over
#print axioms proved
end Go.Proofs.YthlfmbijagpggaaGreat.intervalCovers

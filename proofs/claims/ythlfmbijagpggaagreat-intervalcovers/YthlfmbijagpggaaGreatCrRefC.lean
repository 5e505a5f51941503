/-
  The document's Choose.
  Conditions: the map lies in memory; numbers of 32 bits.
-/
import Derived.Test.YthlfmbijagpggaaGreatByHk
import Derived.Test.YthlfmbijagpggaaGreatJCrRefD
import Derived.Test.YthlfmbijagpggaaGreatCrChoose
namespace Go.Proofs.YthlfmbijagpggaaGreat.Cr
open Go.RowKit By Fl At
open Sr (Wd Ws enW)
set_option linter.unusedVariables false
set_option linter.unusedSimpArgs false
set_option maxRecDepth 100000

/- Two lists of one's own, apart. -/
def Two (w1 wr : World) (Ro Rt : Value) (lo lt : List Int) : Prop :=
  Below w1.heap.size w1 wr ∧ Own wr w1.heap.size 3 1 enI Ro lo ∧ Own wr w1.heap.size 3 1 enI Rt lt ∧ ∀ g, Ro.ownBlock = some g → Rt.ownBlock ≠ some g

theorem Two.below {w1 wr w' : World} {Ro Rt : Value} {lo lt : List Int} (h : Two w1 wr Ro Rt lo lt) (hb : Below wr.heap.size wr w') : Two w1 w' Ro Rt lo lt := ⟨on h.1 hb, h.2.1.below hb, h.2.2.1.below hb, h.2.2.2⟩

theorem Two.pushO {w1 wr : World} {Ro Rt : Value} {lo lt : List Int} (h : Two w1 wr Ro Rt lo lt) (z : Int) (hl : lo.length ≤ 1000) :
    ∃ x' c' w3, (Builtin.append_ #[34, 34] 34 #[Ro, .slice (some ⟨wr.heap.size, 0, none⟩) 1 1]).run Tryz.prog (wr.alloc (.cells #[.int .i64 z] 3)) = .ok (.slice x' (lo.length + 1) c') w3 ∧ Hid (Two w1 w3 (.slice x' (lo.length + 1) c') Rt (lo ++ [z]) lt) := by
  obtain ⟨h1, h2, h3, h4⟩ := h
  obtain ⟨x', c', w3, hap, H⟩ := push_z h2 z hl h1.size
  obtain ⟨p1, p2, p3⟩ := H.out
  refine ⟨x', c', w3, hap, h1.trans (p2.below (fun j e => (h2.tb e).1) h1.size), p1, h3.turns p2 (fun g hg e => h4 g e hg), fun g hg e => ?_⟩
  rcases p3 g hg with q | q
  · exact h4 g q e
  · have := (h3.tb e).2.lt; omega

theorem Two.pushT {w1 wr : World} {Ro Rt : Value} {lo lt : List Int} (h : Two w1 wr Ro Rt lo lt) (z : Int) (hl : lt.length ≤ 1000) :
    ∃ x' c' w3, (Builtin.append_ #[34, 34] 34 #[Rt, .slice (some ⟨wr.heap.size, 0, none⟩) 1 1]).run Tryz.prog (wr.alloc (.cells #[.int .i64 z] 3)) = .ok (.slice x' (lt.length + 1) c') w3 ∧ Hid (Two w1 w3 Ro (.slice x' (lt.length + 1) c') lo (lt ++ [z]) ∧ Turns (fun j => Rt.ownBlock = some j) wr w3) := by
  obtain ⟨h1, h2, h3, h4⟩ := h
  obtain ⟨x', c', w3, hap, H⟩ := push_z h3 z hl h1.size
  obtain ⟨p1, p2, p3⟩ := H.out
  refine ⟨x', c', w3, hap, ⟨h1.trans (p2.below (fun j e => (h3.tb e).1) h1.size), h2.turns p2 (fun g hg e => h4 g hg e), p1, fun g hg e => ?_⟩, p2⟩
  rcases p3 g e with q | q
  · exact h4 g hg q
  · have := (h2.tb hg).2.lt; omega

theorem Two.start (w1 : World) : Two w1 ((w1.alloc (.cells #[] 3)).alloc (.cells #[] 3)) (.slice (some ⟨w1.heap.size, 0, none⟩) 0 0) (.slice (some ⟨w1.heap.size + 1, 0, none⟩) 0 0) [] [] := by
  have h1 := Own.empty w1 (B := w1.heap.size) (Nat.le_refl _) 3 1 enI
  have h2 := Own.empty (w1.alloc (.cells #[] 3)) (B := w1.heap.size) (by simp) 3 1 enI
  have s1 : (w1.alloc (.cells #[] 3)).heap.size = w1.heap.size + 1 := by simp
  rw [s1] at h2
  refine ⟨on (al _ _) (al _ _), h1.below (al _ _), h2, fun g hg e => ?_⟩
  simp [Value.ownBlock] at hg e
  omega

/- How far the tries of a place are: what was found, and who then has it. -/
def Tr (L : List Osd) (d want y k : Nat) (T : List Int) (t : Nat) (who : Int) (lt : List Int) : Prop :=
  (fnd (fT L want y k) d T t = none ∧ who = -1 ∧ lt = T) ∨ ∃ p, fnd (fT L want y k) d T t = some p ∧ who = p.id ∧ 0 ≤ p.id ∧ lt = T ++ [kP d p]

theorem Tr.done {L : List Osd} {d want y k : Nat} {t : Nat} {who : Int} {lt : List Int} (h : Tr L d want y k (tk d (chO L d want y k)) t who lt) (ht : t = 50 ∨ ¬ who = -1) (h50 : t ≤ 50) :
    (chO L d want y (k + 1)).map idP = (chO L d want y k).map idP ++ [who] ∧ tk d (chO L d want y (k + 1)) = lt := by
  rcases h with ⟨h1, h2, h3⟩ | ⟨p, h1, h2, h3, h4⟩
  · have ht2 : t = 50 := by
      rcases ht with e | e
      · exact e
      · exact absurd h2 e
    subst ht2
    rw [tk_none h1, h3, h2]
    refine ⟨?_, rfl⟩
    simp only [chO, h1, List.map_append, List.map_cons, List.map_nil, idP]
  · have e1 := fnd_keep h1 (50 - t)
    rw [show t + (50 - t) = 50 by omega] at e1
    rw [tk_some e1, h4, h2]
    refine ⟨?_, rfl⟩
    simp only [chO, e1, List.map_append, List.map_cons, List.map_nil, idP]

theorem id_nn {L : List Osd} (h : At.Good L) {o : Osd} (ho : o ∈ L) : 0 ≤ o.id := by
  obtain ⟨i, hi⟩ := List.mem_iff_getElem?.1 ho
  have := (h i o hi).1
  unfold osdB at this
  simp only [Bool.and_eq_true, wi_iff] at this
  omega

set_option maxHeartbeats 6400000 in
theorem rchoose_yes {w : World} {x : Option Addr} {n c : Nat} (m : Mp) (h : At.Os w x n c m.osds) (hm : mayM m = true) (dom : Int) (hd0 : 0 ≤ dom) (hd3 : dom < 3) (want : Nat) (h1 : 1 ≤ want) (h32 : want ≤ 32) (y : Nat) (hy : y < 4294967296) :
    Calls Tryz.prog 43 #[vM m.ep m.pool x n c, .agg #[.int .i64 dom, .int .i64 (want : Nat)], .int .u32 (y : Nat)] w fun e w' => ∃ (x' : Option Addr) (c' : Nat), e = .returned (.tuple #[.slice x' want c', .int .i64 0]) ∧ Hid (Below w.heap.size w w' ∧ Own w' w.heap.size 3 1 enI (.slice x' want c') (chs m.osds (dom + 1).toNat want y)) := by
  obtain ⟨w0, hw0⟩ : ∃ w0, w0 = (w.alloc (.cells #[.int .i64 m.ep, .int .i64 m.pool.k, .int .i64 m.pool.m, .int .i64 m.pool.pgs, .int .i64 m.pool.dom, .slice x n c] 49)).alloc (.cells #[.int .i64 dom, .int .i64 (want : Nat)] 86) := ⟨_, rfl⟩
  have b0 : Below w.heap.size w w0 := by rw [hw0]; exact on (al _ _) (al _ _)
  have q5 : w0.cell? ⟨w.heap.size, 5, none⟩ = some (.slice x n c) := by rw [hw0]; go_simp
  have r0 : w0.cell? ⟨w.heap.size + 1, 0, none⟩ = some (.int .i64 dom) := by rw [hw0]; go_simp
  have r1 : w0.cell? ⟨w.heap.size + 1, 1, none⟩ = some (.int .i64 (want : Nat)) := by rw [hw0]; go_simp
  have cC := rmay_any m (h.below b0)
  have HO := hid h
  have HB := hid b0
  have HW := hid hw0
  rw [hw0] at cC
  unfold vM at cC ⊢
  rw [hm] at cC
  obtain ⟨f1, f2, f3⟩ := may_facts hm
  have hlen := h.len
  have HDs : Hid (∀ (W : World) (r : Nat), r < 4294967296 → Below w.heap.size w W → Calls Tryz.prog 49 #[.slice x n c, .int .u32 (y : Nat), .int .u32 (r : Nat)] W fun e w' => Hid (RD m.osds y r e) ∧ Below W.heap.size W w') := fun W r hr hb => rdesc_any (HO.out.below hb) (by rw [← HO.out.len]; exact f1) f3 y r hy hr
  have cD := fun W => rdomain_any dom W hd0 hd3
  obtain ⟨d, hd⟩ : ∃ d, d = (dom + 1).toNat := ⟨_, rfl⟩
  have CK : Hid (∀ (o : Osd) (W : World), Calls Tryz.prog 50 #[vO o, .int .i64 (3 - dom)] W fun e w' => e = .returned (.int .i64 (kO d o)) ∧ Below W.heap.size W w') := fun o W => by
    have := key_any o (3 - dom) W
    rw [show (4 - (3 - dom)).toNat = d by omega] at this
    exact this
  rw [← hd]
  have HG := hid f2
  have hw1 : ¬ (want : Int) < 1 := by omega
  have hw2 : ¬ 32 < (want : Int) := by omega
  have hdl : ¬ dom < 0 := by omega
  have hdg : ¬ 3 ≤ dom := by omega
  clear h b0 hw0 hm f1 f2 f3 hd hlen
  generalize m.osds = L at *
  go_enter Tryz.func43, Tryz.ntmps43
  go_wp2_with (go_at_call 24; refine cC.mono ?_; rintro e w1 ⟨rfl, hb1⟩; rw [← HW.out] at hb1; clear cC; have u5 := keep hb1 q5; have u0 := keep hb1 r0; have u1 := keep hb1 r1; have HB1 := hid (on HB.out hb1); clear q5 r0 r1 hb1)
  have HU := hid (And.intro u5 (And.intro u0 u1))
  have H0 := hid (Two.start w1)
  clear u5 u0 u1
  go_loopw [10, 8, 9] (fun i s s9 wr => ∃ (k : Nat) (xo : Option Addr) (no co : Nat) (xt : Option Addr) (nt ct : Nat), k ≤ want ∧ i = .int .i64 k ∧ s = .slice xo no co ∧ s9 = .slice xt nt ct ∧ Hid (Two w1 wr (.slice xo no co) (.slice xt nt ct) ((chO L d want y k).map idP) (tk d (chO L d want y k)))) (fun i _ _ _ => want - (intOf i).toNat)
  case atStart => exact ⟨0, _, 0, 0, _, 0, 0, by omega, rfl, rfl, rfl, H0.out⟩
  case round =>
    clear H0
    obtain ⟨k, xo, no, co, xt, nt, ct, hk, rfl, rfl, rfl, HR⟩ := hrel
    have n1 := keep HR.out.1 HU.out.2.2
    by_cases hlt : k < want
    · have hkn : (k : Int) < (want : Int) := by omega
      obtain ⟨T, hT⟩ : ∃ T, T = tk d (chO L d want y k) := ⟨_, rfl⟩
      have hTl : T.length ≤ 32 := by have := tk_len L d want y k; rw [hT]; omega
      have HT := hid hT
      have HTl := hid hTl
      have HR2 := HR.out
      rw [← hT] at HR2
      have HS := hid HR2
      clear HR2 HR hT hTl
      obtain ⟨wo, hwo⟩ : ∃ wo, wo = wr := ⟨_, rfl⟩
      subst hwo
      go_wp2_with fail
      go_loopw [12, 11, 9] (fun i s s9 wr => ∃ (t : Nat) (who : Int) (xt : Option Addr) (nt ct : Nat), t ≤ 50 ∧ i = .int .i64 t ∧ s = .int .i64 who ∧ s9 = .slice xt nt ct ∧ Hid (∃ lt, Two w1 wr (.slice xo no co) (.slice xt nt ct) ((chO L d want y k).map idP) lt ∧ Tr L d want y k T t who lt)) (fun i _ _ _ => 50 - (intOf i).toNat)
      case atStart => exact ⟨0, -1, xt, nt, ct, by omega, rfl, rfl, rfl, T, HS.out, .inl ⟨rfl, rfl, rfl⟩⟩
      case round =>
        clear HS n1
        obtain ⟨t, who, xt, nt, ct, ht, rfl, rfl, rfl, HT2⟩ := hrel
        obtain ⟨lt, hTw, hTr⟩ := HT2.out
        by_cases hgo : t < 50 ∧ who = -1
        · obtain ⟨ht5, rfl⟩ := hgo
          have ht6 : (t : Int) < 50 := by omega
          have hTr2 : fnd (fT L want y k) d T t = none ∧ lt = T := by
            rcases hTr with ⟨g1, _, g3⟩ | ⟨p, _, g2, g3, _⟩
            · exact ⟨g1, g3⟩
            · omega
          obtain ⟨g1, rfl⟩ := hTr2
          have hnt := form_slice hTw.2.2.1
          obtain ⟨q, hq⟩ : ∃ q, q = t * want := ⟨_, rfl⟩
          have hqb : q ≤ 1568 := by rw [hq]; exact Nat.le_trans (Nat.mul_le_mul (show t ≤ 49 by omega) h32) (by omega)
          have hmul : IntKind.i64.wrap ((t : Int) * (want : Int)) = (q : Int) := by rw [hq, IntKind.wrap_i64, ← Int.natCast_mul, ← hq]; omega
          have hadd : IntKind.i64.wrap ((k : Int) + (q : Int)) = ((k + q : Nat) : Int) := by rw [IntKind.wrap_i64]; omega
          have hkq : k + q ≤ 4000 := by omega
          have hft : fT L want y k t = dsc L y (k + q) := by unfold fT; rw [hq]
          have cDs := HDs.out wr (k + q) (by omega) (on HB1.out hTw.1)
          have n5 := keep hTw.1 HU.out.1
          have n0 := keep hTw.1 HU.out.2.1
          have n1 := keep hTw.1 HU.out.2.2
          have HF := hid (And.intro g1 (And.intro hft hnt))
          have HW2 := hid hTw
          generalize k + q = kq at *
          clear hTw hTr g1 hft hnt hq HT2 HDs
          go_wp2_with fail
          go_at_call 49
          refine cDs.mono ?_
          rintro e w2 ⟨H2, hb2⟩
          clear cDs
          rcases H2.out with ⟨z1, rfl⟩ | ⟨p, o, z1, z2, z3, z4, z5, rfl⟩
          · have HE := hid z1
            clear z1 H2
            unfold vO noO
            go_wp2_with fail
            go_roundw
            case rel => exact ⟨t + 1, -1, xt, nt, ct, by omega, by go_num, rfl, rfl, lt, HW2.out.below (on hb2 (al _ _)), .inl ⟨fnd_step_no HF.out.1 (HF.out.2.1.trans HE.out), rfl, rfl⟩⟩
            case measure => simp [intOf]; omega
          · have HP : Hid (dsc L y kq = some p ∧ o.id = p.id ∧ 0 ≤ o.id ∧ kO d o = kP d p) := ⟨z1, z5, id_nn HG.out z2, kP_of z3 z4 z5⟩
            have cK := fun W => CK.out o W
            clear z1 z2 z3 z4 z5 H2
            obtain ⟨KY, hKY⟩ : ∃ KY, KY = kO d o := ⟨_, rfl⟩
            rw [← hKY] at cK HP
            clear hKY
            obtain ⟨m0, m1, m2, m3, m4, m5, m6, m7⟩ := o
            unfold vO at cK ⊢
            dsimp only at HP cK ⊢
            obtain ⟨w3, hw3⟩ : ∃ w3, w3 = w2.alloc (.cells #[.int .i64 m0, .bool m1, .bool m2, .int .i64 m3, .int .i64 m4, .int .i64 m5, .int .i64 m6, .int .i64 m7] 53) := ⟨_, rfl⟩
            have b3 : Below w2.heap.size w2 w3 := by rw [hw3]; exact al _ _
            have v0 : w3.cell? ⟨w2.heap.size, 0, none⟩ = some (.int .i64 m0) := by rw [hw3]; go_simp
            have v1 : w3.cell? ⟨w2.heap.size, 1, none⟩ = some (.bool m1) := by rw [hw3]; go_simp
            have v2 : w3.cell? ⟨w2.heap.size, 2, none⟩ = some (.bool m2) := by rw [hw3]; go_simp
            have v3 : w3.cell? ⟨w2.heap.size, 3, none⟩ = some (.int .i64 m3) := by rw [hw3]; go_simp
            have v4 : w3.cell? ⟨w2.heap.size, 4, none⟩ = some (.int .i64 m4) := by rw [hw3]; go_simp
            have v5 : w3.cell? ⟨w2.heap.size, 5, none⟩ = some (.int .i64 m5) := by rw [hw3]; go_simp
            have v6 : w3.cell? ⟨w2.heap.size, 6, none⟩ = some (.int .i64 m6) := by rw [hw3]; go_simp
            have v7 : w3.cell? ⟨w2.heap.size, 7, none⟩ = some (.int .i64 m7) := by rw [hw3]; go_simp
            have HV := hid (And.intro v0 (And.intro v1 (And.intro v2 (And.intro v3 (And.intro v4 (And.intro v5 (And.intro v6 v7)))))))
            have n0' := keep (on hb2 b3) n0
            have HN0 := hid n0'
            have HTb : Hid (Tb w3 w2.heap.size 53) := by
              rw [hw3]
              exact ⟨_, _, heap_alloc_new w2 _⟩
            have HW3 := hid hw3
            have HT3 := hid (HW2.out.below (on hb2 b3))
            have hnt64 : nt ≤ 64 := by have := HF.out.2.2; have := HTl.out; omega
            clear hw3 b3 v0 v1 v2 v3 v4 v5 v6 v7 n0'
            go_wp2_with fail
            rw [← HW3.out]
            go_loopw [16, 15] (fun j s wr => ∃ (i : Nat) (fr : Bool), i ≤ nt ∧ j = .int .i64 i ∧ s = .bool fr ∧ Hid (Below w3.heap.size w3 wr ∧ (fr = true ↔ KY ∉ lt.take i))) (fun j _ _ => nt - (intOf j).toNat)
            case atStart => exact ⟨0, true, by omega, rfl, rfl, Below.refl _ _, by simp⟩
            case round =>
              obtain ⟨i, fr, hi, rfl, rfl, HR⟩ := hrel
              by_cases hin : i < nt
              · have hin2 : (i : Int) < (nt : Int) := by omega
                obtain ⟨zz, hzz⟩ : ∃ zz, lt[i]? = some zz := ⟨lt[i]'(by have := HF.out.2.2; omega), List.getElem?_eq_getElem (by have := HF.out.2.2; omega)⟩
                have hnx : ∀ b : Bool, (b = true ↔ KY ∉ lt.take i ∧ KY ≠ zz) → (b = true ↔ KY ∉ lt.take (i + 1)) := fun b hb => by
                  rw [hb, List.take_add_one, hzz]
                  simp
                have HX := hid hnx
                haveI := After.ne wr
                cases fr with
                | false =>
                  go_wp2_with fail
                  refine wp_region_after (by kernel_rfl) (by kernel_rfl) ?_
                  repeat (go_big_quiet_step (fail))
                  refine wpQuiet_nil ?_
                  rintro _ ⟨P, rfl⟩
                  clear hnx hzz
                  go_wp2_with fail
                  go_roundw
                  case rel =>
                    refine ⟨i + 1, false, by omega, by go_num, rfl, on HR.out.1 P.h, HX.out false ?_⟩
                    have := HR.out.2
                    constructor
                    · intro h; cases h
                    · intro h; exact this.2 h.1
                  case measure => simp [intOf]; omega
                | true =>
                  rcases (own_nu (HT3.out.2.2.1.below HR.out.1)).row with q0 | ⟨gt, ot, rfl, hgt, hgc⟩
                  · omega
                  have p0 := After.cell (hgc i zz hzz)
                  obtain ⟨v0, v1, v2, v3, v4, v5, v6, v7⟩ := HV.out
                  have p1 := After.cell (keep HR.out.1 v0)
                  have p2 := After.cell (keep HR.out.1 v1)
                  have p3 := After.cell (keep HR.out.1 v2)
                  have p4 := After.cell (keep HR.out.1 v3)
                  have p5 := After.cell (keep HR.out.1 v4)
                  have p6 := After.cell (keep HR.out.1 v5)
                  have p7 := After.cell (keep HR.out.1 v6)
                  have p8 := After.cell (keep HR.out.1 v7)
                  have p9 := After.cell (keep HR.out.1 HN0.out)
                  clear v0 v1 v2 v3 v4 v5 v6 v7 hgc hnx hzz
                  have cD2 := fun p : After wr => cD p.W
                  by_cases hsame : zz = KY
                  · have hse : (zz != KY) = false := by simpa using hsame
                    go_wp2_with fail
                    refine wp_region_after (by kernel_rfl) (by kernel_rfl) ?_
                    repeat (go_big_quiet_step ((first | (go_at_call 51; with_reducible refine Calls.after_same (cD2 _)) | (go_at_call 50; with_reducible refine Calls.after_of (cK _)))))
                    refine wpQuiet_nil ?_
                    rintro _ ⟨P, rfl⟩
                    clear p0 p1 p2 p3 p4 p5 p6 p7 p8 p9 cD2
                    go_wp2_with fail
                    go_roundw
                    case rel =>
                      refine ⟨i + 1, false, by omega, by go_num, rfl, on HR.out.1 P.h, HX.out false ?_⟩
                      constructor
                      · intro h; cases h
                      · intro h; exact absurd hsame.symm h.2
                    case measure => simp [intOf]; omega
                  · have hse : (zz != KY) = true := by simpa using hsame
                    go_wp2_with fail
                    refine wp_region_after (by kernel_rfl) (by kernel_rfl) ?_
                    repeat (go_big_quiet_step ((first | (go_at_call 51; with_reducible refine Calls.after_same (cD2 _)) | (go_at_call 50; with_reducible refine Calls.after_of (cK _)))))
                    refine wpQuiet_nil ?_
                    rintro _ ⟨P, rfl⟩
                    clear p0 p1 p2 p3 p4 p5 p6 p7 p8 p9 cD2
                    go_wp2_with fail
                    go_roundw
                    case rel =>
                      refine ⟨i + 1, true, by omega, by go_num, rfl, on HR.out.1 P.h, HX.out true ?_⟩
                      have := HR.out.2
                      constructor
                      · intro _; exact ⟨this.1 (by trivial), fun e => hsame e.symm⟩
                      · intro _; rfl
                    case measure => simp [intOf]; omega
              · have hi2 : i = nt := by omega
                subst hi2
                have hfull : Hid (lt.take i = lt) := by
                  show lt.take i = lt
                  rw [← HF.out.2.2, List.take_length]
                cases fr with
                | false =>
                  have hin : KY ∈ lt := Decidable.byContradiction fun e => by
                    have := HR.out.2.2 (by rw [hfull.out]; exact e)
                    cases this
                  have HI := hid hin
                  clear hin
                  go_wp2_with fail
                  go_roundw
                  case rel =>
                    refine ⟨t + 1, -1, xt, i, ct, by omega, by go_num, rfl, rfl, lt, HT3.out.below HR.out.1, .inl ⟨fnd_step_in HF.out.1 (HF.out.2.1.trans HP.out.1) ?_, rfl, rfl⟩⟩
                    rw [← HP.out.2.2.2]
                    exact HI.out
                  case measure => simp [intOf]; omega
                | true =>
                  have hni : KY ∉ lt := by
                    have := HR.out.2.1 (by trivial)
                    rwa [hfull.out] at this
                  have HI := hid hni
                  clear hni
                  have bD : Below wr.heap.size wr wr.drew := (Below.refl _ _).drew
                  have BB := on HR.out.1 bD
                  obtain ⟨v0, v1, v2, v3, v4, v5, v6, v7⟩ := HV.out
                  have a0 := keep HR.out.1 v0
                  have HQ : Hid (∀ V, Below wr.drew.heap.size wr.drew V → V.cell? ⟨w2.heap.size, 0, none⟩ = some (.int .i64 m0) ∧ V.cell? ⟨w2.heap.size, 1, none⟩ = some (.bool m1) ∧ V.cell? ⟨w2.heap.size, 2, none⟩ = some (.bool m2) ∧ V.cell? ⟨w2.heap.size, 3, none⟩ = some (.int .i64 m3) ∧ V.cell? ⟨w2.heap.size, 4, none⟩ = some (.int .i64 m4) ∧ V.cell? ⟨w2.heap.size, 5, none⟩ = some (.int .i64 m5) ∧ V.cell? ⟨w2.heap.size, 6, none⟩ = some (.int .i64 m6) ∧ V.cell? ⟨w2.heap.size, 7, none⟩ = some (.int .i64 m7) ∧ V.cell? ⟨w.heap.size + 1, 0, none⟩ = some (.int .i64 dom)) := fun V hb => ⟨keep (on BB hb) v0, keep (on BB hb) v1, keep (on BB hb) v2, keep (on BB hb) v3, keep (on BB hb) v4, keep (on BB hb) v5, keep (on BB hb) v6, keep (on BB hb) v7, keep (on BB hb) HN0.out⟩
                  have s0 := HQ.out _ (Below.refl _ _)
                  have HT4 := hid (HT3.out.below BB)
                  have HBD := hid BB
                  clear v0 v1 v2 v3 v4 v5 v6 v7 bD BB
                  go_wp2_with fail
                  refine wp_region_held_drew (S := fun v => v.cell? ⟨w2.heap.size, 0, none⟩ = some (.int .i64 m0) ∧ v.cell? ⟨w2.heap.size, 1, none⟩ = some (.bool m1) ∧ v.cell? ⟨w2.heap.size, 2, none⟩ = some (.bool m2) ∧ v.cell? ⟨w2.heap.size, 3, none⟩ = some (.int .i64 m3) ∧ v.cell? ⟨w2.heap.size, 4, none⟩ = some (.int .i64 m4) ∧ v.cell? ⟨w2.heap.size, 5, none⟩ = some (.int .i64 m5) ∧ v.cell? ⟨w2.heap.size, 6, none⟩ = some (.int .i64 m6) ∧ v.cell? ⟨w2.heap.size, 7, none⟩ = some (.int .i64 m7) ∧ v.cell? ⟨w.heap.size + 1, 0, none⟩ = some (.int .i64 dom)) (by kernel_rfl) s0 (fun hHeld => ?_)
                  generalize wr.drew = wD at *
                  refine By.hk 0 ?_
                  refine By.hk 1 ?_
                  refine By.hk 2 ?_
                  refine By.hk 3 ?_
                  refine wpAnyH_ready (rs := [4]) (by kernel_rfl) (by simp) ?_
                  refine AllReadyH.cons rfl (fun K hK => ?_) AllReadyH.nil
                  go_simp
                  refine (cD _).mono ?_
                  rintro e w4 ⟨rfl, hw4⟩
                  subst w4
                  refine hK.out _ _ s0 (fun hHeld => ?_)
                  clear hK K
                  refine wpAnyH_ready (rs := [5]) (by kernel_rfl) (by simp) ?_
                  refine AllReadyH.cons rfl (fun K hK => ?_) AllReadyH.nil
                  go_simp
                  refine (cK _).mono ?_
                  rintro e w5 ⟨rfl, hb5⟩
                  have s5 := HQ.out _ hb5
                  have s6 := HQ.out _ (on hb5 (al w5 (.cells #[.int .i64 KY] 3)))
                  obtain ⟨x7, c7, w7, hap, H7⟩ := (HT4.out.below hb5).pushT KY (by have := HTl.out; omega)
                  rw [HF.out.2.2] at hap H7
                  refine hK.out _ _ s5 (fun hHeld => ?_)
                  clear hK K
                  refine wpAnyH_ready (rs := [6]) (by kernel_rfl) (by simp) ?_
                  refine AllReadyH.cons rfl (fun K hK => ?_) AllReadyH.nil
                  go_simp
                  refine hK.out _ _ s6 (fun hHeld => ?_)
                  clear hK K
                  refine wpAnyH_ready (rs := [7]) (by kernel_rfl) (by simp) ?_
                  refine AllReadyH.cons rfl (fun K hK => ?_) AllReadyH.nil
                  refine st_append rfl _ _ 34 rfl _ _ rfl rfl hap ?_
                  (try simp only [Act.put, List.getElem_toArray, List.getElem_cons_succ, List.getElem_cons_zero, List.setIfInBounds_toArray, List.set_cons_zero, List.set_cons_succ])
                  have hbx : w7.heap[w2.heap.size]? = w5.heap[w2.heap.size]? := H7.out.2.block _ (cell_lt' (a := ⟨w2.heap.size, 0, none⟩) s5.1) (fun e => by
                    have t1 := HTb.out.of_heap ((on HBD.out hb5).block _ HTb.out.lt)
                    have := ((HT4.out.below hb5).2.2.1.tb e).2.same t1
                    revert this
                    decide)
                  have s7 : w7.cell? ⟨w2.heap.size, 0, none⟩ = some (.int .i64 m0) ∧ w7.cell? ⟨w2.heap.size, 1, none⟩ = some (.bool m1) ∧ w7.cell? ⟨w2.heap.size, 2, none⟩ = some (.bool m2) ∧ w7.cell? ⟨w2.heap.size, 3, none⟩ = some (.int .i64 m3) ∧ w7.cell? ⟨w2.heap.size, 4, none⟩ = some (.int .i64 m4) ∧ w7.cell? ⟨w2.heap.size, 5, none⟩ = some (.int .i64 m5) ∧ w7.cell? ⟨w2.heap.size, 6, none⟩ = some (.int .i64 m6) ∧ w7.cell? ⟨w2.heap.size, 7, none⟩ = some (.int .i64 m7) ∧ w7.cell? ⟨w.heap.size + 1, 0, none⟩ = some (.int .i64 dom) := ⟨(World.cell?_of_block (a := ⟨w2.heap.size, 0, none⟩) hbx).trans s5.1, (World.cell?_of_block (a := ⟨w2.heap.size, 1, none⟩) hbx).trans s5.2.1, (World.cell?_of_block (a := ⟨w2.heap.size, 2, none⟩) hbx).trans s5.2.2.1, (World.cell?_of_block (a := ⟨w2.heap.size, 3, none⟩) hbx).trans s5.2.2.2.1, (World.cell?_of_block (a := ⟨w2.heap.size, 4, none⟩) hbx).trans s5.2.2.2.2.1, (World.cell?_of_block (a := ⟨w2.heap.size, 5, none⟩) hbx).trans s5.2.2.2.2.2.1, (World.cell?_of_block (a := ⟨w2.heap.size, 6, none⟩) hbx).trans s5.2.2.2.2.2.2.1, (World.cell?_of_block (a := ⟨w2.heap.size, 7, none⟩) hbx).trans s5.2.2.2.2.2.2.2.1, keep H7.out.1.1 HU.out.2.1⟩
                  refine hK.out _ _ s7 (fun hHeld => ?_)
                  clear hK K
                  refine By.hk 8 ?_
                  refine wpAnyH_done (by kernel_rfl) ?_ _
                  clear s0 s5 s6 s7 hbx hHeld hap
                  go_wp2_with fail
                  go_roundw
                  case rel =>
                    refine ⟨t + 1, m0, x7, i + 1, c7, by omega, by go_num, rfl, rfl, lt ++ [KY], H7.out.1, .inr ⟨p, ?_, HP.out.2.1, by rw [← HP.out.2.1]; exact HP.out.2.2.1, by rw [HP.out.2.2.2]⟩⟩
                    exact fnd_step_yes HF.out.1 (HF.out.2.1.trans HP.out.1) (by rw [← HP.out.2.2.2]; exact HI.out)
                  case measure => simp [intOf]; omega
        · have hTd : Hid ((chO L d want y (k + 1)).map idP = (chO L d want y k).map idP ++ [who] ∧ tk d (chO L d want y (k + 1)) = lt) := by
            rw [HT.out] at hTr
            exact hTr.done (by omega) ht
          have hlo := form_slice hTw.2.1
          have hlk : ((chO L d want y k).map idP).length = k := by rw [List.length_map, chO_len]
          obtain ⟨x8, c8, w8, hap, H8⟩ := hTw.pushO who (by omega)
          rw [hlo] at hap H8
          have hno : no ≤ 64 := by omega
          have HTw := hid hTw
          clear hTr hTw HT2 hlo hlk
          by_cases ht5 : t < 50
          · have ht6 : (t : Int) < 50 := by omega
            have hwh : (who == -1) = false := by simp; exact fun e => hgo ⟨ht5, e⟩
            clear hgo
            go_wp2_with (at_builtin; refine Lib.wpList_append_run _ rfl _ _ _ _ rfl _ _ rfl rfl _ _ hap ?_)
            go_roundw
            case rel =>
              refine ⟨k + 1, x8, no + 1, c8, xt, nt, ct, by omega, by go_num, rfl, rfl, ?_⟩
              rw [hTd.out.1, hTd.out.2]
              exact H8.out
            case measure => simp [intOf]; omega
          · have ht6 : ¬ (t : Int) < 50 := by omega
            clear hgo
            go_wp2_with (at_builtin; refine Lib.wpList_append_run _ rfl _ _ _ _ rfl _ _ rfl rfl _ _ hap ?_)
            go_roundw
            case rel =>
              refine ⟨k + 1, x8, no + 1, c8, xt, nt, ct, by omega, by go_num, rfl, rfl, ?_⟩
              rw [hTd.out.1, hTd.out.2]
              exact H8.out
            case measure => simp [intOf]; omega
    · have hk2 : k = want := by omega
      subst hk2
      have hl := form_slice HR.out.2.1
      rw [List.length_map, chO_len] at hl
      subst hl
      go_wp2_with fail
      go_ret2
      exact ⟨_, _, rfl, on HB1.out HR.out.1, own_low HR.out.2.1 HB1.out.size⟩

end Go.Proofs.YthlfmbijagpggaaGreat.Cr

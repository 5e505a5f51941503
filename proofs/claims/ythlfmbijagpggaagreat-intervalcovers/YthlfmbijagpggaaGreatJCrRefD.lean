/-
  2 texts of this proof, one behind the other: CrRefD, CrRefR.
-/
import Derived.Test.YthlfmbijagpggaaGreatCrRefW
import Derived.Test.YthlfmbijagpggaaGreatCrDesc
import Derived.Lib.AppendZeros
import Derived.Test.YthlfmbijagpggaaGreatByHk
import Derived.Test.YthlfmbijagpggaaGreatCrTop
import Derived.Test.YthlfmbijagpggaaGreatAtRefMay
/-
  The document's descent.
  Conditions: the list lies in memory, and is one of a map that may be; numbers of 32 bits.
-/
namespace Go.Proofs.YthlfmbijagpggaaGreat.Cr
open Go.RowKit By Fl At
open Sr (Wd Ws enW cho DL rchoose_any)
open Mi (h2 h2_lt rhash2_any)
set_option linter.unusedVariables false
set_option linter.unusedSimpArgs false
set_option maxRecDepth 100000

/- What is told of a descent. -/
def RD (L : List Osd) (y r : Nat) (e : Ending) : Prop :=
  (dsc L y r = none ∧ e = .returned (.tuple #[vO (noO 0), .bool false])) ∨ ∃ (p : Pa) (o : Osd), dsc L y r = some p ∧ o ∈ L ∧ o.rack = p.rk ∧ o.host = p.ho ∧ o.id = p.id ∧ e = .returned (.tuple #[vO o, .bool true])

/- Whoever is left has the numbers that were met. -/
def Fit (L T : List Osd) (d : Nat) (p : Pa) : Prop := (∀ o ∈ T, o ∈ L ∧ (d < 3 → o.rack = p.rk) ∧ (d < 2 → o.host = p.ho) ∧ (d < 1 → o.id = p.id)) ∧ (d < 3 → T ≠ []) ∧ T.length ≤ L.length

theorem Fit.step {L T : List Osd} {d : Nat} {p : Pa} {k : Int} (h : Fit L T (d + 1) p) (hd : d ≤ 2) (hk : ∃ o ∈ T, kO (d + 1) o = k) : Fit L (sub T (d + 1) k) d (putP (d + 1) k p) := by
  obtain ⟨h1, h2, h3⟩ := h
  refine ⟨fun o ho => ?_, fun _ e => ?_, Nat.le_trans (List.length_filter_le _ _) h3⟩
  · obtain ⟨h4, h5⟩ := mem_sub.1 ho
    obtain ⟨g1, g2, g3, g4⟩ := h1 o h4
    rcases (show d = 0 ∨ d = 1 ∨ d = 2 by omega) with rfl | rfl | rfl
    · refine ⟨g1, fun _ => ?_, fun _ => ?_, fun _ => ?_⟩
      · exact g2 (by omega)
      · exact g3 (by omega)
      · exact h5
    · refine ⟨g1, fun _ => ?_, fun _ => ?_, fun h => by omega⟩
      · exact g2 (by omega)
      · exact h5
    · refine ⟨g1, fun _ => h5, fun h => by omega, fun h => by omega⟩
  · obtain ⟨o, ho, e2⟩ := hk
    have := mem_sub.2 ⟨ho, e2⟩
    rw [e] at this
    cases this

structure De (w wr : World) (L : List Osd) (y r d : Nat) (xr : Option Addr) (nr cr : Nat) (T : List Osd) (p : Pa) : Prop where
  bel : Below w.heap.size w wr
  res : wr.heap[w.heap.size]? = some (.cells #[.int .i64 0, .bool false, .bool false, .int .i64 0, .int .i64 0, .int .i64 0, .int .i64 0, .int .i64 0] 53 (0, 0))
  os : At.Os wr xr nr cr T
  eq : dsc L y r = fin y r d T p
  fit : Fit L T d p

theorem De.below {w wr w' : World} {L : List Osd} {y r d : Nat} {xr : Option Addr} {nr cr : Nat} {T : List Osd} {p : Pa} (h : De w wr L y r d xr nr cr T p) (hb : Below wr.heap.size wr w') : De w w' L y r d xr nr cr T p :=
  ⟨on h.bel hb, (hb.block _ (Array.getElem?_eq_some_iff.1 h.res).1).trans h.res, h.os.below hb, h.eq, h.fit⟩

theorem sub_take_yes {T : List Osd} {d i : Nat} {k : Int} {o : Osd} (h : T[i]? = some o) (hk : kO d o = k) : sub (T.take (i + 1)) d k = sub (T.take i) d k ++ [o] := by
  rw [List.take_add_one, h, sub_app]
  simp [sub, hk]
theorem sub_take_no {T : List Osd} {d i : Nat} {k : Int} {o : Osd} (h : T[i]? = some o) (hk : ¬ kO d o = k) : sub (T.take (i + 1)) d k = sub (T.take i) d k := by
  rw [List.take_add_one, h, sub_app]
  simp [sub, hk]

/- append(l, o). -/
theorem push_o {w : World} {B : Nat} {R : Value} {l : List Osd} (h : Own w B 53 8 enO R l) (o : Osd) (hl : l.length ≤ 1000) (hB : B ≤ w.heap.size) :
    ∃ x' c' w3, (Builtin.append_ #[47, 47] 47 #[R, .slice (some ⟨w.heap.size, 0, none⟩) 1 1]).run Tryz.prog (w.alloc (.cells #[.int .i64 o.id, .bool o.up, .bool o.inn, .int .i64 o.wt, .int .i64 o.life, .int .i64 o.boot, .int .i64 o.host, .int .i64 o.rack] 53)) = .ok (.slice x' (l.length + 1) c') w3 ∧
      Hid (Own w3 B 53 8 enO (.slice x' (l.length + 1) c') (l ++ [o]) ∧ Turns (fun j => R.ownBlock = some j) w w3) := by
  have b1 := al w (.cells #[.int .i64 o.id, .bool o.up, .bool o.inn, .int .i64 o.wt, .int .i64 o.life, .int .i64 o.boot, .int .i64 o.host, .int .i64 o.rack] 53)
  obtain ⟨x', c', w3, hap, HO⟩ := (h.below b1).push orow (by simp; omega) ⟨w.heap.size, 0, none⟩ 1 1 [o] rfl (fun j u hj => by
    rw [add_at, Nat.zero_add]
    rw [flat_one] at hj
    match j, hj with
    | 0, hj => simpa [enO] using hj
    | 1, hj => simpa [enO] using hj
    | 2, hj => simpa [enO] using hj
    | 3, hj => simpa [enO] using hj
    | 4, hj => simpa [enO] using hj
    | 5, hj => simpa [enO] using hj
    | 6, hj => simpa [enO] using hj
    | 7, hj => simpa [enO] using hj
    | j + 8, hj => simp [enO] at hj) (by omega)
  obtain ⟨o3, t3, n3⟩ := HO.out
  exact ⟨x', c', w3, hap, o3, (Turns.of_below b1).trans t3⟩

set_option maxHeartbeats 6400000 in
theorem rdesc_any {w : World} {x : Option Addr} {n c : Nat} {L : List Osd} (h : At.Os w x n c L) (hn : n ≤ 64) (hB : WB L) (y r : Nat) (hy : y < 4294967296) (hr : r < 4294967296) :
    Calls Tryz.prog 49 #[.slice x n c, .int .u32 (y : Nat), .int .u32 (r : Nat)] w fun e w' => Hid (RD L y r e) ∧ Below w.heap.size w w' := by
  have H0 : Hid (De w (w.alloc (.cells #[.int .i64 0, .bool false, .bool false, .int .i64 0, .int .i64 0, .int .i64 0, .int .i64 0, .int .i64 0] 53)) L y r 3 x n c L noPa) := ⟨al _ _, heap_alloc_new w _, h.below (al _ _), dsc_fin L y r, fun o ho => ⟨ho, fun h => by omega, fun h => by omega, fun h => by omega⟩, fun h => by omega, Nat.le_refl _⟩
  have HL := hid h.len
  have HW := hid hB
  clear h hB
  go_enter Tryz.func49, Tryz.ntmps49
  go_wp2_with fail
  go_loopw [8, 0] (fun i s wr => ∃ (e : Nat) (xr : Option Addr) (nr cr : Nat), 1 ≤ e ∧ e ≤ 4 ∧ i = .int .i64 e ∧ s = .slice xr nr cr ∧ nr ≤ 64 ∧ Hid (∃ T p, De w wr L y r (4 - e) xr nr cr T p)) (fun i _ _ => 4 - (intOf i).toNat)
  case atStart => exact ⟨1, x, n, c, by omega, by omega, rfl, rfl, hn, L, noPa, H0.out⟩
  case round =>
    clear H0
    obtain ⟨e, xr, nr, cr, he1, he4, rfl, rfl, hnr, HR⟩ := hrel
    obtain ⟨T, p, D⟩ := HR.out
    clear HR
    by_cases hlt : e ≤ 3
    · have hle : (e : Int) ≤ 3 := by omega
      have hcon : IntKind.u32.wrap (e : Int) = (e : Int) := by rw [IntKind.wrap_u32]; omega
      obtain ⟨q, hq⟩ : ∃ q, q = 3 - e := ⟨_, rfl⟩
      have hq1 : 4 - e = q + 1 := by omega
      have hTB : WB T := fun o ho => HW.out o (D.fit.1 o ho).1
      rw [hq1] at D
      have cW := weighed_any D.os hnr hTB (e : Int)
      rw [show (4 - (e : Int)).toNat = q + 1 by omega] at cW
      have cH := fun W => rhash2_any y e W hy (by omega)
      have HCh : Hid (∀ (W : World) (xg : Option Addr) (ng cg : Nat), Ws W xg ng cg (wg (q + 1) T) → Calls Tryz.prog 60 #[.slice xg ng cg, .int .u32 (h2 y e : Nat), .int .u32 (r : Nat)] W fun e w' => e = .returned (.int .i64 (lv T (q + 1) y r)) ∧ Below W.heap.size W w') := fun W xg ng cg hw => by
        have := rchoose_any hw (h2 y e) r (h2_lt _ _) hr
        have e2 : cho (DL (h2 y e) r (wg (q + 1) T)) ng = lv T (q + 1) y r := by
          unfold lv
          rw [hw.len, show 4 - (q + 1) = e by omega]
        rw [e2] at this
        exact this
      have cK := fun o W => key_any o (e : Int) W
      rw [show (4 - (e : Int)).toNat = q + 1 by omega] at cK
      have CK := hid cK
      have HD := hid D
      have HQ := hid hq1
      clear D hTB hq1 cK
      by_cases hneg : lv T (q + 1) y r < 0
      · have HN : Hid (fin y r (q + 1) T p = none) := by
          have : stp T (q + 1) y r = none := by unfold stp; rw [if_pos hneg]
          show fin y r (q + 1) T p = none
          simp only [fin, this]
        generalize lv T (q + 1) y r = lvv at *
        generalize h2 y e = hh at *
        go_wp2_with (first
          | (go_at_call 59; refine cW.mono ?_; rintro e w1 ⟨xg, ng, cg, rfl, H1⟩; clear cW; have cC := HCh.out w1 xg ng cg H1.out.1)
          | (go_at_call 44; refine (cH _).mono ?_; rintro e w2 ⟨rfl, hw2⟩; subst w2; clear cH)
          | (
            go_at_call 60
            refine cC.mono ?_
            rintro e w3 ⟨rfl, hb3⟩
            clear cC
            have D3 := HD.out.below (on H1.out.2 hb3)
            have r0 := cell_heap (j := 0) D3.res rfl
            have r1 := cell_heap (j := 1) D3.res rfl
            have r2 := cell_heap (j := 2) D3.res rfl
            have r3 := cell_heap (j := 3) D3.res rfl
            have r4 := cell_heap (j := 4) D3.res rfl
            have r5 := cell_heap (j := 5) D3.res rfl
            have r6 := cell_heap (j := 6) D3.res rfl
            have r7 := cell_heap (j := 7) D3.res rfl
            have f0 := fr_heap D3.res 0
            have f1 := fr_heap D3.res 1
            have f2 := fr_heap D3.res 2
            have f3 := fr_heap D3.res 3
            have f4 := fr_heap D3.res 4
            have f5 := fr_heap D3.res 5
            have f6 := fr_heap D3.res 6
            have f7 := fr_heap D3.res 7
            have H3 := hid D3
            clear D3))
        refine bodyPost_ret (v := .tuple #[vO (noO 0), .bool false]) ?_ rfl ?_
        · rw [results_cell2 rfl]
          unfold vO noO
          go_simp
        · refine ⟨.inl ⟨by rw [HD.out.eq, HN.out], rfl⟩, ?_⟩
          have B1 := H3.out.bel
          have hz := (Array.getElem?_eq_some_iff.1 H3.out.res).1
          repeat (first | with_reducible exact B1 | (with_reducible refine Below.setCell ?_ (by first | (simp; done) | (simp; omega) | omega) _) | (with_reducible refine Below.alloc ?_ (by first | (simp; done) | (simp; omega) | omega) _))
      · have hst : stp T (q + 1) y r = some (pk T (q + 1) (lv T (q + 1) y r)) := by unfold stp; rw [if_neg hneg]
        obtain ⟨i, a, ha1, ha2, ha3, ha4⟩ := stp_some hst
        have hpos := (stp_pos hst).1
        rw [ha1] at HCh hst ha3
        rw [← ha3] at hst
        rw [ha1, ← ha3] at hpos
        have HS := hid (And.intro hst (And.intro ha2 hpos))
        have hneg2 : ¬ ((i : Nat) : Int) < 0 := by omega
        clear hneg hst ha1 ha2 ha3 ha4 hpos
        obtain ⟨aid, awt⟩ := a
        dsimp only at HS
        generalize h2 y e = hh at *
        go_wp2_with (first
          | (go_at_call 59; refine cW.mono ?_; rintro e w1 ⟨xg, ng, cg, rfl, H1⟩; clear cW; have cC := HCh.out w1 xg ng cg H1.out.1)
          | (go_at_call 44; refine (cH _).mono ?_; rintro e w2 ⟨rfl, hw2⟩; subst w2; clear cH)
          | (go_at_call 60; refine cC.mono ?_; rintro e w3 ⟨rfl, hb3⟩; clear cC))
        have D3 := HD.out.below (on H1.out.2 hb3)
        have G3 := H1.out.1.below hb3
        have hing : i < ng := by
          rw [← G3.len]
          exact (List.getElem?_eq_some_iff.1 HS.out.2.1).1
        have hing2 : ((i : Nat) : Int) < (ng : Int) := by omega
        rcases G3.row with q0 | ⟨gb, go, rfl, hgl, hgc⟩
        · omega
        have g0 := (hgc i _ HS.out.2.1).1
        dsimp only at g0
        have H3 := hid D3
        have HG := hid g0
        have hT := D3.os.len
        clear G3 hgc g0 D3 HCh H1 hb3
        obtain ⟨w4, hw4⟩ : ∃ w4, w4 = w3.alloc (.cells #[] 53) := ⟨_, rfl⟩
        have b4 : Below w3.heap.size w3 w4 := by rw [hw4]; exact al _ _
        have HI0 : Hid (Below w3.heap.size w3 w4 ∧ Own w4 w3.heap.size 53 8 enO (.slice (some ⟨w3.heap.size, 0, none⟩) 0 0) (sub (T.take 0) (q + 1) aid)) := ⟨b4, by rw [hw4]; exact Own.empty w3 (Nat.le_refl _) _ _ _⟩
        have HW4 := hid hw4
        rw [← hw4]
        clear hw4 b4
        go_loopw [12, 11] (fun j s wr => ∃ (k : Nat) (xs : Option Addr) (ns cs : Nat), k ≤ nr ∧ j = .int .i64 k ∧ s = .slice xs ns cs ∧ ns ≤ k ∧ Hid (Below w3.heap.size w3 wr ∧ Own wr w3.heap.size 53 8 enO (.slice xs ns cs) (sub (T.take k) (q + 1) aid))) (fun j _ _ => nr - (intOf j).toNat)
        case atStart => exact ⟨0, _, 0, 0, by omega, rfl, rfl, by omega, HI0.out⟩
        case round =>
          clear HI0
          obtain ⟨k, xs, ns, cs, hk, rfl, rfl, hns, HR⟩ := hrel
          by_cases hkn : k < nr
          · have hkn2 : (k : Int) < (nr : Int) := by omega
            obtain ⟨m, hTm⟩ : ∃ m, T[k]? = some m := ⟨T[k]'(by omega), List.getElem?_eq_getElem (by omega)⟩
            rcases (H3.out.os.below HR.out.1).row with q0 | ⟨b, o, rfl, hbl, hcell⟩
            · omega
            obtain ⟨k0, k1, k2, k3, k4, k5, k6, k7⟩ := At.Os.at (n := nr) (c := cr) hcell hTm
            have c1 := fun V => CK.out m V
            have p0 := After.cell k0
            have p1 := After.cell k1
            have p2 := After.cell k2
            have p3 := After.cell k3
            have p4 := After.cell k4
            have p5 := After.cell k5
            have p6 := After.cell k6
            have p7 := After.cell k7
            have p8 := After.cell (keep HR.out.1 HG.out)
            have hlen := form_slice HR.out.2
            have HLn := hid hlen
            have HM := hid hTm
            have HKY : Hid ((kO (q + 1) m = aid → sub (T.take (k + 1)) (q + 1) aid = sub (T.take k) (q + 1) aid ++ [m]) ∧ (¬ kO (q + 1) m = aid → sub (T.take (k + 1)) (q + 1) aid = sub (T.take k) (q + 1) aid)) := ⟨sub_take_yes hTm, sub_take_no hTm⟩
            clear hcell hTm hlen
            generalize kO (q + 1) m = KY at *
            obtain ⟨m0, m1, m2, m3, m4, m5, m6, m7⟩ := m
            unfold vO at c1
            dsimp only at k0 k1 k2 k3 k4 k5 k6 k7 p0 p1 p2 p3 p4 p5 p6 p7 c1
            haveI := After.ne wr
            by_cases hsame : KY = aid
            · have hse : (KY == aid) = true := by simpa using hsame
              go_wp2_with fail
              refine wp_region_after (by kernel_rfl) (by kernel_rfl) ?_
              repeat (go_big_quiet_step ((go_at_call 50; with_reducible refine Calls.after_of (c1 _))))
              refine wpQuiet_nil ?_
              rintro _ ⟨P, rfl⟩
              have t0 := p0 P
              have t1 := p1 P
              have t2 := p2 P
              have t3 := p3 P
              have t4 := p4 P
              have t5 := p5 P
              have t6 := p6 P
              have t7 := p7 P
              have zP := (on HR.out.1 P.h).size
              obtain ⟨x5, c5, w5, hap, H5⟩ := push_o (HR.out.2.below P.h) ⟨m0, m1, m2, m3, m4, m5, m6, m7⟩ (by have := HLn.out; omega) zP
              rw [HLn.out] at hap H5
              dsimp only at hap
              clear p0 p1 p2 p3 p4 p5 p6 p7 p8 k0 k1 k2 k3 k4 k5 k6 k7 c1
              go_wp2_with (at_builtin; refine Lib.wpList_append_run _ rfl _ _ _ _ rfl _ _ rfl rfl _ _ hap ?_)
              go_roundw
              case rel =>
                refine ⟨k + 1, x5, ns + 1, c5, by omega, by go_num, rfl, by omega, ?_, ?_⟩
                · exact (on HR.out.1 P.h).trans (H5.out.2.below (fun j e => ((HR.out.2.below P.h).tb e).1) zP)
                · rw [HKY.out.1 hsame]
                  exact H5.out.1
              case measure => simp [intOf]; omega
            · have hse : (KY == aid) = false := by simpa using hsame
              go_wp2_with fail
              refine wp_region_after (by kernel_rfl) (by kernel_rfl) ?_
              repeat (go_big_quiet_step ((go_at_call 50; with_reducible refine Calls.after_of (c1 _))))
              refine wpQuiet_nil ?_
              rintro _ ⟨P, rfl⟩
              clear p0 p1 p2 p3 p4 p5 p6 p7 p8 k0 k1 k2 k3 k4 k5 k6 k7 c1
              go_wp2_with fail
              go_roundw
              case rel =>
                refine ⟨k + 1, xs, ns, cs, by omega, by go_num, rfl, by omega, on HR.out.1 P.h, ?_⟩
                rw [HKY.out.2 hsame]
                exact HR.out.2.below P.h
              case measure => simp [intOf]; omega
          · have hk2 : k = nr := by omega
            subst hk2
            go_wp2_with fail
            go_roundw
            case rel =>
              have hl2 := form_slice HR.out.2
              have hfull : T.take k = T := by rw [← hT, List.take_length]
              have hO := HR.out.2
              rw [hfull] at hO
              refine ⟨e + 1, xs, ns, cs, by omega, by omega, by go_num, rfl, by omega, sub T (q + 1) aid, putP (q + 1) aid p, ?_⟩
              rw [show 4 - (e + 1) = q by omega]
              have D4 := H3.out.below HR.out.1
              refine ⟨D4.bel, D4.res, own_os hO (by rw [form_slice hO]; omega), ?_, ?_⟩
              · rw [D4.eq]
                simp only [fin, HS.out.1]
              · exact D4.fit.step (by omega) HS.out.2.2
            case measure => simp [intOf]; omega
    · have he5 : e = 4 := by omega
      subst he5
      have hne : T ≠ [] := D.fit.2.1 (by omega)
      obtain ⟨o, ho⟩ : ∃ o, T[0]? = some o := by
        cases T with
        | nil => exact absurd rfl hne
        | cons o T => exact ⟨o, rfl⟩
      have hl := D.os.len
      have hn0 : 0 < nr := by rw [← hl]; exact (List.getElem?_eq_some_iff.1 ho).1
      have hn1 : (0 : Int) < (nr : Int) := by omega
      rcases D.os.row with q0 | ⟨b, of, rfl, hbl, hcell⟩
      · omega
      obtain ⟨k0, k1, k2, k3, k4, k5, k6, k7⟩ := At.Os.at (n := nr) (c := cr) hcell ho
      simp only [Nat.zero_mul, Nat.add_zero] at k0 k1 k2 k3 k4 k5 k6 k7
      have r0 := cell_heap (j := 0) D.res rfl
      have r1 := cell_heap (j := 1) D.res rfl
      have r2 := cell_heap (j := 2) D.res rfl
      have r3 := cell_heap (j := 3) D.res rfl
      have r4 := cell_heap (j := 4) D.res rfl
      have r5 := cell_heap (j := 5) D.res rfl
      have r6 := cell_heap (j := 6) D.res rfl
      have r7 := cell_heap (j := 7) D.res rfl
      have f0 := fr_heap D.res 0
      have f1 := fr_heap D.res 1
      have f2 := fr_heap D.res 2
      have f3 := fr_heap D.res 3
      have f4 := fr_heap D.res 4
      have f5 := fr_heap D.res 5
      have f6 := fr_heap D.res 6
      have f7 := fr_heap D.res 7
      have HD := hid D
      have HM := hid (List.mem_of_getElem? ho)
      clear D hcell ho hne hl
      obtain ⟨m0, m1, m2, m3, m4, m5, m6, m7⟩ := o
      dsimp only at k0 k1 k2 k3 k4 k5 k6 k7
      go_wp2_with fail
      refine bodyPost_ret (v := .tuple #[vO ⟨m0, m1, m2, m3, m4, m5, m6, m7⟩, .bool true]) ?_ rfl ?_
      · rw [results_cell2 rfl]
        unfold vO
        go_simp
      · obtain ⟨g1, g2, g3, g4⟩ := HD.out.fit.1 _ HM.out
        refine ⟨.inr ⟨p, _, by rw [HD.out.eq]; rfl, g1, g2 (by omega), g3 (by omega), g4 (by omega), rfl⟩, ?_⟩
        have B1 := HD.out.bel
        have hz := (Array.getElem?_eq_some_iff.1 HD.out.res).1
        repeat (first | with_reducible exact B1 | (with_reducible refine Below.setCell ?_ (by first | (simp; done) | (simp; omega) | omega) _) | (with_reducible refine Below.alloc ?_ (by first | (simp; done) | (simp; omega) | omega) _))

end Go.Proofs.YthlfmbijagpggaaGreat.Cr

/-
  The document's Descend and Room; lists of int compared.
  Conditions: the map lies in memory; numbers of 32 bits.
-/
namespace Go.Proofs.YthlfmbijagpggaaGreat.Cr
open Go.RowKit By Fl At
open Sr (Wd Ws enW)
set_option linter.unusedVariables false
set_option linter.unusedSimpArgs false
set_option maxRecDepth 100000

theorem rm_eq (d : Nat) (L : List Osd) : rm d L = ((wg d L).filter okW).length := by
  unfold rm pos
  rw [List.length_map]

def eqI (a b : List Int) : Bool := decide (a = b)
set_option maxHeartbeats 1600000 in
theorem ints_any {w : World} {x : Option Addr} {n c : Nat} {l : List Int} {x2 : Option Addr} {n2 c2 : Nat} {l2 : List Int} (h : Nu w x n c l) (h2 : Nu w x2 n2 c2 l2) (hn : n ≤ 1000) :
    Calls Tryz.prog 13 #[.slice x n c, .slice x2 n2 c2] w fun e w' => e = .returned (.bool (decide (l = l2))) ∧ Below w.heap.size w w' := by
  have HL := hid (And.intro h.len h2.len)
  have H1 := hid h
  have H2 := hid h2
  clear h h2
  by_cases hne : n = n2
  · subst hne
    go_enter Tryz.func13, Tryz.ntmps13
    go_wp2_with fail
    go_loopw [5] (fun i wr => ∃ k : Nat, k ≤ n ∧ i = .int .i64 k ∧ Hid (Below w.heap.size w wr ∧ l.take k = l2.take k)) (fun i _ => n - (intOf i).toNat)
    case atStart => exact ⟨0, by omega, rfl, Below.refl _ _, rfl⟩
    case round =>
      obtain ⟨k, hk, rfl, HR⟩ := hrel
      by_cases hlt : k < n
      · have hkn : (k : Int) < (n : Int) := by omega
        obtain ⟨a, ha⟩ : ∃ a, l[k]? = some a := ⟨l[k]'(by have := HL.out.1; omega), List.getElem?_eq_getElem (by have := HL.out.1; omega)⟩
        obtain ⟨b, hb⟩ : ∃ b, l2[k]? = some b := ⟨l2[k]'(by have := HL.out.2; omega), List.getElem?_eq_getElem (by have := HL.out.2; omega)⟩
        rcases (H1.out.below HR.out.1).row with q0 | ⟨g, o, rfl, hg, hgc⟩
        · omega
        rcases (H2.out.below HR.out.1).row with q0 | ⟨g2, o2, rfl, hg2, hgc2⟩
        · omega
        have p0 := After.cell (hgc k a ha)
        have p1 := After.cell (hgc2 k b hb)
        haveI := After.ne wr
        have HE := hid (And.intro ha hb)
        clear ha hb hgc hgc2
        by_cases hab : a = b
        · have e1 : (a != b) = false := by simpa using hab
          have HA := hid hab
          clear hab
          go_wp2_with fail
          refine wp_region_after (by kernel_rfl) (by kernel_rfl) ?_
          repeat (go_big_quiet_step (fail))
          refine wpQuiet_nil ?_
          rintro _ ⟨P, rfl⟩
          go_wp2_with fail
          go_roundw
          case rel =>
            refine ⟨k + 1, by omega, by go_num, on HR.out.1 P.h, ?_⟩
            rw [List.take_add_one, List.take_add_one, HR.out.2, HE.out.1, HE.out.2, HA.out]
          case measure => simp [intOf]; omega
        · have e1 : (a != b) = true := by simpa using hab
          have HA := hid hab
          clear hab
          go_wp2_with fail
          refine wp_region_after (by kernel_rfl) (by kernel_rfl) ?_
          repeat (go_big_quiet_step (fail))
          refine wpQuiet_nil ?_
          rintro _ ⟨P, rfl⟩
          go_wp2_with fail
          go_ret
          refine ⟨?_, on HR.out.1 P.h⟩
          rw [decide_eq_false fun e => HA.out (Option.some.inj (by rw [← HE.out.1, ← HE.out.2, e]))]
          rfl
      · have hk2 : k = n := by omega
        subst hk2
        go_wp2_with fail
        go_ret
        refine ⟨?_, HR.out.1⟩
        have e1 := HR.out.2
        rw [List.take_of_length_le (by have := HL.out.1; omega), List.take_of_length_le (by have := HL.out.2; omega)] at e1
        rw [decide_eq_true e1]
        rfl
  · have e1 : ((n : Int) != (n2 : Int)) = true := by simp; omega
    have HN := hid hne
    clear hne
    go_enter Tryz.func13, Tryz.ntmps13
    go_wp2_with fail
    go_ret
    refine ⟨?_, Below.refl _ _⟩
    rw [decide_eq_false fun e => HN.out (by rw [← HL.out.1, ← HL.out.2, e])]
    rfl

end Go.Proofs.YthlfmbijagpggaaGreat.Cr

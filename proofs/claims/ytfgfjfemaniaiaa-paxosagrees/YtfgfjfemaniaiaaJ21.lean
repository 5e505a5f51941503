/-
  5 texts of this proof, one behind the other: PxDrive4, PxDrive5, PxDrive6, PxStart, PxUrge.
-/
import Derived.Test.YtfgfjfemaniaiaaJ20
import Derived.Test.YtfgfjfemaniaiaaJ19
/-
  Package paxos: drive, at any state, over any level that settle and pick lower: the loop.
  Conditions: the monitor is one that New gave ('NdAt').
-/
namespace Go.Proofs.Ytfgfjfemaniaiaa.Px
open Go.RowKit Wi By Fl Ba
set_option linter.unusedVariables false
set_option linter.unusedSimpArgs false
set_option maxRecDepth 100000

theorem least_get {p : Nat → Prop} (h : ∃ k, p k) : ∃ mu, p mu ∧ ∀ k' : Nat, k' < mu → k' < Classical.epsilon (fun m => p m ∧ ∀ j, p j → m ≤ j) := ⟨_, (least_is h).1, fun _ h => h⟩

theorem tdiv_nat (a b : Nat) : ((a : Int).tdiv (b : Int)) = ((a / b : Nat) : Int) := by
  rw [Int.tdiv_eq_ediv_of_nonneg (by omega)]
  rfl

section
variable {w : World} {B : Nat} {g : Ln} {st : Nd} {n : Nat} {said : ByteArray → Prop} {G : Gh} {Lv : Nd → Nat → Prop} {L0 : Nat}

theorem Step.more {w' : World} {st' : Nd} {R : Value} {k k' : Nat} (h : Step n said G w w' B g st st' R k) (hk : k ≤ k') : Step n said G w w' B g st st' R k' := by
  obtain ⟨G', s1, s2, s3, s4, s5, s6⟩ := h
  exact ⟨G', s1.mono hk, s2, s3, s4, s5, s6.mono hk (fun _ h => h)⟩

theorem DLv.below {k : Nat} {out : Value} {wr w3 : World} (h : DLv n said Lv L0 G w B g st k out wr) (b : Below wr.heap.size wr w3) : DLv n said Lv L0 G w B g st k out w3 := by
  obtain ⟨st1, G1, l1, h1, q1, x1, o1, nb1, m1, i1, s1⟩ := h
  exact ⟨st1, G1, l1, h1.then b, q1, x1, o1, nb1, m1.below b, i1, s1⟩

set_option maxHeartbeats 4800000 in
theorem drive_lv (hL : Lev n Lv L0) (h : NdAt w B g st) (k : NodeOk n said G st) (q : GI n said G) (nb : NB n st) (hn : n ≤ 7) (hgn : gnb g < 10000000000000) (K0 : Nat) (hK : Lv st K0) :
    Calls Try.prog 52 #[.pointer (some ⟨g.p, 0, none⟩)] w fun e w' => ∃ R, e = .returned R ∧ Hid (∃ kk, DLv n said Lv L0 G w B g st kk R w') := by
  have H0 : Hid (∃ kk, DLv n said Lv L0 G w B g st kk (.slice none 0 0) w) := ⟨K0, st, G, hK, (Goes.same h (Below.refl _ _)).mono (Nat.zero_le _), q, GExt.refl _ _, k, nb, (MlsK.nil _ _ _ _ _).mono (Nat.zero_le _) (fun _ h => h), rfl, rfl⟩
  have HL := hid hL
  have Hg := hid hgn
  have hdiv : (n : Int).tdiv 2 = ((n / 2 : Nat) : Int) := tdiv_nat n 2
  clear h k q nb hK hL hgn
  go_enter Try.func52, Try.ntmps52
  go_wp2_with fail
  go_loopw [3, 4, 5, 6, 7] (fun out _ _ _ _ wr => Hid (∃ kk, DLv n said Lv L0 G w B g st kk out wr)) (fun out _ _ _ _ wr => Classical.epsilon fun m => DLv n said Lv L0 G w B g st m out wr ∧ ∀ j, DLv n said Lv L0 G w B g st j out wr → m ≤ j)
  case atStart => exact H0.out
  case round =>
    clear H0
    obtain ⟨mu, hmu, hmul⟩ := least_get hrel.out
    have HMl := hid hmul
    obtain ⟨st1, G1, l1, ⟨g1, e1, k1, t1, n1, f1⟩, q1, x1, o1, nb1, m1, i1, s1⟩ := hmu
    obtain ⟨hmL, hdl1⟩ := HL.out.le st1 mu l1
    have htop := HL.out.top
    clear hmul
    cases hb : st1.bid with
    | none =>
      have hgb : g1.b = none := by
        rcases k1.bid with ⟨p1, _⟩ | ⟨l, b, p1, p2, _⟩
        · exact p1
        · rw [hb] at p2
          cases p2
      have c6 : wr.cell? ⟨g.p, 6, none⟩ = some (.pointer none) := by rw [← e1, k1.c6, hgb]; rfl
      clear k1 t1 n1 f1 m1 o1 nb1 q1 x1 l1 hgb HMl
      go_wp2_with fail
      go_ret
      exact ⟨_, rfl, hrel.out⟩
    | some b =>
      have hBO := o1.bid b hb
      have hnum : b.num < 4294967296 := by have := hBO.num; omega
      have hn1 : st1.n = n := o1.sn
      have hid1 : st1.id < n := o1.sid
      have HS : Hid (∀ W, Below wr.heap.size wr W → Calls Try.prog 71 #[.pointer (some ⟨g.p, 0, none⟩)] W fun e w' => ∃ (V : Nat → AccV), e = .returned (.slice (some ⟨W.heap.size, 0, none⟩) n n) ∧ Hid (Below W.heap.size W w' ∧ Accs w' (some ⟨W.heap.size, 0, none⟩) n V ∧ ∀ i, i < n → AvOk w' (V i) ∧ acOf (V i) = stA st1 b i)) := fun W bW => by
        have p := states_any (k1.below bW) b hb (by rw [hn1]; exact hn) (by rw [hn1]; exact hid1) hnum
        rw [e1, hn1] at p
        exact p
      have hS := HS.out wr (Below.refl _ _)
      rcases k1.bid with ⟨_, p2⟩ | ⟨l, b', p1, p2, p3, p4⟩
      · rw [hb] at p2
        cases p2
      rw [hb] at p2
      injection p2 with p2
      subst p2
      have c6 : wr.cell? ⟨g.p, 6, none⟩ = some (.pointer (some ⟨l.bp, 0, none⟩)) := by rw [← e1, k1.c6, p1]; rfl
      have c1 : wr.cell? ⟨g.p, 1, none⟩ = some (.int .i64 (n : Int)) := by rw [← e1, k1.c1, hn1]
      have d3 := p3.c3
      have hln : b.val.length = l.n := p3.val.sl.len
      have hpe : ∀ W : World, (binOp .neq 61 (.pointer (some ⟨l.bp, 0, none⟩)) (.pointer none)).run Try.prog W = .ok (.bool true) W := fun _ => by kernel_rfl
      have hgn1 : gnb g1 < 100000000000000 := by have := Hg.out; omega
      have hseen : ∀ j, j < n → Told G1 b.num j (stA st1 b j) := fun j hj => by rw [seen_is]; exact o1.seen b hb j hj
      have HK := hid (And.intro k1 (And.intro o1 (And.intro q1 (And.intro nb1 (And.intro t1 (And.intro n1 (And.intro f1 (And.intro x1 (And.intro m1 (And.intro i1 (And.intro s1 (And.intro l1 (And.intro hb (And.intro e1 (And.intro hgn1 hseen)))))))))))))))
      have Hdl := hid (And.intro hdl1 hmL)
      by_cases hCho : ChoS (stA st1 b) n
      · have HCho := hid hCho
        clear k1 o1 q1 nb1 t1 n1 f1 x1 m1 i1 s1 l1 hb e1 hgn1 hseen hCho hdl1 hmL p1 p3 p4 hBO hln HS hn1 hid1 d3
        generalize l.bp = bp at *
        go_wp2_with (first
          | (
             go_at_call 71; refine hS.mono ?_; rintro e w1 ⟨V, rfl, H1⟩; clear hS
             have hC1 := chosen_yes (S := stA st1 b) _ n V H1.out.2.1 (fun i hi => (H1.out.2.2 i hi).2) HCho.out
             unfold bt at hC1)
          | (
             go_at_call 70; refine hC1.mono ?_; rintro e w2 ⟨bb, kk, y2, m2, cy2, rfl, H2⟩; clear hC1
             have hB2 := on (on H1.out.1 H2.out.2.2.2.2.2.1) (al w2 (.cells #[.int .i64 bb.1, .int .i64 bb.2] 72))
             obtain ⟨d, hd1, hd2, hSt⟩ : ∃ d, (stA st1 b kk).d = dbytes d ∧ Asked n said d ∧ Calls Try.prog 72 #[.pointer (some ⟨g.p, 0, none⟩), .slice y2 m2 cy2] (w2.alloc (.cells #[.int .i64 bb.1, .int .i64 bb.2] 72)) fun e w' => ∃ R, e = .returned R ∧ Hid (∃ st', Step n said G1 (w2.alloc (.cells #[.int .i64 bb.1, .int .i64 bb.2] 72)) w' B g1 st1 st' R 20 ∧ st'.dec = st1.dec ++ [d] ∧ st'.wait = left d st1.wait ∧ st'.id = st1.id ∧ st'.ser = st1.ser ∧ (st' = learned st1 d ∨ ∃ b, st' = begunG (learned st1 d) b)) := by
               obtain ⟨r1, r2, r3, r4, r5, r6⟩ := H2.out
               obtain ⟨k1, o1, q1, nb1, t1, n1, f1, x1, m1, i1, s1, l1, hb, e1, hgn1, hseen⟩ := HK.out
               obtain ⟨hc1, d, hd1, hd2⟩ := o1.chosen q1 b hb (stA st1 b) hseen bb r1 r2 kk r3 r4
               rw [hd1] at hc1 r6
               have p := settle_any (k1.below hB2) o1 q1 nb1 hn (by omega) Hdl.out.1 d hc1 hd2 y2 m2 cy2 (r6.2.1.below (al _ _)) (by rw [r5]; exact (H1.out.2.2 kk r3).1.sv.sm)
               rw [e1] at p
               exact ⟨d, hd1, hd2, p⟩
             have HB2 := hid hB2
             have HD1 := hid (And.intro hd1 hd2)
             clear hB2 hd1 hd2)
          | (
             go_at_call 72; refine hSt.mono ?_; rintro e w4 ⟨R4, rfl, H4⟩; clear hSt
             obtain ⟨k', R', W', hk', hr, HD⟩ : ∃ k' R' W', k' < mu ∧ (Builtin.append_ #[49, 49] 49 #[_, R4]).run Try.prog w4 = .ok R' W' ∧ Hid (DLv n said Lv L0 G w B g st k' R' W') := by
               obtain ⟨st', hs, p1, p2, p3, p4, p5⟩ := H4.out
               obtain ⟨k1, o1, q1, nb1, t1, n1, f1, x1, m1, i1, s1, l1, hb, e1, hgn1, hseen⟩ := HK.out
               obtain ⟨r1, r2, r3, r4, r5, r6⟩ := H2.out
               have hset := HL.out.set st1 mu b d l1 hb ⟨kk, r3, by rw [r4]; exact r1, HD1.out.1⟩ HCho.out (asked_sd HD1.out.2)
               obtain ⟨k', hk', hlv⟩ : ∃ k', k' < mu ∧ Lv st' k' := by
                 rcases p5 with e | ⟨b', e⟩
                 · rw [e]; exact hset.1
                 · rw [e]; exact hset.2 b'
               obtain ⟨R', W', hr, HD⟩ := DLv.step HL.out e1 k1 t1 n1 f1 x1 m1 i1 s1 HB2.out hs hk' Hdl.out.2 hlv p3 p4
               exact ⟨k', R', W', hk', hr, HD⟩)
          | (
             at_builtin; refine wpList_append_run rfl _ _ 49 rfl _ _ rfl rfl hr ?_; clear hr))
        go_roundw
        case rel => exact ⟨k', HD.out⟩
        case measure => exact Nat.lt_of_le_of_lt ((least_is ⟨k', HD.out⟩).2 k' HD.out) (HMl.out k' hk')
      · have HCho := hid hCho
        have hw2 : wrap64 ((n / 2 : Nat) : Int) = ((n / 2 : Nat) : Int) := by unfold wrap64; omega
        obtain ⟨C, hCdef⟩ : ∃ C, C = cnt (fun i => eqb (stA st1 b i).p b.bal) n := ⟨_, rfl⟩
        have HPr : Hid (∀ W, Below wr.heap.size wr W → Calls Try.prog 73 #[.pointer (some ⟨g.p, 0, none⟩)] W fun e w' => ∃ (x : Option Addr) (c : Nat) (V : Nat → AccV), e = .returned (.slice x C c) ∧ Hid (Below W.heap.size W w' ∧ Own w' W.heap.size 74 5 encA (.slice x C c) (firstOf V b.bal n) ∧ ∀ i, i < n → AvOk w' (V i) ∧ acOf (V i) = stA st1 b i)) := fun W bW => by
          have p := promised_any (k1.below bW) b hb (by rw [hn1]; exact hn) (by rw [hn1]; exact hid1) hnum
          rw [e1, hn1] at p
          refine p.mono fun e w' ⟨x, m, c, V, a1, a2⟩ => ?_
          obtain ⟨a3, a4, a5, a6⟩ := a2.out
          have em : m = C := by
            rw [a4, ← cnt_first, hCdef]
            refine cnt_congr (fun i hi => ?_)
            rw [← (a6 i hi).2]
            rfl
          subst em
          exact ⟨x, c, V, a1, a3, a5, a6⟩
        clear hCdef
        clear k1 o1 q1 nb1 t1 n1 f1 x1 m1 i1 s1 l1 hb e1 hgn1 hseen hCho hdl1 hmL p1 p3 p4 hBO HS hn1 hid1 hnum
        generalize l.bp = bp at *
        by_cases hval : b.val = []
        · have HVal := hid hval
          have hln0 : l.n = 0 := by rw [← hln, hval]; rfl
          rw [hln0] at d3
          clear hln0 hln hval
          by_cases hCC : n / 2 < C
          · have HCC := hid hCC
            have i1 : ¬ (C : Int) ≤ ((n / 2 : Nat) : Int) := by omega
            generalize n / 2 = h2 at i1 hdiv hw2
            clear hCC
            go_wp2_with (first
              | (
                 go_at_call 71; refine hS.mono ?_; rintro e w1 ⟨V, rfl, H1⟩; clear hS
                 have hC1 := chosen_no (S := stA st1 b) _ n V H1.out.2.1 (fun i hi => (H1.out.2.2 i hi).2) HCho.out
                 unfold bt z0 at hC1)
              | (
                 go_at_call 70; refine hC1.mono ?_; rintro e w2 ⟨rfl, H2⟩; clear hC1
                 have hB2 := on (on H1.out.1 H2.out) (al w2 (.cells #[.int .i64 0, .int .i64 0] 72))
                 have hP1 := HPr.out _ hB2
                 have HB2 := hid hB2
                 clear hB2)
              | (
                 go_at_call 73; refine hP1.mono ?_; rintro e w3 ⟨x3, c3, V3, rfl, H3⟩; clear hP1
                 have hB3 := on HB2.out H3.out.1
                 have s6 := keep hB3 c6
                 have s1 := keep hB3 c1
                 have s3 := keep hB3 d3
                 have hPk : Calls Try.prog 74 #[.pointer (some ⟨g.p, 0, none⟩), .slice x3 C c3] w3 fun e w' => ∃ R, e = .returned R ∧ Hid (∃ st', Step n said G1 w3 w' B g1 st1 st' R 7 ∧ st'.dec = st1.dec ∧ st'.wait = st1.wait ∧ st'.id = st1.id ∧ st'.ser = st1.ser ∧ ∃ dd d ws, st1.wait = d :: ws ∧ dd ≠ [] ∧ (st' = valued st1 b dd ∨ st' = pickedG st1 b dd ∧ (dd = dbytes d ∨ ∃ j, j < n ∧ (stA st1 b j).a ≠ z0))) := by
                   obtain ⟨k1, o1, q1, nb1, t1, n1, f1, x1, m1, i1, s1, l1, hb, e1, hgn1, hseen⟩ := HK.out
                   have p := pick_any (k1.below hB3) o1 q1 nb1 hn (by omega) b hb HVal.out x3 C c3 V3 H3.out.2.1 H3.out.2.2 HCC.out
                   rw [e1] at p
                   exact p
                 have HB3 := hid hB3
                 clear hB3 c6 c1 d3)
              | (
                 go_at_call 74; refine hPk.mono ?_; rintro e w4 ⟨R4, rfl, H4⟩; clear hPk
                 obtain ⟨k', R', W', hk', hr, HD⟩ : ∃ k' R' W', k' < mu ∧ (Builtin.append_ #[49, 49] 49 #[_, R4]).run Try.prog w4 = .ok R' W' ∧ Hid (DLv n said Lv L0 G w B g st k' R' W') := by
                   obtain ⟨st', hs, p1, p2, p3, p4, dd, d, ws, u1, u2, u3⟩ := H4.out
                   obtain ⟨k1, o1, q1, nb1, t1, n1, f1, x1, m1, i1, s1, l1, hb, e1, hgn1, hseen⟩ := HK.out
                   have hpk := HL.out.pick st1 mu b dd d ws l1 hb HVal.out HCho.out u1 u2
                   obtain ⟨k', hk', hlv⟩ : ∃ k', k' < mu ∧ Lv st' k' := by
                     rcases u3 with e | ⟨e, e9⟩
                     · rw [e]; exact hpk.1
                     · rw [e]; exact hpk.2 e9
                   obtain ⟨R', W', hr, HD⟩ := DLv.step HL.out e1 k1 t1 n1 f1 x1 m1 i1 s1 HB3.out (hs.more (by omega)) hk' Hdl.out.2 hlv p3 p4
                   exact ⟨k', R', W', hk', hr, HD⟩)
              | (
                 at_builtin; refine wpList_append_run rfl _ _ 49 rfl _ _ rfl rfl hr ?_; clear hr))
            go_roundw
            case rel => exact ⟨k', HD.out⟩
            case measure => exact Nat.lt_of_le_of_lt ((least_is ⟨k', HD.out⟩).2 k' HD.out) (HMl.out k' hk')
          · have i1 : (C : Int) ≤ ((n / 2 : Nat) : Int) := by omega
            generalize n / 2 = h2 at i1 hdiv hw2
            clear hCC
            go_wp2_with (first
              | (
                 go_at_call 71; refine hS.mono ?_; rintro e w1 ⟨V, rfl, H1⟩; clear hS
                 have hC1 := chosen_no (S := stA st1 b) _ n V H1.out.2.1 (fun i hi => (H1.out.2.2 i hi).2) HCho.out
                 unfold bt z0 at hC1)
              | (
                 go_at_call 70; refine hC1.mono ?_; rintro e w2 ⟨rfl, H2⟩; clear hC1
                 have hB2 := on (on H1.out.1 H2.out) (al w2 (.cells #[.int .i64 0, .int .i64 0] 72))
                 have hP1 := HPr.out _ hB2
                 have HB2 := hid hB2
                 clear hB2)
              | (
                 go_at_call 73; refine hP1.mono ?_; rintro e w3 ⟨x3, c3, V3, rfl, H3⟩; clear hP1
                 have hB3 := on HB2.out H3.out.1
                 have s6 := keep hB3 c6
                 have s1 := keep hB3 c1
                 have s3 := keep hB3 d3
                 have HB3 := hid hB3
                 clear hB3 c6 c1 d3))
            go_ret
            exact ⟨_, rfl, mu, DLv.below (by obtain ⟨k1, o1, q1, nb1, t1, n1, f1, x1, m1, i1, s1, l1, hb, e1, hgn1, hseen⟩ := HK.out; exact ⟨st1, G1, l1, ⟨g1, e1, k1, t1, n1, f1⟩, q1, x1, o1, nb1, m1, i1, s1⟩) HB3.out⟩
        · have i0 : (0 : Int) < (l.n : Int) := by
            have : b.val.length ≠ 0 := fun e => hval (List.eq_nil_of_length_eq_zero e)
            omega
          clear hln hval
          go_wp2_with (first
            | (
               go_at_call 71; refine hS.mono ?_; rintro e w1 ⟨V, rfl, H1⟩; clear hS
               have hC1 := chosen_no (S := stA st1 b) _ n V H1.out.2.1 (fun i hi => (H1.out.2.2 i hi).2) HCho.out
               unfold bt z0 at hC1)
            | (
               go_at_call 70; refine hC1.mono ?_; rintro e w2 ⟨rfl, H2⟩; clear hC1
               have hB2 := on (on H1.out.1 H2.out) (al w2 (.cells #[.int .i64 0, .int .i64 0] 72))
               have hP1 := HPr.out _ hB2
               have HB2 := hid hB2
               clear hB2)
            | (
               go_at_call 73; refine hP1.mono ?_; rintro e w3 ⟨x3, c3, V3, rfl, H3⟩; clear hP1
               have hB3 := on HB2.out H3.out.1
               have s6 := keep hB3 c6
               have s1 := keep hB3 c1
               have s3 := keep hB3 d3
               have HB3 := hid hB3
               clear hB3 c6 c1 d3))
          go_ret
          exact ⟨_, rfl, mu, DLv.below (by obtain ⟨k1, o1, q1, nb1, t1, n1, f1, x1, m1, i1, s1, l1, hb, e1, hgn1, hseen⟩ := HK.out; exact ⟨st1, G1, l1, ⟨g1, e1, k1, t1, n1, f1⟩, q1, x1, o1, nb1, m1, i1, s1⟩) HB3.out⟩

end

end Go.Proofs.Ytfgfjfemaniaiaa.Px

/-
  The level of a drive where there are two monitors or more: it settles once at most.
  Conditions: none.
-/
namespace Go.Proofs.Ytfgfjfemaniaiaa.Px
open Go.RowKit Wi By Fl Ba
set_option linter.unusedVariables false
set_option linter.unusedSimpArgs false
set_option maxRecDepth 100000

def Lv2 (n D : Nat) (st : Nd) (k : Nat) : Prop :=
  st.id < n ∧ st.dec.length + k / 2 ≤ D ∧ k ≤ 3 ∧ ∀ b, st.bid = some b → ((∀ j, b.told j = noAc) ∧ (b.val = [] → 1 ≤ k)) ∨ (2 ≤ k ∧ (b.val = [] → 3 ≤ k))

theorem lev2_val {n D : Nat} {st st' : Nd} {k : Nat} {b : Bd} {dd : List Nat} (h : Lv2 n D st k) (hb : st.bid = some b) (hv : b.val = []) (hdd : dd ≠ []) (e1 : st'.dec = st.dec) (e2 : st'.id = st.id) (e3 : st'.bid = some { b with val := dd }) : ∃ k', k' < k ∧ Lv2 n D st' k' := by
  obtain ⟨h0, h1, h2, h3⟩ := h
  rcases h3 b hb with ⟨h4, h5⟩ | ⟨h4, h5⟩
  · have := h5 hv
    refine ⟨0, by omega, by rw [e2]; exact h0, by rw [e1]; omega, by omega, fun b' hb' => ?_⟩
    rw [e3] at hb'
    injection hb' with hb'
    subst hb'
    exact .inl ⟨h4, fun e => absurd e hdd⟩
  · have := h5 hv
    refine ⟨2, by omega, by rw [e2]; exact h0, by rw [e1]; omega, by omega, fun b' hb' => ?_⟩
    rw [e3] at hb'
    injection hb' with hb'
    subst hb'
    exact .inr ⟨Nat.le_refl _, fun e => absurd e hdd⟩

theorem lev2 {n D : Nat} (hn : 2 ≤ n) (hD : D < 70000) : Lev n (Lv2 n D) 3 := by
  refine ⟨by omega, fun st k h => ⟨h.2.2.1, by have := h.2.1; omega⟩, fun st k b d h hb _ hC _ => ?_, fun st k b dd d ws h hb hv _ _ hdd => ?_⟩
  · obtain ⟨h0, h1, h2, h3⟩ := h
    have h4 : 2 ≤ k := by
      rcases h3 b hb with ⟨h4, _⟩ | ⟨h4, _⟩
      · refine absurd hC (one_no (id := st.id) hn (fun i hi hne => ?_))
        unfold stA
        rw [if_neg hne]
        exact h4 i
      · exact h4
    have hl : (learned st d).dec.length = st.dec.length + 1 := by show (st.dec ++ [d]).length = _; rw [List.length_append]; rfl
    refine ⟨⟨0, by omega, h0, by rw [hl]; omega, by omega, fun b' hb' => by cases hb'⟩, fun b' => ⟨1, by omega, h0, ?_, by omega, fun b9 hb9 => ?_⟩⟩
    · show (learned st d).dec.length + 1 / 2 ≤ D
      rw [hl]
      omega
    · injection hb9 with hb9
      subst hb9
      exact .inl ⟨fun _ => rfl, fun _ => Nat.le_refl _⟩
  · exact ⟨lev2_val h hb hv hdd rfl rfl rfl, fun _ => lev2_val h hb hv hdd rfl rfl rfl⟩

end Go.Proofs.Ytfgfjfemaniaiaa.Px

/-
  The level of a drive where there is one monitor alone; what a monitor is between its calls ('Rs'); drive, at any state.
  Conditions: the monitor is one that New gave ('NdAt').
-/
namespace Go.Proofs.Ytfgfjfemaniaiaa.Px
open Go.RowKit Wi By Fl Ba
set_option linter.unusedVariables false
set_option linter.unusedSimpArgs false
set_option maxRecDepth 100000

structure Lv1 (D : Nat) (st : Nd) (k : Nat) : Prop where
  id : st.id < 1
  dl : st.dec.length + st.wait.length + 1 ≤ D
  wl : st.wait.length ≤ 256
  ac : ∀ s, st.dec.length + 1 < s → (st.acc s).a = z0
  sd : ∀ d ∈ st.wait, Sd 1 d
  top : k ≤ 513
  bid : ∀ b, st.bid = some b → b.num = st.dec.length + 1 ∧ (((st.acc (st.dec.length + 1)).a = z0 ∧ (b.val = [] → 2 * st.wait.length ≤ k)) ∨ (st.acc (st.dec.length + 1)).a ≠ z0 ∧ ((∃ d ws, st.wait = d :: ws ∧ (st.acc (st.dec.length + 1)).d = dbytes d ∧ 2 * st.wait.length ≤ k + 1) ∨ (2 * st.wait.length + 1 ≤ k ∧ st.dec.length + st.wait.length + 2 ≤ D)))

theorem left_first (d : Dc) (ws : List Dc) : (left d (d :: ws)).length ≤ ws.length := by
  have e : keepN d d = false := by unfold keepN hitD; simp
  unfold left
  rw [List.filter_cons, e]
  exact List.length_filter_le _ _

theorem cho_one {st : Nd} {b : Bd} (hid : st.id < 1) (h : ChoS (stA st b) 1) : (st.acc b.num).a ≠ z0 := by
  obtain ⟨c, k, c1, _, c3, c4⟩ := h
  have e : stA st b k = st.acc b.num := by unfold stA; rw [if_pos (by omega)]
  rw [e] at c4
  rw [c4]
  exact c1

theorem one_cho {st : Nd} {b : Bd} (hid : st.id < 1) (h : (st.acc b.num).a ≠ z0) : ChoS (stA st b) 1 := by
  have e : ∀ k, k < 1 → stA st b k = st.acc b.num := fun k hk => by unfold stA; rw [if_pos (by omega)]
  refine ⟨(st.acc b.num).a, 0, h, ⟨fun i => true, ?_, fun i hi _ => by show (stA st b i).a = _; rw [e i hi]⟩, by omega, by rw [e 0 (by omega)]⟩
  decide

theorem lev1 {D : Nat} (hD : D < 70000) : Lev 1 (Lv1 D) 513 := by
  refine ⟨by omega, fun st k h => ⟨h.top, by have := h.dl; omega⟩, fun st k b d h hb hj hC hsd => ?_, fun st k b dd d ws h hb hv hC hw hdd => ?_⟩
  · have hnz := cho_one h.id hC
    obtain ⟨hnum, hcase⟩ := h.bid b hb
    rw [hnum] at hnz
    have hdA : (st.acc (st.dec.length + 1)).d = dbytes d := by
      obtain ⟨j, j1, j2, j3⟩ := hj
      have e : stA st b j = st.acc b.num := by unfold stA; rw [if_pos (by have := h.id; omega)]
      rw [e, hnum] at j3
      exact j3
    have hl : (learned st d).dec.length = st.dec.length + 1 := by show (st.dec ++ [d]).length = _; rw [List.length_append]; rfl
    have hwl := left_len d st.wait
    obtain ⟨k', hk', hk2, hdl'⟩ : ∃ k', k' < k ∧ 2 * (left d st.wait).length ≤ k' ∧ st.dec.length + 1 + (left d st.wait).length + 1 ≤ D := by
      rcases hcase with ⟨z, _⟩ | ⟨_, ⟨d0, ws, e1, e2, e3⟩ | ⟨e1, e2⟩⟩
      · exact absurd z hnz
      · have hd : d0 = d := dbytes_inj (n := 1) (by omega) (h.sd d0 (by rw [e1]; exact List.mem_cons_self)) hsd (e2.symm.trans hdA)
        subst hd
        have q := left_first d0 ws
        have q2 := h.dl
        rw [e1] at e3 q2 ⊢
        simp only [List.length_cons] at e3 q2
        exact ⟨k - 1, by omega, by omega, by omega⟩
      · exact ⟨k - 1, by omega, by omega, by omega⟩
    have hacc : ∀ s, st.dec.length + 1 < s → ((learned st d).acc s).a = z0 := fun s hs => by
      show (upA st.acc (st.dec.length + 1) noAc s).a = z0
      rw [upA_other _ _ (by omega)]
      exact h.ac s hs
    have hsd' : ∀ e ∈ left d st.wait, Sd 1 e := fun e he => h.sd e (left_mem he)
    have htop := h.top
    refine ⟨⟨k', hk', h.id, by rw [hl]; exact hdl', by show (left d st.wait).length ≤ 256; have := h.wl; omega, fun s hs => hacc s (by rw [hl] at hs; omega), hsd', by omega, fun b' hb' => by cases hb'⟩, fun b' => ⟨k', hk', h.id, by show (learned st d).dec.length + _ + 1 ≤ D; rw [hl]; exact hdl', by show (left d st.wait).length ≤ 256; have := h.wl; omega, fun s hs => ?_, hsd', by omega, fun b9 hb9 => ?_⟩⟩
    · have hs' : st.dec.length + 1 + 1 < s := by have : (learned st d).dec.length + 1 < s := hs; rw [hl] at this; exact this
      show (upA (learned st d).acc ((learned st d).dec.length + 1) _ s).a = z0
      rw [upA_other _ _ (by rw [hl]; omega)]
      exact hacc s (by omega)
    · injection hb9 with hb9
      subst hb9
      refine ⟨rfl, .inl ⟨?_, fun _ => hk2⟩⟩
      show (upA (learned st d).acc ((learned st d).dec.length + 1) _ ((learned st d).dec.length + 1)).a = z0
      rw [upA_same]
      exact hacc _ (by rw [hl]; omega)
  · obtain ⟨hnum, hcase⟩ := h.bid b hb
    have hz : (st.acc (st.dec.length + 1)).a = z0 := by
      by_cases e : (st.acc (st.dec.length + 1)).a = z0
      · exact e
      · exact absurd (one_cho h.id (by rw [hnum]; exact e)) hC
    have h1 : 1 ≤ st.wait.length := by rw [hw]; simp
    have htop := h.top
    have hk2 : 2 * st.wait.length ≤ k := by
      rcases hcase with ⟨_, q⟩ | ⟨q, _⟩
      · exact q hv
      · exact absurd hz q
    refine ⟨⟨0, by omega, h.id, h.dl, h.wl, h.ac, h.sd, by omega, fun b' hb' => ?_⟩, fun hh => ?_⟩
    · injection hb' with hb'
      subst hb'
      exact ⟨hnum, .inl ⟨hz, fun e => absurd e hdd⟩⟩
    · have hdd2 : dd = dbytes d := by
        rcases hh with e | ⟨j, j1, j2⟩
        · exact e
        · have e : stA st b j = st.acc b.num := by unfold stA; rw [if_pos (by have := h.id; omega)]
          rw [e, hnum] at j2
          exact absurd hz j2
      refine ⟨k - 1, by omega, h.id, h.dl, h.wl, fun s hs => ?_, h.sd, by omega, fun b' hb' => ?_⟩
      · show (upA st.acc b.num _ s).a = z0
        rw [hnum, upA_other _ _ (by have : st.dec.length + 1 < s := hs; omega)]
        exact h.ac s hs
      · injection hb' with hb'
        subst hb'
        have eA : (pickedG st b dd).acc ((pickedG st b dd).dec.length + 1) = ⟨b.bal, b.bal, dd⟩ := by
          show upA st.acc b.num _ (st.dec.length + 1) = _
          rw [hnum, upA_same]
        refine ⟨hnum, ?_⟩
        rw [eA]
        by_cases eb : b.bal = z0
        · exact .inl ⟨eb, fun e => absurd e hdd⟩
        · refine .inr ⟨eb, .inl ⟨d, ws, hw, hdd2, ?_⟩⟩
          show 2 * st.wait.length ≤ k - 1 + 1
          omega

/- What a monitor is between its calls. -/
structure Rs (n D : Nat) (st : Nd) : Prop where
  wl : st.wait.length ≤ 256
  dl : st.dec.length + 2 ≤ D
  tn : st.turn < 1000000
  one : n = 1 → st.dec.length + st.wait.length + 2 ≤ D ∧ ∀ s, st.dec.length + 1 < s → (st.acc s).a = z0

theorem Rs.mono {n D D' : Nat} {st : Nd} (h : Rs n D st) (hD : D ≤ D') : Rs n D' st := ⟨h.wl, by have := h.dl; omega, h.tn, fun e => ⟨by have := (h.one e).1; omega, (h.one e).2⟩⟩

/- What no drive turns. -/
structure Kp (st st' : Nd) : Prop where
  id : st'.id = st.id
  ser : st'.ser = st.ser
  dec : st.dec.length ≤ st'.dec.length

theorem Kp.refl (st : Nd) : Kp st st := ⟨rfl, rfl, Nat.le_refl _⟩
theorem Kp.trans {a b c : Nd} (h : Kp a b) (k : Kp b c) : Kp a c := ⟨k.id.trans h.id, k.ser.trans h.ser, Nat.le_trans h.dec k.dec⟩

theorem lev_more {n L W L0 : Nat} {Lv : Nd → Nat → Prop} (h : Lev n Lv L0) : Lev n (fun st k => L ≤ st.dec.length ∧ (st.wait.length ≤ W ∧ st.turn < 1000000) ∧ Lv st k) L0 := by
  refine ⟨h.top, fun st k q => h.le st k q.2.2, fun st k b d q hb hj hC hs => ?_, fun st k b dd d ws q hb hv hC hw hdd => ?_⟩
  · obtain ⟨q1, q2, q3⟩ := q
    have hl : L ≤ (learned st d).dec.length := by show L ≤ (st.dec ++ [d]).length; rw [List.length_append]; omega
    have hw : (left d st.wait).length ≤ W ∧ st.turn < 1000000 := ⟨by have := left_len d st.wait; omega, q2.2⟩
    obtain ⟨⟨k1, a1, a2⟩, a3⟩ := h.set st k b d q3 hb hj hC hs
    exact ⟨⟨k1, a1, hl, hw, a2⟩, fun b' => by
      obtain ⟨k2, c1, c2⟩ := a3 b'
      exact ⟨k2, c1, hl, hw, c2⟩⟩
  · obtain ⟨q1, q2, q3⟩ := q
    obtain ⟨⟨k1, a1, a2⟩, a3⟩ := h.pick st k b dd d ws q3 hb hv hC hw hdd
    exact ⟨⟨k1, a1, q1, q2, a2⟩, fun hh => by
      obtain ⟨k2, c1, c2⟩ := a3 hh
      exact ⟨k2, c1, q1, q2, c2⟩⟩

theorem lev_any {n D : Nat} {st : Nd} (h1 : 1 ≤ n) (hD : D < 60000) (hid : st.id < n) (hs : ∀ d ∈ st.wait, Sd n d) (hnum : ∀ b, st.bid = some b → b.num = st.dec.length + 1) (h : Rs n D st) :
    ∃ Lv L0 K0, Lev n Lv L0 ∧ L0 ≤ 513 ∧ Lv st K0 ∧ ∀ st' k, Lv st' k → Rs n (D + 1) st' ∧ st.dec.length ≤ st'.dec.length := by
  by_cases e : n = 1
  · subst e
    obtain ⟨o1, o2⟩ := h.one rfl
    refine ⟨_, 513, 513, lev_more (L := st.dec.length) (W := 256) (lev1 (D := D) (by omega)), by omega, ⟨Nat.le_refl _, ⟨h.wl, h.tn⟩, hid, by omega, h.wl, o2, hs, by omega, fun b hb => ⟨hnum b hb, ?_⟩⟩, fun st' k q => ⟨⟨q.2.1.1, ?_, q.2.1.2, fun _ => ⟨?_, q.2.2.ac⟩⟩, q.1⟩⟩
    · have := h.wl
      by_cases ez : (st.acc (st.dec.length + 1)).a = z0
      · exact .inl ⟨ez, fun _ => by omega⟩
      · exact .inr ⟨ez, .inr ⟨by omega, o1⟩⟩
    · have := q.2.2.dl
      omega
    · have := q.2.2.dl
      omega
  · have hd := h.dl
    refine ⟨_, 3, 3, lev_more (L := st.dec.length) (W := 256) (lev2 (n := n) (D := st.dec.length + 1) (by omega) (by omega)), by omega, ⟨Nat.le_refl _, ⟨h.wl, h.tn⟩, hid, by omega, by omega, fun b hb => .inr ⟨by omega, fun _ => Nat.le_refl _⟩⟩, fun st' k q => ⟨⟨q.2.1.1, ?_, q.2.1.2, fun e' => absurd e' e⟩, q.1⟩⟩
    have := q.2.2.2.1
    omega

/- What a call does, as it is seen from without. -/
def Did (n : Nat) (said : ByteArray → Prop) (G : Gh) (w w' : World) (B : Nat) (g : Ln) (st : Nd) (R : Value) (k D : Nat) : Prop :=
  ∃ st', Step n said G w w' B g st st' R k ∧ Rs n D st' ∧ Kp st st'

theorem Did.mono {n : Nat} {said : ByteArray → Prop} {G : Gh} {w w' : World} {B : Nat} {g : Ln} {st : Nd} {R : Value} {k k' D D' : Nat} (h : Did n said G w w' B g st R k D) (hk : k ≤ k') (hD : D ≤ D') : Did n said G w w' B g st R k' D' := by
  obtain ⟨st', h1, h2, h3⟩ := h
  exact ⟨st', h1.more hk, h2.mono hD, h3⟩

section
variable {w : World} {B : Nat} {g : Ln} {st : Nd} {n D : Nat} {said : ByteArray → Prop} {G : Gh}

theorem drive_any (h : NdAt w B g st) (k : NodeOk n said G st) (q : GI n said G) (nb : NB n st) (h1 : 1 ≤ n) (hn : n ≤ 7) (hgn : gnb g < 10000000000000) (r : Rs n D st) (hD : D < 60000) :
    Calls Try.prog 52 #[.pointer (some ⟨g.p, 0, none⟩)] w fun e w' => ∃ R, e = .returned R ∧ Hid (Did n said G w w' B g st R 10260 (D + 1)) := by
  obtain ⟨Lv, L0, K0, l1, l2, l3, l4⟩ := lev_any h1 hD k.sid (fun d hd => asked_sd (k.wait d hd)) (fun b hb => (k.bid b hb).num) r
  refine (drive_lv l1 h k q nb hn hgn K0 l3).mono ?_
  rintro e w' ⟨R, rfl, H⟩
  obtain ⟨kk, st1, G1, d1, d2, d3, d4, d5, d6, d7, d8, d9⟩ := H.out
  have hb : 20 * (L0 - kk) ≤ 10260 := by omega
  exact ⟨R, rfl, st1, ⟨G1, d2.mono hb, d3, d4, d5, d6, d7.mono hb (fun _ h => h)⟩, (l4 st1 kk d1).1, ⟨d8, d9, (l4 st1 kk d1).2⟩⟩

end

end Go.Proofs.Ytfgfjfemaniaiaa.Px

/-
  Package paxos: start, urge and Tick's parts, at any state.
  Conditions: the monitor is one that New gave ('NdAt').
-/
namespace Go.Proofs.Ytfgfjfemaniaiaa.Px
open Go.RowKit Wi By Fl Ba
set_option linter.unusedVariables false
set_option linter.unusedSimpArgs false
set_option maxRecDepth 100000

theorem Rs.begun {n D : Nat} {st : Nd} (h : Rs n D st) (b : Bt) : Rs n D (begunG st b) :=
  ⟨h.wl, h.dl, h.tn, fun e => ⟨(h.one e).1, fun s hs => by
    have hs' : st.dec.length + 1 < s := hs
    show (upA st.acc (st.dec.length + 1) _ s).a = z0
    rw [upA_other _ _ (by omega)]
    exact (h.one e).2 s hs'⟩⟩

section
variable {w : World} {B : Nat} {g : Ln} {st : Nd} {n D : Nat} {said : ByteArray → Prop} {G : Gh}

/- One call behind another one, and its mails behind those of the first. -/
theorem Did.cat {k1 k2 : Nat} {out R : Value} {wr w1 w2 : World} {g1 : Ln} {st1 : Nd} {G1 : Gh} (e1 : g1.p = g.p) (kr : NdAt wr B g1 st1) (t1 : Turns (fp g) w wr) (n1 : gnb g1 ≤ gnb g + k1) (f1 : ∀ j, fp g1 j → fp g j ∨ w.heap.size ≤ j) (g2 : GExt st.id G G1) (hm : MlsK wr w.heap.size out n st.id k1 (fun m => Sent n st.id m ∧ MsgOk n said G1 st.id m)) (hkp : Kp st st1)
    (b1 : Below wr.heap.size wr w1) (hd : Did n said G1 w1 w2 B g1 st1 R k2 D) (hk1 : k1 ≤ 20000) (hk2 : k2 ≤ 20000) :
    ∃ R' W', (Builtin.append_ #[49, 49] 49 #[out, R]).run Try.prog w2 = .ok R' W' ∧ Hid (Did n said G w W' B g st R' (k1 + k2) D) := by
  obtain ⟨st', ⟨G', s1, s2, s3, s4, s5, s6⟩, hr, hkp'⟩ := hd
  rw [hkp.id] at s3 s6
  obtain ⟨g3, u1, u2, u3, u4, u5⟩ := s1
  have kr1 := kr.below b1
  have m1 := (hm.below b1).below_turns u3 (fun j hj hf => by obtain ⟨L, l1, _⟩ := hm.below b1; exact kr1.not_mail j hf (l1.tb hj).2) (fun j hf => (kr1.u8 j hf).2)
  have m2 : MlsK w2 w.heap.size out n st.id k1 (fun m => Sent n st.id m ∧ MsgOk n said G' st.id m) := m1.mono (Nat.le_refl _) (fun u hu => ⟨hu.1, hu.2.ext s3 (fun _ h => h)⟩)
  have hsz := u3.size
  have hb9 := b1.size
  have ht9 := t1.size
  obtain ⟨R', W', r1, r2⟩ := m2.cat s6 (by omega) (by omega) (by omega)
  refine ⟨R', W', r1, st', ⟨G', ?_, s2, g2.trans s3, s4, s5, r2.out.1.mono (by omega) (fun _ h => h)⟩, hr, hkp.trans hkp'⟩
  have hg : Goes w w2 B g st' (k1 + k2) := Goes.trans (k2 := k2) e1 t1 n1 f1 (Goes.trans (k1 := 0) (k2 := k2) rfl (Turns.of_below b1) (by omega) (fun j hj => .inl hj) ⟨g3, u1, u2, u3, u4, u5⟩ |>.mono (by omega))
  obtain ⟨L, l1, _⟩ := m2
  exact hg.mail l1 (Nat.le_refl _) r2.out.2

theorem start_any (h : NdAt w B g st) (k : NodeOk n said G st) (q : GI n said G) (nb : NB n st) (h1 : 1 ≤ n) (hn : n ≤ 7) (hgn : gnb g < 1000000000000) (r : Rs n D st) (hD : D < 60000) :
    Calls Try.prog 37 #[.pointer (some ⟨g.p, 0, none⟩)] w fun e w' => ∃ R, e = .returned R ∧ Hid (Did n said G w w' B g st R 10267 (D + 1)) := by
  have hB := begin_any h k q nb hn (by omega)
  have HG := hid (And.intro hgn r)
  clear h k q nb hgn r
  go_enter Try.func37, Try.ntmps37
  go_wp2_with (first
    | (go_at_call 57; refine hB.mono ?_; rintro e w1 ⟨R1, rfl, H1⟩; clear hB
       obtain ⟨g1, st1, G1, e1, hDr, H1'⟩ : ∃ g1 st1 G1, g1.p = g.p ∧ (Calls Try.prog 52 #[.pointer (some ⟨g.p, 0, none⟩)] w1 fun e w' => ∃ R, e = .returned R ∧ Hid (Did n said G1 w1 w' B g1 st1 R 10260 (D + 1))) ∧ Hid (NdAt w1 B g1 st1 ∧ Turns (fp g) w w1 ∧ gnb g1 ≤ gnb g + 7 ∧ (∀ j, fp g1 j → fp g j ∨ w.heap.size ≤ j) ∧ GExt st.id G G1 ∧ MlsK w1 w.heap.size R1 n st.id 7 (fun m => Sent n st.id m ∧ MsgOk n said G1 st.id m) ∧ Kp st st1) := by
         obtain ⟨st1, ⟨G1, ⟨g1, u1, u2, u3, u4, u5⟩, s2, s3, s4, s5, s6⟩, p1, p2, p3, p4, p5⟩ := H1.out
         obtain ⟨o1, o2⟩ := HG.out
         have r1 : Rs n D st1 := by
           rcases p5 with e | ⟨b, e⟩
           · rw [e]; exact o2
           · rw [e]; exact o2.begun b
         have p := drive_any u2 s4 s2 s5 h1 hn (by omega) r1 hD
         rw [u1] at p
         exact ⟨g1, st1, G1, u1, p, u2, u3, u4, u5, s3, s6, p3, p4, by rw [p1]; exact Nat.le_refl _⟩)
    | (go_at_call 52; refine hDr.mono ?_; rintro e w2 ⟨R2, rfl, H2⟩; clear hDr
       obtain ⟨R', W', hr, HD⟩ : ∃ R' W', (Builtin.append_ #[49, 49] 49 #[R1, R2]).run Try.prog w2 = .ok R' W' ∧ Hid (Did n said G w W' B g st R' (7 + 10260) (D + 1)) := by
         obtain ⟨a1, a2, a3, a4, a5, a6, a7⟩ := H1'.out
         exact Did.cat e1 a1 a2 a3 a4 a5 a6 a7 (Below.refl _ _) H2.out (by omega) (by omega))
    | (at_builtin; refine wpList_append_run rfl _ _ 49 rfl _ _ rfl rfl hr ?_; clear hr))
  go_ret
  exact ⟨_, rfl, HD.out⟩

end

end Go.Proofs.Ytfgfjfemaniaiaa.Px

/-
  Package paxos: urge and Tick, at any state.
  Conditions: the monitor is one that New gave ('NdAt').
-/
namespace Go.Proofs.Ytfgfjfemaniaiaa.Px
open Go.RowKit Wi By Fl Ba
set_option linter.unusedVariables false
set_option linter.unusedSimpArgs false
set_option maxRecDepth 100000

section
variable {w : World} {B : Nat} {g : Ln} {st : Nd} {n D : Nat} {said : ByteArray → Prop} {G : Gh}

/- What a bid asks for. -/
theorem req_ok (h : NdAt w B g st) (k : NodeOk n said G st) (q : GI n said G) (nb : NB n st) (hn : n ≤ 7) (b : Bd) (hb : st.bid = some b) : Sent n st.id (reqM b) ∧ MsgOk n said G st.id (reqM b) := by
  have hBO := k.bid b hb
  have hmay := (nb.bid b hb).1
  have hdl := h.dl
  have hnum := hBO.num
  by_cases hv : b.val = []
  · have er : reqM b = ⟨1, b.num, ⟨b.bal, z0, []⟩, 0, []⟩ := if_pos hv
    rw [er]
    exact ⟨sent_prep k.sid hn (by omega) (by omega) hmay hBO.mon, msg_prep⟩
  · have er : reqM b = ⟨2, b.num, ⟨b.bal, b.bal, b.val⟩, 0, []⟩ := if_neg hv
    have hV := hBO.val
    rw [if_neg hv] at hV
    obtain ⟨d, d1, d2⟩ := q.val _ _ _ hV
    rw [er]
    refine ⟨?_, MsgOk.accept _ _ _ _ hV⟩
    rw [d1]
    exact sent_acc k.sid hn (by omega) (by omega) hmay hBO.mon (asked_sd d2) d2.ser

theorem urge_any (h : NdAt w B g st) (k : NodeOk n said G st) (q : GI n said G) (nb : NB n st) (h1 : 1 ≤ n) (hn : n ≤ 7) (hgn : gnb g < 1000000000000) (r : Rs n D st) (hD : D < 60000) :
    Calls Try.prog 28 #[.pointer (some ⟨g.p, 0, none⟩)] w fun e w' => ∃ R, e = .returned R ∧ Hid (Did n said G w w' B g st R 10267 (D + 1)) := by
  have HSt : Hid (∀ W, Below w.heap.size w W → Calls Try.prog 37 #[.pointer (some ⟨g.p, 0, none⟩)] W fun e w' => ∃ R, e = .returned R ∧ Hid (Did n said G w w' B g st R 10267 (D + 1))) := fun W b => by
    refine (start_any (h.below b) k q nb h1 hn hgn r hD).mono ?_
    rintro e w' ⟨R, rfl, H⟩
    refine ⟨R, rfl, ?_⟩
    obtain ⟨st', ⟨G', s1, s2, s3, s4, s5, s6⟩, hr, hkp⟩ := H.out
    exact ⟨st', ⟨G', (Goes.trans (k1 := 0) rfl (Turns.of_below b) (by omega) (fun j hj => .inl hj) s1).mono (by omega), s2, s3, s4, s5, s6.base b.size⟩, hr, hkp⟩
  cases hb : st.bid with
  | none =>
    have c6 : w.cell? ⟨g.p, 6, none⟩ = some (.pointer none) := by
      rcases h.bid with ⟨p1, _⟩ | ⟨l, b, p1, p2, _⟩
      · rw [h.c6, p1]; rfl
      · rw [hb] at p2; cases p2
    have hS := HSt.out w (Below.refl _ _)
    clear HSt h k q nb r
    go_enter Try.func28, Try.ntmps28
    go_wp2_with (go_at_call 37; refine hS.mono ?_; rintro e w1 ⟨R1, rfl, H1⟩; clear hS)
    go_ret
    exact ⟨_, rfl, H1.out⟩
  | some b =>
    have hBO := k.bid b hb
    have hdl := h.dl
    have hnum : b.num < 4294967296 := by have := hBO.num; omega
    have hO := outbid_any h b hb (by rw [k.sn]; exact hn) (by rw [k.sn]; exact k.sid) hnum
    have HA : Hid (∀ W, Below w.heap.size w W → Calls Try.prog 36 #[.pointer (some ⟨g.p, 0, none⟩)] W fun e w' => ∃ R, e = .returned R ∧ Hid (Did n said G w w' B g st R 10267 (D + 1))) := fun W bW => by
      refine (ask_any (h.below bW) b hb (by rw [k.sn]; exact hn) (by rw [k.sn]; exact k.sid) hnum (may_bok (nb.bid b hb).1).1).mono ?_
      rintro e w' ⟨R, rfl, H⟩
      obtain ⟨a1, a2⟩ := H.out
      rw [k.sn] at a2
      refine ⟨R, rfl, st, Step.same h (on bW a1) q k nb ((a2.mono (k' := 10267) (by omega) (fun u hu => ?_)).base bW.size), r.mono (by omega), Kp.refl _⟩
      subst hu
      exact req_ok h k q nb hn b hb
    have c6 : ∃ bp, w.cell? ⟨g.p, 6, none⟩ = some (.pointer (some ⟨bp, 0, none⟩)) := by
      rcases h.bid with ⟨_, p2⟩ | ⟨l, b', p1, p2, p3, p4⟩
      · rw [hb] at p2; cases p2
      · exact ⟨l.bp, by rw [h.c6, p1]; rfl⟩
    obtain ⟨bp, c6⟩ := c6
    have hpe : ∀ W : World, (binOp .neq 61 (.pointer (some ⟨bp, 0, none⟩)) (.pointer none)).run Try.prog W = .ok (.bool true) W := fun _ => by kernel_rfl
    clear h k q nb r hBO hdl hnum hb
    cases ho : ltb b.bal (highB st b) with
    | true =>
      rw [ho] at hO
      go_enter Try.func28, Try.ntmps28
      go_wp2_with (first
        | (go_at_call 35; refine hO.mono ?_; rintro e w1 ⟨rfl, H1⟩; clear hO
           have hS := HSt.out w1 H1.out
           clear HSt)
        | (go_at_call 37; refine hS.mono ?_; rintro e w2 ⟨R2, rfl, H2⟩; clear hS))
      go_ret
      exact ⟨_, rfl, H2.out⟩
    | false =>
      rw [ho] at hO
      go_enter Try.func28, Try.ntmps28
      go_wp2_with (first
        | (go_at_call 35; refine hO.mono ?_; rintro e w1 ⟨rfl, H1⟩; clear hO
           have hA := HA.out w1 H1.out
           clear HA)
        | (go_at_call 36; refine hA.mono ?_; rintro e w2 ⟨R2, rfl, H2⟩; clear hA))
      go_ret
      exact ⟨_, rfl, H2.out⟩

theorem Rs.turned {t : Nat} (h : Rs n D st) (ht : t < 1000000) : Rs n D (turned st t) := ⟨h.wl, h.dl, ht, h.one⟩

theorem tick_any (h : NdAt w B g st) (k : NodeOk n said G st) (q : GI n said G) (nb : NB n st) (h1 : 1 ≤ n) (hn : n ≤ 7) (hgn : gnb g < 100000000000) (r : Rs n D st) (hD : D < 60000) :
    Calls Try.prog 19 #[.pointer (some ⟨g.p, 0, none⟩)] w fun e w' => ∃ R, e = .returned R ∧ Hid (Did n said G w w' B g st R 10268 (D + 1)) := by
  have hM := made_yes h
  have hG := greet_any h k q nb hn r.tn
  have HG := hid (And.intro hgn r)
  clear h k q nb hgn r
  go_enter Try.func19, Try.ntmps19
  go_wp2_with (first
    | (go_at_call 26; refine hM.mono ?_; rintro e w' ⟨rfl, rfl⟩; clear hM)
    | (go_at_call 27; refine hG.mono ?_; rintro e w1 ⟨R1, rfl, H1⟩; clear hG
       obtain ⟨g1, st1, G1, e1, hDr, H1'⟩ : ∃ g1 st1 G1, g1.p = g.p ∧ (Calls Try.prog 28 #[.pointer (some ⟨g.p, 0, none⟩)] w1 fun e w' => ∃ R, e = .returned R ∧ Hid (Did n said G1 w1 w' B g1 st1 R 10267 (D + 1))) ∧ Hid (NdAt w1 B g1 st1 ∧ Turns (fp g) _ w1 ∧ gnb g1 ≤ gnb g + 1 ∧ (∀ j, fp g1 j → fp g j ∨ _ ≤ j) ∧ GExt st.id G G1 ∧ MlsK w1 _ R1 n st.id 1 (fun m => Sent n st.id m ∧ MsgOk n said G1 st.id m) ∧ Kp st st1) := by
         obtain ⟨t, ht, ⟨G1, ⟨g1, u1, u2, u3, u4, u5⟩, s2, s3, s4, s5, s6⟩⟩ := H1.out
         obtain ⟨o1, o2⟩ := HG.out
         have p := urge_any u2 s4 s2 s5 h1 hn (by omega) (o2.turned ht) hD
         rw [u1] at p
         exact ⟨g1, _, G1, u1, p, u2, u3, u4, u5, s3, s6, rfl, rfl, Nat.le_refl _⟩)
    | (go_at_call 28; refine hDr.mono ?_; rintro e w2 ⟨R2, rfl, H2⟩; clear hDr
       obtain ⟨R', W', hr, HD⟩ : ∃ R' W', (Builtin.append_ #[49, 49] 49 #[R1, R2]).run Try.prog w2 = .ok R' W' ∧ Hid (Did n said G _ W' B g st R' (1 + 10267) (D + 1)) := by
         obtain ⟨a1, a2, a3, a4, a5, a6, a7⟩ := H1'.out
         exact Did.cat e1 a1 a2 a3 a4 a5 a6 a7 (Below.refl _ _) H2.out (by omega) (by omega))
    | (at_builtin; refine wpList_append_run rfl _ _ 49 rfl _ _ rfl rfl hr ?_; clear hr))
  go_ret
  exact ⟨_, rfl, HD.out⟩

end

end Go.Proofs.Ytfgfjfemaniaiaa.Px

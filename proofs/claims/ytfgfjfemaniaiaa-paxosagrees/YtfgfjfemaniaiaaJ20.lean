/-
  6 texts of this proof, one behind the other: PxDrive1, PxPick3, PxSettle2, PxOutbid, PxDrive2, PxDrive3.
-/
import Derived.Test.YtfgfjfemaniaiaaJ12
import Derived.Test.YtfgfjfemaniaiaaJ18
import Derived.Test.YtfgfjfemaniaiaaJ17
import Derived.Test.YtfgfjfemaniaiaaJ19
import Derived.Test.YtfgfjfemaniaiaaJ01
/-
  A monitor that is alone comes to the end of the one value that waits: drive, start, urge, greet, Tick.
  Conditions: the monitor is one that New gave ('NdAt'), and was asked for one value.
-/
namespace Go.Proofs.Ytfgfjfemaniaiaa.Px
open Go.RowKit Wi By Fl Ba
set_option linter.unusedVariables false
set_option linter.unusedSimpArgs false
set_option maxRecDepth 100000

def nthA (L : List AccV) (i : Nat) : AccV := (L[i]?).getD noAv

theorem own_accs {w : World} {B : Nat} {x : Option Addr} {m c : Nat} {L : List AccV} (h : Own w B 74 5 encA (.slice x m c) L) (hL : L.length ≤ 1000) (hv : ∀ v ∈ L, AvOk w v) : m = L.length ∧ Accs w x m (nthA L) := by
  obtain ⟨x', c', e, _⟩ := h.form
  injection e with e1 e2 e3
  have hm : m = L.length := e2
  have hmem : ∀ i, i < L.length → nthA L i ∈ L ∧ L[i]? = some (nthA L i) := fun i hi => by
    have q : L[i]? = some (L[i]'hi) := List.getElem?_eq_getElem hi
    unfold nthA
    rw [q]
    exact ⟨List.getElem_mem hi, rfl⟩
  refine ⟨hm, ?_, fun i hi => ?_, fun i hi => ?_, by omega⟩
  · by_cases h0 : m = 0
    · exact .inl h0
    · obtain ⟨g, c2, e4, _, _, _, hg⟩ := h.there (fun e => h0 (by rw [hm, e]; rfl))
      injection e4 with e4 e5 e6
      subst e4
      refine .inr ⟨g, 0, rfl, hg, fun i hi => ?_⟩
      have q := (hmem i (by omega)).2
      rw [Nat.zero_add]
      have q0 := h.cell arow.len q (j := 0) (v := .int .i64 (nthA L i).p.1) rfl
      rw [Nat.add_zero] at q0
      exact ⟨q0, h.cell arow.len q (j := 1) rfl, h.cell arow.len q (j := 2) rfl, h.cell arow.len q (j := 3) rfl, h.cell arow.len q (j := 4) rfl⟩
  · have := hv _ (hmem i (by omega)).1
    exact ⟨this.sv.sl, by have := this.sv.sm; omega⟩
  · exact (hv _ (hmem i (by omega)).1).a

def d7 : Dc := ⟨0, 1, str [7]⟩
def st0 : Nd := proposed (fresh 0 1) (str [7])
def st1 : Nd := begun st0
def bd1 : Bd := ⟨1, (1, 0), [], fun _ => noAc⟩
def st2 : Nd := picked st1 bd1 d7
def bd2 : Bd := ⟨1, (1, 0), dbytes d7, fun _ => noAc⟩
def st3 : Nd := learned st2 d7

theorem d7_of : dOf 1 (dbytes d7) = some d7 := by rfl
theorem d7_ok : DOk d7 := ⟨by show 0 < _; omega, by show 1 < _; omega, by show (str [7]).size ≤ 4096; rw [str_size]; decide⟩
theorem d7_left : left d7 st2.wait = [] := by rfl
theorem d7_len : (dbytes d7).length ≠ 0 := by decide

/- How far it is: what is asked for, and whether with a value. -/
def bidPhase (w : World) (p : Nat) : Nat :=
  match w.cell? ⟨p, 6, none⟩ with
  | some (.pointer (some a)) => (match w.cell? ⟨a.block, 3, none⟩ with | some (.slice _ n _) => if n = 0 then 2 else 1 | _ => 1)
  | _ => 0

theorem phase_none {w : World} {B : Nat} {g : Ln} {st : Nd} (h : NdAt w B g st) (hb : st.bid = none) : bidPhase w g.p = 0 := by
  have hgb : g.b = none := by
    rcases h.bid with ⟨q, _⟩ | ⟨l, b, q1, q2, _⟩
    · exact q
    · rw [hb] at q2
      cases q2
  unfold bidPhase
  rw [h.c6, hgb]
  rfl

theorem phase_some {w : World} {B : Nat} {g : Ln} {st : Nd} (h : NdAt w B g st) (b : Bd) (hb : st.bid = some b) : bidPhase w g.p = if b.val.length = 0 then 2 else 1 := by
  rcases h.bid with ⟨_, q⟩ | ⟨l, b', q1, q2, q3, _⟩
  · rw [hb] at q
    cases q
  rw [hb] at q2
  injection q2 with q2
  subst q2
  have e3 : w.cell? ⟨l.bp, 3, none⟩ = some (.slice l.x l.n l.c) := q3.obj.cell (k := 3) (by omega)
  have hn : l.n = b.val.length := q3.val.sl.len.symm
  unfold bidPhase
  rw [h.c6, q1]
  dsimp only [bidV, Option.map]
  rw [e3]
  dsimp only
  rw [hn]

structure Ph (w wr : World) (B : Nat) (g : Ln) (ph : Nat) : Prop where
  goes : (ph = 2 ∧ Goes w wr B g st1 10) ∨ (ph = 1 ∧ Goes w wr B g st2 20) ∨ (ph = 0 ∧ Goes w wr B g st3 30)
  phase : bidPhase wr g.p = ph

section
variable {w : World} {B : Nat} {g : Ln}

theorem Goes.on {w w1 w2 : World} {B : Nat} {g g1 : Ln} {st2 : Nd} {k1 k2 k3 : Nat} (e : g1.p = g.p) (t : Turns (fp g) w w1) (hk : gnb g1 ≤ gnb g + k1) (hf : ∀ k, fp g1 k → fp g k ∨ w.heap.size ≤ k) (w9 : World) (b : Below w1.heap.size w1 w9) (h2 : Goes w9 w2 B g1 st2 k2) (h3 : k1 + k2 ≤ k3) : Goes w w2 B g st2 k3 :=
  (Goes.trans e (t.trans (Turns.of_below b)) hk hf h2).mono h3

theorem acOf_inj {v : AccV} {a : Ac} (h : acOf v = a) : v.p = a.p ∧ v.a = a.a ∧ v.d = a.d := by
  subst h
  exact ⟨rfl, rfl, rfl⟩

set_option maxHeartbeats 4800000 in
theorem drive_awake (h : NdAt w B g st1) (hgn : gnb g < 100000000000000000) :
    Calls Try.prog 52 #[.pointer (some ⟨g.p, 0, none⟩)] w fun e w' => e = .returned (.slice none 0 0) ∧ Hid (Goes w w' B g st3 30) := by
  have hap := app_nil
  have hpl := h.obj.lt
  have H0 : Hid (Ph w w B g 2) := ⟨.inl ⟨rfl, (Goes.same h (Below.refl _ _)).mono (by omega)⟩, phase_some h bd1 rfl⟩
  have Hg : Hid (gnb g < 100000000000000000) := hgn
  clear h hgn
  go_enter Try.func52, Try.ntmps52
  go_wp2_with fail
  go_loopw [3, 4, 5, 6, 7] (fun out _ _ _ _ wr => ∃ ph : Nat, ph ≤ 2 ∧ out = .slice none 0 0 ∧ Hid (Ph w wr B g ph)) (fun _ _ _ _ _ wr => bidPhase wr g.p)
  case atStart => exact ⟨2, by omega, rfl, H0.out⟩
  case round =>
    clear H0
    obtain ⟨ph, hph, rfl, HP⟩ := hrel
    have HM : Hid (bidPhase wr g.p = ph) := HP.out.phase
    rcases HP.out.goes with ⟨rfl, hG⟩ | ⟨rfl, hG⟩ | ⟨rfl, hG⟩
    · obtain ⟨g1, e1, k1, t1, n1, f1⟩ := hG
      have hS : Calls Try.prog 71 #[.pointer (some ⟨g.p, 0, none⟩)] wr fun e w' => ∃ (V : Nat → AccV), e = .returned (.slice (some ⟨wr.heap.size, 0, none⟩) 1 1) ∧ Hid (Below wr.heap.size wr w' ∧ Accs w' (some ⟨wr.heap.size, 0, none⟩) 1 V ∧ (V 0).a = z0) := by
        rw [← e1]
        refine (states_any k1 bd1 rfl (by show 1 ≤ 7; omega) (by show 0 < 1; omega) (by show 1 < _; omega)).mono fun e w' ⟨V, a1, a2⟩ => ⟨V, a1, a2.out.1, a2.out.2.1, ?_⟩
        exact (acOf_inj (a2.out.2.2 0 (by show 0 < 1; omega)).2).2.1
      have hC : Hid (∀ (w1 : World) (V : Nat → AccV), Hid (Below wr.heap.size wr w1 ∧ Accs w1 (some ⟨wr.heap.size, 0, none⟩) 1 V ∧ (V 0).a = z0) → Calls Try.prog 70 #[.slice (some ⟨wr.heap.size, 0, none⟩) 1 1] w1 fun e w' => e = .returned (.tuple #[.agg #[.int .i64 0, .int .i64 0], .slice none 0 0, .bool false]) ∧ Hid (Below wr.heap.size wr w')) := fun w1 V H1 => by
        refine (chosen_any _ 1 1 V w1 H1.out.2.1).mono fun e w' hh => ?_
        rcases hh with ⟨a1, a2⟩ | ⟨b, k, y, cy, a1, a2⟩
        · exact ⟨a1, Ba.on H1.out.1 a2.out.1⟩
        · have hk : k = 0 := by have := a2.out.1.2.2.1; omega
          subst hk
          exact absurd (a2.out.1.2.2.2.symm.trans H1.out.2.2) a2.out.1.1
      have hPr : Hid (∀ (w2 : World), Below wr.heap.size wr w2 → Calls Try.prog 73 #[.pointer (some ⟨g.p, 0, none⟩)] w2 fun e w' => ∃ (x : Option Addr) (c : Nat), e = .returned (.slice x 1 c) ∧ Hid (Below wr.heap.size wr w' ∧ ∃ V, Accs w' x 1 V ∧ ∀ i, i < 1 → (V i).a = z0)) := fun w2 b2 => by
        rw [← e1]
        refine (promised_any (k1.below b2) bd1 rfl (by show 1 ≤ 7; omega) (by show 0 < 1; omega) (by show 1 < _; omega)).mono fun e w' ⟨x, m, c, V, a1, a2⟩ => ?_
        obtain ⟨a3, a4, a5, a6⟩ := a2.out
        have hv0 := a6 0 (by show 0 < 1; omega)
        have hi := acOf_inj hv0.2
        have hp0 : (V 0).p = (1, 0) := hi.1
        have ha0 : (V 0).a = z0 := hi.2.1
        have hL : firstOf V bd1.bal st1.n = [V 0] := by
          show firstOf V (1, 0) 1 = [V 0]
          rw [firstOf_succ, hp0]
          rfl
        rw [hL] at a4 a5
        have hm : m = 1 := a4
        subst hm
        obtain ⟨_, hA⟩ := own_accs a5 (by simp) (fun v hv => by simp at hv; rw [hv]; exact hv0.1)
        refine ⟨x, c, a1, Ba.on b2 a3, _, hA, fun i hi => ?_⟩
        obtain rfl : i = 0 := by omega
        exact ha0
      have hPk : Hid (∀ (w3 : World) (x : Option Addr) (c : Nat), Hid (Below wr.heap.size wr w3 ∧ ∃ V, Accs w3 x 1 V ∧ ∀ i, i < 1 → (V i).a = z0) → Calls Try.prog 74 #[.pointer (some ⟨g.p, 0, none⟩), .slice x 1 c] w3 fun e w' => e = .returned (.slice none 0 0) ∧ Hid (Goes w w' B g st2 20)) := fun w3 x c H3 => by
        obtain ⟨b3, V, hA, hz⟩ := H3.out
        rw [← e1]
        exact (pick_one (k1.below b3) bd1 rfl rfl rfl d7 [] rfl x 1 c V hA hz rfl (by decide) (by show 1 < _; omega) (by have := Hg.out; omega)).mono fun e w' ⟨a1, a2⟩ => ⟨a1, Goes.on e1 t1 n1 f1 w3 b3 a2.out (by omega)⟩
      rcases k1.bid with ⟨_, q⟩ | ⟨l, b', q1, q2, q3, q4⟩
      · cases q
      have q2' : b' = bd1 := by injection q2 with q2; exact q2.symm
      subst q2'
      have hln : l.n = 0 := q3.val.sl.len.symm
      have hbl := q3.obj.lt
      have hpr : g.p < wr.heap.size := by rw [← e1]; exact k1.obj.lt
      have c6 : wr.cell? ⟨g.p, 6, none⟩ = some (.pointer (some ⟨l.bp, 0, none⟩)) := by rw [← e1, k1.c6, q1]; rfl
      have c1 : wr.cell? ⟨g.p, 1, none⟩ = some (.int .i64 1) := by rw [← e1]; exact k1.c1
      have d3 : wr.cell? ⟨l.bp, 3, none⟩ = some (.slice l.x 0 l.c) := by rw [← hln]; exact q3.obj.cell (k := 3) (by omega)
      clear k1 t1 n1 f1 q1 q2 q3 q4 hln HP
      generalize l.bp = bp at *
      generalize l.x = lx at *
      generalize l.c = lc at *
      go_wp2_with (first
        | (
           go_at_call 71; refine hS.mono ?_; rintro e w1 ⟨V, rfl, H1⟩; clear hS
           have hC1 := hC.out w1 V H1
           clear hC)
        | (
           go_at_call 70; refine hC1.mono ?_; rintro e w2 ⟨rfl, H2⟩; clear hC1
           have B2 := on H2.out (al w2 (.cells #[.int .i64 0, .int .i64 0] 72))
           have hP1 := hPr.out _ B2
           clear hPr H1)
        | (
           go_at_call 73; refine hP1.mono ?_; rintro e w3 ⟨x3, c3, rfl, H3⟩; clear hP1
           have s6 := keep H3.out.1 c6
           have s1 := keep H3.out.1 c1
           have s3 := keep H3.out.1 d3
           have hK1 := hPk.out w3 x3 c3 H3
           clear hPk c6 c1 d3)
        | (
           go_at_call 74; refine hK1.mono ?_; rintro e w4 ⟨rfl, H4⟩; clear hK1)
        | (
           at_builtin; refine wpList_append_run rfl _ _ 49 rfl _ _ rfl rfl (hap _) ?_))
      obtain ⟨g4, e4, k4, _⟩ := H4.out
      have hp4 : bidPhase w4 g.p = 1 := by rw [← e4, phase_some k4 bd2 rfl]; exact if_neg d7_len
      go_roundw
      case rel => exact ⟨1, by omega, rfl, .inr (.inl ⟨rfl, H4.out⟩), hp4⟩
      case measure =>
        have := HM.out
        simp
        omega
    · obtain ⟨g1, e1, k1, t1, n1, f1⟩ := hG
      have hS : Calls Try.prog 71 #[.pointer (some ⟨g.p, 0, none⟩)] wr fun e w' => ∃ (V : Nat → AccV), e = .returned (.slice (some ⟨wr.heap.size, 0, none⟩) 1 1) ∧ Hid (Below wr.heap.size wr w' ∧ Accs w' (some ⟨wr.heap.size, 0, none⟩) 1 V ∧ (V 0).a = (1, 0) ∧ (V 0).d = dbytes d7 ∧ (V 0).n ≤ 5000) := by
        rw [← e1]
        refine (states_any k1 bd2 rfl (by show 1 ≤ 7; omega) (by show 0 < 1; omega) (by show 1 < _; omega)).mono fun e w' ⟨V, a1, a2⟩ => ⟨V, a1, a2.out.1, a2.out.2.1, ?_⟩
        have hv0 := a2.out.2.2 0 (by show 0 < 1; omega)
        have hi := acOf_inj hv0.2
        exact ⟨hi.2.1, hi.2.2, hv0.1.sv.sm⟩
      have hC : Hid (∀ (w1 : World) (V : Nat → AccV), Hid (Below wr.heap.size wr w1 ∧ Accs w1 (some ⟨wr.heap.size, 0, none⟩) 1 V ∧ (V 0).a = (1, 0) ∧ (V 0).d = dbytes d7 ∧ (V 0).n ≤ 5000) → Calls Try.prog 70 #[.slice (some ⟨wr.heap.size, 0, none⟩) 1 1] w1 fun e w' => ∃ (y : Option Addr) (n cy : Nat), e = .returned (.tuple #[.agg #[.int .i64 1, .int .i64 0], .slice y n cy, .bool true]) ∧ Hid (Below wr.heap.size wr w' ∧ Fl.Sl w' y n cy (dbytes d7) ∧ n ≤ 5000)) := fun w1 V H1 => by
        obtain ⟨b1, hA, ha, hd, hn⟩ := H1.out
        refine (chosen_any _ 1 1 V w1 hA).mono fun e w' hh => ?_
        rcases hh with ⟨a1, a2⟩ | ⟨b, k, y, cy, a1, a2⟩
        · exfalso
          refine a2.out.2 (1, 0) ⟨wfi_all (a := 1) (by omega) (by omega), wfi_all (a := 0) (by omega) (by omega)⟩ ?_
          have e0 : cntA V 1 (1, 0) = 1 := by
            unfold cntA
            rw [if_neg (by decide)]
            simp [cnt, ha]
          rw [e0]
          omega
        · have hk : k = 0 := by have := a2.out.1.2.2.1; omega
          subst hk
          have hb : b = (1, 0) := a2.out.1.2.2.2.symm.trans ha
          subst hb
          refine ⟨y, (V 0).n, cy, a1, Ba.on b1 a2.out.2.1, ?_, hn⟩
          rw [← hd]
          exact a2.out.2.2.1
      have hSe : Hid (∀ (w2 : World) (y : Option Addr) (n cy : Nat), Below wr.heap.size wr w2 → Fl.Sl w2 y n cy (dbytes d7) → n ≤ 5000 → Calls Try.prog 72 #[.pointer (some ⟨g.p, 0, none⟩), .slice y n cy] w2 fun e w' => e = .returned (.slice none 0 0) ∧ Hid (Goes w w' B g st3 30)) := fun w2 y n cy b2 hl hn => by
        rw [← e1]
        exact (settle_one (k1.below b2) rfl rfl d7 y n cy (dbytes d7) hl hn d7_of d7_ok (by show 0 < 70000; omega) d7_left).mono fun e w' ⟨a1, a2⟩ => ⟨a1, Goes.on e1 t1 n1 f1 w2 b2 a2.out (by omega)⟩
      rcases k1.bid with ⟨_, q⟩ | ⟨l, b', q1, q2, q3, q4⟩
      · cases q
      have hpr : g.p < wr.heap.size := by rw [← e1]; exact k1.obj.lt
      have c6 : wr.cell? ⟨g.p, 6, none⟩ = some (.pointer (some ⟨l.bp, 0, none⟩)) := by rw [← e1, k1.c6, q1]; rfl
      clear k1 t1 n1 f1 q1 q2 q3 q4 HP
      generalize l.bp = bp at *
      go_wp2_with (first
        | (
           go_at_call 71; refine hS.mono ?_; rintro e w1 ⟨V, rfl, H1⟩; clear hS
           have hC1 := hC.out w1 V H1
           clear hC)
        | (
           go_at_call 70; refine hC1.mono ?_; rintro e w2 ⟨y2, n2, c2, rfl, H2⟩; clear hC1
           have B2 := on H2.out.1 (al w2 (.cells #[.int .i64 1, .int .i64 0] 72))
           have hT1 := hSe.out _ y2 n2 c2 B2 (H2.out.2.1.below (al _ _)) H2.out.2.2
           clear hSe H1)
        | (
           go_at_call 72; refine hT1.mono ?_; rintro e w4 ⟨rfl, H4⟩; clear hT1)
        | (
           at_builtin; refine wpList_append_run rfl _ _ 49 rfl _ _ rfl rfl (hap _) ?_))
      obtain ⟨g4, e4, k4, _⟩ := H4.out
      have hp4 : bidPhase w4 g.p = 0 := by rw [← e4]; exact phase_none k4 rfl
      go_roundw
      case rel => exact ⟨0, by omega, rfl, .inr (.inr ⟨rfl, H4.out⟩), hp4⟩
      case measure =>
        have := HM.out
        simp
        omega
    · obtain ⟨g1, e1, k1, t1, n1, f1⟩ := hG
      have hgb : g1.b = none := by
        rcases k1.bid with ⟨q, _⟩ | ⟨l, b, q1, q2, _⟩
        · exact q
        · cases q2
      have c6 : wr.cell? ⟨g.p, 6, none⟩ = some (.pointer none) := by rw [← e1, k1.c6, hgb]; rfl
      have HG : Hid (Goes w wr B g st3 30) := ⟨g1, e1, k1, t1, n1, f1⟩
      clear k1 t1 n1 f1 HP hgb e1
      go_wp2_with fail
      go_ret
      exact ⟨rfl, HG.out⟩

theorem start_awake (h : NdAt w B g st0) (hgn : gnb g < 10000000000000000) :
    Calls Try.prog 37 #[.pointer (some ⟨g.p, 0, none⟩)] w fun e w' => e = .returned (.slice none 0 0) ∧ Hid (Goes w w' B g st3 40) := by
  have hap := app_nil
  have hB := begin_one h rfl rfl rfl (by show ([] ++ [(⟨0, 1, str [7]⟩ : Dc)]) ≠ []; simp) rfl (by omega)
  have HD : Hid (∀ w1, Hid (Goes w w1 B g (begun st0) 1) → Calls Try.prog 52 #[.pointer (some ⟨g.p, 0, none⟩)] w1 fun e w' => e = .returned (.slice none 0 0) ∧ Hid (Goes w w' B g st3 40)) := fun w1 H1 => by
    obtain ⟨g1, e1, k1, t1, n1, f1⟩ := H1.out
    rw [← e1]
    exact (drive_awake k1 (by omega)).mono fun e w' ⟨a1, a2⟩ => ⟨a1, (Goes.trans e1 t1 n1 f1 a2.out).mono (by omega)⟩
  clear h hgn
  go_enter Try.func37, Try.ntmps37
  go_wp2_with (first
    | (
       go_at_call 57; refine hB.mono ?_; rintro e w1 ⟨rfl, H1⟩; clear hB
       have hD := HD.out w1 H1
       clear HD)
    | (
       go_at_call 52; refine hD.mono ?_; rintro e w2 ⟨rfl, H2⟩; clear hD)
    | (
       at_builtin; refine wpList_append_run rfl _ _ 49 rfl _ _ rfl rfl (hap _) ?_))
  go_ret
  exact ⟨rfl, H2.out⟩

theorem tick_awake (h : NdAt w B g st0) (hgn : gnb g < 10000000000000000) :
    Calls Try.prog 19 #[.pointer (some ⟨g.p, 0, none⟩)] w fun e w' => e = .returned (.slice none 0 0) ∧ Hid (Goes w w' B g st3 40) := by
  have hap := app_nil
  have hM := made_yes h
  have hgb : g.b = none := by
    rcases h.bid with ⟨q, _⟩ | ⟨l, b, q1, q2, _⟩
    · exact q
    · cases q2
  have c6 : w.cell? ⟨g.p, 6, none⟩ = some (.pointer none) := by rw [h.c6, hgb]; rfl
  have c1 : w.cell? ⟨g.p, 1, none⟩ = some (.int .i64 1) := h.c1
  have hS := start_awake h hgn
  have hG : Calls Try.prog 27 #[.pointer (some ⟨g.p, 0, none⟩)] w fun e w' => e = .returned (.slice none 0 0) ∧ w' = w := by
    clear h hgn hM hS hgb hap
    go_enter Try.func27, Try.ntmps27
    go_wp2_with fail
    go_ret
    exact ⟨rfl, rfl⟩
  have hU : Calls Try.prog 28 #[.pointer (some ⟨g.p, 0, none⟩)] w fun e w' => e = .returned (.slice none 0 0) ∧ Hid (Goes w w' B g st3 40) := by
    clear h hgn hM hG hgb hap
    go_enter Try.func28, Try.ntmps28
    go_wp2_with (first
      | (
         go_at_call 37; refine hS.mono ?_; rintro e w1 ⟨rfl, H1⟩; clear hS))
    go_ret
    exact ⟨rfl, H1.out⟩
  clear h hgn hS c6 c1 hgb
  go_enter Try.func19, Try.ntmps19
  go_wp2_with (first
    | (
       go_at_call 26; refine hM.mono ?_; rintro e w' ⟨rfl, hw⟩; subst w'; clear hM)
    | (
       go_at_call 27; refine hG.mono ?_; rintro e w' ⟨rfl, hw⟩; subst w'; clear hG)
    | (
       go_at_call 28; refine hU.mono ?_; rintro e w2 ⟨rfl, H2⟩; clear hU)
    | (
       at_builtin; refine wpList_append_run rfl _ _ 49 rfl _ _ rfl rfl (hap _) ?_))
  go_ret
  exact ⟨rfl, H2.out⟩

set_option maxHeartbeats 3200000 in
theorem awake_any (w : World) : Calls Try.prog 13 #[] w fun e w' => e = .returned (.bool true) ∧ Below w.heap.size w w' := by
  have hN := new_yes 0 1 w (by omega) (by omega) (by omega)
  have HP : Hid (∀ w1 g, g.p = w.heap.size + 1 → NdAt w1 w.heap.size g (fresh 0 1) → gnb g = 0 → Below w.heap.size w w1 → Calls Try.prog 16 #[.pointer (some ⟨w.heap.size + 1, 0, none⟩), .slice (some ⟨w1.heap.size, 0, none⟩) 1 1] (w1.alloc (.cells #[.int .u8 7] 5)) fun e w' => e = .returned (.int .i64 0) ∧ Hid (Below w.heap.size w w' ∧ ∃ g2, g2.p = w.heap.size + 1 ∧ NdAt w' w.heap.size g2 st0 ∧ gnb g2 = 0)) := fun w1 g e0 k1 hg b1 => by
    have bA := al w1 (.cells #[.int .u8 7] 5)
    have hl : Fl.Sl (w1.alloc (.cells #[.int .u8 7] 5)) (some ⟨w1.heap.size, 0, none⟩) 1 1 [7] := by
      refine ⟨rfl, Nat.le_refl _, (fun e => by cases e), .inr ⟨w1.heap.size, 0, rfl, by simp, fun i hi => ?_⟩, fun v hv => by simp at hv; omega⟩
      obtain rfl : i = 0 := by omega
      simp [Fl.gl]
    rw [← e0]
    refine (prop_yes (k1.below bA) _ 1 1 [7] hl (fun _ a ha hf => ?_) (by omega) (by show 0 < 256; omega) (by show 0 < _; omega) (by show 0 < 7; omega)).mono fun e w' ⟨a1, a2⟩ => ⟨a1, ?_⟩
    · cases ha
      have := (k1.u8 _ hf).1
      dsimp only at this
      omega
    · obtain ⟨g2, e2, k2, t2, n2, f2⟩ := a2.out
      have hB : ∀ k, fp g k → w.heap.size ≤ k := k1.low
      exact ⟨(on b1 bA).trans (t2.below hB (on b1 bA).size), g2, e2, k2, by omega⟩
  have HT : Hid (∀ w1 g, g.p = w.heap.size + 1 → NdAt w1 w.heap.size g st0 → gnb g = 0 → Below w.heap.size w w1 → Calls Try.prog 19 #[.pointer (some ⟨w.heap.size + 1, 0, none⟩)] w1 fun e w' => e = .returned (.slice none 0 0) ∧ Hid (Below w.heap.size w w' ∧ ∃ g2, g2.p = w.heap.size + 1 ∧ NdAt w' w.heap.size g2 st3)) := fun w1 g e0 k1 hg b1 => by
    rw [← e0]
    refine (tick_awake k1 (by omega)).mono fun e w' ⟨a1, a2⟩ => ⟨a1, ?_⟩
    obtain ⟨g2, e2, k2, t2, n2, f2⟩ := a2.out
    exact ⟨b1.trans (t2.below k1.low b1.size), g2, e2, k2⟩
  go_enter Try.func13, Try.ntmps13
  go_wp2_with (first
    | (
       go_at_call 21; refine hN.mono ?_; rintro e w1 ⟨rfl, H1⟩; clear hN
       obtain ⟨b1, g1, e1, k1, n1⟩ := H1.out
       have hP := HP.out w1 g1 e1 k1 n1 b1
       clear HP H1 b1 e1 k1 n1)
    | (
       go_at_call 16; refine hP.mono ?_; rintro e w2 ⟨rfl, H2⟩; clear hP
       obtain ⟨b2, g2, e2, k2, n2⟩ := H2.out
       have hT := HT.out w2 g2 e2 k2 n2 b2
       clear HT H2 b2 e2 k2 n2)
    | (
       go_at_call 19; refine hT.mono ?_; rintro e w3 ⟨rfl, H3⟩; clear hT
       obtain ⟨b3, g3, e3, k3⟩ := H3.out
       have hGt := get_yes k3 0 d7 rfl
       rw [e3] at hGt
       clear b3 k3 e3)
    | (
       go_at_call 24; refine hGt.mono ?_; rintro e w4 ⟨y4, m4, c4, rfl, H4⟩; clear hGt
       obtain ⟨b3, g3', e3, k3⟩ := H3.out
       have hm : m4 = 1 := by rw [H4.out.1]; show (str [7]).size = 1; rw [str_size]; rfl
       subst hm
       have hr := H4.out.2.2.1.row
       obtain ⟨gb, go, rfl, hgl, hgc⟩ := hr.resolve_left (by omega)
       have c7 : w4.cell? ⟨gb, go, none⟩ = some (.int .u8 7) := by
         have q := hgc 0 (by omega)
         rw [Nat.add_zero] at q
         rw [q]
         rfl
       have hLn := len_any (k3.below H4.out.2.1)
       rw [e3] at hLn
       have B4 := on b3 H4.out.2.1
       clear H3 H4 hgc hgl k3 e3 b3 hr)
    | (
       go_at_call 12; refine hLn.mono ?_; rintro e w' ⟨rfl, hw⟩; subst w'; clear hLn))
  go_ret
  exact ⟨by rfl, B4⟩

end

end Go.Proofs.Ytfgfjfemaniaiaa.Px

/-
  Package paxos: pick, at any state: what is known of all monitors stays true.
  Conditions: the monitor is one that New gave ('NdAt'), with a bid.
-/
namespace Go.Proofs.Ytfgfjfemaniaiaa.Px
open Go.RowKit Wi By Fl Ba
set_option linter.unusedVariables false
set_option linter.unusedSimpArgs false
set_option maxRecDepth 100000

theorem eqb_iff (a b : Bt) : eqb a b = true ↔ a = b := by
  obtain ⟨a1, a2⟩ := a
  obtain ⟨b1, b2⟩ := b
  unfold eqb
  simp

theorem cnt_first (V : Nat → AccV) (bal : Bt) : ∀ k, cnt (fun i => eqb (V i).p bal) k = (firstOf V bal k).length
  | 0 => rfl
  | k + 1 => by
    have ih := cnt_first V bal k
    unfold firstOf at ih ⊢
    rw [List.range_succ, List.map_append, List.filter_append, List.length_append, ← ih]
    show cnt _ k + _ = _
    cases e : eqb (V k).p bal <;> simp [e]

theorem mem_first {V : Nat → AccV} {bal : Bt} {k : Nat} {v : AccV} : v ∈ firstOf V bal k ↔ ∃ i, i < k ∧ V i = v ∧ v.p = bal := by
  unfold firstOf
  rw [List.mem_filter, List.mem_map]
  constructor
  · rintro ⟨⟨i, h1, rfl⟩, h2⟩
    exact ⟨i, List.mem_range.1 h1, rfl, (eqb_iff _ _).1 h2⟩
  · rintro ⟨i, h1, rfl, h2⟩
    exact ⟨⟨i, List.mem_range.2 h1, rfl⟩, (eqb_iff _ _).2 h2⟩

theorem nthA_mem {L : List AccV} {i : Nat} (h : i < L.length) : nthA L i ∈ L := by
  unfold nthA
  first
    | exact List.getD_mem h
    | (rw [List.getD_eq_getElem _ _ h]; exact List.getElem_mem h)
    | (simp [h])

theorem nthA_ex {L : List AccV} {v : AccV} (h : v ∈ L) : ∃ i, i < L.length ∧ nthA L i = v := by
  obtain ⟨i, h1, h2⟩ := List.mem_iff_getElem.1 h
  refine ⟨i, h1, ?_⟩
  unfold nthA
  first
    | (rw [List.getD_eq_getElem _ _ h1]; exact h2)
    | (simp [h1, h2])

/- What the promised ones told. -/
def MofS (S : Nat → Ac) (bal : Bt) (k : Nat) : Option (Bt × List Nat) := if (S k).p = bal then some ((S k).a, (S k).d) else none

theorem open_of {V : Nat → AccV} {S : Nat → Ac} {n : Nat} {bal : Bt} (hV : ∀ i, i < n → acOf (V i) = S i) {ol dd : List Nat} (h : PkS (nthA (firstOf V bal n)) (firstOf V bal n).length ol dd) : Open n (MofS S bal) dd ∧ (dd = ol ∨ ∃ k, k < n ∧ (S k).a ≠ z0 ∧ dd = (S k).d) := by
  have hin : ∀ k, k < n → ∀ a d, MofS S bal k = some (a, d) → ∃ i, i < (firstOf V bal n).length ∧ nthA (firstOf V bal n) i = V k ∧ (V k).a = a ∧ (V k).d = d := fun k hk a d e => by
    unfold MofS at e
    split at e
    · rename_i h1
      injection e with e
      injection e with e1 e2
      rw [← hV k hk] at h1 e1 e2
      obtain ⟨i, h2, h3⟩ := nthA_ex (mem_first.2 ⟨k, hk, rfl, h1⟩)
      exact ⟨i, h2, h3, e1, e2⟩
    · cases e
  rcases h with ⟨h1, h2⟩ | ⟨i, h1, h2, h3⟩
  · refine ⟨.inl fun k hk a d e => ?_, .inl h2⟩
    obtain ⟨i, i1, i2, i3, _⟩ := hin k hk a d e
    have := h1 i i1
    rw [i2] at this
    rw [← i3, this]
  · obtain ⟨k, k1, k2, k3⟩ := mem_first.1 (nthA_mem h1)
    have e1 : (S k).p = bal := by rw [← hV k k1]; show (V k).p = bal; rw [k2]; exact k3
    have e2 : (S k).a = (nthA (firstOf V bal n) i).a := by rw [← hV k k1]; show (V k).a = _; rw [k2]
    have e3 : (S k).d = dd := by rw [← hV k k1, h2]; show (V k).d = _; rw [k2]
    refine ⟨.inr ⟨k, (S k).a, k1, ?_, by rw [e2]; exact h3.1, fun j hj a' d' e => ?_⟩, .inr ⟨k, k1, by rw [e2]; exact h3.1, e3.symm⟩⟩
    · unfold MofS
      rw [if_pos e1, e3]
    · obtain ⟨i', i1, i2, i3, _⟩ := hin j hj a' d' e
      have := h3.2 i' i1
      rw [i2, i3] at this
      rw [e2]
      exact this

theorem maj_of {V : Nat → AccV} {S : Nat → Ac} {n : Nat} {bal : Bt} (hV : ∀ i, i < n → acOf (V i) = S i) (h : n / 2 < (firstOf V bal n).length) : Maj n (fun k => MofS S bal k ≠ none) := by
  refine ⟨fun i => eqb (V i).p bal, by rw [cnt_first]; omega, fun k hk e => ?_⟩
  have e1 := (eqb_iff _ _).1 e
  have e2 : (S k).p = bal := by rw [← hV k hk]; exact e1
  show (if (S k).p = bal then some ((S k).a, (S k).d) else none) ≠ none
  rw [if_pos e2]
  simp

theorem dbytes_len {n : Nat} (hn : n ≤ 7) {d : Dc} (h : Sd n d) : (dbytes d).length ≤ 4104 := by
  have h1 := uv_len 0 d.mon (by have := h.mon; omega)
  have h2 := uv_len 4 d.ser (by have := h.ser; omega)
  have h3 := uv_len 1 d.val.size (by have := h.val; omega)
  have h4 : (nat d.val).length = d.val.size := by first | exact nat_length _ | exact nat_size _ | (unfold nat; simp)
  have h5 := h.val
  unfold dbytes
  rw [List.length_append, List.length_append, List.length_append]
  omega

theorem sent_acc {n id num : Nat} {b : Bt} {d : Dc} (hid : id < n) (hn : n ≤ 7) (hnum : num ≤ 2147483647) (h1 : 1 ≤ num) (hb : mayb b = true) (hm : b.2 = (id : Int)) (hd : Sd n d) (hs1 : 1 ≤ d.ser) : Sent n id ⟨2, num, ⟨b, b, dbytes d⟩, 0, []⟩ := by
  have hs : Sb n b := may_sb hb (by omega)
  refine ⟨hid, hnum, ?_, (fun e => by cases e), (fun e => by cases e), fun _ _ => ⟨rfl, rfl, hs, hs, dbytes_len hn hd⟩⟩
  have e1 : zb b = false := by
    unfold mayb at hb
    simp at hb
    unfold zb
    simp
    omega
  have e2 := dOf_w n hn d hd hs1
  have e3 : mayA b b (dbytes d).length = true := may_acc hb
  unfold mayM mayState
  simp [e1, e2, e3, h1, hm]

section
variable {w : World} {B B9 : Nat} {g : Ln} {st : Nd} {n : Nat} {said : ByteArray → Prop} {G : Gh}

theorem seen_is (b : Bd) (k : Nat) : stA st b k = seenA st b k := by
  unfold stA seenA upA
  rfl

theorem pick_any (h : NdAt w B g st) (k : NodeOk n said G st) (q : GI n said G) (nb : NB n st) (hn : n ≤ 7) (hgn : gnb g < 1000000000000000000) (b : Bd) (hb : st.bid = some b) (hval : b.val = []) (x : Option Addr) (m c : Nat) (V : Nat → AccV) (hO : Own w B9 74 5 encA (.slice x m c) (firstOf V b.bal n)) (hV : ∀ i, i < n → AvOk w (V i) ∧ acOf (V i) = stA st b i) (hmaj : n / 2 < m) :
    Calls Try.prog 74 #[.pointer (some ⟨g.p, 0, none⟩), .slice x m c] w fun e w' => ∃ R, e = .returned R ∧ Hid (∃ st', Step n said G w w' B g st st' R 7 ∧ st'.dec = st.dec ∧ st'.wait = st.wait ∧ st'.id = st.id ∧ st'.ser = st.ser ∧ ∃ dd d ws, st.wait = d :: ws ∧ dd ≠ [] ∧ (st' = valued st b dd ∨ st' = pickedG st b dd ∧ (dd = dbytes d ∨ ∃ j, j < n ∧ (stA st b j).a ≠ z0))) := by
  have hlen : (firstOf V b.bal n).length ≤ n := by rw [← cnt_first]; exact cnt_le _ _
  obtain ⟨em, hA⟩ := own_accs hO (by omega) (fun v hv => by obtain ⟨i, i1, i2, _⟩ := mem_first.1 hv; rw [← i2]; exact (hV i i1).1)
  have hBO := k.bid b hb
  have hnum : b.num < 4294967296 := by have := hBO.num; have := h.dl; omega
  have hmay := (nb.bid b hb).1
  obtain ⟨hbk, hbw⟩ := may_bok hmay
  have hm2 : b.bal.2 = (st.id : Int) := hBO.mon
  obtain ⟨d, ws, hw⟩ : ∃ d ws, st.wait = d :: ws := by
    cases hq : st.wait with
    | nil => exact absurd hq (nb.bid b hb).2
    | cons d ws => exact ⟨d, ws, rfl⟩
  have hVs : ∀ i, i < m → (nthA (firstOf V b.bal n) i).n ≤ 5000 := fun i hi => by
    obtain ⟨j, j1, j2, _⟩ := mem_first.1 (nthA_mem (L := firstOf V b.bal n) (i := i) (by omega))
    rw [← j2]
    exact (hV j j1).1.sv.sm
  have hS : ∀ i, i < n → acOf (V i) = stA st b i := fun i hi => (hV i hi).2
  have plain : ∀ dd, PkS (nthA (firstOf V b.bal n)) m (dbytes d) dd → ∃ G1 d', dd = dbytes d' ∧ Asked n said d' ∧ GI n said G1 ∧ GExt st.id G G1 ∧ NodeOk n said G1 (valued st b dd) ∧ G1.V b.num b.bal = some dd ∧ (dd = dbytes d ∨ ∃ j, j < n ∧ (stA st b j).a ≠ z0) := fun dd hp => by
    rw [em] at hp
    obtain ⟨o1, o2⟩ := open_of hS hp
    have hM : ∀ j, j < n → ∀ a d, MofS (stA st b) b.bal j = some (a, d) → Told G b.num j ⟨b.bal, a, d⟩ := fun j hj a d e => by
      unfold MofS at e
      split at e
      · rename_i h1
        injection e with e
        injection e with e1 e2
        have := k.seen b hb j hj
        rw [← seen_is] at this
        have e3 : (⟨b.bal, a, d⟩ : Ac) = stA st b j := by rw [← h1, ← e1, ← e2]
        rw [e3]
        exact this
      · cases e
    have hv : ∃ d', dd = dbytes d' ∧ Asked n said d' := by
      rcases o2 with e | ⟨j, j1, j2, j3⟩
      · exact ⟨d, e, k.wait d (by rw [hw]; simp)⟩
      · have := k.seen b hb j j1
        rw [← seen_is] at this
        rcases this.acc with e | ⟨_, e⟩
        · exact absurd e j2
        · rw [j3]
          exact q.val _ _ _ e
    obtain ⟨G1, g1, g2, g3, g4⟩ := k.pick q b hb hval (MofS (stA st b) b.bal) hM (maj_of hS (by rw [← em]; exact hmaj)) dd o1 hv
    obtain ⟨d', d1, d2⟩ := hv
    exact ⟨G1, d', d1, d2, g1, g2, g3, g4, o2.imp id (fun ⟨j, j1, j2, _⟩ => ⟨j, j1, j2⟩)⟩
  have mail : ∀ (w' : World) (R : Value) (dd : List Nat) (G' : Gh) (d' : Dc), dd = dbytes d' → Asked n said d' → G'.V b.num b.bal = some dd → MlsK w' w.heap.size R st.n st.id 7 (fun u => u = reqM { b with val := dd }) → MlsK w' w.heap.size R n st.id 7 (fun u => Sent n st.id u ∧ MsgOk n said G' st.id u) := fun w' R dd G' d' e1 e2 e3 hm => by
    rw [k.sn] at hm
    refine hm.mono (Nat.le_refl _) (fun u hu => ?_)
    subst hu
    have er : reqM { b with val := dd } = ⟨2, b.num, ⟨b.bal, b.bal, dd⟩, 0, []⟩ := if_neg (by show ¬ dd = []; rw [e1]; exact dbytes_some d')
    rw [er]
    refine ⟨?_, MsgOk.accept _ _ _ _ e3⟩
    rw [e1]
    exact sent_acc k.sid hn (by have := hBO.num; have := h.dl; omega) (by have := hBO.num; omega) hmay hm2 (asked_sd e2) e2.ser
  have hsb : Sb n b.bal := may_sb hmay (by have := k.sid; omega)
  cases hfr : freeb (st.acc b.num).p (st.acc b.num).a (st.acc b.num).d.length b.bal with
  | false =>
    refine (pick_no h b hb (by rw [k.sn]; exact hn) (by rw [k.sn]; exact k.sid) d ws hw x m c _ hA hVs hbk hfr hnum hgn).mono fun e w' ⟨R, dd, a1, a2⟩ => ?_
    obtain ⟨p1, p2, p3⟩ := a2.out
    obtain ⟨G1, d', d1, d2, g1, g2, g3, g4, g5⟩ := plain dd p1
    exact ⟨R, a1, valued st b dd, ⟨G1, p2.mono (by omega), g1, g2, g3, ⟨nb.acc, fun b' hb' => by injection hb' with hb'; subst hb'; exact nb.bid b hb⟩, mail w' R dd G1 d' d1 d2 g4 p3⟩, rfl, rfl, rfl, rfl, dd, d, ws, hw, by rw [d1]; exact dbytes_some d', .inl rfl⟩
  | true =>
    refine (pick_yes h b hb (by rw [k.sn]; exact hn) (by rw [k.sn]; exact k.sid) d ws hw x m c _ hA hVs hbk hfr hnum hgn).mono fun e w' ⟨R, dd, a1, a2⟩ => ?_
    obtain ⟨p1, p2, p3⟩ := a2.out
    obtain ⟨G1, d', d1, d2, g1, g2, g3, g4, g5⟩ := plain dd p1
    obtain ⟨G2, u1, u2, u3, u4, u5⟩ := g3.vote g1 b.num (by show st.dec.length < b.num; have := hBO.num; omega) b.bal dd g4 hfr
    refine ⟨R, a1, pickedG st b dd, ⟨G2, p2.mono (by omega), u1, g2.trans u2, u3, ⟨fun s hs => ?_, fun b' hb' => by injection hb' with hb'; subst hb'; exact nb.bid b hb⟩, mail w' R dd G2 d' d1 d2 (by rw [u5]; exact g4) p3⟩, rfl, rfl, rfl, rfl, dd, d, ws, hw, by rw [d1]; exact dbytes_some d', .inr ⟨rfl, g5⟩⟩
    have hs' : st.dec.length < s := hs
    show Sb n (upA st.acc b.num ⟨b.bal, b.bal, dd⟩ s).p ∧ Sb n (upA st.acc b.num ⟨b.bal, b.bal, dd⟩ s).a
    by_cases e : s = b.num
    · subst e
      rw [upA_same]
      exact ⟨hsb, hsb⟩
    · rw [upA_other _ _ e]
      exact nb.acc s hs'

end

end Go.Proofs.Ytfgfjfemaniaiaa.Px

/-
  Package paxos: settle, at any state: what is chosen is learned, told, and the next one is begun.
  Conditions: the monitor is one that New gave ('NdAt').
-/
namespace Go.Proofs.Ytfgfjfemaniaiaa.Px
open Go.RowKit Wi By Fl Ba
set_option linter.unusedVariables false
set_option linter.unusedSimpArgs false
set_option maxRecDepth 100000

section
variable {w : World} {B : Nat} {g : Ln} {st : Nd} {n : Nat} {said : ByteArray → Prop} {G : Gh}

/- None of its blocks is one of mails. -/
theorem NdAt.not_mail (h : NdAt w B g st) : ∀ k, fp g k → ¬ Tb w k 70 := fun k hk => by
  rcases hk with rfl | rfl | hk | hk | ⟨l, hl, hk⟩
  · exact fun t => by have := t.same h.obj.tb; revert this; decide
  · exact fun t => t.not_map h.acc.isM
  · exact fun t => by have := t.same (h.dec.tb hk).2; revert this; decide
  · exact fun t => by have := t.same (h.wait.tb hk).2; revert this; decide
  · rcases h.bid with ⟨q, _⟩ | ⟨l', b, q1, q2, q3, q4⟩
    · rw [hl] at q
      cases q
    · rw [hl] at q1
      injection q1 with q1
      subst q1
      rcases hk with rfl | rfl
      · exact fun t => by have := t.same q3.obj.tb; revert this; decide
      · exact fun t => t.not_map q3.told.isM

theorem Goes.mail {w' w2 : World} {st' : Nd} {k : Nat} {R : Value} {Bm : Nat} {L : List MlV} (h : Goes w w' B g st' k) (hm : OwnMl w' Bm R L) (hb : w.heap.size ≤ Bm) (t : Turns (fun j => R.ownBlock = some j) w' w2) : Goes w w2 B g st' k := by
  obtain ⟨g1, a1, a2, a3, a4, a5⟩ := h
  exact ⟨g1, a1, a2.turns t (fun j hf hj => a2.not_mail j hf (hm.tb hj).2) (mail_not_u8 hm), a3.more t (fun j hj => .inr (Nat.le_trans hb (hm.tb hj).1)), a4, a5⟩

theorem NB.learned (k : NB n st) (d : Dc) : NB n (learned st d) := ⟨fun s hs => by
  have hs' : st.dec.length + 1 < s := by have : (st.dec ++ [d]).length < s := hs; rw [List.length_append] at this; exact this
  show Sb n (upA st.acc (st.dec.length + 1) noAc s).p ∧ Sb n (upA st.acc (st.dec.length + 1) noAc s).a
  rw [upA_other _ _ (by omega)]
  exact k.acc s (by omega), fun b hb => by cases hb⟩

set_option maxHeartbeats 3200000 in
theorem settle_any (h : NdAt w B g st) (k : NodeOk n said G st) (q : GI n said G) (nb : NB n st) (hn : n ≤ 7) (hgn : gnb g < 100000000000000000) (hdl : st.dec.length < 70000) (d : Dc) (hc : Ch n G (st.dec.length + 1) (dbytes d)) (hd : Asked n said d) (x : Option Addr) (m c : Nat) (hl : Fl.Sl w x m c (dbytes d)) (hm : m ≤ 5000) :
    Calls Try.prog 72 #[.pointer (some ⟨g.p, 0, none⟩), .slice x m c] w fun e w' => ∃ R, e = .returned R ∧ Hid (∃ st', Step n said G w w' B g st st' R 20 ∧ st'.dec = st.dec ++ [d] ∧ st'.wait = left d st.wait ∧ st'.id = st.id ∧ st'.ser = st.ser ∧ (st' = learned st d ∨ ∃ b, st' = begunG (learned st d) b)) := by
  have hD := fun (W : World) (b : Below w.heap.size w W) => dof_any x m c (dbytes d) n hn W (hl.below b) (by omega)
  rw [dOf_w n hn d (asked_sd hd) hd.ser] at hD
  dsimp only [Option.getD, Option.isSome, dv] at hD
  have hL := fun (W : World) (b : Below w.heap.size w W) => learn_any (h.below b) d hd.ok hdl
  dsimp only [dv] at hL
  have c1 := h.c1
  rw [k.sn] at c1
  have k1 := k.learned d hc hd
  have nb1 := nb.learned d
  have hd1 : (learned st d).dec.length = st.dec.length + 1 := by show (st.dec ++ [d]).length = _; rw [List.length_append]; rfl
  have hi7 : st.id < 7 := by have := k.sid; omega
  have HX := hid (And.intro k1 (And.intro nb1 (And.intro q (And.intro hd1 (And.intro hgn (And.intro k.sn k.sid))))))
  obtain ⟨st1, hst1⟩ : ∃ st1, st1 = learned st d := ⟨_, rfl⟩
  have HS1 : Hid (st1 = learned st d) := hid hst1
  have HE : Hid (st1.dec = st.dec ++ [d] ∧ st1.wait = left d st.wait ∧ st1.id = st.id ∧ st1.ser = st.ser ∧ st1.n = st.n) := hid (by rw [hst1]; exact ⟨rfl, rfl, rfl, rfl, rfl⟩)
  rw [← hst1] at hL HX
  have hpl := h.obj.lt
  have nI : (n : Int) ≤ 7 := by omega
  clear h hl hm hc hd k q nb k1 nb1 hst1 hd1
  obtain ⟨mon, ser, s⟩ := d
  dsimp only at hD hL
  go_enter Try.func72, Try.ntmps72
  go_wp2_with (first
    | (
       go_at_call 82; refine (hD _ (Below.refl _ _)).mono ?_; rintro e w1 ⟨rfl, H1⟩; clear hD
       have B1 : Below w.heap.size w (w1.alloc (.cells #[.int .i64 mon, .int .i64 ser, .string s] 68)) := on H1.out (al _ _)
       have hL1 := hL _ B1
       clear hL)
    | (
       go_at_call 53; refine hL1.mono ?_; rintro e w2 ⟨rfl, H2⟩; clear hL1
       obtain ⟨g2, e2, k2, t2, n2, f2⟩ := H2.out
       have c0 : w2.cell? ⟨g.p, 0, none⟩ = some (.int .i64 (st.id : Int)) := by rw [← e2, k2.c0, HE.out.2.2.1]
       have c1' : w2.cell? ⟨g.p, 1, none⟩ = some (.int .i64 (n : Int)) := by rw [← e2, k2.c1, HE.out.2.2.2.2, HX.out.2.2.2.2.2.1]
       have c2 := k2.c2
       rw [e2] at c2
       have HK2 := hid k2
       have HG2 : Hid (∀ (wF : World) (stF : Nd) (kk : Nat), Goes w2 wF B g2 stF kk → Goes w wF B g stF kk) := fun wF stF kk hF =>
         (Goes.trans (k1 := 0) (k2 := kk) e2 ((Turns.of_below B1).trans t2) n2 (fun k hk => (f2 k hk).imp id (fun q => Nat.le_trans B1.size q)) hF).mono (by omega)
       have HS2 : Hid (w.heap.size ≤ w2.heap.size ∧ gnb g2 ≤ gnb g) := hid ⟨Nat.le_trans B1.size t2.size, by omega⟩
       clear H2 k2 t2 n2 f2 B1))
  obtain ⟨N1, hN1⟩ : ∃ N1, N1 = st1.dec.length := ⟨_, rfl⟩
  have HN1 : Hid (N1 = st1.dec.length ∧ N1 = st.dec.length + 1) := hid ⟨hN1, by rw [hN1]; exact HX.out.2.2.2.1⟩
  obtain ⟨xr, cr, er, _⟩ := HK2.out.rd
  rw [er, ← hN1] at c2
  have hTl : ∀ (W : World) (b : Below w2.heap.size w2 W) (to_ : Int), Calls Try.prog 47 #[.pointer (some ⟨g.p, 0, none⟩), .int .i64 to_, .int .i64 (N1 : Int)] W fun e w' => ∃ z l cz, e = .returned (.agg #[.int .i64 to_, .slice z l cz]) ∧ Hid (l ≤ 500000 ∧ Vl W w' z l cz (encM (tellM st1 st.dec.length) st.id)) := fun W b to_ => by
    have q := tell_any (HK2.out.below b) (by rw [HE.out.2.2.1]; exact hi7) to_ st.dec.length (by rw [← HN1.out.1, HN1.out.2]; omega)
    rw [e2, HE.out.2.2.1, ← HN1.out.2] at q
    exact q
  have HTM : Hid (Sent n st.id (tellM st1 st.dec.length) ∧ MsgOk n said G st.id (tellM st1 st.dec.length)) := by
    have a1 := sent_tell HX.out.1 st.dec.length (by rw [HX.out.2.2.2.1]; omega) (by rw [HX.out.2.2.2.1]; omega)
    have a2 := HX.out.1.tells (st.dec.length + 1) 64 st1.dec.length (by omega)
    rw [Nat.add_sub_cancel, HE.out.2.2.1] at a2
    rw [HE.out.2.2.1] at a1
    exact ⟨a1, a2⟩
  obtain ⟨tm, htm⟩ : ∃ tm, tm = tellM st1 st.dec.length := ⟨_, rfl⟩
  rw [← htm] at hTl HTM
  have HTl := hid hTl
  obtain ⟨I, hI⟩ : ∃ I, I = st.id := ⟨_, rfl⟩
  have HI : Hid (I = st.id ∧ I < n) := hid ⟨hI, by rw [hI]; exact HX.out.2.2.2.2.2.2⟩
  rw [← hI] at c0
  clear hN1 er hTl htm hI c1
  go_loopw [7, 8, 25] (fun out _ i wr => ∃ k : Nat, k ≤ n ∧ i = .int .i64 k ∧ Hid (Below w2.heap.size w2 wr ∧ MlsK wr w2.heap.size out n I k (fun u => u = tm))) (fun _ _ i _ => n - (intOf i).toNat)
  case atStart => exact ⟨0, by omega, rfl, Below.refl _ _, MlsK.nil _ _ _ _ _⟩
  case round =>
    obtain ⟨k, hk, rfl, HR⟩ := hrel
    have a0 := keep HR.out.1 c0
    have a1 := keep HR.out.1 c1'
    have a2 := keep HR.out.1 c2
    by_cases hlt : k < n
    · have hkn : (k : Int) < (n : Int) := by omega
      by_cases hkI : k = I
      · subst hkI
        go_wp2_with fail
        go_roundw
        case rel => exact ⟨k + 1, by omega, by go_num, HR.out.1, HR.out.2.mono (by omega) (fun _ h => h)⟩
        case measure => simp [intOf]; omega
      · have hkI2 : ¬ (k : Int) = (I : Int) := by omega
        have hT1 := HTl.out wr HR.out.1 (k : Int)
        go_wp2_with (first
          | (
             go_at_call 47; refine hT1.mono ?_; rintro e w3 ⟨z3, n3, c3, rfl, H3⟩; clear hT1
             have b3 := on HR.out.1 H3.out.2.1
             obtain ⟨R4, W4, hr4, H4⟩ := (HR.out.2.below H3.out.2.1).push b3.size (by omega) (k : Int) z3 n3 c3 tm ⟨by omega, by omega, by omega⟩ rfl (by rw [HI.out.1]; exact bm_of_vl H3.out.2 H3.out.1)
             have HB3 := hid b3
             clear b3)
          | (
             at_builtin; refine wpList_append_run rfl _ _ 49 rfl _ _ rfl rfl hr4 ?_; clear hr4))
        have B4 : Below w2.heap.size w2 W4 := HB3.out.trans (H4.out.2.below (B := w2.heap.size) (fun j hj => by have := ((HR.out.2.below H3.out.2.1).low j hj).1; exact this) HB3.out.size)
        go_roundw
        case rel => exact ⟨k + 1, by omega, by go_num, B4, H4.out.1⟩
        case measure => simp [intOf]; omega
    · obtain rfl : k = n := by omega
      have hkn : ¬ (k : Int) < (k : Int) := by omega
      have hBg := begin_any (HK2.out.below HR.out.1) HX.out.1 HX.out.2.2.1 HX.out.2.1 hn (by have := HS2.out.2; omega)
      rw [e2] at hBg
      have HFin : Hid (∀ (w3 : World) (R9 : Value) (st' : Nd) (out : Value), MlsK wr w2.heap.size out k I k (fun u => u = tm) → Step k said G wr w3 B g2 st1 st' R9 7 → ∃ R' W', (Builtin.append_ #[49, 49] 49 #[out, R9]).run Try.prog w3 = .ok R' W' ∧ Hid (Step k said G w W' B g st st' R' 20)) := fun w3 R9 st' out hout hst => by
        obtain ⟨G', s1, s2, s3, s4, s5, s6⟩ := hst
        rw [HE.out.2.2.1, ← HI.out.1] at s3 s6
        obtain ⟨g3, u1, u2, u3, u4, u5⟩ := s1
        have hkr := HK2.out.below HR.out.1
        have m1 := hout.below_turns u3 (fun j hj hf => by obtain ⟨L, l1, _⟩ := hout; exact hkr.not_mail j hf (l1.tb hj).2) (fun j hf => (hkr.u8 j hf).2)
        have m2 : MlsK w3 w2.heap.size out k I k (fun m => Sent k I m ∧ MsgOk k said G' I m) := m1.mono (Nat.le_refl _) (fun u hu => by
          subst hu
          have := HTM.out
          rw [← HI.out.1] at this
          exact ⟨this.1, this.2.ext s3 (fun _ h => h)⟩)
        have hsz := u3.size
        have hb9 := HR.out.1.size
        obtain ⟨R', W', r1, r2⟩ := m2.cat s6 (by omega) (by omega) (by omega)
        refine ⟨R', W', r1, G', ?_, s2, by rw [← HI.out.1]; exact s3, s4, s5, by rw [← HI.out.1]; exact (r2.out.1.mono (by omega) (fun _ h => h)).base HS2.out.1⟩
        have hg : Goes w2 w3 B g2 st' 7 := Goes.trans (k1 := 0) (k2 := 7) rfl (Turns.of_below HR.out.1) (by omega) (fun j hj => .inl hj) ⟨g3, u1, u2, u3, u4, u5⟩
        obtain ⟨L, l1, _⟩ := m2
        exact ((HG2.out w3 st' 7 hg).mail l1 HS2.out.1 r2.out.2).mono (by omega)
      have HRM := hid HR.out.2
      clear HTM
      go_wp2_with (first
        | (
           go_at_call 57; refine hBg.mono ?_; rintro e w3 ⟨R9, rfl, H3⟩; clear hBg
           obtain ⟨st', hs, p1, p2, p3, p4, p5⟩ := H3.out
           obtain ⟨R', W', hr9, HSt⟩ := HFin.out w3 R9 st' _ HRM.out hs
           have HEq : Hid (st'.dec = st1.dec ∧ st'.wait = st1.wait ∧ st'.id = st1.id ∧ st'.ser = st1.ser ∧ (st' = st1 ∨ ∃ b, st' = begunG st1 b)) := hid ⟨p1, p2, p3, p4, p5⟩
           clear hs p1 p2 p3 p4 p5 HFin)
        | (
           at_builtin; refine wpList_append_run rfl _ _ 49 rfl _ _ rfl rfl hr9 ?_; clear hr9))
      go_ret
      obtain ⟨p1, p2, p3, p4, p5⟩ := HEq.out
      exact ⟨R', rfl, st', HSt.out, by rw [p1, HE.out.1], by rw [p2, HE.out.2.1], by rw [p3, HE.out.2.2.1], by rw [p4, HE.out.2.2.2.1], by rw [HS1.out] at p5; exact p5⟩

end

end Go.Proofs.Ytfgfjfemaniaiaa.Px

/-
  Package paxos: outbid, at any state with a bid; the least of numbers.
  Conditions: the monitor is one that New gave ('NdAt'), with a bid.
-/
namespace Go.Proofs.Ytfgfjfemaniaiaa.Px
open Go.RowKit Wi By Fl Ba
set_option linter.unusedVariables false
set_option linter.unusedSimpArgs false
set_option maxRecDepth 100000

/- Of numbers that there are, there is a least one: how a loop goes on whose measure no cell tells. -/
theorem least_ex (p : Nat → Prop) : ∀ k, p k → ∃ m, p m ∧ ∀ j, p j → m ≤ j := by
  intro k
  induction k using Nat.strongRecOn with
  | ind k ih =>
    intro hk
    by_cases h : ∃ j, j < k ∧ p j
    · obtain ⟨j, h1, h2⟩ := h
      exact ih j h1 h2
    · exact ⟨k, hk, fun j hj => Nat.le_of_not_lt fun e => h ⟨j, e, hj⟩⟩

theorem least_is {p : Nat → Prop} (h : ∃ k, p k) : p (Classical.epsilon fun m => p m ∧ ∀ j, p j → m ≤ j) ∧ ∀ j, p j → (Classical.epsilon fun m => p m ∧ ∀ j, p j → m ≤ j) ≤ j := by
  obtain ⟨k, hk⟩ := h
  exact Classical.epsilon_spec (least_ex p k hk)

section
variable {w : World} {B : Nat} {g : Ln} {st : Nd}

theorem outbid_any (h : NdAt w B g st) (b : Bd) (hb : st.bid = some b) (hn : st.n ≤ 7) (hid_ : st.id < st.n) (hnum : b.num < 4294967296) :
    Calls Try.prog 35 #[.pointer (some ⟨g.p, 0, none⟩)] w fun e w' => e = .returned (.bool (ltb b.bal (highB st b))) ∧ Hid (Below w.heap.size w w') := by
  rcases h.bid with ⟨_, q⟩ | ⟨l, b', q1, q2, q3, q4⟩
  · rw [hb] at q
    cases q
  rw [hb] at q2
  injection q2 with q2
  subst q2
  have HH := hid (fun (W : World) (k : Below w.heap.size w W) => highest_some (h.below k) b hb hn hid_ hnum)
  have c6 : w.cell? ⟨g.p, 6, none⟩ = some (.pointer (some ⟨l.bp, 0, none⟩)) := by rw [h.c6, q1]; rfl
  have d1 := q3.c1
  have d2 := q3.c2
  generalize highB st b = hi at *
  have hL := fun W => less_any b.bal hi W
  obtain ⟨num, ⟨b1, b2⟩, val, told⟩ := b
  obtain ⟨h1, h2⟩ := hi
  dsimp only [bt] at d1 d2 hL HH ⊢
  clear h hb q1 q3 q4 hn hid_ hnum
  generalize l.bp = p at *
  go_enter Try.func35, Try.ntmps35
  go_wp2_with fail
  have bD : Below w.heap.size w w.drew := (Below.refl _ _).drew
  have e6 := keep bD c6
  have e1 := keep bD d1
  have e2 := keep bD d2
  have hH := HH.out w.drew bD
  refine wp_region_held_drew (S := fun v => v.cell? ⟨g.p, 6, none⟩ = some (.pointer (some ⟨p, 0, none⟩)) ∧ v.cell? ⟨p, 1, none⟩ = some (.int .i64 b1) ∧ v.cell? ⟨p, 2, none⟩ = some (.int .i64 b2)) (by kernel_rfl) ⟨e6, e1, e2⟩ (fun hHeld => ?_)
  generalize w.drew = wD at *
  refine By.hk 0 ?_
  refine By.hk 1 ?_
  refine By.hk 2 ?_
  refine By.hk 3 ?_
  refine By.hk 4 ?_
  refine By.hk 5 ?_
  refine By.hk 6 ?_
  refine By.hk 7 ?_
  refine wpAnyH_ready (rs := [8]) (by kernel_rfl) (by simp) ?_
  refine AllReadyH.cons rfl (fun K hK => ?_) AllReadyH.nil
  go_simp
  refine hH.mono ?_
  rintro e w1 ⟨rfl, H1⟩
  refine hK.out _ _ ⟨keep H1.out e6, keep H1.out e1, keep H1.out e2⟩ (fun hHeld => ?_)
  clear hK K
  refine wpAnyH_ready (rs := [9]) (by kernel_rfl) (by simp) ?_
  refine AllReadyH.cons rfl (fun K hK => ?_) AllReadyH.nil
  go_simp
  refine (hL _).mono ?_
  rintro e w2 ⟨rfl, hb2⟩
  refine hK.out _ _ ⟨keep hb2 (keep H1.out e6), keep hb2 (keep H1.out e1), keep hb2 (keep H1.out e2)⟩ (fun hHeld => ?_)
  clear hK K
  refine By.hk 10 ?_
  refine wpAnyH_done (by kernel_rfl) ?_ _
  clear hHeld
  go_wp2_with fail
  go_ret
  exact ⟨rfl, on bD (on H1.out hb2)⟩

end

end Go.Proofs.Ytfgfjfemaniaiaa.Px

/-
  Whether something is chosen, by the states that are known: Chosen's answer, one way or the other.
  Conditions: none.
-/
namespace Go.Proofs.Ytfgfjfemaniaiaa.Px
open Go.RowKit Wi By Fl Ba
set_option linter.unusedVariables false
set_option linter.unusedSimpArgs false
set_option maxRecDepth 100000

def ChoS (S : Nat → Ac) (n : Nat) : Prop := ∃ c k, c ≠ z0 ∧ Maj n (fun i => (S i).a = c) ∧ k < n ∧ (S k).a = c

theorem cnt_mono {q r : Nat → Bool} : ∀ {n}, (∀ k, k < n → q k = true → r k = true) → cnt q n ≤ cnt r n
  | 0, _ => Nat.le_refl _
  | n + 1, h => by
    have ih := cnt_mono (q := q) (r := r) (n := n) (fun k hk => h k (by omega))
    have hn := h n (by omega)
    show cnt q n + (if q n = true then 1 else 0) ≤ cnt r n + (if r n = true then 1 else 0)
    by_cases e : q n = true
    · rw [if_pos e, if_pos (hn e)]
      omega
    · rw [if_neg e]
      omega

theorem maj_cnt {n : Nat} {V : Nat → AccV} {c : Bt} (hc : c ≠ z0) (h : Maj n (fun i => (V i).a = c)) : (n : Int) < 2 * cntA V n c := by
  obtain ⟨q, h1, h2⟩ := h
  unfold cntA
  rw [if_neg hc]
  have := cnt_mono (q := q) (r := fun i => decide ((V i).a = c)) (n := n) (fun k hk e => by simpa using h2 k hk e)
  omega

section
variable {w : World} {n : Nat} {S : Nat → Ac}

theorem chosen_no (x : Option Addr) (c0 : Nat) (V : Nat → AccV) (h : Accs w x n V) (hS : ∀ i, i < n → acOf (V i) = S i) (hno : ¬ ChoS S n) :
    Calls Try.prog 70 #[.slice x n c0] w fun e w' => e = .returned (.tuple #[bt z0, .slice none 0 0, .bool false]) ∧ Hid (Below w.heap.size w w') :=
  (chosen_any x n c0 V w h).mono fun e w' hh => by
    rcases hh with ⟨a1, a2⟩ | ⟨b, k, y, cy, a1, a2⟩
    · exact ⟨a1, a2.out.1⟩
    · obtain ⟨c1, c2, c3, c4⟩ := a2.out.1
      have ha : ∀ i, i < n → (V i).a = (S i).a := fun i hi => by rw [← hS i hi]; rfl
      obtain ⟨q, q1, q2⟩ := c2
      exact absurd ⟨b, k, c1, ⟨q, q1, fun i hi e => (ha i hi).symm.trans (q2 i hi e)⟩, c3, by rw [← ha k c3]; exact c4⟩ hno

theorem chosen_yes (x : Option Addr) (c0 : Nat) (V : Nat → AccV) (h : Accs w x n V) (hS : ∀ i, i < n → acOf (V i) = S i) (hyes : ChoS S n) :
    Calls Try.prog 70 #[.slice x n c0] w fun e w' => ∃ (b : Bt) (k : Nat) (y : Option Addr) (m cy : Nat), e = .returned (.tuple #[bt b, .slice y m cy, .bool true]) ∧ Hid (b ≠ z0 ∧ Maj n (fun i => (S i).a = b) ∧ k < n ∧ (S k).a = b ∧ m = (V k).n ∧ Vl w w' y m cy (S k).d) :=
  (chosen_any x n c0 V w h).mono fun e w' hh => by
    have ha : ∀ i, i < n → (V i).a = (S i).a := fun i hi => by rw [← hS i hi]; rfl
    rcases hh with ⟨a1, a2⟩ | ⟨b, k, y, cy, a1, a2⟩
    · obtain ⟨c, k, c1, ⟨q, q1, q2⟩, c3, c4⟩ := hyes
      have hw : bwf c := by
        have := h.wf k c3
        rw [ha k c3, c4] at this
        exact this
      exact absurd (maj_cnt c1 ⟨q, q1, fun i hi e => (ha i hi).trans (q2 i hi e)⟩) (a2.out.2 c hw)
    · obtain ⟨c1, ⟨q, q1, q2⟩, c3, c4⟩ := a2.out.1
      refine ⟨b, k, y, (V k).n, cy, a1, c1, ⟨q, q1, fun i hi e => (ha i hi).symm.trans (q2 i hi e)⟩, c3, by rw [← ha k c3]; exact c4, rfl, ?_⟩
      have hd : (V k).d = (S k).d := by rw [← hS k c3]; rfl
      rw [← hd]
      exact a2.out.2

end

/- One state alone is no majority of two or more. -/
theorem one_no {S : Nat → Ac} {n id : Nat} (hn : 2 ≤ n) (h : ∀ i, i < n → i ≠ id → S i = noAc) : ¬ ChoS S n := fun ⟨c, k, c1, ⟨q, q1, q2⟩, c3, c4⟩ => by
  have hle := cnt_mono (q := q) (r := fun i => decide (i = id)) (n := n) (fun i hi e => by
    have : (S i).a = c := q2 i hi e
    by_cases hid : i = id
    · simp [hid]
    · rw [h i hi hid] at this
      exact absurd this.symm c1)
  have h1 : ∀ m, cnt (fun i => decide (i = id)) m ≤ 1 ∧ (m ≤ id → cnt (fun i => decide (i = id)) m = 0) := by
    intro m
    induction m with
    | zero => exact ⟨by show (0 : Nat) ≤ 1; omega, fun _ => rfl⟩
    | succ m ih =>
      obtain ⟨i1, i2⟩ := ih
      show cnt _ m + (if decide (m = id) = true then 1 else 0) ≤ 1 ∧ (m + 1 ≤ id → cnt _ m + (if decide (m = id) = true then 1 else 0) = 0)
      by_cases e : m = id
      · have := i2 (by omega)
        rw [this]
        simp [e]
      · simp only [e, decide_false, Bool.false_eq_true, if_false]
        exact ⟨by omega, fun hm => by have := i2 (by omega); omega⟩
  have := (h1 n).1
  omega

end Go.Proofs.Ytfgfjfemaniaiaa.Px

/-
  Package paxos: drive, at any state, over any level that settle and pick lower.
  Conditions: the monitor is one that New gave ('NdAt').
-/
namespace Go.Proofs.Ytfgfjfemaniaiaa.Px
open Go.RowKit Wi By Fl Ba
set_option linter.unusedVariables false
set_option linter.unusedSimpArgs false
set_option maxRecDepth 100000

structure Lev (n : Nat) (Lv : Nd → Nat → Prop) (L0 : Nat) : Prop where
  top : L0 ≤ 2000
  le : ∀ st k, Lv st k → k ≤ L0 ∧ st.dec.length < 70000
  set : ∀ st k b d, Lv st k → st.bid = some b → (∃ j, j < n ∧ (stA st b j).a ≠ z0 ∧ (stA st b j).d = dbytes d) → ChoS (stA st b) n → Sd n d → (∃ k', k' < k ∧ Lv (learned st d) k') ∧ ∀ b', ∃ k', k' < k ∧ Lv (begunG (learned st d) b') k'
  pick : ∀ st k b dd d ws, Lv st k → st.bid = some b → b.val = [] → ¬ ChoS (stA st b) n → st.wait = d :: ws → dd ≠ [] → (∃ k', k' < k ∧ Lv (valued st b dd) k') ∧ ((dd = dbytes d ∨ ∃ j, j < n ∧ (stA st b j).a ≠ z0) → ∃ k', k' < k ∧ Lv (pickedG st b dd) k')

/- How far a drive is. -/
def DLv (n : Nat) (said : ByteArray → Prop) (Lv : Nd → Nat → Prop) (L0 : Nat) (G : Gh) (w : World) (B : Nat) (g : Ln) (st : Nd) (k : Nat) (out : Value) (wr : World) : Prop :=
  ∃ st1 G1, Lv st1 k ∧ Goes w wr B g st1 (20 * (L0 - k)) ∧ GI n said G1 ∧ GExt st.id G G1 ∧ NodeOk n said G1 st1 ∧ NB n st1 ∧ MlsK wr w.heap.size out n st.id (20 * (L0 - k)) (fun m => Sent n st.id m ∧ MsgOk n said G1 st.id m) ∧ st1.id = st.id ∧ st1.ser = st.ser

section
variable {w : World} {B : Nat} {g : Ln} {st : Nd} {n : Nat} {said : ByteArray → Prop} {G : Gh} {Lv : Nd → Nat → Prop} {L0 : Nat}

/- A step of it, and its mails behind those that there are. -/
theorem DLv.step {k k' : Nat} {out R : Value} {wr w1 w2 : World} {g1 : Ln} {st1 st' : Nd} {G1 : Gh} (hL : Lev n Lv L0) (e1 : g1.p = g.p) (kr : NdAt wr B g1 st1) (t1 : Turns (fp g) w wr) (n1 : gnb g1 ≤ gnb g + 20 * (L0 - k)) (f1 : ∀ j, fp g1 j → fp g j ∨ w.heap.size ≤ j) (g2 : GExt st.id G G1) (hm : MlsK wr w.heap.size out n st.id (20 * (L0 - k)) (fun m => Sent n st.id m ∧ MsgOk n said G1 st.id m)) (hid : st1.id = st.id) (hser : st1.ser = st.ser)
    (b1 : Below wr.heap.size wr w1) (hs : Step n said G1 w1 w2 B g1 st1 st' R 20) (hk : k' < k) (hkL : k ≤ L0) (hlv : Lv st' k') (hid' : st'.id = st1.id) (hser' : st'.ser = st1.ser) :
    ∃ R' W', (Builtin.append_ #[49, 49] 49 #[out, R]).run Try.prog w2 = .ok R' W' ∧ Hid (DLv n said Lv L0 G w B g st k' R' W') := by
  obtain ⟨G', s1, s2, s3, s4, s5, s6⟩ := hs
  rw [hid] at s3 s6
  obtain ⟨g3, u1, u2, u3, u4, u5⟩ := s1
  have kr1 := kr.below b1
  have htop := hL.top
  have m1 := (hm.below b1).below_turns u3 (fun j hj hf => by obtain ⟨L, l1, _⟩ := hm.below b1; exact kr1.not_mail j hf (l1.tb hj).2) (fun j hf => (kr1.u8 j hf).2)
  have m2 : MlsK w2 w.heap.size out n st.id (20 * (L0 - k)) (fun m => Sent n st.id m ∧ MsgOk n said G' st.id m) := m1.mono (Nat.le_refl _) (fun u hu => ⟨hu.1, hu.2.ext s3 (fun _ h => h)⟩)
  have hsz := u3.size
  have hb9 := b1.size
  have ht9 := t1.size
  obtain ⟨R', W', r1, r2⟩ := m2.cat s6 (by omega) (by omega) (by omega)
  refine ⟨R', W', r1, st', G', hlv, ?_, s2, g2.trans s3, s4, s5, r2.out.1.mono (by omega) (fun _ h => h), hid'.trans hid, hser'.trans hser⟩
  have hg : Goes w w2 B g st' (20 * (L0 - k) + 20) := Goes.trans (k2 := 20) e1 t1 n1 f1 (Goes.trans (k1 := 0) (k2 := 20) rfl (Turns.of_below b1) (by omega) (fun j hj => .inl hj) ⟨g3, u1, u2, u3, u4, u5⟩ |>.mono (by omega))
  obtain ⟨L, l1, _⟩ := m2
  exact (hg.mail l1 (Nat.le_refl _) r2.out.2).mono (by omega)

end

end Go.Proofs.Ytfgfjfemaniaiaa.Px

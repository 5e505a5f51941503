/-
  4 texts of this proof, one behind the other: MoNobody, MoDrive1, AtApply, AtPut.
-/
import Derived.Test.YtdlajpjigddbhaaGreatJ16
import Derived.Test.YtdlajpjigddbhaaGreatJ20
import Derived.Test.YtdlajpjigddbhaaGreatJ07
/-
  A monitor of maps that nobody made: whatever is asked of it.
  Conditions: none.
-/
namespace Go.Proofs.YtdlajpjigddbhaaGreat.Mo
open Go.RowKit Wi By Fl Px At
set_option linter.unusedVariables false
set_option linter.unusedSimpArgs false
set_option maxRecDepth 100000

def VoidM (q : Option Addr) (w : World) : Prop := q = none ∨ ∃ k, q = some ⟨k, 0, none⟩ ∧ w.cell? ⟨k, 4, none⟩ = some (.int .i64 0)

theorem VoidM.below {q : Option Addr} {w w' : World} (h : VoidM q w) (b : Below w.heap.size w w') : VoidM q w' := by
  rcases h with h | ⟨k, h1, h2⟩
  · exact .inl h
  · exact .inr ⟨k, h1, At.keep b h2⟩

theorem voidm_new (w : World) : VoidM (some ⟨w.heap.size, 0, none⟩) (w.alloc (.cells #[.pointer none, .int .i64 0, .slice none 0 0, .int .i64 0, .int .i64 0, .int .i64 0, .int .i64 0, .int .i64 0, .slice none 0 0] 67)) :=
  .inr ⟨w.heap.size, rfl, by simp⟩

section
variable {w : World} {q : Option Addr}

theorem vmade (h : VoidM q w) : Calls Tryz.prog 27 #[.pointer q] w fun e w' => e = .returned (.bool false) ∧ w' = w := by
  rcases h with rfl | ⟨k, rfl, c4⟩
  · go_enter Tryz.func27, Tryz.ntmps27
    go_wp2_with fail
    go_ret
    exact ⟨rfl, rfl⟩
  · go_enter Tryz.func27, Tryz.ntmps27
    go_wp2_with fail
    go_ret
    exact ⟨rfl, rfl⟩

theorem vnode (h : VoidM q w) : Calls Tryz.prog 30 #[.pointer q] w fun e w' => e = .returned (.pointer none) ∧ w' = w := by
  have hM := vmade h
  clear h
  go_enter Tryz.func30, Tryz.ntmps30
  go_wp2_with (go_at_call 27; refine hM.mono ?_; rintro e w' ⟨rfl, hw⟩; subst w'; clear hM)
  go_ret
  exact ⟨rfl, rfl⟩

theorem vmcrash (h : VoidM q w) : Calls Tryz.prog 22 #[.pointer q] w fun e w' => e = .returned (.tuple #[]) ∧ w' = w := by
  have hM := vnode h
  have hN := Px.vcrash (q := none) (w := w) (.inl rfl)
  clear h
  go_enter Tryz.func22, Tryz.ntmps22
  go_wp2_with (first
    | (
       go_at_call 30; refine hM.mono ?_; rintro e w' ⟨rfl, hw⟩; subst w'; clear hM)
    | (
       go_at_call 39; refine hN.mono ?_; rintro e w' ⟨rfl, hw⟩; subst w'; clear hN))
  refine bodyPost_end (results_none rfl _ _ _) rfl ?_
  exact ⟨rfl, rfl⟩

theorem vmtick (h : VoidM q w) : Calls Tryz.prog 14 #[.pointer q] w fun e w' => e = .returned (.slice none 0 0) ∧ w' = w := by
  have hM := vnode h
  have hN := Px.vtick (q := none) (w := w) (.inl rfl)
  clear h
  go_enter Tryz.func14, Tryz.ntmps14
  go_wp2_with (first
    | (
       go_at_call 30; refine hM.mono ?_; rintro e w' ⟨rfl, hw⟩; subst w'; clear hM)
    | (
       go_at_call 31; refine hN.mono ?_; rintro e w' ⟨rfl, hw⟩; subst w'; clear hN))
  go_ret
  exact ⟨rfl, rfl⟩

theorem vmpending (h : VoidM q w) : Calls Tryz.prog 16 #[.pointer q] w fun e w' => e = .returned (.int .i64 0) ∧ w' = w := by
  have hM := vnode h
  have hN := Px.vpending (q := none) (w := w) (.inl rfl)
  clear h
  go_enter Tryz.func16, Tryz.ntmps16
  go_wp2_with (first
    | (
       go_at_call 30; refine hM.mono ?_; rintro e w' ⟨rfl, hw⟩; subst w'; clear hM)
    | (
       go_at_call 32; refine hN.mono ?_; rintro e w' ⟨rfl, hw⟩; subst w'; clear hN))
  go_ret
  exact ⟨rfl, rfl⟩

theorem vmreceive (h : VoidM q w) (v : Value) : Calls Tryz.prog 23 #[.pointer q, .int .i64 0, v] w fun e w' => e = .returned (.tuple #[.slice none 0 0, .int .i64 1]) ∧ w' = w := by
  have hM := vnode h
  have hN := Px.vreceive (q := none) (w := w) (.inl rfl) v
  clear h
  go_enter Tryz.func23, Tryz.ntmps23
  go_wp2_with (first
    | (
       go_at_call 30; refine hM.mono ?_; rintro e w' ⟨rfl, hw⟩; subst w'; clear hM)
    | (
       go_at_call 40; refine hN.mono ?_; rintro e w' ⟨rfl, hw⟩; subst w'; clear hN))
  go_ret2
  exact ⟨rfl, rfl⟩

theorem vmepoch (h : VoidM q w) : Calls Tryz.prog 10 #[.pointer q] w fun e w' => e = .returned (.int .i64 0) ∧ w' = w := by
  have hM := vmade h
  clear h
  go_enter Tryz.func10, Tryz.ntmps10
  go_wp2_with (go_at_call 27; refine hM.mono ?_; rintro e w' ⟨rfl, hw⟩; subst w'; clear hM)
  go_ret
  exact ⟨rfl, rfl⟩

theorem vmchanges (h : VoidM q w) : Calls Tryz.prog 24 #[.pointer q] w fun e w' => e = .returned (.slice none 0 0) ∧ w' = w := by
  have hM := vmade h
  clear h
  go_enter Tryz.func24, Tryz.ntmps24
  go_wp2_with (go_at_call 27; refine hM.mono ?_; rintro e w' ⟨rfl, hw⟩; subst w'; clear hM)
  go_ret
  exact ⟨rfl, rfl⟩

theorem vmmap (h : VoidM q w) (i : Int) : Calls Tryz.prog 19 #[.pointer q, .int .i64 i] w fun e w' => e = .returned (.tuple #[vM 0 noP none 0 0, .bool false]) ∧ Below w.heap.size w w' := by
  have bA := al w (.cells #[.int .i64 0, .int .i64 0, .int .i64 0, .int .i64 0, .int .i64 0, .slice none 0 0] 56)
  have hM := vmade (h.below bA)
  clear h
  go_enter Tryz.func19, Tryz.ntmps19
  go_wp2_with (go_at_call 27; refine hM.mono ?_; rintro e w' ⟨rfl, hw⟩; subst w'; clear hM)
  refine bodyPost_ret (v := .tuple #[vM 0 noP none 0 0, .bool false]) ?_ rfl ?_
  · rw [results_cell2 rfl]
    unfold vM noP
    go_simp
  · refine ⟨rfl, ?_⟩
    repeat (first | with_reducible exact bA | (with_reducible refine Below.setCell ?_ (by first | (simp; done) | (simp; omega) | omega) _) | (with_reducible refine Below.alloc ?_ (by first | (simp; done) | (simp; omega) | omega) _))

theorem vmask (h : VoidM q w) (c : Ch) : Calls Tryz.prog 21 #[.pointer q, vC c] w fun e w' => e = .returned (.int .i64 1) ∧ Below w.heap.size w w' := by
  have bA := al w (.cells (enC c).toArray 37)
  have hE := encodeChange_any c (w.alloc (.cells (enC c).toArray 37))
  cases hm : mayC c with
  | false =>
    rw [hm] at hE
    obtain ⟨ck, c0, c1, c2, c3, c4, c5, c6, c7⟩ := c
    unfold vC enC errB at *
    dsimp only at hE bA ⊢
    go_enter Tryz.func21, Tryz.ntmps21
    go_wp2_with (go_at_call 37; refine hE.mono ?_; rintro e w1 ⟨R, rfl, H1⟩; clear hE)
    go_ret
    exact ⟨rfl, on bA H1.out.2⟩
  | true =>
    rw [hm] at hE
    have hM := fun W (b : Below w.heap.size w W) => vnode (h.below b)
    have hN := fun W v => Px.vprop (q := none) (w := W) (.inl rfl) v
    clear h hm
    obtain ⟨ck, c0, c1, c2, c3, c4, c5, c6, c7⟩ := c
    unfold vC enC errB at *
    dsimp only at hE bA ⊢
    go_enter Tryz.func21, Tryz.ntmps21
    go_wp2_with (first
      | (
         go_at_call 37; refine hE.mono ?_; rintro e w1 ⟨R, rfl, H1⟩; clear hE
         have B1 := on bA H1.out.2
         have hM1 := hM _ B1
         clear hM)
      | (
         go_at_call 30; refine hM1.mono ?_; rintro e w' ⟨rfl, hw⟩; subst w'; clear hM1)
      | (
         go_at_call 38; refine (hN _ _).mono ?_; rintro e w' ⟨rfl, hw⟩; subst w'; clear hN))
    go_ret
    exact ⟨rfl, B1⟩

end

end Go.Proofs.YtdlajpjigddbhaaGreat.Mo

/-
  A monitor alone, of one: a change is proposed, and a tick makes it a decree.
  Conditions: none.
-/
namespace Go.Proofs.YtdlajpjigddbhaaGreat.Px
open Go.RowKit Wi By Fl Ba
set_option linter.unusedVariables false
set_option linter.unusedSimpArgs false
set_option maxRecDepth 100000

def v9 : List Nat := [1, 3, 0, 0, 0, 0, 0, 0, 0]
def d9 : Dc := ⟨0, 1, str v9⟩
def so0 : Nd := proposed (fresh 0 1) (str v9)
def so1 : Nd := begun so0
def be1 : Bd := ⟨1, (1, 0), [], fun _ => noAc⟩
def so2 : Nd := picked so1 be1 d9
def be2 : Bd := ⟨1, (1, 0), dbytes d9, fun _ => noAc⟩
def so3 : Nd := learned so2 d9

theorem d9_of : dOf 1 (dbytes d9) = some d9 := by rfl
theorem d9_ok : DOk d9 := ⟨by show 0 < _; omega, by show 1 < _; omega, by show (str v9).size ≤ 4096; rw [str_size]; decide⟩
theorem d9_left : left d9 so2.wait = [] := by rfl
theorem d9_len : (dbytes d9).length ≠ 0 := by decide

structure Ph9 (w wr : World) (B : Nat) (g : Ln) (ph : Nat) : Prop where
  goes : (ph = 2 ∧ Goes w wr B g so1 10) ∨ (ph = 1 ∧ Goes w wr B g so2 20) ∨ (ph = 0 ∧ Goes w wr B g so3 30)
  phase : bidPhase wr g.p = ph

section
variable {w : World} {B : Nat} {g : Ln}

set_option maxHeartbeats 4800000 in
theorem drive_add (h : NdAt w B g so1) (hgn : gnb g < 100000000000000000) :
    Calls Tryz.prog 87 #[.pointer (some ⟨g.p, 0, none⟩)] w fun e w' => e = .returned (.slice none 0 0) ∧ Hid (Goes w w' B g so3 30) := by
  have hap := app_nil
  have hpl := h.obj.lt
  have H0 : Hid (Ph9 w w B g 2) := ⟨.inl ⟨rfl, (Goes.same h (Below.refl _ _)).mono (by omega)⟩, phase_some h be1 rfl⟩
  have Hg : Hid (gnb g < 100000000000000000) := hgn
  clear h hgn
  go_enter Tryz.func87, Tryz.ntmps87
  go_wp2_with fail
  go_loopw [3, 4, 5, 6, 7] (fun out _ _ _ _ wr => ∃ ph : Nat, ph ≤ 2 ∧ out = .slice none 0 0 ∧ Hid (Ph9 w wr B g ph)) (fun _ _ _ _ _ wr => bidPhase wr g.p)
  case atStart => exact ⟨2, by omega, rfl, H0.out⟩
  case round =>
    clear H0
    obtain ⟨ph, hph, rfl, HP⟩ := hrel
    have HM : Hid (bidPhase wr g.p = ph) := HP.out.phase
    rcases HP.out.goes with ⟨rfl, hG⟩ | ⟨rfl, hG⟩ | ⟨rfl, hG⟩
    · obtain ⟨g1, e1, k1, t1, n1, f1⟩ := hG
      have hS : Calls Tryz.prog 120 #[.pointer (some ⟨g.p, 0, none⟩)] wr fun e w' => ∃ (V : Nat → AccV), e = .returned (.slice (some ⟨wr.heap.size, 0, none⟩) 1 1) ∧ Hid (Below wr.heap.size wr w' ∧ Accs w' (some ⟨wr.heap.size, 0, none⟩) 1 V ∧ (V 0).a = z0) := by
        rw [← e1]
        refine (states_any k1 be1 rfl (by show 1 ≤ 7; omega) (by show 0 < 1; omega) (by show 1 < _; omega)).mono fun e w' ⟨V, a1, a2⟩ => ⟨V, a1, a2.out.1, a2.out.2.1, ?_⟩
        exact (acOf_inj (a2.out.2.2 0 (by show 0 < 1; omega)).2).2.1
      have hC : Hid (∀ (w1 : World) (V : Nat → AccV), Hid (Below wr.heap.size wr w1 ∧ Accs w1 (some ⟨wr.heap.size, 0, none⟩) 1 V ∧ (V 0).a = z0) → Calls Tryz.prog 119 #[.slice (some ⟨wr.heap.size, 0, none⟩) 1 1] w1 fun e w' => e = .returned (.tuple #[.agg #[.int .i64 0, .int .i64 0], .slice none 0 0, .bool false]) ∧ Hid (Below wr.heap.size wr w')) := fun w1 V H1 => by
        refine (chosen_any _ 1 1 V w1 H1.out.2.1).mono fun e w' hh => ?_
        rcases hh with ⟨a1, a2⟩ | ⟨b, k, y, cy, a1, a2⟩
        · exact ⟨a1, Ba.on H1.out.1 a2.out.1⟩
        · have hk : k = 0 := by have := a2.out.1.2.2.1; omega
          subst hk
          exact absurd (a2.out.1.2.2.2.symm.trans H1.out.2.2) a2.out.1.1
      have hPr : Hid (∀ (w2 : World), Below wr.heap.size wr w2 → Calls Tryz.prog 122 #[.pointer (some ⟨g.p, 0, none⟩)] w2 fun e w' => ∃ (x : Option Addr) (c : Nat), e = .returned (.slice x 1 c) ∧ Hid (Below wr.heap.size wr w' ∧ ∃ V, Accs w' x 1 V ∧ ∀ i, i < 1 → (V i).a = z0)) := fun w2 b2 => by
        rw [← e1]
        refine (promised_any (k1.below b2) be1 rfl (by show 1 ≤ 7; omega) (by show 0 < 1; omega) (by show 1 < _; omega)).mono fun e w' ⟨x, m, c, V, a1, a2⟩ => ?_
        obtain ⟨a3, a4, a5, a6⟩ := a2.out
        have hv0 := a6 0 (by show 0 < 1; omega)
        have hi := acOf_inj hv0.2
        have hp0 : (V 0).p = (1, 0) := hi.1
        have ha0 : (V 0).a = z0 := hi.2.1
        have hL : firstOf V be1.bal so1.n = [V 0] := by
          show firstOf V (1, 0) 1 = [V 0]
          rw [firstOf_succ, hp0]
          rfl
        rw [hL] at a4 a5
        have hm : m = 1 := a4
        subst hm
        obtain ⟨_, hA⟩ := own_accs a5 (by simp) (fun v hv => by simp at hv; rw [hv]; exact hv0.1)
        refine ⟨x, c, a1, Ba.on b2 a3, _, hA, fun i hi => ?_⟩
        obtain rfl : i = 0 := by omega
        exact ha0
      have hPk : Hid (∀ (w3 : World) (x : Option Addr) (c : Nat), Hid (Below wr.heap.size wr w3 ∧ ∃ V, Accs w3 x 1 V ∧ ∀ i, i < 1 → (V i).a = z0) → Calls Tryz.prog 123 #[.pointer (some ⟨g.p, 0, none⟩), .slice x 1 c] w3 fun e w' => e = .returned (.slice none 0 0) ∧ Hid (Goes w w' B g so2 20)) := fun w3 x c H3 => by
        obtain ⟨b3, V, hA, hz⟩ := H3.out
        rw [← e1]
        exact (pick_one (k1.below b3) be1 rfl rfl rfl d9 [] rfl x 1 c V hA hz rfl (by decide) (by show 1 < _; omega) (by have := Hg.out; omega)).mono fun e w' ⟨a1, a2⟩ => ⟨a1, Goes.on e1 t1 n1 f1 w3 b3 a2.out (by omega)⟩
      rcases k1.bid with ⟨_, q⟩ | ⟨l, b', q1, q2, q3, q4⟩
      · cases q
      have q2' : b' = be1 := by injection q2 with q2; exact q2.symm
      subst q2'
      have hln : l.n = 0 := q3.val.sl.len.symm
      have hbl := q3.obj.lt
      have hpr : g.p < wr.heap.size := by rw [← e1]; exact k1.obj.lt
      have c6 : wr.cell? ⟨g.p, 6, none⟩ = some (.pointer (some ⟨l.bp, 0, none⟩)) := by rw [← e1, k1.c6, q1]; rfl
      have c1 : wr.cell? ⟨g.p, 1, none⟩ = some (.int .i64 1) := by rw [← e1]; exact k1.c1
      have d3 : wr.cell? ⟨l.bp, 3, none⟩ = some (.slice l.x 0 l.c) := by rw [← hln]; exact q3.obj.cell (k := 3) (by omega)
      clear k1 t1 n1 f1 q1 q2 q3 q4 hln HP
      generalize l.bp = bp at *
      generalize l.x = lx at *
      generalize l.c = lc at *
      go_wp2_with (first
        | (
           go_at_call 120; refine hS.mono ?_; rintro e w1 ⟨V, rfl, H1⟩; clear hS
           have hC1 := hC.out w1 V H1
           clear hC)
        | (
           go_at_call 119; refine hC1.mono ?_; rintro e w2 ⟨rfl, H2⟩; clear hC1
           have B2 := on H2.out (al w2 (.cells #[.int .i64 0, .int .i64 0] 111))
           have hP1 := hPr.out _ B2
           clear hPr H1)
        | (
           go_at_call 122; refine hP1.mono ?_; rintro e w3 ⟨x3, c3, rfl, H3⟩; clear hP1
           have s6 := keep H3.out.1 c6
           have s1 := keep H3.out.1 c1
           have s3 := keep H3.out.1 d3
           have hK1 := hPk.out w3 x3 c3 H3
           clear hPk c6 c1 d3)
        | (
           go_at_call 123; refine hK1.mono ?_; rintro e w4 ⟨rfl, H4⟩; clear hK1)
        | (
           at_builtin; refine wpList_append_run rfl _ _ 45 rfl _ _ rfl rfl (hap _) ?_))
      obtain ⟨g4, e4, k4, _⟩ := H4.out
      have hp4 : bidPhase w4 g.p = 1 := by rw [← e4, phase_some k4 be2 rfl]; exact if_neg d9_len
      go_roundw
      case rel => exact ⟨1, by omega, rfl, .inr (.inl ⟨rfl, H4.out⟩), hp4⟩
      case measure =>
        have := HM.out
        simp
        omega
    · obtain ⟨g1, e1, k1, t1, n1, f1⟩ := hG
      have hS : Calls Tryz.prog 120 #[.pointer (some ⟨g.p, 0, none⟩)] wr fun e w' => ∃ (V : Nat → AccV), e = .returned (.slice (some ⟨wr.heap.size, 0, none⟩) 1 1) ∧ Hid (Below wr.heap.size wr w' ∧ Accs w' (some ⟨wr.heap.size, 0, none⟩) 1 V ∧ (V 0).a = (1, 0) ∧ (V 0).d = dbytes d9 ∧ (V 0).n ≤ 5000) := by
        rw [← e1]
        refine (states_any k1 be2 rfl (by show 1 ≤ 7; omega) (by show 0 < 1; omega) (by show 1 < _; omega)).mono fun e w' ⟨V, a1, a2⟩ => ⟨V, a1, a2.out.1, a2.out.2.1, ?_⟩
        have hv0 := a2.out.2.2 0 (by show 0 < 1; omega)
        have hi := acOf_inj hv0.2
        exact ⟨hi.2.1, hi.2.2, hv0.1.sv.sm⟩
      have hC : Hid (∀ (w1 : World) (V : Nat → AccV), Hid (Below wr.heap.size wr w1 ∧ Accs w1 (some ⟨wr.heap.size, 0, none⟩) 1 V ∧ (V 0).a = (1, 0) ∧ (V 0).d = dbytes d9 ∧ (V 0).n ≤ 5000) → Calls Tryz.prog 119 #[.slice (some ⟨wr.heap.size, 0, none⟩) 1 1] w1 fun e w' => ∃ (y : Option Addr) (n cy : Nat), e = .returned (.tuple #[.agg #[.int .i64 1, .int .i64 0], .slice y n cy, .bool true]) ∧ Hid (Below wr.heap.size wr w' ∧ Fl.Sl w' y n cy (dbytes d9) ∧ n ≤ 5000)) := fun w1 V H1 => by
        obtain ⟨b1, hA, ha, hd, hn⟩ := H1.out
        refine (chosen_any _ 1 1 V w1 hA).mono fun e w' hh => ?_
        rcases hh with ⟨a1, a2⟩ | ⟨b, k, y, cy, a1, a2⟩
        · exfalso
          refine a2.out.2 (1, 0) ⟨wfi_all (a := 1) (by omega) (by omega), wfi_all (a := 0) (by omega) (by omega)⟩ ?_
          have e0 : cntA V 1 (1, 0) = 1 := by
            unfold cntA
            rw [if_neg (by decide)]
            simp [cnt, ha]
          rw [e0]
          omega
        · have hk : k = 0 := by have := a2.out.1.2.2.1; omega
          subst hk
          have hb : b = (1, 0) := a2.out.1.2.2.2.symm.trans ha
          subst hb
          refine ⟨y, (V 0).n, cy, a1, Ba.on b1 a2.out.2.1, ?_, hn⟩
          rw [← hd]
          exact a2.out.2.2.1
      have hSe : Hid (∀ (w2 : World) (y : Option Addr) (n cy : Nat), Below wr.heap.size wr w2 → Fl.Sl w2 y n cy (dbytes d9) → n ≤ 5000 → Calls Tryz.prog 121 #[.pointer (some ⟨g.p, 0, none⟩), .slice y n cy] w2 fun e w' => e = .returned (.slice none 0 0) ∧ Hid (Goes w w' B g so3 30)) := fun w2 y n cy b2 hl hn => by
        rw [← e1]
        exact (settle_one (k1.below b2) rfl rfl d9 y n cy (dbytes d9) hl hn d9_of d9_ok (by show 0 < 70000; omega) d9_left).mono fun e w' ⟨a1, a2⟩ => ⟨a1, Goes.on e1 t1 n1 f1 w2 b2 a2.out (by omega)⟩
      rcases k1.bid with ⟨_, q⟩ | ⟨l, b', q1, q2, q3, q4⟩
      · cases q
      have hpr : g.p < wr.heap.size := by rw [← e1]; exact k1.obj.lt
      have c6 : wr.cell? ⟨g.p, 6, none⟩ = some (.pointer (some ⟨l.bp, 0, none⟩)) := by rw [← e1, k1.c6, q1]; rfl
      clear k1 t1 n1 f1 q1 q2 q3 q4 HP
      generalize l.bp = bp at *
      go_wp2_with (first
        | (
           go_at_call 120; refine hS.mono ?_; rintro e w1 ⟨V, rfl, H1⟩; clear hS
           have hC1 := hC.out w1 V H1
           clear hC)
        | (
           go_at_call 119; refine hC1.mono ?_; rintro e w2 ⟨y2, n2, c2, rfl, H2⟩; clear hC1
           have B2 := on H2.out.1 (al w2 (.cells #[.int .i64 1, .int .i64 0] 111))
           have hT1 := hSe.out _ y2 n2 c2 B2 (H2.out.2.1.below (al _ _)) H2.out.2.2
           clear hSe H1)
        | (
           go_at_call 121; refine hT1.mono ?_; rintro e w4 ⟨rfl, H4⟩; clear hT1)
        | (
           at_builtin; refine wpList_append_run rfl _ _ 45 rfl _ _ rfl rfl (hap _) ?_))
      obtain ⟨g4, e4, k4, _⟩ := H4.out
      have hp4 : bidPhase w4 g.p = 0 := by rw [← e4]; exact phase_none k4 rfl
      go_roundw
      case rel => exact ⟨0, by omega, rfl, .inr (.inr ⟨rfl, H4.out⟩), hp4⟩
      case measure =>
        have := HM.out
        simp
        omega
    · obtain ⟨g1, e1, k1, t1, n1, f1⟩ := hG
      have hgb : g1.b = none := by
        rcases k1.bid with ⟨q, _⟩ | ⟨l, b, q1, q2, _⟩
        · exact q
        · cases q2
      have c6 : wr.cell? ⟨g.p, 6, none⟩ = some (.pointer none) := by rw [← e1, k1.c6, hgb]; rfl
      have HG : Hid (Goes w wr B g so3 30) := ⟨g1, e1, k1, t1, n1, f1⟩
      clear k1 t1 n1 f1 HP hgb e1
      go_wp2_with fail
      go_ret
      exact ⟨rfl, HG.out⟩

theorem start_add (h : NdAt w B g so0) (hgn : gnb g < 10000000000000000) :
    Calls Tryz.prog 67 #[.pointer (some ⟨g.p, 0, none⟩)] w fun e w' => e = .returned (.slice none 0 0) ∧ Hid (Goes w w' B g so3 40) := by
  have hap := app_nil
  have hB := begin_one h rfl rfl rfl (by show ([] ++ [(⟨0, 1, str v9⟩ : Dc)]) ≠ []; simp) rfl (by omega)
  have HD : Hid (∀ w1, Hid (Goes w w1 B g (begun so0) 1) → Calls Tryz.prog 87 #[.pointer (some ⟨g.p, 0, none⟩)] w1 fun e w' => e = .returned (.slice none 0 0) ∧ Hid (Goes w w' B g so3 40)) := fun w1 H1 => by
    obtain ⟨g1, e1, k1, t1, n1, f1⟩ := H1.out
    rw [← e1]
    exact (drive_add k1 (by omega)).mono fun e w' ⟨a1, a2⟩ => ⟨a1, (Goes.trans e1 t1 n1 f1 a2.out).mono (by omega)⟩
  clear h hgn
  go_enter Tryz.func67, Tryz.ntmps67
  go_wp2_with (first
    | (
       go_at_call 95; refine hB.mono ?_; rintro e w1 ⟨rfl, H1⟩; clear hB
       have hD := HD.out w1 H1
       clear HD)
    | (
       go_at_call 87; refine hD.mono ?_; rintro e w2 ⟨rfl, H2⟩; clear hD)
    | (
       at_builtin; refine wpList_append_run rfl _ _ 45 rfl _ _ rfl rfl (hap _) ?_))
  go_ret
  exact ⟨rfl, H2.out⟩

theorem tick_add (h : NdAt w B g so0) (hgn : gnb g < 10000000000000000) :
    Calls Tryz.prog 31 #[.pointer (some ⟨g.p, 0, none⟩)] w fun e w' => e = .returned (.slice none 0 0) ∧ Hid (Goes w w' B g so3 40) := by
  have hap := app_nil
  have hM := made_yes h
  have hgb : g.b = none := by
    rcases h.bid with ⟨q, _⟩ | ⟨l, b, q1, q2, _⟩
    · exact q
    · cases q2
  have c6 : w.cell? ⟨g.p, 6, none⟩ = some (.pointer none) := by rw [h.c6, hgb]; rfl
  have c1 : w.cell? ⟨g.p, 1, none⟩ = some (.int .i64 1) := h.c1
  have hS := start_add h hgn
  have hG : Calls Tryz.prog 49 #[.pointer (some ⟨g.p, 0, none⟩)] w fun e w' => e = .returned (.slice none 0 0) ∧ w' = w := by
    clear h hgn hM hS hgb hap
    go_enter Tryz.func49, Tryz.ntmps49
    go_wp2_with fail
    go_ret
    exact ⟨rfl, rfl⟩
  have hU : Calls Tryz.prog 50 #[.pointer (some ⟨g.p, 0, none⟩)] w fun e w' => e = .returned (.slice none 0 0) ∧ Hid (Goes w w' B g so3 40) := by
    clear h hgn hM hG hgb hap
    go_enter Tryz.func50, Tryz.ntmps50
    go_wp2_with (first
      | (
         go_at_call 67; refine hS.mono ?_; rintro e w1 ⟨rfl, H1⟩; clear hS))
    go_ret
    exact ⟨rfl, H1.out⟩
  clear h hgn hS c6 c1 hgb
  go_enter Tryz.func31, Tryz.ntmps31
  go_wp2_with (first
    | (
       go_at_call 48; refine hM.mono ?_; rintro e w' ⟨rfl, hw⟩; subst w'; clear hM)
    | (
       go_at_call 49; refine hG.mono ?_; rintro e w' ⟨rfl, hw⟩; subst w'; clear hG)
    | (
       go_at_call 50; refine hU.mono ?_; rintro e w2 ⟨rfl, H2⟩; clear hU)
    | (
       at_builtin; refine wpList_append_run rfl _ _ 45 rfl _ _ rfl rfl (hap _) ?_))
  go_ret
  exact ⟨rfl, H2.out⟩

end

end Go.Proofs.YtdlajpjigddbhaaGreat.Px

/-
  slices.Clone at OSDs; atlas.Apply.
  Conditions: lists lie in memory.
-/
namespace Go.Proofs.YtdlajpjigddbhaaGreat.At
open Go.RowKit By Fl
set_option linter.unusedVariables false
set_option linter.unusedSimpArgs false
set_option maxRecDepth 100000

/- append([]Osd{}, l...) -/
theorem copy_own {w : World} {B : Nat} {x : Option Addr} {n c : Nat} {L : List Osd} (h : Os w x n c L) (hn : n ≤ 1000) (hB : B ≤ w.heap.size) (hx : x ≠ none) : ∃ x' c' w', (Builtin.append_ #[54, 54] 54 #[.slice (some ⟨w.heap.size, 0, none⟩) 0 0, .slice x n c]).run Tryz.prog (w.alloc (.cells #[] 35)) = .ok (.slice x' n c') w' ∧
    Hid (Own w' B 35 8 enO (.slice x' n c') L ∧ Below w.heap.size w w' ∧ ∀ g, (Value.slice x' n c').ownBlock = some g → w.heap.size ≤ g) := by
  cases x with
  | none => exact absurd rfl hx
  | some ad =>
    have h0 := h.below (al w (.cells #[] 35))
    have hl := h.len
    obtain ⟨x', c', w', hr, H⟩ := (Own.empty w (B := B) hB 35 8 enO).push orow (by simp; omega) ad n c L hl (fun j u hj => by
      have hjl := (List.getElem?_eq_some_iff.1 hj).1
      rw [flat_len orow.len, hl] at hjl
      rcases h0.row with q | ⟨b, o, e, hb, hc⟩
      · omega
      · injection e with e
        subst e
        rw [add_at]
        obtain ⟨a, ha⟩ : ∃ a, L[j / 8]? = some a := ⟨L[j / 8]'(by omega), List.getElem?_eq_getElem (by omega)⟩
        have hjj : j / 8 * 8 + j % 8 = j := by omega
        have := flat_get (enc := enO) (sz := 8) orow.len L (j / 8) a ha (j % 8) (by omega)
        rw [hjj] at this
        have := hc (j / 8) a ha (j % 8) u (this.symm.trans hj)
        rw [Nat.add_assoc, hjj] at this
        exact this) (by simp; omega)
    simp only [List.length_nil, Nat.zero_add, List.nil_append] at hr H
    refine ⟨x', c', w', hr, H.out.1, ?_, fun g hg => ?_⟩
    · exact (al w _).trans (H.out.2.1.below (B := w.heap.size) (fun k hk => by simp [Value.ownBlock] at hk; omega) (by simp))
    · rcases H.out.2.2 g hg with q | q
      · simp [Value.ownBlock] at q; omega
      · rw [q]; simp

theorem clone_any {w : World} {B : Nat} {x : Option Addr} {n c : Nat} {L : List Osd} (h : Os w x n c L) (hn : n ≤ 1000) (hB : B ≤ w.heap.size) :
    Calls Tryz.prog 53 #[.slice x n c] w fun e w' => ∃ x' c', e = .returned (.slice x' n c') ∧ Hid (Own w' B 35 8 enO (.slice x' n c') L ∧ Below w.heap.size w w' ∧ ∀ g, (Value.slice x' n c').ownBlock = some g → w.heap.size ≤ g) := by
  cases x with
  | none =>
    obtain ⟨h1, h2⟩ := h.nil rfl
    subst h1 h2
    have HF : Hid (Own w B 35 8 enO (.slice none 0 0) L) := by
      have : L = [] := List.eq_nil_of_length_eq_zero h.len
      subst this
      exact Own.nil _ _ _ _ _
    have he : ∀ w : World, (binOp .eql 54 (.slice none 0 0) (.slice none 0 0)).run Tryz.prog w = .ok (.bool true) w := fun _ => by kernel_rfl
    clear h
    go_enter Tryz.func53, Tryz.ntmps53
    go_wp2_with fail
    go_ret
    exact ⟨none, 0, rfl, HF.out, Below.refl _ _, fun g hg => by cases hg⟩
  | some ad =>
    obtain ⟨x', c', w', hr, H⟩ := copy_own h hn hB (fun e => by cases e)
    have he : ∀ w : World, (binOp .eql 54 (.slice (some ad) n c) (.slice none 0 0)).run Tryz.prog w = .ok (.bool false) w := fun _ => by kernel_rfl
    clear h
    go_enter Tryz.func53, Tryz.ntmps53
    go_wp2_with (at_builtin; refine Lib.wpList_append_run _ rfl _ _ _ _ rfl _ _ rfl rfl _ _ hr ?_)
    go_ret
    exact ⟨_, _, rfl, H.out⟩

theorem box3 (w : World) (A B C : Obj) : (((w.alloc A).alloc B).alloc C).heap[w.heap.size]? = some A ∧ (((w.alloc A).alloc B).alloc C).heap[w.heap.size + 1]? = some B ∧ (((w.alloc A).alloc B).alloc C).heap[w.heap.size + 1 + 1]? = some C := by
  have s1 : (w.alloc A).heap.size = w.heap.size + 1 := by simp
  have s2 : ((w.alloc A).alloc B).heap.size = w.heap.size + 1 + 1 := by simp
  refine ⟨?_, ?_, ?_⟩
  · exact ((al ((w.alloc A).alloc B) C).block _ (by omega)).trans (((al (w.alloc A) B).block _ (by omega)).trans (heap_alloc_new w A))
  · have := heap_alloc_new (w.alloc A) B
    rw [s1] at this
    exact ((al ((w.alloc A).alloc B) C).block _ (by omega)).trans this
  · have := heap_alloc_new ((w.alloc A).alloc B) C
    rw [s2] at this
    exact this

theorem apply_no {m : Mp} {c : Ch} (h : mayM m = false) : applyP m c = (1, noM) := by unfold applyP; rw [if_neg (by rw [h]; simp)]
theorem apply_err {m : Mp} {c : Ch} (h : mayM m = true) (h2 : (advP m c).1 ≠ 0) : applyP m c = ((advP m c).1, noM) := by unfold applyP; rw [if_pos h, if_neg h2]
theorem apply_ok {m : Mp} {c : Ch} (h : mayM m = true) (h2 : (advP m c).1 = 0) : applyP m c = advP m c := by unfold applyP; rw [if_pos h, if_pos h2]

theorem os_none (w : World) : Os w none 0 0 [] := ⟨rfl, Nat.le_refl _, by omega, fun _ => ⟨rfl, rfl⟩, .inl rfl⟩

def Told (w w' : World) (y : Option Addr) (yn yc : Nat) (L : List Osd) : Prop := Below w.heap.size w w' ∧ Os w' y yn yc L
def ToldN (w w' : World) (y : Option Addr) (yn yc : Nat) (L : List Osd) : Prop := Below w.heap.size w w' ∧ Os w' y yn yc L ∧ ∀ a, y = some a → w.heap.size ≤ a.block

set_option maxHeartbeats 3200000 in
theorem apply_new {w : World} {x : Option Addr} {n c : Nat} (m : Mp) (ch : Ch) (h : Os w x n c m.osds) (hk : m.pool.k ≤ 9223372036854775807) :
    Calls Tryz.prog 63 #[vM m.ep m.pool x n c, vC ch] w fun e w' => ∃ y yn yc, e = .returned (.tuple #[vM (applyP m ch).2.ep (applyP m ch).2.pool y yn yc, .int .i64 (applyP m ch).1]) ∧ Hid (ToldN w w' y yn yc (applyP m ch).2.osds) := by
  have hC := fun W (hW : Os W x n c m.osds) => check_any m hW hk
  have HO := hid h
  have HL := hid h.len
  have b0 := on (on (al w (.cells #[.int .i64 m.ep, .int .i64 m.pool.k, .int .i64 m.pool.m, .int .i64 m.pool.pgs, .int .i64 m.pool.dom, .slice x n c] 56)) (al _ (.cells #[.int .i64 ch.kind, .int .i64 ch.osd.id, .bool ch.osd.up, .bool ch.osd.inn, .int .i64 ch.osd.wt, .int .i64 ch.osd.life, .int .i64 ch.osd.boot, .int .i64 ch.osd.host, .int .i64 ch.osd.rack] 37))) (al _ (.cells #[.int .i64 0, .int .i64 0, .int .i64 0, .int .i64 0, .int .i64 0, .slice none 0 0] 56))
  have hC0 := hC _ (HO.out.below b0)
  have HB := hid b0
  clear hC h hk b0
  cases hm : mayM m with
  | false =>
    rw [hm] at hC0
    have HA := hid (apply_no (c := ch) hm)
    clear hm
    obtain ⟨ep, ⟨pk, pm, pg, pd⟩, L⟩ := m
    obtain ⟨ck, c0, c1, c2, c3, c4, c5, c6, c7⟩ := ch
    unfold vM vC at *
    unfold errB at hC0
    dsimp only at hC0 HB ⊢
    go_enter Tryz.func63, Tryz.ntmps63
    go_wp2_with (first
      | (
         go_at_call 91; refine hC0.mono ?_; rintro e w1 ⟨rfl, hb1⟩; clear hC0
         have k0 := keep hb1 (b := w.heap.size + 1 + 1) (o := 0) (x := .int .i64 0) (by first | assumption | go_simp)
         have k1 := keep hb1 (b := w.heap.size + 1 + 1) (o := 1) (x := .int .i64 0) (by first | assumption | go_simp)
         have k2 := keep hb1 (b := w.heap.size + 1 + 1) (o := 2) (x := .int .i64 0) (by first | assumption | go_simp)
         have k3 := keep hb1 (b := w.heap.size + 1 + 1) (o := 3) (x := .int .i64 0) (by first | assumption | go_simp)
         have k4 := keep hb1 (b := w.heap.size + 1 + 1) (o := 4) (x := .int .i64 0) (by first | assumption | go_simp)
         have k5 := keep hb1 (b := w.heap.size + 1 + 1) (o := 5) (x := .slice none 0 0) (by first | assumption | go_simp)
         have f0 := keepf hb1 (b := w.heap.size + 1 + 1) (o := 0) (by first | (simp <;> omega) | exact cell_lt' (a := ⟨w.heap.size + 1 + 1, 0, none⟩) (by assumption) | (simp; exact cell_lt' (a := ⟨w.heap.size + 1 + 1, 0, none⟩) (by assumption))) (by first | assumption | go_simp)
         have f1 := keepf hb1 (b := w.heap.size + 1 + 1) (o := 1) (by first | (simp <;> omega) | exact cell_lt' (a := ⟨w.heap.size + 1 + 1, 1, none⟩) (by assumption) | (simp; exact cell_lt' (a := ⟨w.heap.size + 1 + 1, 1, none⟩) (by assumption))) (by first | assumption | go_simp)
         have f2 := keepf hb1 (b := w.heap.size + 1 + 1) (o := 2) (by first | (simp <;> omega) | exact cell_lt' (a := ⟨w.heap.size + 1 + 1, 2, none⟩) (by assumption) | (simp; exact cell_lt' (a := ⟨w.heap.size + 1 + 1, 2, none⟩) (by assumption))) (by first | assumption | go_simp)
         have f3 := keepf hb1 (b := w.heap.size + 1 + 1) (o := 3) (by first | (simp <;> omega) | exact cell_lt' (a := ⟨w.heap.size + 1 + 1, 3, none⟩) (by assumption) | (simp; exact cell_lt' (a := ⟨w.heap.size + 1 + 1, 3, none⟩) (by assumption))) (by first | assumption | go_simp)
         have f4 := keepf hb1 (b := w.heap.size + 1 + 1) (o := 4) (by first | (simp <;> omega) | exact cell_lt' (a := ⟨w.heap.size + 1 + 1, 4, none⟩) (by assumption) | (simp; exact cell_lt' (a := ⟨w.heap.size + 1 + 1, 4, none⟩) (by assumption))) (by first | assumption | go_simp)
         have f5 := keepf hb1 (b := w.heap.size + 1 + 1) (o := 5) (by first | (simp <;> omega) | exact cell_lt' (a := ⟨w.heap.size + 1 + 1, 5, none⟩) (by assumption) | (simp; exact cell_lt' (a := ⟨w.heap.size + 1 + 1, 5, none⟩) (by assumption))) (by first | assumption | go_simp)
         have B1 := on HB.out hb1; clear hb1))
    refine bodyPost_ret (v := .tuple #[.agg #[.int .i64 0, .int .i64 0, .int .i64 0, .int .i64 0, .int .i64 0, .slice none 0 0], .int .i64 1]) ?_ rfl ?_
    · rw [results_cell2 rfl]
      go_simp
    · rw [HA.out]
      refine ⟨none, 0, 0, rfl, ?_, os_none _, fun a ha => by cases ha⟩
      repeat (first | with_reducible exact B1 | (with_reducible refine Below.setCell ?_ (by first | (simp; done) | (simp; omega) | omega) _) | (with_reducible refine Below.alloc ?_ (by first | (simp; done) | (simp; omega) | omega) _))
  | true =>
    rw [hm] at hC0
    have HMy := hid hm
    obtain ⟨p1, p2, p3, p4⟩ := may_parts hm
    have hn64 : n ≤ 64 := by rw [← HL.out]; exact p3
    have HEp := hid p1
    clear hm p1 p2 p3 p4
    have hA := fun (W : World) (R : Value) (hW : MapAt W w.heap.size w.heap.size m R) (hB : w.heap.size ≤ W.heap.size) => advance_any ch hW hB HEp.out.1 HEp.out.2
    have HA1 := hid (fun (h2 : (advP m ch).1 ≠ 0) => apply_err HMy.out h2)
    have HA2 := hid (fun (h2 : (advP m ch).1 = 0) => apply_ok HMy.out h2)
    obtain ⟨r, hr⟩ : ∃ r, r = advP m ch := ⟨_, rfl⟩
    rw [← hr] at hA HA1 HA2
    have HS : Hid (∀ W, Below w.heap.size w W → Os W x n c m.osds) := fun W hW => HO.out.below hW
    have HX := hid (box3 w (.cells #[.int .i64 m.ep, .int .i64 m.pool.k, .int .i64 m.pool.m, .int .i64 m.pool.pgs, .int .i64 m.pool.dom, .slice x n c] 56) (.cells #[.int .i64 ch.kind, .int .i64 ch.osd.id, .bool ch.osd.up, .bool ch.osd.inn, .int .i64 ch.osd.wt, .int .i64 ch.osd.life, .int .i64 ch.osd.boot, .int .i64 ch.osd.host, .int .i64 ch.osd.rack] 37) (.cells #[.int .i64 0, .int .i64 0, .int .i64 0, .int .i64 0, .int .i64 0, .slice none 0 0] 56))
    have hst : ∀ (W : World) (R : Value) (hW : W.heap[w.heap.size]? = some (.cells #[.int .i64 m.ep, .int .i64 m.pool.k, .int .i64 m.pool.m, .int .i64 m.pool.pgs, .int .i64 m.pool.dom, .slice x n c] 56 (0, 0))) (hO : Own W w.heap.size 35 8 enO R m.osds) (hg : ∀ g, R.ownBlock = some g → g ≠ w.heap.size), MapAt (W.setCell ⟨w.heap.size, 5, none⟩ R) w.heap.size w.heap.size m R := fun W R hW hO hg =>
      ⟨heap_set hW _, hO.turns (turns_put (Turns.refl _ _) _ _) hg, by rw [HL.out]; exact hn64⟩
    have HST := hid hst
    clear hr hst HO
    obtain ⟨ep, ⟨pk, pm, pg, pd⟩, L⟩ := m
    obtain ⟨ck, c0, c1, c2, c3, c4, c5, c6, c7⟩ := ch
    obtain ⟨r1, r2⟩ := r
    unfold vM vC at *
    unfold errB at hC0
    dsimp only at hC0 HB HX HST hA HA1 HA2 HS ⊢
    by_cases hz : r1 = 0
    · subst hz
      go_enter Tryz.func63, Tryz.ntmps63
      go_wp2_with (first
        | (
           go_at_call 91; refine hC0.mono ?_; rintro e w1 ⟨rfl, hb1⟩; clear hC0
           have em := (hb1.block _ (Array.getElem?_eq_some_iff.1 HX.out.1).1).trans HX.out.1
           have ec := (hb1.block _ (Array.getElem?_eq_some_iff.1 HX.out.2.1).1).trans HX.out.2.1
           have er := (hb1.block _ (Array.getElem?_eq_some_iff.1 HX.out.2.2).1).trans HX.out.2.2
           have HE1 := hid (And.intro em (And.intro ec er))
           have k5 : w1.cell? ⟨w.heap.size, 5, none⟩ = some (.slice x n c) := cell_heap em rfl
           have B1 := hid (on HB.out hb1)
           have hCl := clone_any (B := w.heap.size) (HS.out w1 B1.out) (by omega) B1.out.size
           clear hb1 em ec er)
        | (
           go_at_call 53; refine hCl.mono ?_; rintro e w2 ⟨x', c', rfl, H2⟩; clear hCl
           have hb2 := H2.out.2.1
           have em := (hb2.block _ (Array.getElem?_eq_some_iff.1 HE1.out.1).1).trans HE1.out.1
           have ec := (hb2.block _ (Array.getElem?_eq_some_iff.1 HE1.out.2.1).1).trans HE1.out.2.1
           have er := (hb2.block _ (Array.getElem?_eq_some_iff.1 HE1.out.2.2).1).trans HE1.out.2.2
           have HE2 := hid (And.intro em (And.intro ec er))
           have l5 : w2.cell? ⟨w.heap.size, 5, none⟩ = some (.slice x n c) := cell_heap em rfl
           have f5 := fr_heap em 5
           have j0 : w2.cell? ⟨w.heap.size + 1, 0, none⟩ = some (.int .i64 ck) := cell_heap ec rfl
           have j1 : w2.cell? ⟨w.heap.size + 1, 1, none⟩ = some (.int .i64 c0) := cell_heap ec rfl
           have j2 : w2.cell? ⟨w.heap.size + 1, 2, none⟩ = some (.bool c1) := cell_heap ec rfl
           have j3 : w2.cell? ⟨w.heap.size + 1, 3, none⟩ = some (.bool c2) := cell_heap ec rfl
           have j4 : w2.cell? ⟨w.heap.size + 1, 4, none⟩ = some (.int .i64 c3) := cell_heap ec rfl
           have j5 : w2.cell? ⟨w.heap.size + 1, 5, none⟩ = some (.int .i64 c4) := cell_heap ec rfl
           have j6 : w2.cell? ⟨w.heap.size + 1, 6, none⟩ = some (.int .i64 c5) := cell_heap ec rfl
           have j7 : w2.cell? ⟨w.heap.size + 1, 7, none⟩ = some (.int .i64 c6) := cell_heap ec rfl
           have j8 : w2.cell? ⟨w.heap.size + 1, 8, none⟩ = some (.int .i64 c7) := cell_heap ec rfl
           have lw1 := B1.out.size
           have lx1 : w.heap.size + 1 + 1 < w1.heap.size := (Array.getElem?_eq_some_iff.1 HE1.out.2.2).1
           have hg2 : ∀ g, (Value.slice x' n c').ownBlock = some g → w1.heap.size ≤ g := H2.out.2.2
           have hMA := HST.out w2 (.slice x' n c') em H2.out.1 (fun g hg => by have := hg2 g hg; omega)
           have hA3 := hA _ _ hMA (by simp; exact Nat.le_trans lw1 hb2.size)
           have HG2 := hid hg2
           clear em ec er hb2 hMA hA hg2 k5)
        | (
           go_at_call 69; refine hA3.mono ?_; rintro e w4 ⟨rfl, H4⟩; clear hA3
           obtain ⟨R4, M4, T4, N4⟩ := H4.out
           have er4 : w4.heap[w.heap.size + 1 + 1]? = some (.cells #[.int .i64 0, .int .i64 0, .int .i64 0, .int .i64 0, .int .i64 0, .slice none 0 0] 56 (0, 0)) := by
             have e1 : (w2.setCell ⟨w.heap.size, 5, none⟩ (.slice x' n c')).heap[w.heap.size + 1 + 1]? = w2.heap[w.heap.size + 1 + 1]? := Below.heap_setCell _ _ _ _ (by show w.heap.size + 1 + 1 ≠ w.heap.size; omega)
             refine (T4.block _ ?_ ?_).trans (e1.trans HE2.out.2.2)
             · have := (Array.getElem?_eq_some_iff.1 HE2.out.2.2).1
               simpa using this
             · rintro (q | q)
               · omega
               · have := HG2.out _ q
                 omega
           have d0 : w4.cell? ⟨w.heap.size + 1 + 1, 0, none⟩ = some (.int .i64 0) := cell_heap er4 rfl
           have d1 : w4.cell? ⟨w.heap.size + 1 + 1, 1, none⟩ = some (.int .i64 0) := cell_heap er4 rfl
           have d2 : w4.cell? ⟨w.heap.size + 1 + 1, 2, none⟩ = some (.int .i64 0) := cell_heap er4 rfl
           have d3 : w4.cell? ⟨w.heap.size + 1 + 1, 3, none⟩ = some (.int .i64 0) := cell_heap er4 rfl
           have d4 : w4.cell? ⟨w.heap.size + 1 + 1, 4, none⟩ = some (.int .i64 0) := cell_heap er4 rfl
           have d5 : w4.cell? ⟨w.heap.size + 1 + 1, 5, none⟩ = some (.slice none 0 0) := cell_heap er4 rfl
           have g0 := fr_heap er4 0
           have g1 := fr_heap er4 1
           have g2 := fr_heap er4 2
           have g3 := fr_heap er4 3
           have g4 := fr_heap er4 4
           have g5 := fr_heap er4 5
           obtain ⟨y, yc, hRe, _⟩ := M4.own.form
           obtain ⟨yn, hyn⟩ : ∃ yn, yn = r2.osds.length := ⟨_, rfl⟩
           rw [← hyn] at hRe
           subst hRe
           have e0 : w4.cell? ⟨w.heap.size, 0, none⟩ = some (.int .i64 r2.ep) := cell_heap M4.blk rfl
           have e1 : w4.cell? ⟨w.heap.size, 1, none⟩ = some (.int .i64 r2.pool.k) := cell_heap M4.blk rfl
           have e2 : w4.cell? ⟨w.heap.size, 2, none⟩ = some (.int .i64 r2.pool.m) := cell_heap M4.blk rfl
           have e3 : w4.cell? ⟨w.heap.size, 3, none⟩ = some (.int .i64 r2.pool.pgs) := cell_heap M4.blk rfl
           have e4 : w4.cell? ⟨w.heap.size, 4, none⟩ = some (.int .i64 r2.pool.dom) := cell_heap M4.blk rfl
           have e5 : w4.cell? ⟨w.heap.size, 5, none⟩ = some (.slice y yn yc) := cell_heap M4.blk rfl
           have lt4 : w.heap.size + 1 + 1 < w4.heap.size := cell_lt' d0
           have B4 : Hid (Below w.heap.size w w4) := B1.out.trans ((H2.out.2.1.mono lw1).trans (((Below.refl _ w2).setCell (p := ⟨w.heap.size, 5, none⟩) (Nat.le_refl _) _).trans (T4.below (B := w.heap.size) (fun k hk => by rcases hk with q | q; omega; have := HG2.out _ q; omega) (by have := H2.out.2.1.size; simp; omega))))
           have HM4 := hid M4
           have HN4 : Hid (∀ g, (Value.slice y yn yc).ownBlock = some g → w1.heap.size ≤ g) := fun g hg => by
             rcases N4 g hg with q | q
             · exact HG2.out g q
             · have := H2.out.2.1.size
               simp at q
               omega
           clear er4 M4 T4 N4 H4 hyn))
      refine bodyPost_ret (v := .tuple #[.agg #[.int .i64 r2.ep, .int .i64 r2.pool.k, .int .i64 r2.pool.m, .int .i64 r2.pool.pgs, .int .i64 r2.pool.dom, .slice y yn yc], .int .i64 0]) ?_ rfl ?_
      · rw [results_cell2 rfl]
        go_simp
      · rw [HA2.out trivial]
        have Tz : Turns (fun k => k = w.heap.size + 1 + 1) w4 _ := turns_put (turns_put (turns_put (turns_put (turns_put (turns_put (Turns.refl _ w4) 0 (.int .i64 r2.ep)) 1 (.int .i64 r2.pool.k)) 2 (.int .i64 r2.pool.m)) 3 (.int .i64 r2.pool.pgs)) 4 (.int .i64 r2.pool.dom)) 5 (.slice y yn yc)
        refine ⟨y, yn, yc, rfl, ?_, ?_, fun a ha => by
          obtain ⟨x0, c9, ee, _, _, h3⟩ := HM4.out.own.form
          injection ee with ee _ _
          subst ee
          obtain ⟨g, rfl, h4, _⟩ := h3 a ha
          exact h4⟩
        · repeat (first | with_reducible exact B4.out | (with_reducible refine Below.setCell ?_ (by first | (simp; done) | (simp; omega) | omega) _) | (with_reducible refine Below.alloc ?_ (by first | (simp; done) | (simp; omega) | omega) _))
        · exact (own_os HM4.out.own (by have := HM4.out.small; omega)).turns Tz (fun h0 a ha => by
            obtain ⟨x0, c9, ee, _, _, h3⟩ := HM4.out.own.form
            injection ee with ee _ _
            subst ee
            obtain ⟨g, rfl, _⟩ := h3 a ha
            subst ha
            have := HN4.out g rfl
            show ¬ g = _
            omega)
    · have HZ : Hid (r1 ≠ 0) := hz
      go_enter Tryz.func63, Tryz.ntmps63
      go_wp2_with (first
        | (
           go_at_call 91; refine hC0.mono ?_; rintro e w1 ⟨rfl, hb1⟩; clear hC0
           have em := (hb1.block _ (Array.getElem?_eq_some_iff.1 HX.out.1).1).trans HX.out.1
           have ec := (hb1.block _ (Array.getElem?_eq_some_iff.1 HX.out.2.1).1).trans HX.out.2.1
           have er := (hb1.block _ (Array.getElem?_eq_some_iff.1 HX.out.2.2).1).trans HX.out.2.2
           have HE1 := hid (And.intro em (And.intro ec er))
           have k5 : w1.cell? ⟨w.heap.size, 5, none⟩ = some (.slice x n c) := cell_heap em rfl
           have B1 := hid (on HB.out hb1)
           have hCl := clone_any (B := w.heap.size) (HS.out w1 B1.out) (by omega) B1.out.size
           clear hb1 em ec er)
        | (
           go_at_call 53; refine hCl.mono ?_; rintro e w2 ⟨x', c', rfl, H2⟩; clear hCl
           have hb2 := H2.out.2.1
           have em := (hb2.block _ (Array.getElem?_eq_some_iff.1 HE1.out.1).1).trans HE1.out.1
           have ec := (hb2.block _ (Array.getElem?_eq_some_iff.1 HE1.out.2.1).1).trans HE1.out.2.1
           have er := (hb2.block _ (Array.getElem?_eq_some_iff.1 HE1.out.2.2).1).trans HE1.out.2.2
           have HE2 := hid (And.intro em (And.intro ec er))
           have l5 : w2.cell? ⟨w.heap.size, 5, none⟩ = some (.slice x n c) := cell_heap em rfl
           have f5 := fr_heap em 5
           have j0 : w2.cell? ⟨w.heap.size + 1, 0, none⟩ = some (.int .i64 ck) := cell_heap ec rfl
           have j1 : w2.cell? ⟨w.heap.size + 1, 1, none⟩ = some (.int .i64 c0) := cell_heap ec rfl
           have j2 : w2.cell? ⟨w.heap.size + 1, 2, none⟩ = some (.bool c1) := cell_heap ec rfl
           have j3 : w2.cell? ⟨w.heap.size + 1, 3, none⟩ = some (.bool c2) := cell_heap ec rfl
           have j4 : w2.cell? ⟨w.heap.size + 1, 4, none⟩ = some (.int .i64 c3) := cell_heap ec rfl
           have j5 : w2.cell? ⟨w.heap.size + 1, 5, none⟩ = some (.int .i64 c4) := cell_heap ec rfl
           have j6 : w2.cell? ⟨w.heap.size + 1, 6, none⟩ = some (.int .i64 c5) := cell_heap ec rfl
           have j7 : w2.cell? ⟨w.heap.size + 1, 7, none⟩ = some (.int .i64 c6) := cell_heap ec rfl
           have j8 : w2.cell? ⟨w.heap.size + 1, 8, none⟩ = some (.int .i64 c7) := cell_heap ec rfl
           have lw1 := B1.out.size
           have lx1 : w.heap.size + 1 + 1 < w1.heap.size := (Array.getElem?_eq_some_iff.1 HE1.out.2.2).1
           have hg2 : ∀ g, (Value.slice x' n c').ownBlock = some g → w1.heap.size ≤ g := H2.out.2.2
           have hMA := HST.out w2 (.slice x' n c') em H2.out.1 (fun g hg => by have := hg2 g hg; omega)
           have hA3 := hA _ _ hMA (by simp; exact Nat.le_trans lw1 hb2.size)
           have HG2 := hid hg2
           clear em ec er hb2 hMA hA hg2 k5)
        | (
           go_at_call 69; refine hA3.mono ?_; rintro e w4 ⟨rfl, H4⟩; clear hA3
           obtain ⟨R4, M4, T4, N4⟩ := H4.out
           have er4 : w4.heap[w.heap.size + 1 + 1]? = some (.cells #[.int .i64 0, .int .i64 0, .int .i64 0, .int .i64 0, .int .i64 0, .slice none 0 0] 56 (0, 0)) := by
             have e1 : (w2.setCell ⟨w.heap.size, 5, none⟩ (.slice x' n c')).heap[w.heap.size + 1 + 1]? = w2.heap[w.heap.size + 1 + 1]? := Below.heap_setCell _ _ _ _ (by show w.heap.size + 1 + 1 ≠ w.heap.size; omega)
             refine (T4.block _ ?_ ?_).trans (e1.trans HE2.out.2.2)
             · have := (Array.getElem?_eq_some_iff.1 HE2.out.2.2).1
               simpa using this
             · rintro (q | q)
               · omega
               · have := HG2.out _ q
                 omega
           have d0 : w4.cell? ⟨w.heap.size + 1 + 1, 0, none⟩ = some (.int .i64 0) := cell_heap er4 rfl
           have d1 : w4.cell? ⟨w.heap.size + 1 + 1, 1, none⟩ = some (.int .i64 0) := cell_heap er4 rfl
           have d2 : w4.cell? ⟨w.heap.size + 1 + 1, 2, none⟩ = some (.int .i64 0) := cell_heap er4 rfl
           have d3 : w4.cell? ⟨w.heap.size + 1 + 1, 3, none⟩ = some (.int .i64 0) := cell_heap er4 rfl
           have d4 : w4.cell? ⟨w.heap.size + 1 + 1, 4, none⟩ = some (.int .i64 0) := cell_heap er4 rfl
           have d5 : w4.cell? ⟨w.heap.size + 1 + 1, 5, none⟩ = some (.slice none 0 0) := cell_heap er4 rfl
           have g0 := fr_heap er4 0
           have g1 := fr_heap er4 1
           have g2 := fr_heap er4 2
           have g3 := fr_heap er4 3
           have g4 := fr_heap er4 4
           have g5 := fr_heap er4 5
           obtain ⟨y, yc, hRe, _⟩ := M4.own.form
           obtain ⟨yn, hyn⟩ : ∃ yn, yn = r2.osds.length := ⟨_, rfl⟩
           rw [← hyn] at hRe
           subst hRe
           have e0 : w4.cell? ⟨w.heap.size, 0, none⟩ = some (.int .i64 r2.ep) := cell_heap M4.blk rfl
           have e1 : w4.cell? ⟨w.heap.size, 1, none⟩ = some (.int .i64 r2.pool.k) := cell_heap M4.blk rfl
           have e2 : w4.cell? ⟨w.heap.size, 2, none⟩ = some (.int .i64 r2.pool.m) := cell_heap M4.blk rfl
           have e3 : w4.cell? ⟨w.heap.size, 3, none⟩ = some (.int .i64 r2.pool.pgs) := cell_heap M4.blk rfl
           have e4 : w4.cell? ⟨w.heap.size, 4, none⟩ = some (.int .i64 r2.pool.dom) := cell_heap M4.blk rfl
           have e5 : w4.cell? ⟨w.heap.size, 5, none⟩ = some (.slice y yn yc) := cell_heap M4.blk rfl
           have lt4 : w.heap.size + 1 + 1 < w4.heap.size := cell_lt' d0
           have B4 : Hid (Below w.heap.size w w4) := B1.out.trans ((H2.out.2.1.mono lw1).trans (((Below.refl _ w2).setCell (p := ⟨w.heap.size, 5, none⟩) (Nat.le_refl _) _).trans (T4.below (B := w.heap.size) (fun k hk => by rcases hk with q | q; omega; have := HG2.out _ q; omega) (by have := H2.out.2.1.size; simp; omega))))
           have HM4 := hid M4
           have HN4 : Hid (∀ g, (Value.slice y yn yc).ownBlock = some g → w1.heap.size ≤ g) := fun g hg => by
             rcases N4 g hg with q | q
             · exact HG2.out g q
             · have := H2.out.2.1.size
               simp at q
               omega
           clear er4 M4 T4 N4 H4 hyn))
      refine bodyPost_ret (v := .tuple #[.agg #[.int .i64 0, .int .i64 0, .int .i64 0, .int .i64 0, .int .i64 0, .slice none 0 0], .int .i64 r1]) ?_ rfl ?_
      · rw [results_cell2 rfl]
        go_simp
      · rw [HA1.out HZ.out]
        refine ⟨none, 0, 0, rfl, ?_, os_none _, fun a ha => by cases ha⟩
        repeat (first | with_reducible exact B4.out | (with_reducible refine Below.setCell ?_ (by first | (simp; done) | (simp; omega) | omega) _) | (with_reducible refine Below.alloc ?_ (by first | (simp; done) | (simp; omega) | omega) _))

theorem apply_any {w : World} {x : Option Addr} {n c : Nat} (m : Mp) (ch : Ch) (h : Os w x n c m.osds) (hk : m.pool.k ≤ 9223372036854775807) :
    Calls Tryz.prog 63 #[vM m.ep m.pool x n c, vC ch] w fun e w' => ∃ y yn yc, e = .returned (.tuple #[vM (applyP m ch).2.ep (applyP m ch).2.pool y yn yc, .int .i64 (applyP m ch).1]) ∧ Hid (Told w w' y yn yc (applyP m ch).2.osds) :=
  (apply_new m ch h hk).mono fun e w' ⟨y, yn, yc, h1, h2⟩ => ⟨y, yn, yc, h1, h2.out.1, h2.out.2.1⟩

end Go.Proofs.YtdlajpjigddbhaaGreat.At

/-
  The document's numbers as bytes: put.
  Conditions: numbers from 0 to 2^31 - 1.
-/
namespace Go.Proofs.YtdlajpjigddbhaaGreat.At
open Go.RowKit By Fl Wi
set_option linter.unusedVariables false
set_option linter.unusedSimpArgs false
set_option maxRecDepth 100000

def enB (v : Nat) : List Value := [.int .u8 (v : Int)]
theorem brow : Row 73 5 1 1 enB := by
  have hi : (Tryz.prog.info? 5).map (fun i => (i.zero, i.size, i.bytes)) = some (some (.int .u8 0), 1, 1) := by kernel_rfl
  obtain ⟨i0, h1, h2, h3, h4⟩ := info_parts hi
  exact ⟨Tryz.underlying73, ⟨i0, _, h1, h2, h3, h4, rfl⟩, by decide, by decide, fun a => rfl, fun a v hv => by simp [enB] at hv; subst hv; rfl⟩

theorem flat_cells (l : List Nat) : flat enB l = cellsL l := by
  induction l with
  | nil => rfl
  | cons a l ih => simp only [flat, cellsL, List.flatMap_cons, List.map_cons, enB] at *; rw [ih]; rfl

theorem ownl_own {w : World} {B : Nat} {R : Value} {l : List Nat} : OwnL w B R l ↔ Own w B 5 1 enB R l := by
  unfold OwnL Own
  rw [flat_cells]

theorem Is.turns {w w' : World} {G : Nat → Prop} {x : Option Addr} {n c : Nat} {l : List Int} (h : Is w x n c l) (t : Turns G w w') (hg : ∀ a, x = some a → ¬ G a.block) : Is w' x n c l := by
  refine ⟨h.len, h.le, h.nil, ?_⟩
  rcases h.row with h0 | ⟨b, o, h1, h2, h3⟩
  · exact .inl h0
  · exact .inr ⟨b, o, h1, Nat.lt_of_lt_of_le h2 t.size, fun k a hk => (World.cell?_of_block (a := ⟨b, o + k, none⟩) (t.block b h2 (hg _ h1))).trans (h3 k a hk)⟩

structure PutAt (w wx : World) (B : Nat) (R b : Value) (l : List Nat) : Prop where
  own : OwnL wx B b l
  turns : Turns (fun k => R.ownBlock = some k) w wx
  new : ∀ g, b.ownBlock = some g → R.ownBlock = some g ∨ w.heap.size ≤ g

theorem PutAt.step {w wx w1 : World} {B : Nat} {R b R1 : Value} {l k : List Nat} (h : PutAt w wx B R b l) (hB : B ≤ w.heap.size) (hb : Below wx.heap.size wx w1) (h1 : OwnL w1 wx.heap.size R1 k) (hk : k ≠ []) (hl : l.length + k.length ≤ 100000) :
    ∃ R' W', (Builtin.append_ #[73, 73] 73 #[b, R1]).run Tryz.prog w1 = .ok R' W' ∧ Hid (PutAt w W' B R R' (l ++ k)) := by
  have o1 := ownl_own.1 h1
  obtain ⟨g1, c1, rfl, q1, q2, q3, q4⟩ := o1.there hk
  have ob := (ownl_own.1 h.own).below hb
  have hsz := h.turns.size
  have hsb := hb.size
  obtain ⟨x', c', W', hr, H⟩ := ob.push brow (by omega) ⟨g1, 0, none⟩ k.length c1 k rfl (fun j u hj => by
    rw [add_at, Nat.zero_add]
    have hjl := (List.getElem?_eq_some_iff.1 hj).1
    rw [flat_len brow.len] at hjl
    have hjl2 : j < k.length := by omega
    have e := flat_get (enc := enB) (sz := 1) brow.len k j _ (List.getElem?_eq_getElem hjl2) 0 (by omega)
    rw [Nat.mul_one, Nat.add_zero] at e
    rw [e] at hj
    have := o1.cell brow.len (List.getElem?_eq_getElem hjl2) (j := 0) (v := u) hj
    rwa [Nat.mul_one, Nat.add_zero] at this) (by omega)
  refine ⟨_, W', hr, ownl_own.2 H.out.1, ?_, fun g hg => ?_⟩
  · exact (h.turns.trans (Turns.of_below hb)).more H.out.2.1 (fun i hi => h.new i hi)
  · rcases H.out.2.2 g hg with q | q
    · exact h.new g q
    · exact .inr (by omega)

end Go.Proofs.YtdlajpjigddbhaaGreat.At

/-
  4 texts of this proof, one behind the other: PxChosen, PxDrive1, PxNobody, AtCode.
-/
import Derived.Test.YtdlajpjigddbhaaGreatJ04
import Derived.Test.YtdlajpjigddbhaaGreatJ10
import Derived.Test.YtdlajpjigddbhaaGreatJ13
import Derived.Test.YtdlajpjigddbhaaGreatJ15
import Derived.Test.YtdlajpjigddbhaaGreatJ08
import Derived.Test.YtdlajpjigddbhaaGreatJ06
import Derived.Lib.AppendZeros
/-
  Which value is chosen: Chosen.
  Conditions: the list lies in memory.
-/
namespace Go.Proofs.YtdlajpjigddbhaaGreat.Px
open Go.RowKit By Fl Ba
set_option linter.unusedVariables false
set_option linter.unusedSimpArgs false
set_option maxRecDepth 100000

theorem below2c {B : Nat} {a w : World} (h : Below B a w) (g : Nat) (hg : B ≤ g) (u0 u1 : Value) : Below B a ((w.setCell ⟨g, 0, none⟩ u0).setCell ⟨g, 1, none⟩ u1) :=
  (h.setCell (p := ⟨g, 0, none⟩) hg _).setCell (p := ⟨g, 1, none⟩) hg _

theorem results_cell3 {fn : Func} {p q r : Tmp} {ty : TypeId} (h : fn.results = #[.cell p ty, .tmp q, .tmp r]) (tmps : Array Value) (P : Program) (w : World) :
    (results fn tmps).run P w = ((asAddr (tmps.getD p undef)).run P w).andThen fun a w₁ => ((loadVar ty a).run P w₁).andThen fun v w₂ => .ok (.tuple #[v, tmps.getD q undef, tmps.getD r undef]) w₂ := by
  simp only [results, h]
  simp [Sem.run_bind, Result.andThen]

def Cho (V : Nat → AccV) (n : Nat) (b : Bt) (k : Nat) : Prop := b ≠ z0 ∧ Maj n (fun i => (V i).a = b) ∧ k < n ∧ (V k).a = b

theorem cho_of {V : Nat → AccV} {n : Nat} {b : Bt} {c : Int} (hc : c = cntA V n b) (hm : (n : Int) < 2 * c) : b ≠ z0 ∧ Maj n (fun i => (V i).a = b) ∧ ∃ j, j < n ∧ (V j).a = b := by
  subst hc
  unfold cntA at hm
  by_cases hz : b = z0
  · rw [if_pos hz] at hm
    omega
  · rw [if_neg hz] at hm
    refine ⟨hz, ⟨fun i => decide ((V i).a = b), by omega, fun k hk e => by simpa using e⟩, ?_⟩
    obtain ⟨k, hk, e⟩ := cnt_pos (q := fun i => decide ((V i).a = b)) (n := n) (by omega)
    exact ⟨k, hk, by simpa using e⟩

def NoMaj (V : Nat → AccV) (n : Nat) : Prop := ∀ b : Bt, bwf b → ¬ ((n : Int) < 2 * cntA V n b)
def JLeft (V : Nat → AccV) (n : Nat) (left : Lit → Bool) : Prop := ∀ b : Bt, bwf b → (n : Int) < 2 * cntA V n b → left (blit b) = true

theorem turns_grown {a w w' : World} {g : Nat} (t : Turns (atB g) a w) (h : w.grownBy w' (some g)) : Turns (atB g) a w' := t.grown h (fun k hk => .inl (by cases hk; rfl))

set_option maxHeartbeats 4000000 in
theorem chosen_any (x : Option Addr) (n c0 : Nat) (V : Nat → AccV) (w : World) (h : Accs w x n V) :
    Calls Tryz.prog 119 #[.slice x n c0] w fun e w' => (e = .returned (.tuple #[bt z0, .slice none 0 0, .bool false]) ∧ Hid (Below w.heap.size w w' ∧ NoMaj V n)) ∨
      ∃ (b : Bt) (k : Nat) (y : Option Addr) (cy : Nat), e = .returned (.tuple #[bt b, .slice y (V k).n cy, .bool true]) ∧ Hid (Cho V n b k ∧ Vl w w' y (V k).n cy (V k).d) := by
  have hC := count_any x n c0 V (w.alloc (.cells #[.int .i64 0, .int .i64 0] 111)) (h.below (al _ _))
  have HA : Hid (Accs w x n V) := h
  have hnz : (n : Int) ≤ 1000 := by have := h.small; omega
  clear h
  go_enter Tryz.func119, Tryz.ntmps119
  go_wp2_with (first
    | (
       go_at_call 149; refine hC.mono ?_; rintro e w1 ⟨mb, nb, D, rfl, H1⟩; clear hC
       have k0 := keep H1.out.1 (b := w.heap.size) (o := 0) (x := .int .i64 0) (by first | assumption | go_simp)
       have k1 := keep H1.out.1 (b := w.heap.size) (o := 1) (x := .int .i64 0) (by first | assumption | go_simp)
       have f0 := keepf H1.out.1 (b := w.heap.size) (o := 0) (by first | (simp <;> omega) | exact cell_lt' (a := ⟨w.heap.size, 0, none⟩) (by assumption) | (simp; exact cell_lt' (a := ⟨w.heap.size, 0, none⟩) (by assumption))) (by first | assumption | go_simp)
       have f1 := keepf H1.out.1 (b := w.heap.size) (o := 1) (by first | (simp <;> omega) | exact cell_lt' (a := ⟨w.heap.size, 1, none⟩) (by assumption) | (simp; exact cell_lt' (a := ⟨w.heap.size, 1, none⟩) (by assumption))) (by first | assumption | go_simp)
       have hmap := H1.out.2.1.map
       have B1 := on (al _ _) H1.out.1
       have l0 : w.heap.size < w1.heap.size := cell_lt' k0
       have HD : Hid (∀ b, bwf b → D.atKey (blit b) (.lit (.int .i64 0)) = .lit (.int .i64 (cntA V n b))) := H1.out.2.1.cnt
       have l1 : w.heap.size + 1 ≤ mb := by have := H1.out.2.1.bl; simpa using this
       clear H1)
    | (at_range; refine wpList_range_own _ rfl _ 197 rfl 111 3 blaw Tryz.underlying197 (plainElem Tryz.prog 3) mb nb D rfl hmap ?_; intro w0 hrg0 hg0 hs0))
  go_frame
  have T0 : Hid (Turns (atB w1.heap.size) w1 w0) := (Turns.refl (atB w1.heap.size) w1).grown hg0 (fun k hk => by cases hk)
  clear hg0 hs0 hmap
  go_loopw [5, 6] (fun _ _ wr => ∃ (left : Lit → Bool) (cnt : Nat), wr.ranges Tryz.prog 111 (plainElem Tryz.prog 3) mb w1.heap.size nb D left cnt ∧ Hid (Turns (atB w1.heap.size) w1 wr ∧ JLeft V n left)) (fun _ _ wr => wr.rangeLeft mb w1.heap.size)
  case atStart =>
    refine ⟨_, _, hrg0, T0.out, fun b hb h => ?_⟩
    cases hh : Maps.has D (blit b) with
    | true => rfl
    | false =>
      have e1 := HD.out b hb
      rw [Maps.atKey_of_not_has hh] at e1
      injection e1 with e1
      injection e1 with _ e1
      omega
  case round =>
    clear T0 hrg0
    obtain ⟨left, cnt, hrg, HT⟩ := hrel
    have HW : Hid (wr.rangeLeft mb w1.heap.size = cnt) := hrg.left_eq
    go_wp2_with (first
      | (at_next; refine wpList_next_ranges _ rfl _ rfl 111 blaw (plainElem Tryz.prog 3) (fun b : Bt => Value.agg #[.int .i64 b.1, .int .i64 b.2]) (fun z : Int => Value.int .i64 z) (fun key kl hk => by obtain ⟨s, rfl, _⟩ := bk_inv hk; exact ⟨s, rfl⟩) (fun v y hv' => by obtain ⟨a, rfl, _⟩ := plainElem_int_inv Tryz.underlying3 hv'; exact ⟨a, rfl⟩) mb w1.heap.size nb D left cnt rfl hrg ?_ ?_
         (intro hc0 hl0
          have T9 := HT.out.1
          have HJ : Hid (NoMaj V n) := fun b hb h => by
            have q := HT.out.2 b hb h
            rw [hl0] at q
            cases q
          have k0 := keepn T9 (b := w.heap.size) (by omega) k0
          have k1 := keepn T9 (b := w.heap.size) (by omega) k1
          have f0 := keepnf T9 (b := w.heap.size) (by omega) (by omega) f0
          have f1 := keepnf T9 (b := w.heap.size) (by omega) (by omega) f1
          clear HT hrg)
         rotate_left 1
         (intro b c kl y w2 cnt2 hkey hlk hvv hat hrg2 hlt hg2 hs2 hen
          obtain ⟨b', eb, hwf, rfl⟩ := bk_inv hkey
          have eb2 : b = b' := by
            simp only [bt, Value.agg.injEq] at eb
            simp at eb
            exact bt_ext eb.1 eb.2
          subst eb2
          obtain ⟨c', ec, ey, _⟩ := plainElem_int_inv Tryz.underlying3 hvv
          injection ec with _ ec
          subst ec
          have hcc : Hid (c = cntA V n b) := by
            have e1 := HD.out b hwf
            rw [hat, ey] at e1
            injection e1 with e1
            injection e1
          have T2 := turns_grown HT.out.1 hg2
          have HJ2 := hid HT.out.2
          have hb2 := hen
          clear hkey eb hvv hat ey HT hrg hg2 hs2 hlk
          have HB : Hid (bwf b ∧ c = cntA V n b) := ⟨hwf, hcc.out⟩
          clear hwf hcc hb2
          obtain ⟨b1, b2⟩ := b
          dsimp only at hen
          have l2 : w1.heap.size < w2.heap.size := hrg2.lt
          )
         rotate_right 1))
    · have B2 : Below w.heap.size w wr := B1.trans (T9.below (fun k hk => by have e2 : k = w1.heap.size := hk; omega) B1.size)
      refine bodyPost_ret (v := .tuple #[.agg #[.int .i64 0, .int .i64 0], .slice none 0 0, .bool false]) ?_ rfl (.inl ⟨rfl, below2c B2 w.heap.size (Nat.le_refl _) _ _, HJ.out⟩)
      rw [results_cell3 rfl]
      go_simp
    · rename_i hm K0 a0 ke
      have B2 : Below w.heap.size w w2 := B1.trans (T2.below (fun k hk => by have e2 : k = w1.heap.size := hk; omega) B1.size)
      have k0 := keepn T2 (b := w.heap.size) (by omega) k0
      have k1 := keepn T2 (b := w.heap.size) (by omega) k1
      have f0 := keepnf T2 (b := w.heap.size) (by omega) (by omega) f0
      have f1 := keepnf T2 (b := w.heap.size) (by omega) (by omega) f1
      have l3 : w.heap.size < w2.heap.size := by omega
      obtain ⟨hz, hmaj, hex⟩ := cho_of (b := (b1, b2)) HB.out.2 (by omega)
      have HM : Hid ((b1, b2) ≠ z0 ∧ Maj n (fun i => (V i).a = (b1, b2))) := ⟨hz, hmaj⟩
      have bD : Below (w2.alloc (.cells #[.int .i64 b1, .int .i64 b2] 111)).heap.size (w2.alloc (.cells #[.int .i64 b1, .int .i64 b2] 111)) (w2.alloc (.cells #[.int .i64 b1, .int .i64 b2] 111)).drew := (Below.refl _ _).drew
      have k0 := keep bD (b := w.heap.size) (o := 0) (x := .int .i64 0) (by first | assumption | go_simp)
      have k1 := keep bD (b := w.heap.size) (o := 1) (x := .int .i64 0) (by first | assumption | go_simp)
      have f0 := keepf bD (b := w.heap.size) (o := 0) (by first | (simp <;> omega) | exact cell_lt' (a := ⟨w.heap.size, 0, none⟩) (by assumption) | (simp; exact cell_lt' (a := ⟨w.heap.size, 0, none⟩) (by assumption))) (by first | assumption | go_simp)
      have f1 := keepf bD (b := w.heap.size) (o := 1) (by first | (simp <;> omega) | exact cell_lt' (a := ⟨w.heap.size, 1, none⟩) (by assumption) | (simp; exact cell_lt' (a := ⟨w.heap.size, 1, none⟩) (by assumption))) (by first | assumption | go_simp)
      have j0 := keep bD (b := w2.heap.size) (o := 0) (x := .int .i64 b1) (by first | assumption | go_simp)
      have j1 := keep bD (b := w2.heap.size) (o := 1) (x := .int .i64 b2) (by first | assumption | go_simp)
      have B3 := on (on B2 (al _ _)) bD
      have hV := valueOf_any x n c0 V (b1, b2) _ (HA.out.below B3) hex
      clear bD B2 hz hmaj hex hen hrg2 HB T2 HD l2 hlt B1 hm
      refine wp_region_held_drew (S := fun v => v.cell? ⟨w2.heap.size, 0, none⟩ = some (.int .i64 b1) ∧ v.cell? ⟨w2.heap.size, 1, none⟩ = some (.int .i64 b2)) (by kernel_rfl) ⟨j0, j1⟩ (fun hHeld => ?_)
      generalize (w2.alloc (.cells #[.int .i64 b1, .int .i64 b2] 111)).drew = wD at *
      have l5 : w.heap.size < wD.heap.size := cell_lt' k0
      dsimp only [bt] at hV
      refine wpAnyH_take (i := 0) (v := ?_) rfl (by kernel_rfl) (by kernel_rfl) (by kernel_rfl) (fun _ _ _ h => h) (Or.inl ⟨by rfl, ?_⟩) (by assumption) ?_
      case refine_2 => (intro w hSw; (try dsimp only at hSw); go_simp; (try with_reducible rfl))
      (try simp only [Act.put, List.getElem_toArray, List.getElem_cons_succ, List.getElem_cons_zero, List.setIfInBounds_toArray, List.set_cons_zero, List.set_cons_succ])
      refine wpAnyH_take (i := 1) (v := ?_) rfl (by kernel_rfl) (by kernel_rfl) (by kernel_rfl) (fun _ _ _ h => h) (Or.inl ⟨by rfl, ?_⟩) (by assumption) ?_
      case refine_2 => (intro w hSw; (try dsimp only at hSw); go_simp; (try with_reducible rfl))
      (try simp only [Act.put, List.getElem_toArray, List.getElem_cons_succ, List.getElem_cons_zero, List.setIfInBounds_toArray, List.set_cons_zero, List.set_cons_succ])
      refine wpAnyH_take (i := 2) (v := ?_) rfl (by kernel_rfl) (by kernel_rfl) (by kernel_rfl) (fun _ _ _ h => h) (Or.inl ⟨by rfl, ?_⟩) (by assumption) ?_
      case refine_2 => (intro w hSw; (try dsimp only at hSw); go_simp; (try with_reducible rfl))
      (try simp only [Act.put, List.getElem_toArray, List.getElem_cons_succ, List.getElem_cons_zero, List.setIfInBounds_toArray, List.set_cons_zero, List.set_cons_succ])
      refine wpAnyH_ready (rs := [3]) (by kernel_rfl) (by simp) ?_
      refine AllReadyH.cons rfl (fun K hK => ?_) AllReadyH.nil
      go_simp
      refine hV.mono ?_
      rintro e w3 ⟨k, y, cy, rfl, H3⟩
      have k0 := keep H3.out.2.2.1 (b := w.heap.size) (o := 0) (x := .int .i64 0) (by first | assumption | go_simp)
      have k1 := keep H3.out.2.2.1 (b := w.heap.size) (o := 1) (x := .int .i64 0) (by first | assumption | go_simp)
      have f0 := keepf H3.out.2.2.1 (b := w.heap.size) (o := 0) (by first | (simp <;> omega) | exact cell_lt' (a := ⟨w.heap.size, 0, none⟩) (by assumption) | (simp; exact cell_lt' (a := ⟨w.heap.size, 0, none⟩) (by assumption))) (by first | assumption | go_simp)
      have f1 := keepf H3.out.2.2.1 (b := w.heap.size) (o := 1) (by first | (simp <;> omega) | exact cell_lt' (a := ⟨w.heap.size, 1, none⟩) (by assumption) | (simp; exact cell_lt' (a := ⟨w.heap.size, 1, none⟩) (by assumption))) (by first | assumption | go_simp)
      have j0 := keep H3.out.2.2.1 (b := w2.heap.size) (o := 0) (x := .int .i64 b1) (by first | assumption | go_simp)
      have j1 := keep H3.out.2.2.1 (b := w2.heap.size) (o := 1) (x := .int .i64 b2) (by first | assumption | go_simp)
      refine hK.out _ _ ⟨j0, j1⟩ (fun hHeld => ?_)
      clear hK K
      refine wpAnyH_ready (rs := [4]) (by kernel_rfl) (by simp) ?_
      refine AllReadyH.cons rfl (fun K hK => ?_) AllReadyH.nil
      go_simp
      refine hK.out _ _ ⟨by go_simp, by go_simp⟩ (fun hHeld => ?_)
      clear hK K
      refine wpAnyH_take (i := 5) (v := ?_) rfl (by kernel_rfl) (by kernel_rfl) (by kernel_rfl) (fun _ _ _ h => h) (Or.inl ⟨by rfl, ?_⟩) (by assumption) ?_
      case refine_2 => (intro w hSw; (try dsimp only at hSw); go_simp; (try with_reducible rfl))
      (try simp only [Act.put, List.getElem_toArray, List.getElem_cons_succ, List.getElem_cons_zero, List.setIfInBounds_toArray, List.set_cons_zero, List.set_cons_succ])
      refine wpAnyH_take (i := 6) (v := ?_) rfl (by kernel_rfl) (by kernel_rfl) (by kernel_rfl) (fun _ _ _ h => h) (Or.inl ⟨by rfl, ?_⟩) (by assumption) ?_
      case refine_2 => (intro w hSw; (try dsimp only at hSw); go_simp; (try with_reducible rfl))
      (try simp only [Act.put, List.getElem_toArray, List.getElem_cons_succ, List.getElem_cons_zero, List.setIfInBounds_toArray, List.set_cons_zero, List.set_cons_succ])
      refine wpAnyH_done (by kernel_rfl) ?_ _
      go_wp2_with fail
      refine bodyPost_ret (v := .tuple #[.agg #[.int .i64 b1, .int .i64 b2], .slice y (V k).n cy, .bool true]) ?_ rfl (.inr ⟨(b1, b2), k, y, cy, rfl, ⟨HM.out.1, HM.out.2, H3.out.1, H3.out.2.1⟩, Vl.turns B3 H3.out.2.2 ?_⟩)
      · rw [results_cell3 rfl]
        go_simp
      · exact (Turns.refl (fun k => w.heap.size ≤ k ∧ k < wD.heap.size) w3).set2 w.heap.size ⟨Nat.le_refl _, l5⟩ _ _
    · have hnm : ¬ ((n : Int) < 2 * c) := by omega
      have HK : Hid (JLeft V n (fun z => left z && !z.sameKey (blit (b1, b2)))) := fun b hb h => by
        show (left (blit b) && !(blit b).sameKey (blit (b1, b2))) = true
        rw [HJ2.out b hb h, Bool.true_and]
        have hne : blit b ≠ blit (b1, b2) := fun e => by
          have e2 := bk_inj hb HB.out.1 e
          rw [e2, ← HB.out.2] at h
          exact hnm h
        rw [Maps.sameKey_ne hne]
        rfl
      refine ⟨⟨_, _, hrg2.alloc _, T2.alloc _, HK.out⟩, ?_⟩
      rw [(hrg2.alloc _).left_eq, HW.out]
      exact hlt

end Go.Proofs.YtdlajpjigddbhaaGreat.Px

/-
  A monitor that is alone comes to the end of the one value that waits: drive, start, urge, greet, Tick.
  Conditions: the monitor is one that New gave ('NdAt'), and was asked for one value.
-/
namespace Go.Proofs.YtdlajpjigddbhaaGreat.Px
open Go.RowKit Wi By Fl Ba
set_option linter.unusedVariables false
set_option linter.unusedSimpArgs false
set_option maxRecDepth 100000

def nthA (L : List AccV) (i : Nat) : AccV := (L[i]?).getD noAv

theorem own_accs {w : World} {B : Nat} {x : Option Addr} {m c : Nat} {L : List AccV} (h : Own w B 113 5 encA (.slice x m c) L) (hL : L.length ≤ 1000) (hv : ∀ v ∈ L, AvOk w v) : m = L.length ∧ Accs w x m (nthA L) := by
  obtain ⟨x', c', e, _⟩ := h.form
  injection e with e1 e2 e3
  have hm : m = L.length := e2
  have hmem : ∀ i, i < L.length → nthA L i ∈ L ∧ L[i]? = some (nthA L i) := fun i hi => by
    have q : L[i]? = some (L[i]'hi) := List.getElem?_eq_getElem hi
    unfold nthA
    rw [q]
    exact ⟨List.getElem_mem hi, rfl⟩
  refine ⟨hm, ?_, fun i hi => ?_, fun i hi => ?_, by omega⟩
  · by_cases h0 : m = 0
    · exact .inl h0
    · obtain ⟨g, c2, e4, _, _, _, hg⟩ := h.there (fun e => h0 (by rw [hm, e]; rfl))
      injection e4 with e4 e5 e6
      subst e4
      refine .inr ⟨g, 0, rfl, hg, fun i hi => ?_⟩
      have q := (hmem i (by omega)).2
      rw [Nat.zero_add]
      have q0 := h.cell arow.len q (j := 0) (v := .int .i64 (nthA L i).p.1) rfl
      rw [Nat.add_zero] at q0
      exact ⟨q0, h.cell arow.len q (j := 1) rfl, h.cell arow.len q (j := 2) rfl, h.cell arow.len q (j := 3) rfl, h.cell arow.len q (j := 4) rfl⟩
  · have := hv _ (hmem i (by omega)).1
    exact ⟨this.sv.sl, by have := this.sv.sm; omega⟩
  · exact (hv _ (hmem i (by omega)).1).a

def d7 : Dc := ⟨0, 1, str [7]⟩
def st0 : Nd := proposed (fresh 0 1) (str [7])
def st1 : Nd := begun st0
def bd1 : Bd := ⟨1, (1, 0), [], fun _ => noAc⟩
def st2 : Nd := picked st1 bd1 d7
def bd2 : Bd := ⟨1, (1, 0), dbytes d7, fun _ => noAc⟩
def st3 : Nd := learned st2 d7

theorem d7_of : dOf 1 (dbytes d7) = some d7 := by rfl
theorem d7_ok : DOk d7 := ⟨by show 0 < _; omega, by show 1 < _; omega, by show (str [7]).size ≤ 4096; rw [str_size]; decide⟩
theorem d7_left : left d7 st2.wait = [] := by rfl
theorem d7_len : (dbytes d7).length ≠ 0 := by decide

/- How far it is: what is asked for, and whether with a value. -/
def bidPhase (w : World) (p : Nat) : Nat :=
  match w.cell? ⟨p, 6, none⟩ with
  | some (.pointer (some a)) => (match w.cell? ⟨a.block, 3, none⟩ with | some (.slice _ n _) => if n = 0 then 2 else 1 | _ => 1)
  | _ => 0

theorem phase_none {w : World} {B : Nat} {g : Ln} {st : Nd} (h : NdAt w B g st) (hb : st.bid = none) : bidPhase w g.p = 0 := by
  have hgb : g.b = none := by
    rcases h.bid with ⟨q, _⟩ | ⟨l, b, q1, q2, _⟩
    · exact q
    · rw [hb] at q2
      cases q2
  unfold bidPhase
  rw [h.c6, hgb]
  rfl

theorem phase_some {w : World} {B : Nat} {g : Ln} {st : Nd} (h : NdAt w B g st) (b : Bd) (hb : st.bid = some b) : bidPhase w g.p = if b.val.length = 0 then 2 else 1 := by
  rcases h.bid with ⟨_, q⟩ | ⟨l, b', q1, q2, q3, _⟩
  · rw [hb] at q
    cases q
  rw [hb] at q2
  injection q2 with q2
  subst q2
  have e3 : w.cell? ⟨l.bp, 3, none⟩ = some (.slice l.x l.n l.c) := q3.obj.cell (k := 3) (by omega)
  have hn : l.n = b.val.length := q3.val.sl.len.symm
  unfold bidPhase
  rw [h.c6, q1]
  dsimp only [bidV, Option.map]
  rw [e3]
  dsimp only
  rw [hn]

structure Ph (w wr : World) (B : Nat) (g : Ln) (ph : Nat) : Prop where
  goes : (ph = 2 ∧ Goes w wr B g st1 10) ∨ (ph = 1 ∧ Goes w wr B g st2 20) ∨ (ph = 0 ∧ Goes w wr B g st3 30)
  phase : bidPhase wr g.p = ph

section
variable {w : World} {B : Nat} {g : Ln}

theorem Goes.on {w w1 w2 : World} {B : Nat} {g g1 : Ln} {st2 : Nd} {k1 k2 k3 : Nat} (e : g1.p = g.p) (t : Turns (fp g) w w1) (hk : gnb g1 ≤ gnb g + k1) (hf : ∀ k, fp g1 k → fp g k ∨ w.heap.size ≤ k) (w9 : World) (b : Below w1.heap.size w1 w9) (h2 : Goes w9 w2 B g1 st2 k2) (h3 : k1 + k2 ≤ k3) : Goes w w2 B g st2 k3 :=
  (Goes.trans e (t.trans (Turns.of_below b)) hk hf h2).mono h3

theorem acOf_inj {v : AccV} {a : Ac} (h : acOf v = a) : v.p = a.p ∧ v.a = a.a ∧ v.d = a.d := by
  subst h
  exact ⟨rfl, rfl, rfl⟩

set_option maxHeartbeats 4800000 in
theorem drive_awake (h : NdAt w B g st1) (hgn : gnb g < 100000000000000000) :
    Calls Tryz.prog 87 #[.pointer (some ⟨g.p, 0, none⟩)] w fun e w' => e = .returned (.slice none 0 0) ∧ Hid (Goes w w' B g st3 30) := by
  have hap := app_nil
  have hpl := h.obj.lt
  have H0 : Hid (Ph w w B g 2) := ⟨.inl ⟨rfl, (Goes.same h (Below.refl _ _)).mono (by omega)⟩, phase_some h bd1 rfl⟩
  have Hg : Hid (gnb g < 100000000000000000) := hgn
  clear h hgn
  go_enter Tryz.func87, Tryz.ntmps87
  go_wp2_with fail
  go_loopw [3, 4, 5, 6, 7] (fun out _ _ _ _ wr => ∃ ph : Nat, ph ≤ 2 ∧ out = .slice none 0 0 ∧ Hid (Ph w wr B g ph)) (fun _ _ _ _ _ wr => bidPhase wr g.p)
  case atStart => exact ⟨2, by omega, rfl, H0.out⟩
  case round =>
    clear H0
    obtain ⟨ph, hph, rfl, HP⟩ := hrel
    have HM : Hid (bidPhase wr g.p = ph) := HP.out.phase
    rcases HP.out.goes with ⟨rfl, hG⟩ | ⟨rfl, hG⟩ | ⟨rfl, hG⟩
    · obtain ⟨g1, e1, k1, t1, n1, f1⟩ := hG
      have hS : Calls Tryz.prog 120 #[.pointer (some ⟨g.p, 0, none⟩)] wr fun e w' => ∃ (V : Nat → AccV), e = .returned (.slice (some ⟨wr.heap.size, 0, none⟩) 1 1) ∧ Hid (Below wr.heap.size wr w' ∧ Accs w' (some ⟨wr.heap.size, 0, none⟩) 1 V ∧ (V 0).a = z0) := by
        rw [← e1]
        refine (states_any k1 bd1 rfl (by show 1 ≤ 7; omega) (by show 0 < 1; omega) (by show 1 < _; omega)).mono fun e w' ⟨V, a1, a2⟩ => ⟨V, a1, a2.out.1, a2.out.2.1, ?_⟩
        exact (acOf_inj (a2.out.2.2 0 (by show 0 < 1; omega)).2).2.1
      have hC : Hid (∀ (w1 : World) (V : Nat → AccV), Hid (Below wr.heap.size wr w1 ∧ Accs w1 (some ⟨wr.heap.size, 0, none⟩) 1 V ∧ (V 0).a = z0) → Calls Tryz.prog 119 #[.slice (some ⟨wr.heap.size, 0, none⟩) 1 1] w1 fun e w' => e = .returned (.tuple #[.agg #[.int .i64 0, .int .i64 0], .slice none 0 0, .bool false]) ∧ Hid (Below wr.heap.size wr w')) := fun w1 V H1 => by
        refine (chosen_any _ 1 1 V w1 H1.out.2.1).mono fun e w' hh => ?_
        rcases hh with ⟨a1, a2⟩ | ⟨b, k, y, cy, a1, a2⟩
        · exact ⟨a1, Ba.on H1.out.1 a2.out.1⟩
        · have hk : k = 0 := by have := a2.out.1.2.2.1; omega
          subst hk
          exact absurd (a2.out.1.2.2.2.symm.trans H1.out.2.2) a2.out.1.1
      have hPr : Hid (∀ (w2 : World), Below wr.heap.size wr w2 → Calls Tryz.prog 122 #[.pointer (some ⟨g.p, 0, none⟩)] w2 fun e w' => ∃ (x : Option Addr) (c : Nat), e = .returned (.slice x 1 c) ∧ Hid (Below wr.heap.size wr w' ∧ ∃ V, Accs w' x 1 V ∧ ∀ i, i < 1 → (V i).a = z0)) := fun w2 b2 => by
        rw [← e1]
        refine (promised_any (k1.below b2) bd1 rfl (by show 1 ≤ 7; omega) (by show 0 < 1; omega) (by show 1 < _; omega)).mono fun e w' ⟨x, m, c, V, a1, a2⟩ => ?_
        obtain ⟨a3, a4, a5, a6⟩ := a2.out
        have hv0 := a6 0 (by show 0 < 1; omega)
        have hi := acOf_inj hv0.2
        have hp0 : (V 0).p = (1, 0) := hi.1
        have ha0 : (V 0).a = z0 := hi.2.1
        have hL : firstOf V bd1.bal st1.n = [V 0] := by
          show firstOf V (1, 0) 1 = [V 0]
          rw [firstOf_succ, hp0]
          rfl
        rw [hL] at a4 a5
        have hm : m = 1 := a4
        subst hm
        obtain ⟨_, hA⟩ := own_accs a5 (by simp) (fun v hv => by simp at hv; rw [hv]; exact hv0.1)
        refine ⟨x, c, a1, Ba.on b2 a3, _, hA, fun i hi => ?_⟩
        obtain rfl : i = 0 := by omega
        exact ha0
      have hPk : Hid (∀ (w3 : World) (x : Option Addr) (c : Nat), Hid (Below wr.heap.size wr w3 ∧ ∃ V, Accs w3 x 1 V ∧ ∀ i, i < 1 → (V i).a = z0) → Calls Tryz.prog 123 #[.pointer (some ⟨g.p, 0, none⟩), .slice x 1 c] w3 fun e w' => e = .returned (.slice none 0 0) ∧ Hid (Goes w w' B g st2 20)) := fun w3 x c H3 => by
        obtain ⟨b3, V, hA, hz⟩ := H3.out
        rw [← e1]
        exact (pick_one (k1.below b3) bd1 rfl rfl rfl d7 [] rfl x 1 c V hA hz rfl (by decide) (by show 1 < _; omega) (by have := Hg.out; omega)).mono fun e w' ⟨a1, a2⟩ => ⟨a1, Goes.on e1 t1 n1 f1 w3 b3 a2.out (by omega)⟩
      rcases k1.bid with ⟨_, q⟩ | ⟨l, b', q1, q2, q3, q4⟩
      · cases q
      have q2' : b' = bd1 := by injection q2 with q2; exact q2.symm
      subst q2'
      have hln : l.n = 0 := q3.val.sl.len.symm
      have hbl := q3.obj.lt
      have hpr : g.p < wr.heap.size := by rw [← e1]; exact k1.obj.lt
      have c6 : wr.cell? ⟨g.p, 6, none⟩ = some (.pointer (some ⟨l.bp, 0, none⟩)) := by rw [← e1, k1.c6, q1]; rfl
      have c1 : wr.cell? ⟨g.p, 1, none⟩ = some (.int .i64 1) := by rw [← e1]; exact k1.c1
      have d3 : wr.cell? ⟨l.bp, 3, none⟩ = some (.slice l.x 0 l.c) := by rw [← hln]; exact q3.obj.cell (k := 3) (by omega)
      clear k1 t1 n1 f1 q1 q2 q3 q4 hln HP
      generalize l.bp = bp at *
      generalize l.x = lx at *
      generalize l.c = lc at *
      go_wp2_with (first
        | (
           go_at_call 120; refine hS.mono ?_; rintro e w1 ⟨V, rfl, H1⟩; clear hS
           have hC1 := hC.out w1 V H1
           clear hC)
        | (
           go_at_call 119; refine hC1.mono ?_; rintro e w2 ⟨rfl, H2⟩; clear hC1
           have B2 := on H2.out (al w2 (.cells #[.int .i64 0, .int .i64 0] 111))
           have hP1 := hPr.out _ B2
           clear hPr H1)
        | (
           go_at_call 122; refine hP1.mono ?_; rintro e w3 ⟨x3, c3, rfl, H3⟩; clear hP1
           have s6 := keep H3.out.1 c6
           have s1 := keep H3.out.1 c1
           have s3 := keep H3.out.1 d3
           have hK1 := hPk.out w3 x3 c3 H3
           clear hPk c6 c1 d3)
        | (
           go_at_call 123; refine hK1.mono ?_; rintro e w4 ⟨rfl, H4⟩; clear hK1)
        | (
           at_builtin; refine wpList_append_run rfl _ _ 45 rfl _ _ rfl rfl (hap _) ?_))
      obtain ⟨g4, e4, k4, _⟩ := H4.out
      have hp4 : bidPhase w4 g.p = 1 := by rw [← e4, phase_some k4 bd2 rfl]; exact if_neg d7_len
      go_roundw
      case rel => exact ⟨1, by omega, rfl, .inr (.inl ⟨rfl, H4.out⟩), hp4⟩
      case measure =>
        have := HM.out
        simp
        omega
    · obtain ⟨g1, e1, k1, t1, n1, f1⟩ := hG
      have hS : Calls Tryz.prog 120 #[.pointer (some ⟨g.p, 0, none⟩)] wr fun e w' => ∃ (V : Nat → AccV), e = .returned (.slice (some ⟨wr.heap.size, 0, none⟩) 1 1) ∧ Hid (Below wr.heap.size wr w' ∧ Accs w' (some ⟨wr.heap.size, 0, none⟩) 1 V ∧ (V 0).a = (1, 0) ∧ (V 0).d = dbytes d7 ∧ (V 0).n ≤ 5000) := by
        rw [← e1]
        refine (states_any k1 bd2 rfl (by show 1 ≤ 7; omega) (by show 0 < 1; omega) (by show 1 < _; omega)).mono fun e w' ⟨V, a1, a2⟩ => ⟨V, a1, a2.out.1, a2.out.2.1, ?_⟩
        have hv0 := a2.out.2.2 0 (by show 0 < 1; omega)
        have hi := acOf_inj hv0.2
        exact ⟨hi.2.1, hi.2.2, hv0.1.sv.sm⟩
      have hC : Hid (∀ (w1 : World) (V : Nat → AccV), Hid (Below wr.heap.size wr w1 ∧ Accs w1 (some ⟨wr.heap.size, 0, none⟩) 1 V ∧ (V 0).a = (1, 0) ∧ (V 0).d = dbytes d7 ∧ (V 0).n ≤ 5000) → Calls Tryz.prog 119 #[.slice (some ⟨wr.heap.size, 0, none⟩) 1 1] w1 fun e w' => ∃ (y : Option Addr) (n cy : Nat), e = .returned (.tuple #[.agg #[.int .i64 1, .int .i64 0], .slice y n cy, .bool true]) ∧ Hid (Below wr.heap.size wr w' ∧ Fl.Sl w' y n cy (dbytes d7) ∧ n ≤ 5000)) := fun w1 V H1 => by
        obtain ⟨b1, hA, ha, hd, hn⟩ := H1.out
        refine (chosen_any _ 1 1 V w1 hA).mono fun e w' hh => ?_
        rcases hh with ⟨a1, a2⟩ | ⟨b, k, y, cy, a1, a2⟩
        · exfalso
          refine a2.out.2 (1, 0) ⟨wfi_all (a := 1) (by omega) (by omega), wfi_all (a := 0) (by omega) (by omega)⟩ ?_
          have e0 : cntA V 1 (1, 0) = 1 := by
            unfold cntA
            rw [if_neg (by decide)]
            simp [cnt, ha]
          rw [e0]
          omega
        · have hk : k = 0 := by have := a2.out.1.2.2.1; omega
          subst hk
          have hb : b = (1, 0) := a2.out.1.2.2.2.symm.trans ha
          subst hb
          refine ⟨y, (V 0).n, cy, a1, Ba.on b1 a2.out.2.1, ?_, hn⟩
          rw [← hd]
          exact a2.out.2.2.1
      have hSe : Hid (∀ (w2 : World) (y : Option Addr) (n cy : Nat), Below wr.heap.size wr w2 → Fl.Sl w2 y n cy (dbytes d7) → n ≤ 5000 → Calls Tryz.prog 121 #[.pointer (some ⟨g.p, 0, none⟩), .slice y n cy] w2 fun e w' => e = .returned (.slice none 0 0) ∧ Hid (Goes w w' B g st3 30)) := fun w2 y n cy b2 hl hn => by
        rw [← e1]
        exact (settle_one (k1.below b2) rfl rfl d7 y n cy (dbytes d7) hl hn d7_of d7_ok (by show 0 < 70000; omega) d7_left).mono fun e w' ⟨a1, a2⟩ => ⟨a1, Goes.on e1 t1 n1 f1 w2 b2 a2.out (by omega)⟩
      rcases k1.bid with ⟨_, q⟩ | ⟨l, b', q1, q2, q3, q4⟩
      · cases q
      have hpr : g.p < wr.heap.size := by rw [← e1]; exact k1.obj.lt
      have c6 : wr.cell? ⟨g.p, 6, none⟩ = some (.pointer (some ⟨l.bp, 0, none⟩)) := by rw [← e1, k1.c6, q1]; rfl
      clear k1 t1 n1 f1 q1 q2 q3 q4 HP
      generalize l.bp = bp at *
      go_wp2_with (first
        | (
           go_at_call 120; refine hS.mono ?_; rintro e w1 ⟨V, rfl, H1⟩; clear hS
           have hC1 := hC.out w1 V H1
           clear hC)
        | (
           go_at_call 119; refine hC1.mono ?_; rintro e w2 ⟨y2, n2, c2, rfl, H2⟩; clear hC1
           have B2 := on H2.out.1 (al w2 (.cells #[.int .i64 1, .int .i64 0] 111))
           have hT1 := hSe.out _ y2 n2 c2 B2 (H2.out.2.1.below (al _ _)) H2.out.2.2
           clear hSe H1)
        | (
           go_at_call 121; refine hT1.mono ?_; rintro e w4 ⟨rfl, H4⟩; clear hT1)
        | (
           at_builtin; refine wpList_append_run rfl _ _ 45 rfl _ _ rfl rfl (hap _) ?_))
      obtain ⟨g4, e4, k4, _⟩ := H4.out
      have hp4 : bidPhase w4 g.p = 0 := by rw [← e4]; exact phase_none k4 rfl
      go_roundw
      case rel => exact ⟨0, by omega, rfl, .inr (.inr ⟨rfl, H4.out⟩), hp4⟩
      case measure =>
        have := HM.out
        simp
        omega
    · obtain ⟨g1, e1, k1, t1, n1, f1⟩ := hG
      have hgb : g1.b = none := by
        rcases k1.bid with ⟨q, _⟩ | ⟨l, b, q1, q2, _⟩
        · exact q
        · cases q2
      have c6 : wr.cell? ⟨g.p, 6, none⟩ = some (.pointer none) := by rw [← e1, k1.c6, hgb]; rfl
      have HG : Hid (Goes w wr B g st3 30) := ⟨g1, e1, k1, t1, n1, f1⟩
      clear k1 t1 n1 f1 HP hgb e1
      go_wp2_with fail
      go_ret
      exact ⟨rfl, HG.out⟩

theorem start_awake (h : NdAt w B g st0) (hgn : gnb g < 10000000000000000) :
    Calls Tryz.prog 67 #[.pointer (some ⟨g.p, 0, none⟩)] w fun e w' => e = .returned (.slice none 0 0) ∧ Hid (Goes w w' B g st3 40) := by
  have hap := app_nil
  have hB := begin_one h rfl rfl rfl (by show ([] ++ [(⟨0, 1, str [7]⟩ : Dc)]) ≠ []; simp) rfl (by omega)
  have HD : Hid (∀ w1, Hid (Goes w w1 B g (begun st0) 1) → Calls Tryz.prog 87 #[.pointer (some ⟨g.p, 0, none⟩)] w1 fun e w' => e = .returned (.slice none 0 0) ∧ Hid (Goes w w' B g st3 40)) := fun w1 H1 => by
    obtain ⟨g1, e1, k1, t1, n1, f1⟩ := H1.out
    rw [← e1]
    exact (drive_awake k1 (by omega)).mono fun e w' ⟨a1, a2⟩ => ⟨a1, (Goes.trans e1 t1 n1 f1 a2.out).mono (by omega)⟩
  clear h hgn
  go_enter Tryz.func67, Tryz.ntmps67
  go_wp2_with (first
    | (
       go_at_call 95; refine hB.mono ?_; rintro e w1 ⟨rfl, H1⟩; clear hB
       have hD := HD.out w1 H1
       clear HD)
    | (
       go_at_call 87; refine hD.mono ?_; rintro e w2 ⟨rfl, H2⟩; clear hD)
    | (
       at_builtin; refine wpList_append_run rfl _ _ 45 rfl _ _ rfl rfl (hap _) ?_))
  go_ret
  exact ⟨rfl, H2.out⟩

theorem tick_awake (h : NdAt w B g st0) (hgn : gnb g < 10000000000000000) :
    Calls Tryz.prog 31 #[.pointer (some ⟨g.p, 0, none⟩)] w fun e w' => e = .returned (.slice none 0 0) ∧ Hid (Goes w w' B g st3 40) := by
  have hap := app_nil
  have hM := made_yes h
  have hgb : g.b = none := by
    rcases h.bid with ⟨q, _⟩ | ⟨l, b, q1, q2, _⟩
    · exact q
    · cases q2
  have c6 : w.cell? ⟨g.p, 6, none⟩ = some (.pointer none) := by rw [h.c6, hgb]; rfl
  have c1 : w.cell? ⟨g.p, 1, none⟩ = some (.int .i64 1) := h.c1
  have hS := start_awake h hgn
  have hG : Calls Tryz.prog 49 #[.pointer (some ⟨g.p, 0, none⟩)] w fun e w' => e = .returned (.slice none 0 0) ∧ w' = w := by
    clear h hgn hM hS hgb hap
    go_enter Tryz.func49, Tryz.ntmps49
    go_wp2_with fail
    go_ret
    exact ⟨rfl, rfl⟩
  have hU : Calls Tryz.prog 50 #[.pointer (some ⟨g.p, 0, none⟩)] w fun e w' => e = .returned (.slice none 0 0) ∧ Hid (Goes w w' B g st3 40) := by
    clear h hgn hM hG hgb hap
    go_enter Tryz.func50, Tryz.ntmps50
    go_wp2_with (first
      | (
         go_at_call 67; refine hS.mono ?_; rintro e w1 ⟨rfl, H1⟩; clear hS))
    go_ret
    exact ⟨rfl, H1.out⟩
  clear h hgn hS c6 c1 hgb
  go_enter Tryz.func31, Tryz.ntmps31
  go_wp2_with (first
    | (
       go_at_call 48; refine hM.mono ?_; rintro e w' ⟨rfl, hw⟩; subst w'; clear hM)
    | (
       go_at_call 49; refine hG.mono ?_; rintro e w' ⟨rfl, hw⟩; subst w'; clear hG)
    | (
       go_at_call 50; refine hU.mono ?_; rintro e w2 ⟨rfl, H2⟩; clear hU)
    | (
       at_builtin; refine wpList_append_run rfl _ _ 45 rfl _ _ rfl rfl (hap _) ?_))
  go_ret
  exact ⟨rfl, H2.out⟩

end

end Go.Proofs.YtdlajpjigddbhaaGreat.Px

/-
  A monitor that nobody made.
  Conditions: none.
-/
namespace Go.Proofs.YtdlajpjigddbhaaGreat.Px
open Go.RowKit Wi By Fl Ba
set_option linter.unusedVariables false
set_option linter.unusedSimpArgs false
set_option maxRecDepth 100000

def VoidN (q : Option Addr) (w : World) : Prop := q = none ∨ ∃ k, q = some ⟨k, 0, none⟩ ∧ w.cell? ⟨k, 2, none⟩ = some (.slice none 0 0) ∧ w.cell? ⟨k, 3, none⟩ = some (.map none) ∧ w.cell? ⟨k, 5, none⟩ = some (.slice none 0 0)

theorem void_new (w : World) : VoidN (some ⟨w.heap.size, 0, none⟩) (w.alloc (.cells #[.int .i64 0, .int .i64 0, .slice none 0 0, .map none, .int .i64 0, .slice none 0 0, .pointer none, .int .i64 0] 101)) :=
  .inr ⟨w.heap.size, rfl, by simp, by simp, by simp⟩

section
variable {w : World} {q : Option Addr}

theorem vmade (h : VoidN q w) : Calls Tryz.prog 48 #[.pointer q] w fun e w' => e = .returned (.bool false) ∧ w' = w := by
  rcases h with rfl | ⟨k, rfl, c2, c3, c5⟩
  · go_enter Tryz.func48, Tryz.ntmps48
    go_wp2_with fail
    go_ret
    exact ⟨rfl, rfl⟩
  · have he : ∀ w : World, (binOp .neq 98 (.map none) (.map none)).run Tryz.prog w = .ok (.bool false) w := fun _ => by kernel_rfl
    go_enter Tryz.func48, Tryz.ntmps48
    go_wp2_with fail
    go_ret
    exact ⟨rfl, rfl⟩

theorem vlen (h : VoidN q w) : Calls Tryz.prog 43 #[.pointer q] w fun e w' => e = .returned (.int .i64 0) ∧ w' = w := by
  rcases h with rfl | ⟨k, rfl, c2, c3, c5⟩ <;>
  · go_enter Tryz.func43, Tryz.ntmps43
    go_wp2_with fail
    go_ret
    exact ⟨rfl, rfl⟩

theorem vpending (h : VoidN q w) : Calls Tryz.prog 32 #[.pointer q] w fun e w' => e = .returned (.int .i64 0) ∧ w' = w := by
  rcases h with rfl | ⟨k, rfl, c2, c3, c5⟩ <;>
  · go_enter Tryz.func32, Tryz.ntmps32
    go_wp2_with fail
    go_ret
    exact ⟨rfl, rfl⟩

theorem vget (h : VoidN q w) : Calls Tryz.prog 44 #[.pointer q, .int .i64 1] w fun e w' => e = .returned (.tuple #[.slice none 0 0, .bool false]) ∧ w' = w := by
  have hL := vlen h
  clear h
  go_enter Tryz.func44, Tryz.ntmps44
  go_wp2_with (first
    | (
       go_at_call 43; refine hL.mono ?_; rintro e w' ⟨rfl, hw⟩; subst w'; clear hL))
  go_ret2
  exact ⟨rfl, rfl⟩

theorem vcrash (h : VoidN q w) : Calls Tryz.prog 39 #[.pointer q] w fun e w' => e = .returned (.tuple #[]) ∧ w' = w := by
  have hM := vmade h
  clear h
  go_enter Tryz.func39, Tryz.ntmps39
  go_wp2_with (first
    | (
       go_at_call 48; refine hM.mono ?_; rintro e w' ⟨rfl, hw⟩; subst w'; clear hM))
  refine bodyPost_ret (results_none rfl _ _ _) rfl ?_
  exact ⟨rfl, rfl⟩

theorem vprop (h : VoidN q w) (v : Value) : Calls Tryz.prog 38 #[.pointer q, v] w fun e w' => e = .returned (.int .i64 1) ∧ w' = w := by
  have hM := vmade h
  clear h
  go_enter Tryz.func38, Tryz.ntmps38
  go_wp2_with (first
    | (
       go_at_call 48; refine hM.mono ?_; rintro e w' ⟨rfl, hw⟩; subst w'; clear hM))
  go_ret
  exact ⟨rfl, rfl⟩

theorem vtick (h : VoidN q w) : Calls Tryz.prog 31 #[.pointer q] w fun e w' => e = .returned (.slice none 0 0) ∧ w' = w := by
  have hM := vmade h
  clear h
  go_enter Tryz.func31, Tryz.ntmps31
  go_wp2_with (first
    | (
       go_at_call 48; refine hM.mono ?_; rintro e w' ⟨rfl, hw⟩; subst w'; clear hM))
  go_ret
  exact ⟨rfl, rfl⟩

theorem vreceive (h : VoidN q w) (v : Value) : Calls Tryz.prog 40 #[.pointer q, .int .i64 0, v] w fun e w' => e = .returned (.tuple #[.slice none 0 0, .int .i64 1]) ∧ w' = w := by
  have hM := vmade h
  clear h
  go_enter Tryz.func40, Tryz.ntmps40
  go_wp2_with (first
    | (
       go_at_call 48; refine hM.mono ?_; rintro e w' ⟨rfl, hw⟩; subst w'; clear hM))
  go_ret2
  exact ⟨rfl, rfl⟩

end

end Go.Proofs.YtdlajpjigddbhaaGreat.Px

/-
  Package atlas: numbers as bytes: truth, parts, write.
  Conditions: numbers from 0 to 2^31 - 1.
-/
namespace Go.Proofs.YtdlajpjigddbhaaGreat.At
open Go.RowKit By Fl Wi
set_option linter.unusedVariables false
set_option linter.unusedSimpArgs false
set_option maxRecDepth 100000

def bitI (b : Bool) : Int := if b then 1 else 0
def partsP (o : Osd) : List Int := [o.id, bitI o.up, bitI o.inn, o.wt, o.life, o.boot, o.host, o.rack]
def wrB (l : List Int) : List Nat := l.flatMap fun v => uv v.toNat
def headP (m : Mp) : List Int := [m.ep, m.pool.k, m.pool.m, m.pool.pgs, m.pool.dom, (m.osds.length : Int)]
def numsM (m : Mp) : List Int := headP m ++ m.osds.flatMap partsP
def numsC (c : Ch) : List Int := c.kind :: partsP c.osd

theorem wrB_app (a b : List Int) : wrB (a ++ b) = wrB a ++ wrB b := by simp [wrB]
theorem wrB_lt (l : List Int) : ∀ v ∈ wrB l, v < 256 := fun v hv => by
  simp only [wrB, List.mem_flatMap] at hv
  obtain ⟨a, _, h⟩ := hv
  exact uv_lt _ v h
theorem wrB_len (l : List Int) (h : ∀ v ∈ l, 0 ≤ v ∧ v ≤ 2147483647) : (wrB l).length ≤ 10 * l.length := by
  induction l with
  | nil => simp [wrB]
  | cons a l ih =>
    have := ih (fun v hv => h v (List.mem_cons_of_mem _ hv))
    have h2 := h a List.mem_cons_self
    have := uv_ten (n := a.toNat) (by omega)
    simp only [wrB, List.flatMap_cons, List.length_append, List.length_cons] at *
    omega

theorem truth_any (b : Bool) (w : World) : Calls Tryz.prog 72 #[.bool b] w fun e w' => e = .returned (.int .i64 (bitI b)) ∧ w' = w := by
  unfold bitI
  cases b with
  | true =>
    go_enter Tryz.func72, Tryz.ntmps72
    go_wp2_with fail
    go_ret
    exact ⟨rfl, rfl⟩
  | false =>
    go_enter Tryz.func72, Tryz.ntmps72
    go_wp2_with fail
    go_ret
    exact ⟨rfl, rfl⟩

/- A list of numbers that is read. -/
structure Is (w : World) (x : Option Addr) (n c : Nat) (l : List Int) : Prop where
  len : l.length = n
  le : n ≤ c
  nil : x = none → n = 0 ∧ c = 0
  row : n = 0 ∨ ∃ b o, x = some ⟨b, o, none⟩ ∧ b < w.heap.size ∧ ∀ (k : Nat) (v : Int), l[k]? = some v → w.cell? ⟨b, o + k, none⟩ = some (.int .i64 v)

theorem Is.below {w w' : World} {x : Option Addr} {n c : Nat} {l : List Int} (h : Is w x n c l) (hb : Below w.heap.size w w') : Is w' x n c l := by
  refine ⟨h.len, h.le, h.nil, ?_⟩
  rcases h.row with h0 | ⟨b, o, h1, h2, h3⟩
  · exact .inl h0
  · exact .inr ⟨b, o, h1, Nat.lt_of_lt_of_le h2 hb.size, fun k a hk => keep hb (h3 k a hk)⟩

theorem Ns.is {w : World} {g : Nat} {t : TypeId} {l : List Int} (h : Ns w g t l) : Is w (some ⟨g, 0, none⟩) l.length l.length l :=
  ⟨rfl, Nat.le_refl _, (fun e => by cases e), .inr ⟨g, 0, rfl, h.lt, fun k v hk => by rw [Nat.zero_add]; exact h.cell hk⟩⟩

def enI (v : Int) : List Value := [.int .i64 v]
theorem irow : Row 27 3 1 8 enI := by
  have hi : (Tryz.prog.info? 3).map (fun i => (i.zero, i.size, i.bytes)) = some (some (.int .i64 0), 1, 8) := by kernel_rfl
  obtain ⟨i0, h1, h2, h3, h4⟩ := info_parts hi
  exact ⟨Tryz.underlying27, ⟨i0, _, h1, h2, h3, h4, rfl⟩, by decide, by decide, fun a => rfl, fun a v hv => by simp [enI] at hv; subst hv; rfl⟩

theorem own_is {w : World} {B : Nat} {x : Option Addr} {n c : Nat} {L : List Int} (h : Own w B 3 1 enI (.slice x n c) L) : Is w x n c L := by
  obtain ⟨x', c', e, h1, h2, h3⟩ := h.form
  injection e with e1 e2 e3
  subst e1 e2 e3
  refine ⟨rfl, h1, h2, ?_⟩
  by_cases h0 : L.length = 0
  · exact .inl h0
  · cases x with
    | none => exact .inl (h2 rfl).1
    | some ad =>
      obtain ⟨g, rfl, hB, hg⟩ := h3 ad rfl
      refine .inr ⟨g, 0, rfl, hg, fun k a hk => ?_⟩
      have := h.cell irow.len hk (j := 0) (v := .int .i64 a) rfl
      rw [Nat.mul_one, Nat.add_zero] at this
      rw [Nat.zero_add]
      exact this

set_option maxHeartbeats 1600000 in
theorem write_any {w : World} {x : Option Addr} {n c : Nat} {l : List Int} (h : Is w x n c l) (hv : ∀ v ∈ l, 0 ≤ v ∧ v ≤ 2147483647) (hn : n ≤ 1000) :
    Calls Tryz.prog 55 #[.slice x n c] w fun e w' => ∃ R, e = .returned R ∧ Hid (OwnL w' w.heap.size R (wrB l) ∧ Below w.heap.size w w') := by
  have HI := hid h
  have HL := hid h.len
  have HV := hid hv
  have hU := fun (N : Nat) (W : World) (hN : N < 18446744073709551616) => uvarint_any none 0 0 [] N W (Go.Proofs.YtdlajpjigddbhaaGreat.Sl.empty W) hN (by omega)
  clear h hv
  go_enter Tryz.func55, Tryz.ntmps55
  go_wp2_with fail
  go_loopw [8, 3, 5] (fun i b _ wx => ∃ q : Nat, q ≤ n ∧ i = .int .i64 q ∧ Hid (OwnL wx w.heap.size b (wrB (l.take q)) ∧ Below w.heap.size w wx)) (fun i _ _ _ => n - (intOf i).toNat)
  case atStart => exact ⟨0, by omega, rfl, OwnL.start _ _, Below.refl _ _⟩
  case round =>
    obtain ⟨q, hq, rfl, HR⟩ := hrel
    by_cases hlt : q < n
    · have hqI : (q : Int) < (n : Int) := by omega
      obtain ⟨v, hvq⟩ : ∃ v, l[q]? = some v := ⟨l[q]'(by have := HL.out; omega), List.getElem?_eq_getElem (by have := HL.out; omega)⟩
      obtain ⟨v0, v1⟩ := HV.out v (List.mem_of_getElem? hvq)
      rcases (HI.out.below HR.out.2).row with h0 | ⟨b, o, rfl, hbl, hcell⟩
      · omega
      have c0 := hcell q v hvq
      have HS : Hid (wrB (l.take (q + 1)) = wrB (l.take q) ++ uv v.toNat) := hid (by rw [List.take_add_one, hvq, wrB_app]; simp [wrB])
      obtain ⟨N, rfl⟩ : ∃ N : Nat, v = (N : Int) := ⟨v.toNat, by omega⟩
      have hN : N < 18446744073709551616 := by omega
      have hU1 := hU N wr hN
      have hwr : IntKind.u64.wrap (N : Int) = (N : Int) := by rw [IntKind.wrap_u64]; omega
      have HN : Hid (N < 18446744073709551616) := hN
      have hlen : Hid ((wrB (l.take q)).length ≤ 10000) := by
        have := wrB_len (l.take q) (fun v hv => HV.out v (List.mem_of_mem_take hv))
        rw [List.length_take] at this
        show _ ≤ _
        omega
      clear hcell hvq hU v0 v1 hN
      obtain ⟨R0, hR0⟩ : ∃ R0, R0 = u3 := ⟨_, rfl⟩
      subst hR0
      go_wp2_with (first
        | (
           go_at_call 71; refine hU1.mono ?_; rintro e w1 ⟨R1, rfl, ho1, hb1⟩; clear hU1
           rw [List.nil_append] at ho1
           obtain ⟨x1, d1, rfl, hs1, _⟩ := ho1.sl (uv_lt _)
           obtain ⟨R2, w2, hr2, ho2, hb2⟩ := push_list w1 w w.heap.size _ _ (HR.out.1.below hb1) (Nat.le_trans HR.out.2.size hb1.size) (HR.out.2.trans (hb1.mono HR.out.2.size)) x1 _ d1 (uv N) hs1 (by have := hlen.out; have := uv_ten HN.out; omega)
           have HO2 := hid (And.intro ho2 hb2)
           clear ho1 hb1 hs1 ho2 hb2)
        | (
           at_builtin; refine Lib.wpList_append_run _ rfl _ _ _ _ rfl _ _ rfl rfl _ _ hr2 ?_))
      go_roundw
      case rel => exact ⟨q + 1, by omega, by go_num, by rw [HS.out]; exact HO2.out⟩
      case measure => simp [intOf]; omega
    · obtain rfl : q = n := by omega
      have htk : l.take q = l := by rw [← HL.out]; exact List.take_length
      have HR2 := hid HR.out
      rw [htk] at HR2
      go_wp2_with fail
      go_ret
      exact ⟨_, rfl, HR2.out⟩

end Go.Proofs.YtdlajpjigddbhaaGreat.At

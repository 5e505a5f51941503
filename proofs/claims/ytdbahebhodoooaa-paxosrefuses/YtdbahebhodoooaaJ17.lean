/-
  3 texts of this proof, one behind the other: PxChosen, PxDrive1, PxRecv1.
-/
import Derived.Test.YtdbahebhodoooaaJ04
import Derived.Test.YtdbahebhodoooaaJ09
import Derived.Test.YtdbahebhodoooaaJ14
import Derived.Test.YtdbahebhodoooaaJ16
/-
  Which value is chosen: Chosen.
  Conditions: the list lies in memory.
-/
namespace Go.Proofs.Ytdbahebhodoooaa.Px
open Go.RowKit By Fl Ba
set_option linter.unusedVariables false
set_option linter.unusedSimpArgs false
set_option maxRecDepth 100000

theorem below2c {B : Nat} {a w : World} (h : Below B a w) (g : Nat) (hg : B ≤ g) (u0 u1 : Value) : Below B a ((w.setCell ⟨g, 0, none⟩ u0).setCell ⟨g, 1, none⟩ u1) :=
  (h.setCell (p := ⟨g, 0, none⟩) hg _).setCell (p := ⟨g, 1, none⟩) hg _

theorem results_cell3 {fn : Func} {p q r : Tmp} {ty : TypeId} (h : fn.results = #[.cell p ty, .tmp q, .tmp r]) (tmps : Array Value) (P : Program) (w : World) :
    (results fn tmps).run P w = ((asAddr (tmps.getD p undef)).run P w).andThen fun a w₁ => ((loadVar ty a).run P w₁).andThen fun v w₂ => .ok (.tuple #[v, tmps.getD q undef, tmps.getD r undef]) w₂ := by
  simp only [results, h]
  simp [Sem.run_bind, Result.andThen]

def Cho (V : Nat → AccV) (n : Nat) (b : Bt) (k : Nat) : Prop := b ≠ z0 ∧ Maj n (fun i => (V i).a = b) ∧ k < n ∧ (V k).a = b

theorem cho_of {V : Nat → AccV} {n : Nat} {b : Bt} {c : Int} (hc : c = cntA V n b) (hm : (n : Int) < 2 * c) : b ≠ z0 ∧ Maj n (fun i => (V i).a = b) ∧ ∃ j, j < n ∧ (V j).a = b := by
  subst hc
  unfold cntA at hm
  by_cases hz : b = z0
  · rw [if_pos hz] at hm
    omega
  · rw [if_neg hz] at hm
    refine ⟨hz, ⟨fun i => decide ((V i).a = b), by omega, fun k hk e => by simpa using e⟩, ?_⟩
    obtain ⟨k, hk, e⟩ := cnt_pos (q := fun i => decide ((V i).a = b)) (n := n) (by omega)
    exact ⟨k, hk, by simpa using e⟩

def NoMaj (V : Nat → AccV) (n : Nat) : Prop := ∀ b : Bt, bwf b → ¬ ((n : Int) < 2 * cntA V n b)
def JLeft (V : Nat → AccV) (n : Nat) (left : Lit → Bool) : Prop := ∀ b : Bt, bwf b → (n : Int) < 2 * cntA V n b → left (blit b) = true

theorem turns_grown {a w w' : World} {g : Nat} (t : Turns (atB g) a w) (h : w.grownBy w' (some g)) : Turns (atB g) a w' := t.grown h (fun k hk => .inl (by cases hk; rfl))

set_option maxHeartbeats 4000000 in
theorem chosen_any (x : Option Addr) (n c0 : Nat) (V : Nat → AccV) (w : World) (h : Accs w x n V) :
    Calls Try.prog 70 #[.slice x n c0] w fun e w' => (e = .returned (.tuple #[bt z0, .slice none 0 0, .bool false]) ∧ Hid (Below w.heap.size w w' ∧ NoMaj V n)) ∨
      ∃ (b : Bt) (k : Nat) (y : Option Addr) (cy : Nat), e = .returned (.tuple #[bt b, .slice y (V k).n cy, .bool true]) ∧ Hid (Cho V n b k ∧ Vl w w' y (V k).n cy (V k).d) := by
  have hC := count_any x n c0 V (w.alloc (.cells #[.int .i64 0, .int .i64 0] 72)) (h.below (al _ _))
  have HA : Hid (Accs w x n V) := h
  have hnz : (n : Int) ≤ 1000 := by have := h.small; omega
  clear h
  go_enter Try.func70, Try.ntmps70
  go_wp2_with (first
    | (
       go_at_call 89; refine hC.mono ?_; rintro e w1 ⟨mb, nb, D, rfl, H1⟩; clear hC
       have k0 := keep H1.out.1 (b := w.heap.size) (o := 0) (x := .int .i64 0) (by first | assumption | go_simp)
       have k1 := keep H1.out.1 (b := w.heap.size) (o := 1) (x := .int .i64 0) (by first | assumption | go_simp)
       have f0 := keepf H1.out.1 (b := w.heap.size) (o := 0) (by first | (simp <;> omega) | exact cell_lt' (a := ⟨w.heap.size, 0, none⟩) (by assumption) | (simp; exact cell_lt' (a := ⟨w.heap.size, 0, none⟩) (by assumption))) (by first | assumption | go_simp)
       have f1 := keepf H1.out.1 (b := w.heap.size) (o := 1) (by first | (simp <;> omega) | exact cell_lt' (a := ⟨w.heap.size, 1, none⟩) (by assumption) | (simp; exact cell_lt' (a := ⟨w.heap.size, 1, none⟩) (by assumption))) (by first | assumption | go_simp)
       have hmap := H1.out.2.1.map
       have B1 := on (al _ _) H1.out.1
       have l0 : w.heap.size < w1.heap.size := cell_lt' k0
       have HD : Hid (∀ b, bwf b → D.atKey (blit b) (.lit (.int .i64 0)) = .lit (.int .i64 (cntA V n b))) := H1.out.2.1.cnt
       have l1 : w.heap.size + 1 ≤ mb := by have := H1.out.2.1.bl; simpa using this
       clear H1)
    | (at_range; refine wpList_range_own _ rfl _ 134 rfl 72 3 blaw Try.underlying134 (plainElem Try.prog 3) mb nb D rfl hmap ?_; intro w0 hrg0 hg0 hs0))
  go_frame
  have T0 : Hid (Turns (atB w1.heap.size) w1 w0) := (Turns.refl (atB w1.heap.size) w1).grown hg0 (fun k hk => by cases hk)
  clear hg0 hs0 hmap
  go_loopw [5, 6] (fun _ _ wr => ∃ (left : Lit → Bool) (cnt : Nat), wr.ranges Try.prog 72 (plainElem Try.prog 3) mb w1.heap.size nb D left cnt ∧ Hid (Turns (atB w1.heap.size) w1 wr ∧ JLeft V n left)) (fun _ _ wr => wr.rangeLeft mb w1.heap.size)
  case atStart =>
    refine ⟨_, _, hrg0, T0.out, fun b hb h => ?_⟩
    cases hh : Maps.has D (blit b) with
    | true => rfl
    | false =>
      have e1 := HD.out b hb
      rw [Maps.atKey_of_not_has hh] at e1
      injection e1 with e1
      injection e1 with _ e1
      omega
  case round =>
    clear T0 hrg0
    obtain ⟨left, cnt, hrg, HT⟩ := hrel
    have HW : Hid (wr.rangeLeft mb w1.heap.size = cnt) := hrg.left_eq
    go_wp2_with (first
      | (at_next; refine wpList_next_ranges _ rfl _ rfl 72 blaw (plainElem Try.prog 3) (fun b : Bt => Value.agg #[.int .i64 b.1, .int .i64 b.2]) (fun z : Int => Value.int .i64 z) (fun key kl hk => by obtain ⟨s, rfl, _⟩ := bk_inv hk; exact ⟨s, rfl⟩) (fun v y hv' => by obtain ⟨a, rfl, _⟩ := plainElem_int_inv Try.underlying3 hv'; exact ⟨a, rfl⟩) mb w1.heap.size nb D left cnt rfl hrg ?_ ?_
         (intro hc0 hl0
          have T9 := HT.out.1
          have HJ : Hid (NoMaj V n) := fun b hb h => by
            have q := HT.out.2 b hb h
            rw [hl0] at q
            cases q
          have k0 := keepn T9 (b := w.heap.size) (by omega) k0
          have k1 := keepn T9 (b := w.heap.size) (by omega) k1
          have f0 := keepnf T9 (b := w.heap.size) (by omega) (by omega) f0
          have f1 := keepnf T9 (b := w.heap.size) (by omega) (by omega) f1
          clear HT hrg)
         rotate_left 1
         (intro b c kl y w2 cnt2 hkey hlk hvv hat hrg2 hlt hg2 hs2 hen
          obtain ⟨b', eb, hwf, rfl⟩ := bk_inv hkey
          have eb2 : b = b' := by
            simp only [bt, Value.agg.injEq] at eb
            simp at eb
            exact bt_ext eb.1 eb.2
          subst eb2
          obtain ⟨c', ec, ey, _⟩ := plainElem_int_inv Try.underlying3 hvv
          injection ec with _ ec
          subst ec
          have hcc : Hid (c = cntA V n b) := by
            have e1 := HD.out b hwf
            rw [hat, ey] at e1
            injection e1 with e1
            injection e1
          have T2 := turns_grown HT.out.1 hg2
          have HJ2 := hid HT.out.2
          have hb2 := hen
          clear hkey eb hvv hat ey HT hrg hg2 hs2 hlk
          have HB : Hid (bwf b ∧ c = cntA V n b) := ⟨hwf, hcc.out⟩
          clear hwf hcc hb2
          obtain ⟨b1, b2⟩ := b
          dsimp only at hen
          have l2 : w1.heap.size < w2.heap.size := hrg2.lt
          )
         rotate_right 1))
    · have B2 : Below w.heap.size w wr := B1.trans (T9.below (fun k hk => by have e2 : k = w1.heap.size := hk; omega) B1.size)
      refine bodyPost_ret (v := .tuple #[.agg #[.int .i64 0, .int .i64 0], .slice none 0 0, .bool false]) ?_ rfl (.inl ⟨rfl, below2c B2 w.heap.size (Nat.le_refl _) _ _, HJ.out⟩)
      rw [results_cell3 rfl]
      go_simp
    · rename_i hm K0 a0 ke
      have B2 : Below w.heap.size w w2 := B1.trans (T2.below (fun k hk => by have e2 : k = w1.heap.size := hk; omega) B1.size)
      have k0 := keepn T2 (b := w.heap.size) (by omega) k0
      have k1 := keepn T2 (b := w.heap.size) (by omega) k1
      have f0 := keepnf T2 (b := w.heap.size) (by omega) (by omega) f0
      have f1 := keepnf T2 (b := w.heap.size) (by omega) (by omega) f1
      have l3 : w.heap.size < w2.heap.size := by omega
      obtain ⟨hz, hmaj, hex⟩ := cho_of (b := (b1, b2)) HB.out.2 (by omega)
      have HM : Hid ((b1, b2) ≠ z0 ∧ Maj n (fun i => (V i).a = (b1, b2))) := ⟨hz, hmaj⟩
      have bD : Below (w2.alloc (.cells #[.int .i64 b1, .int .i64 b2] 72)).heap.size (w2.alloc (.cells #[.int .i64 b1, .int .i64 b2] 72)) (w2.alloc (.cells #[.int .i64 b1, .int .i64 b2] 72)).drew := (Below.refl _ _).drew
      have k0 := keep bD (b := w.heap.size) (o := 0) (x := .int .i64 0) (by first | assumption | go_simp)
      have k1 := keep bD (b := w.heap.size) (o := 1) (x := .int .i64 0) (by first | assumption | go_simp)
      have f0 := keepf bD (b := w.heap.size) (o := 0) (by first | (simp <;> omega) | exact cell_lt' (a := ⟨w.heap.size, 0, none⟩) (by assumption) | (simp; exact cell_lt' (a := ⟨w.heap.size, 0, none⟩) (by assumption))) (by first | assumption | go_simp)
      have f1 := keepf bD (b := w.heap.size) (o := 1) (by first | (simp <;> omega) | exact cell_lt' (a := ⟨w.heap.size, 1, none⟩) (by assumption) | (simp; exact cell_lt' (a := ⟨w.heap.size, 1, none⟩) (by assumption))) (by first | assumption | go_simp)
      have j0 := keep bD (b := w2.heap.size) (o := 0) (x := .int .i64 b1) (by first | assumption | go_simp)
      have j1 := keep bD (b := w2.heap.size) (o := 1) (x := .int .i64 b2) (by first | assumption | go_simp)
      have B3 := on (on B2 (al _ _)) bD
      have hV := valueOf_any x n c0 V (b1, b2) _ (HA.out.below B3) hex
      clear bD B2 hz hmaj hex hen hrg2 HB T2 HD l2 hlt B1 hm
      refine wp_region_held_drew (S := fun v => v.cell? ⟨w2.heap.size, 0, none⟩ = some (.int .i64 b1) ∧ v.cell? ⟨w2.heap.size, 1, none⟩ = some (.int .i64 b2)) (by kernel_rfl) ⟨j0, j1⟩ (fun hHeld => ?_)
      generalize (w2.alloc (.cells #[.int .i64 b1, .int .i64 b2] 72)).drew = wD at *
      have l5 : w.heap.size < wD.heap.size := cell_lt' k0
      dsimp only [bt] at hV
      refine wpAnyH_take (i := 0) (v := ?_) rfl (by kernel_rfl) (by kernel_rfl) (by kernel_rfl) (fun _ _ _ h => h) (Or.inl ⟨by rfl, ?_⟩) (by assumption) ?_
      case refine_2 => (intro w hSw; (try dsimp only at hSw); go_simp; (try with_reducible rfl))
      (try simp only [Act.put, List.getElem_toArray, List.getElem_cons_succ, List.getElem_cons_zero, List.setIfInBounds_toArray, List.set_cons_zero, List.set_cons_succ])
      refine wpAnyH_take (i := 1) (v := ?_) rfl (by kernel_rfl) (by kernel_rfl) (by kernel_rfl) (fun _ _ _ h => h) (Or.inl ⟨by rfl, ?_⟩) (by assumption) ?_
      case refine_2 => (intro w hSw; (try dsimp only at hSw); go_simp; (try with_reducible rfl))
      (try simp only [Act.put, List.getElem_toArray, List.getElem_cons_succ, List.getElem_cons_zero, List.setIfInBounds_toArray, List.set_cons_zero, List.set_cons_succ])
      refine wpAnyH_take (i := 2) (v := ?_) rfl (by kernel_rfl) (by kernel_rfl) (by kernel_rfl) (fun _ _ _ h => h) (Or.inl ⟨by rfl, ?_⟩) (by assumption) ?_
      case refine_2 => (intro w hSw; (try dsimp only at hSw); go_simp; (try with_reducible rfl))
      (try simp only [Act.put, List.getElem_toArray, List.getElem_cons_succ, List.getElem_cons_zero, List.setIfInBounds_toArray, List.set_cons_zero, List.set_cons_succ])
      refine wpAnyH_ready (rs := [3]) (by kernel_rfl) (by simp) ?_
      refine AllReadyH.cons rfl (fun K hK => ?_) AllReadyH.nil
      go_simp
      refine hV.mono ?_
      rintro e w3 ⟨k, y, cy, rfl, H3⟩
      have k0 := keep H3.out.2.2.1 (b := w.heap.size) (o := 0) (x := .int .i64 0) (by first | assumption | go_simp)
      have k1 := keep H3.out.2.2.1 (b := w.heap.size) (o := 1) (x := .int .i64 0) (by first | assumption | go_simp)
      have f0 := keepf H3.out.2.2.1 (b := w.heap.size) (o := 0) (by first | (simp <;> omega) | exact cell_lt' (a := ⟨w.heap.size, 0, none⟩) (by assumption) | (simp; exact cell_lt' (a := ⟨w.heap.size, 0, none⟩) (by assumption))) (by first | assumption | go_simp)
      have f1 := keepf H3.out.2.2.1 (b := w.heap.size) (o := 1) (by first | (simp <;> omega) | exact cell_lt' (a := ⟨w.heap.size, 1, none⟩) (by assumption) | (simp; exact cell_lt' (a := ⟨w.heap.size, 1, none⟩) (by assumption))) (by first | assumption | go_simp)
      have j0 := keep H3.out.2.2.1 (b := w2.heap.size) (o := 0) (x := .int .i64 b1) (by first | assumption | go_simp)
      have j1 := keep H3.out.2.2.1 (b := w2.heap.size) (o := 1) (x := .int .i64 b2) (by first | assumption | go_simp)
      refine hK.out _ _ ⟨j0, j1⟩ (fun hHeld => ?_)
      clear hK K
      refine wpAnyH_ready (rs := [4]) (by kernel_rfl) (by simp) ?_
      refine AllReadyH.cons rfl (fun K hK => ?_) AllReadyH.nil
      go_simp
      refine hK.out _ _ ⟨by go_simp, by go_simp⟩ (fun hHeld => ?_)
      clear hK K
      refine wpAnyH_take (i := 5) (v := ?_) rfl (by kernel_rfl) (by kernel_rfl) (by kernel_rfl) (fun _ _ _ h => h) (Or.inl ⟨by rfl, ?_⟩) (by assumption) ?_
      case refine_2 => (intro w hSw; (try dsimp only at hSw); go_simp; (try with_reducible rfl))
      (try simp only [Act.put, List.getElem_toArray, List.getElem_cons_succ, List.getElem_cons_zero, List.setIfInBounds_toArray, List.set_cons_zero, List.set_cons_succ])
      refine wpAnyH_take (i := 6) (v := ?_) rfl (by kernel_rfl) (by kernel_rfl) (by kernel_rfl) (fun _ _ _ h => h) (Or.inl ⟨by rfl, ?_⟩) (by assumption) ?_
      case refine_2 => (intro w hSw; (try dsimp only at hSw); go_simp; (try with_reducible rfl))
      (try simp only [Act.put, List.getElem_toArray, List.getElem_cons_succ, List.getElem_cons_zero, List.setIfInBounds_toArray, List.set_cons_zero, List.set_cons_succ])
      refine wpAnyH_done (by kernel_rfl) ?_ _
      go_wp2_with fail
      refine bodyPost_ret (v := .tuple #[.agg #[.int .i64 b1, .int .i64 b2], .slice y (V k).n cy, .bool true]) ?_ rfl (.inr ⟨(b1, b2), k, y, cy, rfl, ⟨HM.out.1, HM.out.2, H3.out.1, H3.out.2.1⟩, Vl.turns B3 H3.out.2.2 ?_⟩)
      · rw [results_cell3 rfl]
        go_simp
      · exact (Turns.refl (fun k => w.heap.size ≤ k ∧ k < wD.heap.size) w3).set2 w.heap.size ⟨Nat.le_refl _, l5⟩ _ _
    · have hnm : ¬ ((n : Int) < 2 * c) := by omega
      have HK : Hid (JLeft V n (fun z => left z && !z.sameKey (blit (b1, b2)))) := fun b hb h => by
        show (left (blit b) && !(blit b).sameKey (blit (b1, b2))) = true
        rw [HJ2.out b hb h, Bool.true_and]
        have hne : blit b ≠ blit (b1, b2) := fun e => by
          have e2 := bk_inj hb HB.out.1 e
          rw [e2, ← HB.out.2] at h
          exact hnm h
        rw [Maps.sameKey_ne hne]
        rfl
      refine ⟨⟨_, _, hrg2.alloc _, T2.alloc _, HK.out⟩, ?_⟩
      rw [(hrg2.alloc _).left_eq, HW.out]
      exact hlt

end Go.Proofs.Ytdbahebhodoooaa.Px

/-
  A monitor that is alone comes to the end of the one value that waits: drive, start, urge, greet, Tick.
  Conditions: the monitor is one that New gave ('NdAt'), and was asked for one value.
-/
namespace Go.Proofs.Ytdbahebhodoooaa.Px
open Go.RowKit Wi By Fl Ba
set_option linter.unusedVariables false
set_option linter.unusedSimpArgs false
set_option maxRecDepth 100000

def nthA (L : List AccV) (i : Nat) : AccV := (L[i]?).getD noAv

theorem own_accs {w : World} {B : Nat} {x : Option Addr} {m c : Nat} {L : List AccV} (h : Own w B 74 5 encA (.slice x m c) L) (hL : L.length ≤ 1000) (hv : ∀ v ∈ L, AvOk w v) : m = L.length ∧ Accs w x m (nthA L) := by
  obtain ⟨x', c', e, _⟩ := h.form
  injection e with e1 e2 e3
  have hm : m = L.length := e2
  have hmem : ∀ i, i < L.length → nthA L i ∈ L ∧ L[i]? = some (nthA L i) := fun i hi => by
    have q : L[i]? = some (L[i]'hi) := List.getElem?_eq_getElem hi
    unfold nthA
    rw [q]
    exact ⟨List.getElem_mem hi, rfl⟩
  refine ⟨hm, ?_, fun i hi => ?_, fun i hi => ?_, by omega⟩
  · by_cases h0 : m = 0
    · exact .inl h0
    · obtain ⟨g, c2, e4, _, _, _, hg⟩ := h.there (fun e => h0 (by rw [hm, e]; rfl))
      injection e4 with e4 e5 e6
      subst e4
      refine .inr ⟨g, 0, rfl, hg, fun i hi => ?_⟩
      have q := (hmem i (by omega)).2
      rw [Nat.zero_add]
      have q0 := h.cell arow.len q (j := 0) (v := .int .i64 (nthA L i).p.1) rfl
      rw [Nat.add_zero] at q0
      exact ⟨q0, h.cell arow.len q (j := 1) rfl, h.cell arow.len q (j := 2) rfl, h.cell arow.len q (j := 3) rfl, h.cell arow.len q (j := 4) rfl⟩
  · have := hv _ (hmem i (by omega)).1
    exact ⟨this.sv.sl, by have := this.sv.sm; omega⟩
  · exact (hv _ (hmem i (by omega)).1).a

def d7 : Dc := ⟨0, 1, str [7]⟩
def st0 : Nd := proposed (fresh 0 1) (str [7])
def st1 : Nd := begun st0
def bd1 : Bd := ⟨1, (1, 0), [], fun _ => noAc⟩
def st2 : Nd := picked st1 bd1 d7
def bd2 : Bd := ⟨1, (1, 0), dbytes d7, fun _ => noAc⟩
def st3 : Nd := learned st2 d7

theorem d7_of : dOf 1 (dbytes d7) = some d7 := by rfl
theorem d7_ok : DOk d7 := ⟨by show 0 < _; omega, by show 1 < _; omega, by show (str [7]).size ≤ 4096; rw [str_size]; decide⟩
theorem d7_left : left d7 st2.wait = [] := by rfl
theorem d7_len : (dbytes d7).length ≠ 0 := by decide

/- How far it is: what is asked for, and whether with a value. -/
def bidPhase (w : World) (p : Nat) : Nat :=
  match w.cell? ⟨p, 6, none⟩ with
  | some (.pointer (some a)) => (match w.cell? ⟨a.block, 3, none⟩ with | some (.slice _ n _) => if n = 0 then 2 else 1 | _ => 1)
  | _ => 0

theorem phase_none {w : World} {B : Nat} {g : Ln} {st : Nd} (h : NdAt w B g st) (hb : st.bid = none) : bidPhase w g.p = 0 := by
  have hgb : g.b = none := by
    rcases h.bid with ⟨q, _⟩ | ⟨l, b, q1, q2, _⟩
    · exact q
    · rw [hb] at q2
      cases q2
  unfold bidPhase
  rw [h.c6, hgb]
  rfl

theorem phase_some {w : World} {B : Nat} {g : Ln} {st : Nd} (h : NdAt w B g st) (b : Bd) (hb : st.bid = some b) : bidPhase w g.p = if b.val.length = 0 then 2 else 1 := by
  rcases h.bid with ⟨_, q⟩ | ⟨l, b', q1, q2, q3, _⟩
  · rw [hb] at q
    cases q
  rw [hb] at q2
  injection q2 with q2
  subst q2
  have e3 : w.cell? ⟨l.bp, 3, none⟩ = some (.slice l.x l.n l.c) := q3.obj.cell (k := 3) (by omega)
  have hn : l.n = b.val.length := q3.val.sl.len.symm
  unfold bidPhase
  rw [h.c6, q1]
  dsimp only [bidV, Option.map]
  rw [e3]
  dsimp only
  rw [hn]

structure Ph (w wr : World) (B : Nat) (g : Ln) (ph : Nat) : Prop where
  goes : (ph = 2 ∧ Goes w wr B g st1 10) ∨ (ph = 1 ∧ Goes w wr B g st2 20) ∨ (ph = 0 ∧ Goes w wr B g st3 30)
  phase : bidPhase wr g.p = ph

section
variable {w : World} {B : Nat} {g : Ln}

theorem Goes.on {w w1 w2 : World} {B : Nat} {g g1 : Ln} {st2 : Nd} {k1 k2 k3 : Nat} (e : g1.p = g.p) (t : Turns (fp g) w w1) (hk : gnb g1 ≤ gnb g + k1) (hf : ∀ k, fp g1 k → fp g k ∨ w.heap.size ≤ k) (w9 : World) (b : Below w1.heap.size w1 w9) (h2 : Goes w9 w2 B g1 st2 k2) (h3 : k1 + k2 ≤ k3) : Goes w w2 B g st2 k3 :=
  (Goes.trans e (t.trans (Turns.of_below b)) hk hf h2).mono h3

theorem acOf_inj {v : AccV} {a : Ac} (h : acOf v = a) : v.p = a.p ∧ v.a = a.a ∧ v.d = a.d := by
  subst h
  exact ⟨rfl, rfl, rfl⟩

set_option maxHeartbeats 4800000 in
theorem drive_awake (h : NdAt w B g st1) (hgn : gnb g < 100000000000000000) :
    Calls Try.prog 52 #[.pointer (some ⟨g.p, 0, none⟩)] w fun e w' => e = .returned (.slice none 0 0) ∧ Hid (Goes w w' B g st3 30) := by
  have hap := app_nil
  have hpl := h.obj.lt
  have H0 : Hid (Ph w w B g 2) := ⟨.inl ⟨rfl, (Goes.same h (Below.refl _ _)).mono (by omega)⟩, phase_some h bd1 rfl⟩
  have Hg : Hid (gnb g < 100000000000000000) := hgn
  clear h hgn
  go_enter Try.func52, Try.ntmps52
  go_wp2_with fail
  go_loopw [3, 4, 5, 6, 7] (fun out _ _ _ _ wr => ∃ ph : Nat, ph ≤ 2 ∧ out = .slice none 0 0 ∧ Hid (Ph w wr B g ph)) (fun _ _ _ _ _ wr => bidPhase wr g.p)
  case atStart => exact ⟨2, by omega, rfl, H0.out⟩
  case round =>
    clear H0
    obtain ⟨ph, hph, rfl, HP⟩ := hrel
    have HM : Hid (bidPhase wr g.p = ph) := HP.out.phase
    rcases HP.out.goes with ⟨rfl, hG⟩ | ⟨rfl, hG⟩ | ⟨rfl, hG⟩
    · obtain ⟨g1, e1, k1, t1, n1, f1⟩ := hG
      have hS : Calls Try.prog 71 #[.pointer (some ⟨g.p, 0, none⟩)] wr fun e w' => ∃ (V : Nat → AccV), e = .returned (.slice (some ⟨wr.heap.size, 0, none⟩) 1 1) ∧ Hid (Below wr.heap.size wr w' ∧ Accs w' (some ⟨wr.heap.size, 0, none⟩) 1 V ∧ (V 0).a = z0) := by
        rw [← e1]
        refine (states_any k1 bd1 rfl (by show 1 ≤ 7; omega) (by show 0 < 1; omega) (by show 1 < _; omega)).mono fun e w' ⟨V, a1, a2⟩ => ⟨V, a1, a2.out.1, a2.out.2.1, ?_⟩
        exact (acOf_inj (a2.out.2.2 0 (by show 0 < 1; omega)).2).2.1
      have hC : Hid (∀ (w1 : World) (V : Nat → AccV), Hid (Below wr.heap.size wr w1 ∧ Accs w1 (some ⟨wr.heap.size, 0, none⟩) 1 V ∧ (V 0).a = z0) → Calls Try.prog 70 #[.slice (some ⟨wr.heap.size, 0, none⟩) 1 1] w1 fun e w' => e = .returned (.tuple #[.agg #[.int .i64 0, .int .i64 0], .slice none 0 0, .bool false]) ∧ Hid (Below wr.heap.size wr w')) := fun w1 V H1 => by
        refine (chosen_any _ 1 1 V w1 H1.out.2.1).mono fun e w' hh => ?_
        rcases hh with ⟨a1, a2⟩ | ⟨b, k, y, cy, a1, a2⟩
        · exact ⟨a1, Ba.on H1.out.1 a2.out.1⟩
        · have hk : k = 0 := by have := a2.out.1.2.2.1; omega
          subst hk
          exact absurd (a2.out.1.2.2.2.symm.trans H1.out.2.2) a2.out.1.1
      have hPr : Hid (∀ (w2 : World), Below wr.heap.size wr w2 → Calls Try.prog 73 #[.pointer (some ⟨g.p, 0, none⟩)] w2 fun e w' => ∃ (x : Option Addr) (c : Nat), e = .returned (.slice x 1 c) ∧ Hid (Below wr.heap.size wr w' ∧ ∃ V, Accs w' x 1 V ∧ ∀ i, i < 1 → (V i).a = z0)) := fun w2 b2 => by
        rw [← e1]
        refine (promised_any (k1.below b2) bd1 rfl (by show 1 ≤ 7; omega) (by show 0 < 1; omega) (by show 1 < _; omega)).mono fun e w' ⟨x, m, c, V, a1, a2⟩ => ?_
        obtain ⟨a3, a4, a5, a6⟩ := a2.out
        have hv0 := a6 0 (by show 0 < 1; omega)
        have hi := acOf_inj hv0.2
        have hp0 : (V 0).p = (1, 0) := hi.1
        have ha0 : (V 0).a = z0 := hi.2.1
        have hL : firstOf V bd1.bal st1.n = [V 0] := by
          show firstOf V (1, 0) 1 = [V 0]
          rw [firstOf_succ, hp0]
          rfl
        rw [hL] at a4 a5
        have hm : m = 1 := a4
        subst hm
        obtain ⟨_, hA⟩ := own_accs a5 (by simp) (fun v hv => by simp at hv; rw [hv]; exact hv0.1)
        refine ⟨x, c, a1, Ba.on b2 a3, _, hA, fun i hi => ?_⟩
        obtain rfl : i = 0 := by omega
        exact ha0
      have hPk : Hid (∀ (w3 : World) (x : Option Addr) (c : Nat), Hid (Below wr.heap.size wr w3 ∧ ∃ V, Accs w3 x 1 V ∧ ∀ i, i < 1 → (V i).a = z0) → Calls Try.prog 74 #[.pointer (some ⟨g.p, 0, none⟩), .slice x 1 c] w3 fun e w' => e = .returned (.slice none 0 0) ∧ Hid (Goes w w' B g st2 20)) := fun w3 x c H3 => by
        obtain ⟨b3, V, hA, hz⟩ := H3.out
        rw [← e1]
        exact (pick_one (k1.below b3) bd1 rfl rfl rfl d7 [] rfl x 1 c V hA hz rfl (by decide) (by show 1 < _; omega) (by have := Hg.out; omega)).mono fun e w' ⟨a1, a2⟩ => ⟨a1, Goes.on e1 t1 n1 f1 w3 b3 a2.out (by omega)⟩
      rcases k1.bid with ⟨_, q⟩ | ⟨l, b', q1, q2, q3, q4⟩
      · cases q
      have q2' : b' = bd1 := by injection q2 with q2; exact q2.symm
      subst q2'
      have hln : l.n = 0 := q3.val.sl.len.symm
      have hbl := q3.obj.lt
      have hpr : g.p < wr.heap.size := by rw [← e1]; exact k1.obj.lt
      have c6 : wr.cell? ⟨g.p, 6, none⟩ = some (.pointer (some ⟨l.bp, 0, none⟩)) := by rw [← e1, k1.c6, q1]; rfl
      have c1 : wr.cell? ⟨g.p, 1, none⟩ = some (.int .i64 1) := by rw [← e1]; exact k1.c1
      have d3 : wr.cell? ⟨l.bp, 3, none⟩ = some (.slice l.x 0 l.c) := by rw [← hln]; exact q3.obj.cell (k := 3) (by omega)
      clear k1 t1 n1 f1 q1 q2 q3 q4 hln HP
      generalize l.bp = bp at *
      generalize l.x = lx at *
      generalize l.c = lc at *
      go_wp2_with (first
        | (
           go_at_call 71; refine hS.mono ?_; rintro e w1 ⟨V, rfl, H1⟩; clear hS
           have hC1 := hC.out w1 V H1
           clear hC)
        | (
           go_at_call 70; refine hC1.mono ?_; rintro e w2 ⟨rfl, H2⟩; clear hC1
           have B2 := on H2.out (al w2 (.cells #[.int .i64 0, .int .i64 0] 72))
           have hP1 := hPr.out _ B2
           clear hPr H1)
        | (
           go_at_call 73; refine hP1.mono ?_; rintro e w3 ⟨x3, c3, rfl, H3⟩; clear hP1
           have s6 := keep H3.out.1 c6
           have s1 := keep H3.out.1 c1
           have s3 := keep H3.out.1 d3
           have hK1 := hPk.out w3 x3 c3 H3
           clear hPk c6 c1 d3)
        | (
           go_at_call 74; refine hK1.mono ?_; rintro e w4 ⟨rfl, H4⟩; clear hK1)
        | (
           at_builtin; refine wpList_append_run rfl _ _ 49 rfl _ _ rfl rfl (hap _) ?_))
      obtain ⟨g4, e4, k4, _⟩ := H4.out
      have hp4 : bidPhase w4 g.p = 1 := by rw [← e4, phase_some k4 bd2 rfl]; exact if_neg d7_len
      go_roundw
      case rel => exact ⟨1, by omega, rfl, .inr (.inl ⟨rfl, H4.out⟩), hp4⟩
      case measure =>
        have := HM.out
        simp
        omega
    · obtain ⟨g1, e1, k1, t1, n1, f1⟩ := hG
      have hS : Calls Try.prog 71 #[.pointer (some ⟨g.p, 0, none⟩)] wr fun e w' => ∃ (V : Nat → AccV), e = .returned (.slice (some ⟨wr.heap.size, 0, none⟩) 1 1) ∧ Hid (Below wr.heap.size wr w' ∧ Accs w' (some ⟨wr.heap.size, 0, none⟩) 1 V ∧ (V 0).a = (1, 0) ∧ (V 0).d = dbytes d7 ∧ (V 0).n ≤ 5000) := by
        rw [← e1]
        refine (states_any k1 bd2 rfl (by show 1 ≤ 7; omega) (by show 0 < 1; omega) (by show 1 < _; omega)).mono fun e w' ⟨V, a1, a2⟩ => ⟨V, a1, a2.out.1, a2.out.2.1, ?_⟩
        have hv0 := a2.out.2.2 0 (by show 0 < 1; omega)
        have hi := acOf_inj hv0.2
        exact ⟨hi.2.1, hi.2.2, hv0.1.sv.sm⟩
      have hC : Hid (∀ (w1 : World) (V : Nat → AccV), Hid (Below wr.heap.size wr w1 ∧ Accs w1 (some ⟨wr.heap.size, 0, none⟩) 1 V ∧ (V 0).a = (1, 0) ∧ (V 0).d = dbytes d7 ∧ (V 0).n ≤ 5000) → Calls Try.prog 70 #[.slice (some ⟨wr.heap.size, 0, none⟩) 1 1] w1 fun e w' => ∃ (y : Option Addr) (n cy : Nat), e = .returned (.tuple #[.agg #[.int .i64 1, .int .i64 0], .slice y n cy, .bool true]) ∧ Hid (Below wr.heap.size wr w' ∧ Fl.Sl w' y n cy (dbytes d7) ∧ n ≤ 5000)) := fun w1 V H1 => by
        obtain ⟨b1, hA, ha, hd, hn⟩ := H1.out
        refine (chosen_any _ 1 1 V w1 hA).mono fun e w' hh => ?_
        rcases hh with ⟨a1, a2⟩ | ⟨b, k, y, cy, a1, a2⟩
        · exfalso
          refine a2.out.2 (1, 0) ⟨wfi_all (a := 1) (by omega) (by omega), wfi_all (a := 0) (by omega) (by omega)⟩ ?_
          have e0 : cntA V 1 (1, 0) = 1 := by
            unfold cntA
            rw [if_neg (by decide)]
            simp [cnt, ha]
          rw [e0]
          omega
        · have hk : k = 0 := by have := a2.out.1.2.2.1; omega
          subst hk
          have hb : b = (1, 0) := a2.out.1.2.2.2.symm.trans ha
          subst hb
          refine ⟨y, (V 0).n, cy, a1, Ba.on b1 a2.out.2.1, ?_, hn⟩
          rw [← hd]
          exact a2.out.2.2.1
      have hSe : Hid (∀ (w2 : World) (y : Option Addr) (n cy : Nat), Below wr.heap.size wr w2 → Fl.Sl w2 y n cy (dbytes d7) → n ≤ 5000 → Calls Try.prog 72 #[.pointer (some ⟨g.p, 0, none⟩), .slice y n cy] w2 fun e w' => e = .returned (.slice none 0 0) ∧ Hid (Goes w w' B g st3 30)) := fun w2 y n cy b2 hl hn => by
        rw [← e1]
        exact (settle_one (k1.below b2) rfl rfl d7 y n cy (dbytes d7) hl hn d7_of d7_ok (by show 0 < 70000; omega) d7_left).mono fun e w' ⟨a1, a2⟩ => ⟨a1, Goes.on e1 t1 n1 f1 w2 b2 a2.out (by omega)⟩
      rcases k1.bid with ⟨_, q⟩ | ⟨l, b', q1, q2, q3, q4⟩
      · cases q
      have hpr : g.p < wr.heap.size := by rw [← e1]; exact k1.obj.lt
      have c6 : wr.cell? ⟨g.p, 6, none⟩ = some (.pointer (some ⟨l.bp, 0, none⟩)) := by rw [← e1, k1.c6, q1]; rfl
      clear k1 t1 n1 f1 q1 q2 q3 q4 HP
      generalize l.bp = bp at *
      go_wp2_with (first
        | (
           go_at_call 71; refine hS.mono ?_; rintro e w1 ⟨V, rfl, H1⟩; clear hS
           have hC1 := hC.out w1 V H1
           clear hC)
        | (
           go_at_call 70; refine hC1.mono ?_; rintro e w2 ⟨y2, n2, c2, rfl, H2⟩; clear hC1
           have B2 := on H2.out.1 (al w2 (.cells #[.int .i64 1, .int .i64 0] 72))
           have hT1 := hSe.out _ y2 n2 c2 B2 (H2.out.2.1.below (al _ _)) H2.out.2.2
           clear hSe H1)
        | (
           go_at_call 72; refine hT1.mono ?_; rintro e w4 ⟨rfl, H4⟩; clear hT1)
        | (
           at_builtin; refine wpList_append_run rfl _ _ 49 rfl _ _ rfl rfl (hap _) ?_))
      obtain ⟨g4, e4, k4, _⟩ := H4.out
      have hp4 : bidPhase w4 g.p = 0 := by rw [← e4]; exact phase_none k4 rfl
      go_roundw
      case rel => exact ⟨0, by omega, rfl, .inr (.inr ⟨rfl, H4.out⟩), hp4⟩
      case measure =>
        have := HM.out
        simp
        omega
    · obtain ⟨g1, e1, k1, t1, n1, f1⟩ := hG
      have hgb : g1.b = none := by
        rcases k1.bid with ⟨q, _⟩ | ⟨l, b, q1, q2, _⟩
        · exact q
        · cases q2
      have c6 : wr.cell? ⟨g.p, 6, none⟩ = some (.pointer none) := by rw [← e1, k1.c6, hgb]; rfl
      have HG : Hid (Goes w wr B g st3 30) := ⟨g1, e1, k1, t1, n1, f1⟩
      clear k1 t1 n1 f1 HP hgb e1
      go_wp2_with fail
      go_ret
      exact ⟨rfl, HG.out⟩

theorem start_awake (h : NdAt w B g st0) (hgn : gnb g < 10000000000000000) :
    Calls Try.prog 37 #[.pointer (some ⟨g.p, 0, none⟩)] w fun e w' => e = .returned (.slice none 0 0) ∧ Hid (Goes w w' B g st3 40) := by
  have hap := app_nil
  have hB := begin_one h rfl rfl rfl (by show ([] ++ [(⟨0, 1, str [7]⟩ : Dc)]) ≠ []; simp) rfl (by omega)
  have HD : Hid (∀ w1, Hid (Goes w w1 B g (begun st0) 1) → Calls Try.prog 52 #[.pointer (some ⟨g.p, 0, none⟩)] w1 fun e w' => e = .returned (.slice none 0 0) ∧ Hid (Goes w w' B g st3 40)) := fun w1 H1 => by
    obtain ⟨g1, e1, k1, t1, n1, f1⟩ := H1.out
    rw [← e1]
    exact (drive_awake k1 (by omega)).mono fun e w' ⟨a1, a2⟩ => ⟨a1, (Goes.trans e1 t1 n1 f1 a2.out).mono (by omega)⟩
  clear h hgn
  go_enter Try.func37, Try.ntmps37
  go_wp2_with (first
    | (
       go_at_call 57; refine hB.mono ?_; rintro e w1 ⟨rfl, H1⟩; clear hB
       have hD := HD.out w1 H1
       clear HD)
    | (
       go_at_call 52; refine hD.mono ?_; rintro e w2 ⟨rfl, H2⟩; clear hD)
    | (
       at_builtin; refine wpList_append_run rfl _ _ 49 rfl _ _ rfl rfl (hap _) ?_))
  go_ret
  exact ⟨rfl, H2.out⟩

theorem tick_awake (h : NdAt w B g st0) (hgn : gnb g < 10000000000000000) :
    Calls Try.prog 19 #[.pointer (some ⟨g.p, 0, none⟩)] w fun e w' => e = .returned (.slice none 0 0) ∧ Hid (Goes w w' B g st3 40) := by
  have hap := app_nil
  have hM := made_yes h
  have hgb : g.b = none := by
    rcases h.bid with ⟨q, _⟩ | ⟨l, b, q1, q2, _⟩
    · exact q
    · cases q2
  have c6 : w.cell? ⟨g.p, 6, none⟩ = some (.pointer none) := by rw [h.c6, hgb]; rfl
  have c1 : w.cell? ⟨g.p, 1, none⟩ = some (.int .i64 1) := h.c1
  have hS := start_awake h hgn
  have hG : Calls Try.prog 27 #[.pointer (some ⟨g.p, 0, none⟩)] w fun e w' => e = .returned (.slice none 0 0) ∧ w' = w := by
    clear h hgn hM hS hgb hap
    go_enter Try.func27, Try.ntmps27
    go_wp2_with fail
    go_ret
    exact ⟨rfl, rfl⟩
  have hU : Calls Try.prog 28 #[.pointer (some ⟨g.p, 0, none⟩)] w fun e w' => e = .returned (.slice none 0 0) ∧ Hid (Goes w w' B g st3 40) := by
    clear h hgn hM hG hgb hap
    go_enter Try.func28, Try.ntmps28
    go_wp2_with (first
      | (
         go_at_call 37; refine hS.mono ?_; rintro e w1 ⟨rfl, H1⟩; clear hS))
    go_ret
    exact ⟨rfl, H1.out⟩
  clear h hgn hS c6 c1 hgb
  go_enter Try.func19, Try.ntmps19
  go_wp2_with (first
    | (
       go_at_call 26; refine hM.mono ?_; rintro e w' ⟨rfl, hw⟩; subst w'; clear hM)
    | (
       go_at_call 27; refine hG.mono ?_; rintro e w' ⟨rfl, hw⟩; subst w'; clear hG)
    | (
       go_at_call 28; refine hU.mono ?_; rintro e w2 ⟨rfl, H2⟩; clear hU)
    | (
       at_builtin; refine wpList_append_run rfl _ _ 49 rfl _ _ rfl rfl (hap _) ?_))
  go_ret
  exact ⟨rfl, H2.out⟩

set_option maxHeartbeats 3200000 in
theorem awake_any (w : World) : Calls Try.prog 13 #[] w fun e w' => e = .returned (.bool true) ∧ Below w.heap.size w w' := by
  have hN := new_yes 0 1 w (by omega) (by omega) (by omega)
  have HP : Hid (∀ w1 g, g.p = w.heap.size + 1 → NdAt w1 w.heap.size g (fresh 0 1) → gnb g = 0 → Below w.heap.size w w1 → Calls Try.prog 16 #[.pointer (some ⟨w.heap.size + 1, 0, none⟩), .slice (some ⟨w1.heap.size, 0, none⟩) 1 1] (w1.alloc (.cells #[.int .u8 7] 5)) fun e w' => e = .returned (.int .i64 0) ∧ Hid (Below w.heap.size w w' ∧ ∃ g2, g2.p = w.heap.size + 1 ∧ NdAt w' w.heap.size g2 st0 ∧ gnb g2 = 0)) := fun w1 g e0 k1 hg b1 => by
    have bA := al w1 (.cells #[.int .u8 7] 5)
    have hl : Fl.Sl (w1.alloc (.cells #[.int .u8 7] 5)) (some ⟨w1.heap.size, 0, none⟩) 1 1 [7] := by
      refine ⟨rfl, Nat.le_refl _, (fun e => by cases e), .inr ⟨w1.heap.size, 0, rfl, by simp, fun i hi => ?_⟩, fun v hv => by simp at hv; omega⟩
      obtain rfl : i = 0 := by omega
      simp [Fl.gl]
    rw [← e0]
    refine (prop_yes (k1.below bA) _ 1 1 [7] hl (fun _ a ha hf => ?_) (by omega) (by show 0 < 256; omega) (by show 0 < _; omega) (by show 0 < 7; omega)).mono fun e w' ⟨a1, a2⟩ => ⟨a1, ?_⟩
    · cases ha
      have := (k1.u8 _ hf).1
      dsimp only at this
      omega
    · obtain ⟨g2, e2, k2, t2, n2, f2⟩ := a2.out
      have hB : ∀ k, fp g k → w.heap.size ≤ k := k1.low
      exact ⟨(on b1 bA).trans (t2.below hB (on b1 bA).size), g2, e2, k2, by omega⟩
  have HT : Hid (∀ w1 g, g.p = w.heap.size + 1 → NdAt w1 w.heap.size g st0 → gnb g = 0 → Below w.heap.size w w1 → Calls Try.prog 19 #[.pointer (some ⟨w.heap.size + 1, 0, none⟩)] w1 fun e w' => e = .returned (.slice none 0 0) ∧ Hid (Below w.heap.size w w' ∧ ∃ g2, g2.p = w.heap.size + 1 ∧ NdAt w' w.heap.size g2 st3)) := fun w1 g e0 k1 hg b1 => by
    rw [← e0]
    refine (tick_awake k1 (by omega)).mono fun e w' ⟨a1, a2⟩ => ⟨a1, ?_⟩
    obtain ⟨g2, e2, k2, t2, n2, f2⟩ := a2.out
    exact ⟨b1.trans (t2.below k1.low b1.size), g2, e2, k2⟩
  go_enter Try.func13, Try.ntmps13
  go_wp2_with (first
    | (
       go_at_call 21; refine hN.mono ?_; rintro e w1 ⟨rfl, H1⟩; clear hN
       obtain ⟨b1, g1, e1, k1, n1⟩ := H1.out
       have hP := HP.out w1 g1 e1 k1 n1 b1
       clear HP H1 b1 e1 k1 n1)
    | (
       go_at_call 16; refine hP.mono ?_; rintro e w2 ⟨rfl, H2⟩; clear hP
       obtain ⟨b2, g2, e2, k2, n2⟩ := H2.out
       have hT := HT.out w2 g2 e2 k2 n2 b2
       clear HT H2 b2 e2 k2 n2)
    | (
       go_at_call 19; refine hT.mono ?_; rintro e w3 ⟨rfl, H3⟩; clear hT
       obtain ⟨b3, g3, e3, k3⟩ := H3.out
       have hGt := get_yes k3 0 d7 rfl
       rw [e3] at hGt
       clear b3 k3 e3)
    | (
       go_at_call 24; refine hGt.mono ?_; rintro e w4 ⟨y4, m4, c4, rfl, H4⟩; clear hGt
       obtain ⟨b3, g3', e3, k3⟩ := H3.out
       have hm : m4 = 1 := by rw [H4.out.1]; show (str [7]).size = 1; rw [str_size]; rfl
       subst hm
       have hr := H4.out.2.2.1.row
       obtain ⟨gb, go, rfl, hgl, hgc⟩ := hr.resolve_left (by omega)
       have c7 : w4.cell? ⟨gb, go, none⟩ = some (.int .u8 7) := by
         have q := hgc 0 (by omega)
         rw [Nat.add_zero] at q
         rw [q]
         rfl
       have hLn := len_any (k3.below H4.out.2.1)
       rw [e3] at hLn
       have B4 := on b3 H4.out.2.1
       clear H3 H4 hgc hgl k3 e3 b3 hr)
    | (
       go_at_call 12; refine hLn.mono ?_; rintro e w' ⟨rfl, hw⟩; subst w'; clear hLn))
  go_ret
  exact ⟨by rfl, B4⟩

end

end Go.Proofs.Ytdbahebhodoooaa.Px

/-
  What a monitor without a bid makes of states that it is told, of how many decrees another one knows; start, where nothing waits.
  Conditions: the monitor is one that New gave ('NdAt'), without a bid.
-/
namespace Go.Proofs.Ytdbahebhodoooaa.Px
open Go.RowKit Wi By Fl Ba
set_option linter.unusedVariables false
set_option linter.unusedSimpArgs false
set_option maxRecDepth 100000

section
variable {w : World} {B : Nat} {g : Ln} {st : Nd}

theorem NdAt.nob (h : NdAt w B g st) (hb : st.bid = none) : w.cell? ⟨g.p, 6, none⟩ = some (.pointer none) := by
  have hgb : g.b = none := by
    rcases h.bid with ⟨q, _⟩ | ⟨l, b, q1, q2, _⟩
    · exact q
    · rw [hb] at q2
      cases q2
  rw [h.c6, hgb]
  rfl

set_option maxHeartbeats 1600000 in
theorem hear_idle (h : NdAt w B g st) (hb : st.bid = none) (fr : Int) (v0 v1 v2 v3 v4 v5 v6 v7 v8 : Value) :
    Calls Try.prog 31 #[.pointer (some ⟨g.p, 0, none⟩), .int .i64 fr, .agg #[v0, v1, v2, v3, v4, v5, v6, v7, v8]] w fun e w' => e = .returned (.slice none 0 0) ∧ Hid (Below w.heap.size w w') := by
  have c6 := h.nob hb
  have hpl := h.obj.lt
  have bD : Below w.heap.size w (w.alloc (.cells #[v0, v1, v2, v3, v4, v5, v6, v7, v8] 76)).drew := on (al _ _) (Below.refl _ _).drew
  have s6 := keep bD c6
  have hpe : ∀ W : World, (binOp .eql 61 (.pointer none) (.pointer none)).run Try.prog W = .ok (.bool true) W := fun _ => by kernel_rfl
  clear h hb
  generalize g.p = p at *
  go_enter Try.func31, Try.ntmps31
  go_wp2_with fail
  refine wp_region_held_drew (S := fun q => q.cell? ⟨p, 6, none⟩ = some (.pointer none)) (by kernel_rfl) s6 (fun hHeld => ?_)
  generalize (w.alloc (.cells #[v0, v1, v2, v3, v4, v5, v6, v7, v8] 76)).drew = wD at *
  refine wpAnyH_take (i := 0) (v := ?_) rfl (by kernel_rfl) (by kernel_rfl) (by kernel_rfl) (fun _ _ _ h => h) (Or.inl ⟨by rfl, ?_⟩) (by assumption) ?_
  case refine_2 => (intro w hSw; (try dsimp only at hSw); go_simp; (try with_reducible rfl))
  (try simp only [Act.put, List.getElem_toArray, List.getElem_cons_succ, List.getElem_cons_zero, List.setIfInBounds_toArray, List.set_cons_zero, List.set_cons_succ])
  refine wpAnyH_take (i := 1) (v := ?_) rfl (by kernel_rfl) (by kernel_rfl) (by kernel_rfl) (fun _ _ _ h => h) (Or.inl ⟨by rfl, ?_⟩) (by assumption) ?_
  case refine_2 => (intro w hSw; (try dsimp only at hSw); go_simp; (try with_reducible rfl))
  (try simp only [Act.put, List.getElem_toArray, List.getElem_cons_succ, List.getElem_cons_zero, List.setIfInBounds_toArray, List.set_cons_zero, List.set_cons_succ])
  refine wpAnyH_take (i := 2) (v := ?_) rfl (by kernel_rfl) (by kernel_rfl) (by kernel_rfl) (fun _ _ _ h => h) (Or.inl ⟨by rfl, ?_⟩) (by assumption) ?_
  case refine_2 => (intro w hSw; (try dsimp only at hSw); go_simp; (try with_reducible rfl))
  (try simp only [Act.put, List.getElem_toArray, List.getElem_cons_succ, List.getElem_cons_zero, List.setIfInBounds_toArray, List.set_cons_zero, List.set_cons_succ])
  refine wpAnyH_take (i := 3) (v := ?_) rfl (by kernel_rfl) (by kernel_rfl) (by kernel_rfl) (fun _ _ _ h => h) (Or.inl ⟨by rfl, ?_⟩) (by assumption) ?_
  case refine_2 => (intro w hSw; (try dsimp only at hSw); go_simp; (try with_reducible rfl))
  (try simp only [Act.put, List.getElem_toArray, List.getElem_cons_succ, List.getElem_cons_zero, List.setIfInBounds_toArray, List.set_cons_zero, List.set_cons_succ])
  refine wpAnyH_take (i := 4) (v := ?_) rfl (by kernel_rfl) (by kernel_rfl) (by kernel_rfl) (fun _ _ _ h => h) (Or.inl ⟨by rfl, ?_⟩) (by assumption) ?_
  case refine_2 => (intro w hSw; (try dsimp only at hSw); go_simp; (try with_reducible rfl))
  (try simp only [Act.put, List.getElem_toArray, List.getElem_cons_succ, List.getElem_cons_zero, List.setIfInBounds_toArray, List.set_cons_zero, List.set_cons_succ])
  refine wpAnyH_take (i := 5) (v := ?_) rfl (by kernel_rfl) (by kernel_rfl) (by kernel_rfl) (fun _ _ _ h => h) (Or.inl ⟨by rfl, ?_⟩) (by assumption) ?_
  case refine_2 => (intro w hSw; (try dsimp only at hSw); go_simp; (try with_reducible rfl))
  (try simp only [Act.put, List.getElem_toArray, List.getElem_cons_succ, List.getElem_cons_zero, List.setIfInBounds_toArray, List.set_cons_zero, List.set_cons_succ])
  refine wpAnyH_take (i := 6) (v := undef) rfl (by kernel_rfl) (by kernel_rfl) (by kernel_rfl) (fun _ _ _ h => h) (Or.inr ⟨by rfl, rfl⟩) (by assumption) ?_
  (try simp only [Act.put, List.getElem_toArray, List.getElem_cons_succ, List.getElem_cons_zero, List.setIfInBounds_toArray, List.set_cons_zero, List.set_cons_succ])
  refine wpAnyH_take (i := 7) (v := undef) rfl (by kernel_rfl) (by kernel_rfl) (by kernel_rfl) (fun _ _ _ h => h) (Or.inr ⟨by rfl, rfl⟩) (by assumption) ?_
  (try simp only [Act.put, List.getElem_toArray, List.getElem_cons_succ, List.getElem_cons_zero, List.setIfInBounds_toArray, List.set_cons_zero, List.set_cons_succ])
  refine wpAnyH_take (i := 8) (v := undef) rfl (by kernel_rfl) (by kernel_rfl) (by kernel_rfl) (fun _ _ _ h => h) (Or.inr ⟨by rfl, rfl⟩) (by assumption) ?_
  (try simp only [Act.put, List.getElem_toArray, List.getElem_cons_succ, List.getElem_cons_zero, List.setIfInBounds_toArray, List.set_cons_zero, List.set_cons_succ])
  refine wpAnyH_take (i := 9) (v := undef) rfl (by kernel_rfl) (by kernel_rfl) (by kernel_rfl) (fun _ _ _ h => h) (Or.inr ⟨by rfl, rfl⟩) (by assumption) ?_
  (try simp only [Act.put, List.getElem_toArray, List.getElem_cons_succ, List.getElem_cons_zero, List.setIfInBounds_toArray, List.set_cons_zero, List.set_cons_succ])
  refine wpAnyH_take (i := 10) (v := undef) rfl (by kernel_rfl) (by kernel_rfl) (by kernel_rfl) (fun _ _ _ h => h) (Or.inr ⟨by rfl, rfl⟩) (by assumption) ?_
  (try simp only [Act.put, List.getElem_toArray, List.getElem_cons_succ, List.getElem_cons_zero, List.setIfInBounds_toArray, List.set_cons_zero, List.set_cons_succ])
  refine wpAnyH_take (i := 11) (v := undef) rfl (by kernel_rfl) (by kernel_rfl) (by kernel_rfl) (fun _ _ _ h => h) (Or.inr ⟨by rfl, rfl⟩) (by assumption) ?_
  (try simp only [Act.put, List.getElem_toArray, List.getElem_cons_succ, List.getElem_cons_zero, List.setIfInBounds_toArray, List.set_cons_zero, List.set_cons_succ])
  refine wpAnyH_take (i := 12) (v := undef) rfl (by kernel_rfl) (by kernel_rfl) (by kernel_rfl) (fun _ _ _ h => h) (Or.inr ⟨by rfl, rfl⟩) (by assumption) ?_
  (try simp only [Act.put, List.getElem_toArray, List.getElem_cons_succ, List.getElem_cons_zero, List.setIfInBounds_toArray, List.set_cons_zero, List.set_cons_succ])
  refine wpAnyH_take (i := 13) (v := undef) rfl (by kernel_rfl) (by kernel_rfl) (by kernel_rfl) (fun _ _ _ h => h) (Or.inr ⟨by rfl, rfl⟩) (by assumption) ?_
  (try simp only [Act.put, List.getElem_toArray, List.getElem_cons_succ, List.getElem_cons_zero, List.setIfInBounds_toArray, List.set_cons_zero, List.set_cons_succ])
  refine wpAnyH_take (i := 14) (v := undef) rfl (by kernel_rfl) (by kernel_rfl) (by kernel_rfl) (fun _ _ _ h => h) (Or.inr ⟨by rfl, rfl⟩) (by assumption) ?_
  (try simp only [Act.put, List.getElem_toArray, List.getElem_cons_succ, List.getElem_cons_zero, List.setIfInBounds_toArray, List.set_cons_zero, List.set_cons_succ])
  refine wpAnyH_take (i := 15) (v := undef) rfl (by kernel_rfl) (by kernel_rfl) (by kernel_rfl) (fun _ _ _ h => h) (Or.inr ⟨by rfl, rfl⟩) (by assumption) ?_
  (try simp only [Act.put, List.getElem_toArray, List.getElem_cons_succ, List.getElem_cons_zero, List.setIfInBounds_toArray, List.set_cons_zero, List.set_cons_succ])
  refine wpAnyH_take (i := 16) (v := ?_) rfl (by kernel_rfl) (by kernel_rfl) (by kernel_rfl) (fun _ _ _ h => h) (Or.inl ⟨by rfl, ?_⟩) (by assumption) ?_
  case refine_2 => (intro w hSw; (try dsimp only at hSw); go_simp; (try with_reducible rfl))
  (try simp only [Act.put, List.getElem_toArray, List.getElem_cons_succ, List.getElem_cons_zero, List.setIfInBounds_toArray, List.set_cons_zero, List.set_cons_succ])
  refine wpAnyH_done (by kernel_rfl) ?_ _
  go_wp2_with fail
  go_ret
  exact ⟨rfl, bD⟩

theorem drive_idle (h : NdAt w B g st) (hb : st.bid = none) : Calls Try.prog 52 #[.pointer (some ⟨g.p, 0, none⟩)] w fun e w' => e = .returned (.slice none 0 0) ∧ w' = w := by
  have c6 := h.nob hb
  clear h hb
  go_enter Try.func52, Try.ntmps52
  go_wp2_with fail
  go_loopw [3, 4, 5, 6, 7] (fun out _ _ _ _ wr => out = .slice none 0 0 ∧ wr = w) (fun _ _ _ _ _ wr => 0)
  case atStart => exact ⟨rfl, rfl⟩
  case round =>
    obtain ⟨rfl, hw⟩ := hrel
    subst hw
    go_wp2_with fail
    go_ret
    exact ⟨rfl, rfl⟩

theorem start_idle (h : NdAt w B g st) (hb : st.bid = none) (hw : st.wait = []) : Calls Try.prog 37 #[.pointer (some ⟨g.p, 0, none⟩)] w fun e w' => e = .returned (.slice none 0 0) ∧ Hid (Below w.heap.size w w') := by
  have hap := app_nil
  have hB := begin_idle h hb hw
  have HD : Hid (∀ w1, Below w.heap.size w w1 → Calls Try.prog 52 #[.pointer (some ⟨g.p, 0, none⟩)] w1 fun e w' => e = .returned (.slice none 0 0) ∧ w' = w1) := fun w1 b1 => drive_idle (h.below b1) hb
  clear h hb hw
  go_enter Try.func37, Try.ntmps37
  go_wp2_with (first
    | (
       go_at_call 57; refine hB.mono ?_; rintro e w1 ⟨rfl, H1⟩; clear hB
       have hD := HD.out w1 H1.out
       clear HD)
    | (
       go_at_call 52; refine hD.mono ?_; rintro e w2 ⟨rfl, hw2⟩; subst w2; clear hD)
    | (
       at_builtin; refine wpList_append_run rfl _ _ 49 rfl _ _ rfl rfl (hap _) ?_))
  go_ret
  exact ⟨rfl, H1.out⟩

theorem compare_fresh (h : NdAt w B g st) (hd : st.dec = []) (hi : st.id < 7) (fr : Int) (kn : Nat) :
    Calls Try.prog 32 #[.pointer (some ⟨g.p, 0, none⟩), .int .i64 fr, .int .i64 kn] w fun e w' => ∃ y n c, e = .returned (.slice y n c) ∧ Hid (Below w.heap.size w w') := by
  have c2 := h.c2
  obtain ⟨x, c, e, _⟩ := h.rd
  rw [e, hd] at c2
  have hS := say_any h hi fr
  clear h e hd
  dsimp only [List.length_nil] at c2
  by_cases hk : kn = 0
  · subst hk
    clear hS
    go_enter Try.func32, Try.ntmps32
    go_wp2_with fail
    go_ret
    exact ⟨none, 0, 0, rfl, Below.refl _ _⟩
  · have i1 : ¬ (kn : Int) < 0 := by omega
    have i2 : (0 : Int) < (kn : Int) := by omega
    go_enter Try.func32, Try.ntmps32
    go_wp2_with (first
      | (
         go_at_call 34; refine hS.mono ?_; rintro e w1 ⟨z, l, cz, rfl, H1⟩; clear hS))
    go_ret
    exact ⟨_, _, _, rfl, on H1.out.2.1 (al _ _)⟩

end

end Go.Proofs.Ytdbahebhodoooaa.Px

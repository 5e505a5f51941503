/-
  2 texts of this proof, one behind the other: PxStartG, PxLaw.
-/
import Derived.Test.YtfgfjfemaniaiaaJ27
import Derived.Test.YtfgfjfemaniaiaaJ01
import Derived.Test.YtfgfjfemaniaiaaJ26
import Derived.Test.YtfgfjfemaniaiaaJ20
import Derived.OpenShut
import Derived.Deep.OwnRows
/-
  The statement's begin: some new monitors.
  Conditions: none.
-/
namespace Go.Proofs.Ytfgfjfemaniaiaa.Px
open Go.RowKit Wi By Fl Ba
set_option linter.unusedVariables false
set_option linter.unusedSimpArgs false
set_option maxRecDepth 100000

theorem NdAt.base {w : World} {B B' : Nat} {g : Ln} {st : Nd} (h : NdAt w B' g st) (hB : B ≤ B') : NdAt w B g st :=
  ⟨h.obj, own_base h.dec hB, own_base h.wait hB, h.ne, h.acc, h.bid, fun k hk => Nat.le_trans hB (h.low k hk), h.dl, h.wl, h.dok, h.wok⟩

structure Bg (w : World) (B n k : Nat) (g : Gl) : Prop where
  obj : Blk w g.q 33 3 (obj3 g)
  lrow : Own w B 40 1 encP g.Rl ((List.range k).map fun i => (g.gs i).p)
  rw : g.Rw = .slice none 0 0
  sd : SaidAt w g.sm g.sn g.sD (fun _ => False)
  sn : g.sn = 0
  nd : ∀ i, i < k → NdAt w B (g.gs i) (fresh i n) ∧ gnb (g.gs i) = 0 ∧ ¬ fp (g.gs i) g.sm
  apart : ∀ i j, i < k → j < k → i ≠ j → ∀ a, fp (g.gs i) a → ¬ fp (g.gs j) a
  low : B ≤ g.q ∧ B ≤ g.sm

def g0 : Gh := ⟨fun _ _ => none, fun _ _ _ => False, fun _ _ => z0⟩

theorem fresh_ok {i n : Nat} (hi : i < n) (said : ByteArray → Prop) : NodeOk n said g0 (fresh i n) ∧ NB n (fresh i n) ∧ Rs n 2 (fresh i n) := by
  have hz : Sb n z0 := ⟨by decide, by decide, by decide, by show (0 : Int) < _; omega⟩
  refine ⟨⟨rfl, hi, fun j d q => by simp [fresh] at q, fun s _ => ⟨rfl, le_refl _, .inl rfl, fun b q => q.elim⟩, fun s _ => (by show mayA z0 z0 0 = true; decide), (fun b q => by cases q), (fun d q => by cases q)⟩, ⟨fun s _ => ⟨hz, hz⟩, fun b q => by cases q⟩, ⟨by show 0 ≤ 256; omega, by show 0 + 2 ≤ 2; omega, by show 0 < 1000000; omega, fun _ => ⟨by show 0 + 0 + 2 ≤ 2; omega, fun s _ => rfl⟩⟩⟩

section
variable {w w' : World} {B n k : Nat} {g : Gl}

theorem Bg.grp (h : Bg w B n n g) : Grp w B n g (fun i => fresh i n) [] (fun _ => False) g0 2 0 := by
  refine ⟨h.obj, h.lrow, by rw [h.rw]; exact Own.nil _ _ _ _ _, by simp, (fun m hm => by cases hm), h.sd, by rw [h.sn]; exact Nat.le_refl _, fun i hi => (h.nd i hi).1, fun i hi => ?_, GI.new n _, h.apart, fun i hi => (h.nd i hi).2.2, h.low⟩
  obtain ⟨a1, a2, a3⟩ := fresh_ok hi (fun _ => False)
  exact ⟨a1, a2, a3, rfl, Nat.le_refl _, by rw [(h.nd i hi).2.1]; exact Nat.zero_le _⟩

theorem Bg.turns {F : Nat → Prop} (h : Bg w B n k g) (t : Turns F w w') (hq : ¬ F g.q) (hl : ∀ j, g.Rl.ownBlock = some j → ¬ F j) (hs : ¬ F g.sm) (hn : ∀ i, i < k → ∀ j, fp (g.gs i) j → ¬ F j) (hu : ∀ j, F j → ¬ Tb w j 5) : Bg w' B n k g :=
  ⟨t.blk h.obj hq, h.lrow.turns t hl, h.rw, h.sd.turns t hs, h.sn, fun i hi => ⟨(h.nd i hi).1.turns t (hn i hi) hu, (h.nd i hi).2⟩, h.apart, h.low⟩

theorem Bg.below (h : Bg w B n k g) (b : Below w.heap.size w w') : Bg w' B n k g := h.turns (Turns.of_below (F := fun _ => False) b) (fun h => h) (fun _ _ h => h) (fun h => h) (fun _ _ _ _ h => h) (fun _ h => h.elim)

/- One monitor more. -/
theorem Bg.add (h : Bg w B n k g) {w1 : World} (b1 : Below w.heap.size w w1) {gk : Ln} (hg : NdAt w1 w.heap.size gk (fresh k n)) (hz : gnb gk = 0) (hk : k < 7) :
    ∃ x' c' w3, (Builtin.append_ #[29, 29] 29 #[g.Rl, .slice (some ⟨w1.heap.size, 0, none⟩) 1 1]).run Try.prog (w1.alloc (.cells #[.pointer (some ⟨gk.p, 0, none⟩)] 40)) = .ok (.slice x' (k + 1) c') w3 ∧ (w1.alloc (.cells #[.pointer (some ⟨gk.p, 0, none⟩)] 40)).cell? ⟨g.q, 0, none⟩ = some g.Rl ∧ w3.cell? ⟨g.q, 0, none⟩ = some g.Rl ∧ w3.frozen? ⟨g.q, 0, none⟩ = false ∧ Hid (∃ g', g'.q = g.q ∧ g'.Rl = .slice x' (k + 1) c' ∧ Bg (w3.setCell ⟨g.q, 0, none⟩ (.slice x' (k + 1) c')) B n (k + 1) g' ∧ Turns (fun j => B ≤ j) w (w3.setCell ⟨g.q, 0, none⟩ (.slice x' (k + 1) c'))) := by
  have hBw : B ≤ w.heap.size := Nat.le_trans h.low.1 (Nat.le_of_lt h.obj.lt)
  have b2 := al w1 (.cells #[.pointer (some ⟨gk.p, 0, none⟩)] 40)
  have h2 := (h.below b1).below b2
  have hlow : ∀ j, fp gk j → w.heap.size ≤ j := hg.low
  have hgB := (hg.below b2).base hBw
  obtain ⟨x', c', w3, hap, HO⟩ := h2.lrow.push nprow (by simp; have := b1.size; omega) ⟨w1.heap.size, 0, none⟩ 1 1 [gk.p] rfl (fun j u hj => by
    rw [add_at, Nat.zero_add]
    rw [flat_one] at hj
    match j, hj with
    | 0, hj => simpa [encP] using hj
    | j + 1, hj => simp [encP] at hj) (by simp; omega)
  obtain ⟨o3, t3, n3⟩ := HO.out
  simp only [List.length_map, List.length_range] at hap o3
  have ty3 : ∀ j, g.Rl.ownBlock = some j → Tb (w1.alloc (.cells #[.pointer (some ⟨gk.p, 0, none⟩)] 40)) j 40 := fun j hj => (h2.lrow.tb hj).2
  have u3 : ∀ j, g.Rl.ownBlock = some j → ¬ Tb (w1.alloc (.cells #[.pointer (some ⟨gk.p, 0, none⟩)] 40)) j 5 := fun j hj ht => by
    have := ht.same (ty3 j hj)
    revert this
    decide
  have nq : ¬ g.Rl.ownBlock = some g.q := fun e => by
    have := (ty3 _ e).same h2.obj.tb
    revert this
    decide
  have ns : ¬ g.Rl.ownBlock = some g.sm := fun e => (ty3 _ e).not_map h2.sd.isM
  have nn : ∀ (gg : Ln) (st : Nd), NdAt (w1.alloc (.cells #[.pointer (some ⟨gk.p, 0, none⟩)] 40)) B gg st → ∀ j, fp gg j → ¬ g.Rl.ownBlock = some j := fun gg st hN j hj e => by
    have := hN.ty j hj _ (ty3 j e)
    revert this
    decide
  have obj3_ := t3.blk h2.obj nq
  have sd3 := h2.sd.turns t3 ns
  have t4 : Turns (atB g.q) w3 (w3.setCell ⟨g.q, 0, none⟩ (.slice x' (k + 1) c')) := turns_put (Turns.refl _ _) 0 _
  have q8 : ∀ j, atB g.q j → ¬ Tb w3 j 5 := fun j hj ht => by
    have e : j = g.q := hj
    subst e
    have := ht.same obj3_.tb
    revert this
    decide
  have nq4 : ∀ (gg : Ln) (st : Nd), NdAt w3 B gg st → ∀ j, fp gg j → ¬ atB g.q j := fun gg st hN j hj e => by
    have e : j = g.q := e
    subst e
    have := hN.ty _ hj _ obj3_.tb
    revert this
    decide
  have keepN : ∀ (gg : Ln) (st : Nd), NdAt (w1.alloc (.cells #[.pointer (some ⟨gk.p, 0, none⟩)] 40)) B gg st → NdAt (w3.setCell ⟨g.q, 0, none⟩ (.slice x' (k + 1) c')) B gg st := fun gg st hN => by
    have h9 := hN.turns t3 (nn gg st hN) u3
    exact h9.turns t4 (nq4 gg st h9) q8
  have hsz : ∀ i, i < k → ∀ j, fp (g.gs i) j → j < w.heap.size := fun i hi j hj => ((h.nd i hi).1.u8 j hj).1
  refine ⟨x', c', w3, hap, h2.obj.cell (k := 0) (by omega), obj3_.cell (k := 0) (by omega), obj3_.frozen 0, { g with Rl := .slice x' (k + 1) c', gs := setF g.gs k gk }, rfl, rfl, ⟨(obj3_.set 0 _).congr (fun j hj => ?_), ?_, h.rw, sd3.turns t4 (fun e => ?_), h.sn, fun i hi => ?_, fun i j hi hj hij a ha1 ha2 => ?_, h.low⟩, (((Turns.of_below b1).trans (Turns.of_below b2)).trans (t3.weak (fun j hj => (h2.lrow.tb hj).1))).trans (t4.weak (fun j hj => by have e : j = g.q := hj; rw [e]; exact h.low.1))⟩
  · rcases j with _ | _ | _ | j <;> first | rfl | omega
  · have e : ((List.range (k + 1)).map fun i => (setF g.gs k gk i).p) = ((List.range k).map fun i => (g.gs i).p) ++ [gk.p] := by
      rw [List.range_succ, List.map_append]
      congr 1
      · exact List.map_congr_left fun j hj => by
          rw [setF_other _ _ (by have := List.mem_range.1 hj; omega)]
      · simp [setF_same]
    show Own _ B _ 1 encP (.slice x' (k + 1) c') ((List.range (k + 1)).map fun i => (setF g.gs k gk i).p)
    rw [e]
    exact o3.turns t4 (fun j hj e => by
      have e : j = g.q := e
      subst e
      have := (o3.tb hj).2.same obj3_.tb
      revert this
      decide)
  · have e : g.sm = g.q := e
    exact obj3_.tb.not_map (e ▸ sd3.isM)
  · show NdAt _ B (setF g.gs k gk i) (fresh i n) ∧ gnb (setF g.gs k gk i) = 0 ∧ ¬ fp (setF g.gs k gk i) g.sm
    by_cases e : i = k
    · subst e
      rw [setF_same]
      refine ⟨keepN _ _ hgB, hz, fun e9 => ?_⟩
      have := hlow _ e9
      have := h.sd.own.lt
      omega
    · rw [setF_other _ _ e]
      exact ⟨keepN _ _ (h2.nd i (by omega)).1, (h.nd i (by omega)).2⟩
  · have ha1 : fp (setF g.gs k gk i) a := ha1
    have ha2 : fp (setF g.gs k gk j) a := ha2
    by_cases e1 : i = k
    · rw [e1, setF_same] at ha1
      rw [setF_other _ _ (by omega)] at ha2
      have := hlow _ ha1
      have := hsz j (by omega) _ ha2
      omega
    · rw [setF_other _ _ e1] at ha1
      by_cases e2 : j = k
      · rw [e2, setF_same] at ha2
        have := hlow _ ha2
        have := hsz i (by omega) _ ha1
        omega
      · rw [setF_other _ _ e2] at ha2
        exact h.apart i j (by omega) (by omega) hij a ha1 ha2

set_option maxHeartbeats 3200000 in
theorem begin_grp (n : Nat) (h1 : 1 ≤ n) (hn : n ≤ 7) (w : World) :
    Calls Try.prog 8 #[.int .i64 (n : Int)] w fun e w' => ∃ q, e = .returned (.tuple #[.pointer (some ⟨q, 0, none⟩), .bool true]) ∧ Hid (∃ g, g.q = q ∧ Grp w' w.heap.size n g (fun i => fresh i n) [] (fun _ => False) g0 2 0 ∧ Below w.heap.size w w') := by
  have hmm := @run_makeMap Try.prog
  have hB0 : Bg ((w.alloc (.map #[] 0)).alloc (.cells #[.slice none 0 0, .slice none 0 0, .map (some w.heap.size)] 33)) w.heap.size n 0 ⟨w.heap.size + 1, .slice none 0 0, .slice none 0 0, w.heap.size, 0, .map [], fun _ => ⟨0, 0, 0, .map [], .slice none 0 0, .slice none 0 0, none⟩⟩ := by
    have b1 := al (w.alloc (.map #[] 0)) (.cells #[.slice none 0 0, .slice none 0 0, .map (some w.heap.size)] 33)
    refine ⟨?_, Own.nil _ _ _ _ _, rfl, (SaidAt.new w).turns (Turns.of_below (F := fun _ => False) b1) (fun h => h), rfl, (fun i hi => by omega), (fun i j hi => by omega), ⟨by show w.heap.size ≤ w.heap.size + 1; omega, Nat.le_refl _⟩⟩
    have := Blk.new (w.alloc (.map #[] 0)) 33 3 (obj3 ⟨w.heap.size + 1, .slice none 0 0, .slice none 0 0, w.heap.size, 0, .map [], fun _ => ⟨0, 0, 0, .map [], .slice none 0 0, .slice none 0 0, none⟩⟩) #[.slice none 0 0, .slice none 0 0, .map (some w.heap.size)] rfl
    have e : (w.alloc (.map #[] 0)).heap.size = w.heap.size + 1 := by simp
    rw [e] at this
    exact this
  have H0 : Hid (∃ g, g.q = w.heap.size + 1 ∧ Bg ((w.alloc (.map #[] 0)).alloc (.cells #[.slice none 0 0, .slice none 0 0, .map (some w.heap.size)] 33)) w.heap.size n 0 g ∧ Below w.heap.size w ((w.alloc (.map #[] 0)).alloc (.cells #[.slice none 0 0, .slice none 0 0, .map (some w.heap.size)] 33))) := ⟨_, rfl, hB0, on (al _ _) (al _ _)⟩
  clear hB0
  obtain ⟨q, hq⟩ : ∃ q, q = w.heap.size + 1 := ⟨_, rfl⟩
  have Hq := hid hq
  go_enter Try.func8, Try.ntmps8
  go_wp2_with fail
  go_loopw [5, 6, 7] (fun i _ _ wr => ∃ k : Nat, k ≤ n ∧ i = .int .i64 k ∧ Hid (∃ g, g.q = w.heap.size + 1 ∧ Bg wr w.heap.size n k g ∧ Below w.heap.size w wr)) (fun i _ _ _ => n - (intOf i).toNat)
  case atStart => exact ⟨0, by omega, rfl, H0.out⟩
  case round =>
    clear H0
    obtain ⟨k, hk, rfl, HR⟩ := hrel
    by_cases hlt : k < n
    · obtain ⟨g, hgq, hBg, hbw⟩ := HR.out
      have c0 : wr.cell? ⟨g.q, 0, none⟩ = some g.Rl := hBg.obj.cell (k := 0) (by omega)
      rw [hgq] at c0
      obtain ⟨xl, cl, hRl, _⟩ := hBg.lrow.form
      simp only [List.length_map, List.length_range] at hRl
      rw [hRl] at c0
      have hNw := new_yes k n wr h1 hn hlt
      have HG := hid (And.intro hBg (And.intro hbw (And.intro hRl hgq)))
      have ikn : (k : Int) < (n : Int) := by omega
      have hpe : ∀ (W : World) (b : Nat), (binOp .eql 40 (.pointer (some ⟨b, 0, none⟩)) (.pointer none)).run Try.prog W = .ok (.bool false) W := fun _ _ => by kernel_rfl
      have hqw : w.heap.size + 1 < wr.heap.size := by rw [← hgq]; exact hBg.obj.lt
      clear hBg hbw hRl hgq
      generalize w.heap.size + 1 = q at *
      obtain ⟨np, hnp⟩ : ∃ np, wr.heap.size + 1 = np := ⟨_, rfl⟩
      rw [hnp] at hNw
      go_wp2_with (first
        | (go_at_call 21; refine hNw.mono ?_; rintro e w1 ⟨rfl, H1⟩; clear hNw
           have d0 := keep H1.out.1 c0
           obtain ⟨x', c', w3, hap, b2, b3, b4, HN⟩ : ∃ x' c' w3, (Builtin.append_ #[29, 29] 29 #[.slice xl k cl, .slice (some ⟨w1.heap.size, 0, none⟩) 1 1]).run Try.prog (w1.alloc (.cells #[.pointer (some ⟨np, 0, none⟩)] 40)) = .ok (.slice x' (k + 1) c') w3 ∧ (w1.alloc (.cells #[.pointer (some ⟨np, 0, none⟩)] 40)).cell? ⟨q, 0, none⟩ = some (.slice xl k cl) ∧ w3.cell? ⟨q, 0, none⟩ = some (.slice xl k cl) ∧ w3.frozen? ⟨q, 0, none⟩ = false ∧ Hid (∃ g, g.q = q ∧ Bg (w3.setCell ⟨q, 0, none⟩ (.slice x' (k + 1) c')) w.heap.size n (k + 1) g ∧ Below w.heap.size w (w3.setCell ⟨q, 0, none⟩ (.slice x' (k + 1) c'))) := by
             obtain ⟨hBg, hbw, hRl, hgq⟩ := HG.out
             obtain ⟨b1, gk, e1, e2, e3⟩ := H1.out
             obtain ⟨x', c', w3, a1, a2, a3, a4, a5⟩ := hBg.add b1 e2 e3 (by omega)
             rw [e1, hRl] at a1
             rw [e1, hgq, hRl] at a2
             rw [hgq, hRl] at a3
             rw [hgq] at a4 a5
             obtain ⟨g', p1, p2, p3, p4⟩ := a5.out
             exact ⟨x', c', w3, a1, a2, a3, a4, g', p1, p3, hbw.trans (p4.below (fun _ h => h) hbw.size)⟩)
        | (at_builtin; refine wpList_append_run rfl _ _ 29 rfl _ _ rfl rfl hap ?_; clear hap))
      go_roundw
      case rel => exact ⟨k + 1, by omega, by go_num, HN.out⟩
      case measure => simp [intOf]; omega
    · obtain rfl : k = n := by omega
      have ikn : ¬ (k : Int) < (k : Int) := by omega
      go_wp2_with fail
      go_ret2
      obtain ⟨g, hgq, hBg, hbw⟩ := HR.out
      exact ⟨_, rfl, g, hgq, hBg.grp, hbw⟩

end

end Go.Proofs.Ytfgfjfemaniaiaa.Px

/-
  The theorem of agreement, as a walk through the statement.
  Conditions: none.
-/
namespace Go.Proofs.Ytfgfjfemaniaiaa.Px
open Go.RowKit Wi By Fl Ba
set_option linter.unusedVariables false
set_option linter.unusedSimpArgs false
set_option maxRecDepth 100000

def zerosI (m : Nat) : Array Value := madeCells #[.int .i64 0] m

theorem make_i (m : Nat) (hm : m ≤ 5000) (w : World) : (Instr.makeSlice 28 (.int .i64 (m : Int)) (.int .i64 (m : Int))).run Try.prog w = .ok (.slice (some ⟨w.heap.size, 0, none⟩) m m) (w.alloc (.cells (zerosI m) 3)) := by
  have hi : (Try.prog.info? 3).map (fun i => (i.zero, i.size, i.bytes)) = some (some (.int .i64 0), 1, 8) := by kernel_rfl
  exact run_make_row' (P := Try.prog) 28 3 (.int .i64 0) 8 Try.underlying28 hi rfl .i64 .i64 m (by omega) (by omega) w

def lgv (lo : Nat → Nat) : Nat → Value := fun i => .int .i64 (lo i : Int)

theorem zerosI_row (m : Nat) : zerosI m = (rowOf (lgv fun _ => 0) m).toArray := by
  apply Array.ext
  · unfold zerosI madeCells
    simp [rowOf]
  · intro i h1 h2
    unfold zerosI madeCells
    simp [rowOf, lgv, Nat.mod_one]

/- What stands at the head of the statement's loop. -/
def Top (w wr : World) (n q lg i : Nat) (R : Value) : Prop :=
  ∃ g sts W said G L lo, g.q = q ∧ Grp wr w.heap.size n g sts W said G (2 + 65 * i) i ∧ KnAt wr w.heap.size n G R L ∧ Blk wr lg 3 n (lgv lo) ∧ (∀ k, k < n → lo k ≤ (sts k).dec.length) ∧ Below w.heap.size w wr ∧ w.heap.size ≤ lg

/- What stands at the head of its inner loop. -/
def Mid (w wr : World) (n q lg i : Nat) (R : Value) (g : Gl) (sts : Nat → Nd) (W : List Wy) (said : ByteArray → Prop) (G : Gh) (lb lc : Nat) : Prop :=
  g.q = q ∧ g.Rl = .slice (some ⟨lb, 0, none⟩) n lc ∧ Grp wr w.heap.size n g sts W said G (2 + 65 * (i + 1)) (i + 1) ∧ (∃ L, KnAt wr w.heap.size n G R L) ∧ (∃ lo, Blk wr lg 3 n (lgv lo) ∧ ∀ k, k < n → lo k ≤ (sts k).dec.length) ∧ Below w.heap.size w wr ∧ w.heap.size ≤ lg

set_option maxHeartbeats 6400000 in
theorem agrees_walk (a0 : Int) (b1 : Option Addr) (nn1 cc1 : Nat) (V1 : Nat → ActV) (w : World) (hb0 : -9223372036854775808 ≤ a0 ∧ a0 ≤ 9223372036854775807) (w1 : ActsIn w b1 nn1 cc1 V1) :
    Calls Try.prog 3 #[.int .i64 a0, .slice b1 nn1 cc1] w fun e w' => e = .returned (.bool true) ∧ Below w.heap.size w w' := by
  have hAt := ati_any a0 7 (by omega) (by omega) (by omega) (by omega) w
  have HA := hid w1
  clear w1 hb0
  go_enter Try.func3, Try.ntmps3
  go_wp2_with (first
    | (go_at_call 9; refine hAt.mono ?_; rintro e w9 ⟨r, hr, rfl, hw9⟩; subst w9; clear hAt
       obtain ⟨n, hn⟩ : ∃ n, n = 1 + r := ⟨_, rfl⟩
       have h1 : 1 ≤ n := by omega
       have h7 : n ≤ 7 := by omega
       have e1 : 1 + (r : Int) = (n : Int) := by omega
       have hBe := begin_grp n h1 h7 w
       clear hn hr)
    | (go_at_call 8; refine hBe.mono ?_; rintro e w1 ⟨q, rfl, H1⟩; clear hBe
       obtain ⟨lb, lc, c0, HP⟩ : ∃ lb lc, w1.cell? ⟨q, 0, none⟩ = some (.slice (some ⟨lb, 0, none⟩) n lc) ∧ True := by
         obtain ⟨g, g1, g2, g3⟩ := H1.out
         obtain ⟨lb, lc, e, _⟩ := g2.ptr h1
         have c0 := g2.c0
         rw [e, g1] at c0
         exact ⟨lb, lc, c0, trivial⟩
       clear HP
       have hqw : q < w1.heap.size := cell_lt' c0
       have hMk := make_i n (by omega) (w1.alloc (.cells #[] 35))))
  have H0 : Hid (Top w ((w1.alloc (.cells #[] 35)).alloc (.cells (zerosI n) 3)) n q (w1.heap.size + 1) 0 (.slice (some ⟨w1.heap.size, 0, none⟩) 0 0)) := by
    obtain ⟨g, g1, g2, g3⟩ := H1.out
    have bb := on (al w1 (.cells #[] 35)) (al (w1.alloc (.cells #[] 35)) (.cells (zerosI n) 3))
    refine ⟨g, _, _, _, _, [], fun _ => 0, g1, g2.below bb, ⟨(Own.empty w1 g3.size _ _ _).below (al _ _), by simp, fun i v hv => by simp at hv⟩, ?_, fun k _ => Nat.zero_le _, g3.trans (bb.mono g3.size), by have := g3.size; omega⟩
    have := Blk.new (w1.alloc (.cells #[] 35)) 3 n (lgv fun _ => 0) (zerosI n) (zerosI_row n)
    have e : (w1.alloc (.cells #[] 35)).heap.size = w1.heap.size + 1 := by simp
    rw [e] at this
    exact this
  generalize (w1.alloc (.cells #[] 35)).alloc (.cells (zerosI n) 3) = W2 at *
  generalize w1.heap.size + 1 = lg at *
  clear H1 c0 hqw hMk
  go_loopw [6, 7, 9, 10] (fun _ R i _ wr => ∃ j : Nat, j ≤ 400 ∧ i = .int .i64 j ∧ Hid (Top w wr n q lg j R)) (fun _ _ i _ _ => 400 - (intOf i).toNat)
  case atStart => exact ⟨0, by omega, rfl, H0.out⟩
  case round =>
    clear H0
    obtain ⟨j, hj, rfl, HR⟩ := hrel
    have hsm : nn1 ≤ 140737488351232 := HA.out.small
    by_cases hgo : j < nn1 ∧ j < 400
    · obtain ⟨g1, g2⟩ := hgo
      have i1 : (j : Int) < (nn1 : Int) := by omega
      have i2 : (j : Int) < 400 := by omega
      obtain ⟨bb, oo, hb1, hbb, hcell⟩ := HA.out.row.resolve_left (by omega)
      subst hb1
      obtain ⟨m0, m1, m2⟩ := hcell j g1
      have hact := HA.out.act j g1
      have hbw : Below w.heap.size w wr := by obtain ⟨g, sts, W, said, G, L, lo, t1, t2, t3, t4, t5, t6, t7⟩ := HR.out; exact t6
      have n0 := keep hbw m0
      have n1 := keep hbw m1
      have n2 := keep hbw m2
      obtain ⟨v, hv⟩ : ∃ v, V1 j = v := ⟨_, rfl⟩
      rw [hv] at n0 n1 n2 hact
      clear hv
      obtain ⟨vd, va, vx, vn, vc, vl⟩ := v
      dsimp only at n0 n1 n2
      have HAct := hid hact
      have HCell := hid hcell
      have hDo : Calls Try.prog 10 #[.pointer (some ⟨q, 0, none⟩), .agg #[.int .i64 vd, .int .i64 va, .slice vx vn vc]] wr fun e w' => e = .returned (.bool true) ∧ Hid (∃ g sts W said G L lo R9, R9 = u7 ∧ g.q = q ∧ Grp w' w.heap.size n g sts W said G (2 + 65 * (j + 1)) (j + 1) ∧ KnAt w' w.heap.size n G u7 L ∧ Blk w' lg 3 n (lgv lo) ∧ (∀ k, k < n → lo k ≤ (sts k).dec.length) ∧ Below w.heap.size w w' ∧ w.heap.size ≤ lg) := by
        obtain ⟨g, sts, W, said, G, L, lo, t1, t2, t3, t4, t5, t6, t7⟩ := HR.out
        have hk := HAct.out
        have hwa : -9223372036854775808 ≤ va ∧ va ≤ 9223372036854775807 := bounds_i64 hk.ha
        have p := does_any t2 h1 h7 (by omega) (by omega) vd va (by omega) (by omega) vx vn vc vl (hk.sl.below t6) (fun hv0 ad had => by
          rcases hk.sl.row with e | ⟨b9, o9, e9, h9, _⟩
          · exact absurd e hv0
          · have e8 : vx = some ⟨b9, o9, none⟩ := e9
            rw [had] at e8
            injection e8 with e8
            rw [e8]
            exact h9) hk.sm
        rw [t1] at p
        refine p.mono ?_
        rintro e w' ⟨rfl, H⟩
        obtain ⟨g', sts', W', said', G', q1, q2, q3, q4⟩ := H.out
        have hty := t2.ty
        refine ⟨rfl, g', sts', W', said', G', L, lo, _, rfl, q2.q.trans t1, ?_, (t3.turns q2.t (fun k hk e => ?_) t2.u8).more q4, q2.t.blk t4 (fun e => ?_), fun k hk => Nat.le_trans (t5 k hk) (q2.dec k hk), t6.trans (q2.t.below (fun k hk => (t2.lowB k hk).1) t6.size), t7⟩
        · have e : 2 + 65 * (j + 1) = 2 + 65 * j + 65 := by omega
          rw [e]
          exact q1
        · have := hty k e _ (t3.own.tb hk).2
          revert this
          decide
        · have := hty _ e _ t4.tb
          revert this
          decide
      clear HR hact hcell m0 m1 m2
      go_wp2_with (first
        | (go_at_call 10; refine hDo.mono ?_; rintro e w5 ⟨rfl, H5⟩; clear hDo
           have hAg : Calls Try.prog 11 #[.pointer (some ⟨q, 0, none⟩), u7] w5 fun e w' => ∃ R, e = .returned (.tuple #[R, .bool true]) ∧ Hid (∃ g sts W said G lb lc, Mid w w' n q lg j R g sts W said G lb lc) := by
             obtain ⟨g, sts, W, said, G, L, lo, R9, _, t1, t2, t3, t4, t5, t6, t7⟩ := H5.out
             have p := agreed_any t2 h1 h7 (by omega) u7 t3
             rw [t1] at p
             refine p.mono ?_
             rintro e w' ⟨R, rfl, H⟩
             obtain ⟨L', a1, a2, a3, a4, a5⟩ := H.out
             obtain ⟨lb, lc, hRl, _⟩ := a3.ptr h1
             refine ⟨R, rfl, g, sts, W, said, G, lb, lc, t1, hRl, a3, ⟨L', a1⟩, ⟨lo, a4.blk t4 (fun e => ?_), t5⟩, t6.trans (a4.below (fun k hk => (t3.own.tb hk).1) t6.size), t7⟩
             have := (t3.own.tb e).2.same t4.tb
             revert this
             decide)
        | (go_at_call 11; refine hAg.mono ?_; rintro e w6 ⟨R6, rfl, H6⟩; clear hAg))
      obtain ⟨g, sts, W, said, G, lb, lc, HM⟩ : ∃ g sts W said G lb lc, Hid (Mid w w6 n q lg j R6 g sts W said G lb lc) := H6.out
      clear H5 H6 n0 n1 n2 hbw
      obtain ⟨wo, hwo⟩ : ∃ wo, wo = wr := ⟨_, rfl⟩
      subst hwo
      go_loopw [10] (fun k wr => ∃ m : Nat, m ≤ n ∧ k = .int .i64 m ∧ Hid (Mid w wr n q lg j R6 g sts W said G lb lc)) (fun k _ => n - (intOf k).toNat)
      case atStart => exact ⟨0, by omega, rfl, HM.out⟩
      case round =>
        clear HM
        obtain ⟨m, hm, rfl, HR⟩ := hrel
        by_cases hlt : m < n
        · have imn : (m : Int) < (n : Int) := by omega
          obtain ⟨t1, t2, t3, ⟨L, t4⟩, ⟨lo, t5, t6⟩, t7, t8⟩ := HR.out
          have c0 := t3.c0
          rw [t2, t1] at c0
          obtain ⟨lb', lc', e', _, p'⟩ := t3.ptr h1
          have e9 := e'.symm.trans t2
          injection e9 with e9 _ _
          injection e9 with e9
          injection e9 with e9 _ _
          subst e9
          have p0 := p' m hlt
          obtain ⟨pd, hpd⟩ : ∃ pd, (g.gs m).p = pd := ⟨_, rfl⟩
          rw [hpd] at p0
          have l0 : wr.cell? ⟨lg, m, none⟩ = some (.int .i64 (lo m : Int)) := t5.cell hlt
          have bD : Below wr.heap.size wr wr.drew := (Below.refl _ _).drew
          have s0 := keep bD c0
          have s1 := keep bD p0
          have s2 := keep bD l0
          have hle := t6 m hlt
          have hdl := ((t3.all m hlt).rs).dl
          have hLn : Calls Try.prog 12 #[.pointer (some ⟨pd, 0, none⟩)] wr.drew fun e w' => e = .returned (.int .i64 ((sts m).dec.length : Int)) ∧ w' = wr.drew := by
            have p := len_any ((t3.below bD).nd m hlt)
            rw [hpd] at p
            exact p
          have hfz := (t5.of_heap (w' := wr.drew) rfl).frozen m
          have HN : Hid (Mid w (wr.drew.setCell ⟨lg, m, none⟩ (.int .i64 ((sts m).dec.length : Int))) n q lg j R6 g sts W said G lb' lc) := by
            have tS : Turns (atB lg) wr.drew (wr.drew.setCell ⟨lg, m, none⟩ (.int .i64 ((sts m).dec.length : Int))) := turns_put (Turns.refl _ _) m _
            have t3d := t3.below bD
            have t5d : Blk wr.drew lg 3 n (lgv lo) := t5.of_heap rfl
            have u8 : ∀ k, atB lg k → ¬ Tb wr.drew k 5 := fun k hk ht => by
              have e : k = lg := hk
              subst e
              have := ht.same t5d.tb
              revert this
              decide
            refine ⟨t1, t2, t3d.turns tS (fun k hk e => ?_) u8, ⟨L, (t4.below bD).turns tS (fun k hk e => ?_) u8⟩, ⟨fun i => if i = m then (sts m).dec.length else lo i, (t5d.set m _).congr (fun i hi => ?_), fun k hk => ?_⟩, (t7.trans (bD.mono t7.size)).trans (tS.below (fun k hk => by have e : k = lg := hk; rw [e]; exact t8) (Nat.le_trans t7.size bD.size)), t8⟩
            · have e : k = lg := e
              subst e
              have := t3d.ty _ hk _ t5d.tb
              revert this
              decide
            · have e : k = lg := e
              subst e
              have := ((t4.below bD).own.tb hk).2.same t5d.tb
              revert this
              decide
            · unfold upd lgv
              by_cases e : i = m
              · simp [e]
              · simp [e]
            · by_cases e : k = m
              · simp [e]
              · simp [e]
                exact t6 k hk
          obtain ⟨dl, hdl2⟩ : ∃ dl, (sts m).dec.length = dl := ⟨_, rfl⟩
          rw [hdl2] at hLn HN hle hdl
          obtain ⟨lm, hlm⟩ : ∃ lm, lo m = lm := ⟨_, rfl⟩
          rw [hlm] at s2 hle
          have i5 : decide ((dl : Int) < (lm : Int)) = false := decide_eq_false (by omega)
          have i6 : ¬ (dl : Int) < (lm : Int) := by omega
          have lgl : lg < wr.drew.heap.size := cell_lt' s2
          clear t1 t2 t3 t4 t5 t6 t7 c0 p0 p' l0 e' hpd hdl2 hlm bD HR
          go_wp2_with fail
          refine wp_region_held_drew (S := fun v => v.cell? ⟨q, 0, none⟩ = some (.slice (some ⟨lb', 0, none⟩) n lc) ∧ v.cell? ⟨lb', m, none⟩ = some (.pointer (some ⟨pd, 0, none⟩)) ∧ v.cell? ⟨lg, m, none⟩ = some (.int .i64 (lm : Int))) (by kernel_rfl) ⟨s0, s1, s2⟩ (fun hHeld => ?_)
          generalize wr.drew = wD at *
          refine By.hk 0 ?_
          refine By.hk 1 ?_
          refine By.hk 2 ?_
          refine By.hk 3 ?_
          refine By.hk 4 ?_
          refine By.hk 5 ?_
          refine By.hk 6 ?_
          refine By.hk 8 ?_
          refine By.hk 9 ?_
          refine By.hk 10 ?_
          refine By.hk 11 ?_
          refine wpAnyH_ready (rs := [7]) (by kernel_rfl) (by simp) ?_
          refine AllReadyH.cons rfl (fun K hK => ?_) AllReadyH.nil
          go_simp
          refine hLn.mono ?_
          rintro e w9 ⟨rfl, hw9⟩
          subst w9
          refine hK.out _ _ ⟨s0, s1, s2⟩ (fun hHeld => ?_)
          clear hK K
          refine By.hk 12 ?_
          refine wpAnyH_done (by kernel_rfl) ?_ _
          clear hHeld
          go_wp2_with (go_at_call 12; refine hLn.mono ?_; rintro e w9 ⟨rfl, hw9⟩; subst w9)
          go_roundw
          case rel => exact ⟨m + 1, by omega, by go_num, HN.out⟩
          case measure => simp [intOf]; omega
        · obtain rfl : m = n := by omega
          have imn : ¬ (m : Int) < (m : Int) := by omega
          go_wp2_with fail
          go_roundw
          case rel =>
            obtain ⟨t1, t2, t3, ⟨L, t4⟩, ⟨lo, t5, t6⟩, t7, t8⟩ := HR.out
            exact ⟨j + 1, by omega, by go_num, g, sts, W, said, G, L, lo, t1, t3, t4, t5, t6, t7, t8⟩
          case measure => simp [intOf]; omega
    · have hbw : Below w.heap.size w wr := by obtain ⟨g, sts, W, said, G, L, lo, t1, t2, t3, t4, t5, t6, t7⟩ := HR.out; exact t6
      have hAw := awake_any wr
      have HB := hid hbw
      by_cases hj1 : j < nn1
      · have i1 : (j : Int) < (nn1 : Int) := by omega
        have i2 : ¬ (j : Int) < 400 := by omega
        go_wp2_with (go_at_call 13; refine hAw.mono ?_; rintro e w9 ⟨rfl, b9⟩)
        go_ret
        exact ⟨rfl, HB.out.trans (b9.mono HB.out.size)⟩
      · have i1 : ¬ (j : Int) < (nn1 : Int) := by omega
        go_wp2_with (go_at_call 13; refine hAw.mono ?_; rintro e w9 ⟨rfl, b9⟩)
        go_ret
        exact ⟨rfl, HB.out.trans (b9.mono HB.out.size)⟩

end Go.Proofs.Ytfgfjfemaniaiaa.Px

/-
  Package crush: grow.
  Conditions: the list lies in memory, and is sorted.
-/
import Derived.Test.YthlfmbijagpggaaByHk
import Derived.Test.YthlfmbijagpggaaJCrSmall
namespace Go.Proofs.Ythlfmbijagpggaa.Cr
open Go.RowKit By Fl At
open Sr (Wd Ws enW)
set_option linter.unusedVariables false
set_option linter.unusedSimpArgs false
set_option maxRecDepth 100000

theorem ready_append {P : Program} {w w' : World} {ops : Array Oper} {o : Oper} {a : Act} {K : Act → World → Prop} {Q : Exit → Act → World → Prop} {v' : Value} (hg : Region.wanted o (yielded ops a.tmps) = true) (s x : Operand) (t : TypeId)
    (ho : o.op = .call { callee := .builtin .append, args := #[s, x], argTypes := #[t, t] }) (v1 v2 : Value) (hs : a.eval s = v1) (hx : a.eval x = v2) (hr : (Builtin.append_ #[t, t] o.type #[v1, v2]).run P w = .ok v' w')
    (h : K (a.put o.dst v') w') : if Region.wanted o (yielded ops a.tmps) = true then Oper.wp P o a w K Q else K (a.put o.dst undef) w := by
  rw [if_pos hg]
  unfold Oper.wp execOp
  simp only [ho, resolve, invoke, builtin, Sem.run_bind, Sem.run_pure, Result.andThen_ok, List.map_toArray, List.map_cons, List.map_nil, hs, hx, hr]
  exact h

def slLen : Value → Nat
  | .slice _ n _ => n
  | _ => 0

theorem wgF_len (d : Nat) : ∀ (L : List Osd) (W : List Wd), (wgF d W L).length ≤ W.length + L.length
  | [], W => by simp [wgF]
  | o :: L, W => by
    rw [wgF_cons]
    have h1 := wgF_len d L (insW (kO d o) (wO o) W)
    have h2 : ∀ W, (insW (kO d o) (wO o) W).length ≤ W.length + 1 := fun W => by
      induction W with
      | nil => simp [insW]
      | cons a W ih =>
        simp only [insW]
        split
        · simp only [List.length_cons]; omega
        · split <;> simp
    have := h2 W
    simp only [List.length_cons]
    omega
theorem wg_len (d : Nat) (L : List Osd) : (wg d L).length ≤ L.length := by
  have := wgF_len d L []
  simpa [wg] using this

/- How far it is. -/
def Gi (w wr : World) (d : Nat) (S : List Osd) (xr : Option Addr) (nr cr : Nat) : Prop :=
  ∃ (A R : List Osd) (xe xu : Option Addr) (ne ce nu cu : Nat) (U : List Bv), S = A ++ R ∧ At.Os w xr nr cr R ∧ Gw w wr d A (wg (d + 1) A) (.slice xe ne ce) (.slice xu nu cu) U ∧ ∀ o ∈ A, ∀ p ∈ R, kO (d + 1) o < kO (d + 1) p

theorem form_slice {α : Type} {w : World} {B : Nat} {e : TypeId} {sz : Nat} {enc : α → List Value} {x : Option Addr} {n c : Nat} {L : List α} (h : Own w B e sz enc (.slice x n c) L) : L.length = n := by
  obtain ⟨x', c', q, _⟩ := h.form
  injection q with _ q _
  exact q.symm

def GrowsTo (d : Nat) (w : World) (S : List Osd) (e : Ending) (w' : World) : Prop := ∃ v : Bv, e = .returned (vB v) ∧ Hid (Below w.heap.size w w' ∧ BrAt w' (fun j => w.heap.size ≤ j) d v S)

theorem grow_zero (w : World) (x : Option Addr) (n c : Nat) (S : List Osd) : Calls Try.prog 50 #[.slice x n c, .int .i64 (-1)] w fun e w' => GrowsTo 0 w S e w' := by
  have b0 : Below w.heap.size w ((w.alloc (.cells #[.slice none 0 0, .slice none 0 0] 80)).alloc (.cells #[.slice none 0 0, .slice none 0 0] 80)) := on (al _ _) (al _ _)
  go_enter Try.func50, Try.ntmps50
  go_wp2_with fail
  refine bodyPost_ret (v := vB noB) ?_ rfl ?_
  · rw [results_cell1 rfl]
    unfold vB noB
    go_simp
  · refine ⟨noB, rfl, ?_, rfl⟩
    repeat (first | with_reducible exact b0 | (with_reducible refine Below.setCell ?_ (by first | (simp; done) | (simp; omega) | omega) _) | (with_reducible refine Below.alloc ?_ (by first | (simp; done) | (simp; omega) | omega) _))

set_option maxHeartbeats 3200000 in
theorem grow_succ (d : Nat) (hd : d ≤ 2) (w : World) (x : Option Addr) (n c : Nat) (S : List Osd) (h : At.Os w x n c S) (hn : n ≤ 64) (hB : WB S) (hS : Srt (d + 1) S)
    (ih : ∀ (w : World) (x : Option Addr) (n c : Nat) (S : List Osd), At.Os w x n c S → n ≤ 64 → WB S → Srt d S → Calls Try.prog 50 #[.slice x n c, .int .i64 ((d : Int) - 1)] w fun e w' => GrowsTo d w S e w') :
    Calls Try.prog 50 #[.slice x n c, .int .i64 (d : Int)] w fun e w' => GrowsTo (d + 1) w S e w' := by
  have H0 : Hid (Gi w ((w.alloc (.cells #[.slice none 0 0, .slice none 0 0] 80)).alloc (.cells #[.slice none 0 0, .slice none 0 0] 80)) d S x n c) := ⟨[], S, none, none, 0, 0, 0, 0, [], rfl, h, Gw.start w d, fun o ho => by cases ho⟩
  have HS : Hid (Srt (d + 1) S ∧ WB S ∧ S.length = n) := ⟨hS, hB, h.len⟩
  have HI := hid ih
  have hd0 : ¬ (d : Int) < 0 := by omega
  have hsub : IntKind.i64.wrap ((d : Int) - 1) = (d : Int) - 1 := by rw [IntKind.wrap_i64]; omega
  clear h hB hS ih
  go_enter Try.func50, Try.ntmps50
  go_wp2_with fail
  go_loopw [0] (fun s wr => ∃ (xr : Option Addr) (nr cr : Nat), s = .slice xr nr cr ∧ nr ≤ n ∧ Hid (Gi w wr d S xr nr cr)) (fun s _ => slLen s)
  case atStart => exact ⟨x, n, c, rfl, by omega, H0.out⟩
  case round =>
    clear H0
    obtain ⟨xr, nr, cr, rfl, hnr, HR⟩ := hrel
    obtain ⟨A, R, xe, xu, ne, ce, nu, cu, U, i1, i2, i3, i4⟩ := HR.out
    by_cases hlt : 0 < nr
    · have hl0 : (0 : Int) < (nr : Int) := by omega
      have hRl := i2.len
      obtain ⟨a, ha⟩ : ∃ a, R[0]? = some a := ⟨R[0]'(by omega), List.getElem?_eq_getElem (by omega)⟩
      have c1 := fun V (hb : Below w.heap.size w V) => together_any (d : Int) (i2.below hb) ha
      rw [show ((d : Int) + 1).toNat = d + 1 by omega] at c1
      have hRS : Srt (d + 1) R := by
        have := HS.out.1
        rw [i1] at this
        exact List.Pairwise.sublist (List.sublist_append_right A R) this
      have hRB : WB R := fun o ho => HS.out.2.1 o (by rw [i1]; exact List.mem_append_right _ ho)
      obtain ⟨g1, g2, g3⟩ := tg_facts (kO (d + 1) a) (d + 1) R
      have g4 := tg_pos (d := d + 1) ha rfl
      have g5 := tg_more hRS ha
      obtain ⟨m, hm⟩ : ∃ m, m = tg (kO (d + 1) a) (d + 1) R := ⟨_, rfl⟩
      rw [← hm] at c1 g1 g2 g3 g4 g5
      have hmn : m ≤ nr := by omega
      have hmc : m ≤ cr := by have := i2.le; omega
      have hcut := fun V => ocut_head xr nr cr m V hmc
      have hfrom := fun V => ocut_from xr nr cr m V hmn
      have cN := fun V => number_any a (d : Int) V
      rw [show ((d : Int) + 1).toNat = d + 1 by omega] at cN
      have cT := fun V (hb : Below w.heap.size w V) => total_any ((i2.below hb).take hmn) (by omega) (hRB.take m)
      have cG := fun V (hb : Below w.heap.size w V) => HI.out V xr m cr (R.take m) ((i2.below hb).take hmn) (by omega) (hRB.take m) (Srt.part (hRS.first m) g2)
      have e0 := hid (form_slice i3.oe)
      have hwl := hid (show (wg (d + 1) A).length ≤ 64 by
        have := wg_len (d + 1) A
        have : A.length ≤ S.length := by rw [i1]; simp
        have := HS.out.2.2
        omega)
      obtain ⟨k, hk⟩ : ∃ k, k = kO (d + 1) a := ⟨_, rfl⟩
      rw [← hk] at cN g2 g3 g5
      have hneG : R.take m ≠ [] := fun e => by
        have : (R.take m).length = 0 := by rw [e]; rfl
        rw [List.length_take] at this
        omega
      have hAk : ∀ o ∈ A, kO (d + 1) o < k := fun o ho => by rw [hk]; exact i4 o ho a (List.mem_of_getElem? ha)
      have hgr := wg_group (G := R.take m) hAk g2 hneG
      obtain ⟨z, hz⟩ : ∃ z, z = sumW (R.take m) := ⟨_, rfl⟩
      rw [← hz] at cT hgr
      have hrow := fun V (hb : Below w.heap.size w V) => (i2.below hb).row
      have HG := hid (And.intro i1 (And.intro i2 (And.intro i3 (And.intro i4 (And.intro g2 (And.intro g5 (And.intro hgr (And.intro hAk (And.intro hneG hwl.out)))))))))
      rcases i2.row with q | ⟨b, o, rfl, hbl, hcell⟩
      · omega
      obtain ⟨k0, k1, k2, k3, k4, k5, k6, k7⟩ := At.Os.at (n := nr) (c := cr) hcell ha
      simp only [Nat.zero_mul, Nat.add_zero] at k0 k1 k2 k3 k4 k5 k6 k7
      obtain ⟨a0, a1, a2, a3, a4, a5, a6, a7⟩ := a
      unfold vO at cN
      dsimp only at k0 k1 k2 k3 k4 k5 k6 k7 cN
      have HK := hid (And.intro k0 (And.intro k1 (And.intro k2 (And.intro k3 (And.intro k4 (And.intro k5 (And.intro k6 k7)))))))
      have c1' := c1 wr i3.bel
      clear c1 k0 k1 k2 k3 k4 k5 k6 k7 hcell i1 i2 i3 i4 g1 g2 g3 g5 hgr hAk hneG hrow hRS hRB ha hk hz hm
      go_wp2_with (go_at_call 61; refine c1'.mono ?_; rintro e w1 ⟨rfl, hb1⟩; clear c1')
      obtain ⟨j1, j2, j3, j4, j5, j6, j7, j8, j9, j10⟩ := HG.out
      have bD : Below wr.heap.size wr w1.drew := hb1.drew
      have G1 := j3.below bD
      have s0 := cell_heap (j := 0) G1.loc rfl
      have B1 := G1.bel
      have s1 := keep B1 HK.out.1
      have s2 := keep B1 HK.out.2.1
      have s3 := keep B1 HK.out.2.2.1
      have s4 := keep B1 HK.out.2.2.2.1
      have s5 := keep B1 HK.out.2.2.2.2.1
      have s6 := keep B1 HK.out.2.2.2.2.2.1
      have s7 := keep B1 HK.out.2.2.2.2.2.2.1
      have s8 := keep B1 HK.out.2.2.2.2.2.2.2
      have H1 := hid G1
      have HB1 := hid B1
      clear j1 j2 j3 j4 j5 j6 j7 j8 j9 bD G1 B1 hb1
      have cT' : ∀ V, Below w1.drew.heap.size w1.drew V → Calls Try.prog 62 #[.slice (some ⟨b, o, none⟩) m cr] V fun e w' => e = .returned (.int .i64 z) ∧ Below V.heap.size V w' := fun V hb => cT V (on HB1.out hb)
      clear cT
      refine wp_region_last (fun v => v.cell? ⟨w.heap.size + 1, 0, none⟩ = some (.slice xe ne ce) ∧ v.cell? ⟨b, o, none⟩ = some (.int .i64 a0) ∧ v.cell? ⟨b, o + 1, none⟩ = some (.bool a1) ∧ v.cell? ⟨b, o + 2, none⟩ = some (.bool a2) ∧ v.cell? ⟨b, o + 3, none⟩ = some (.int .i64 a3) ∧ v.cell? ⟨b, o + 4, none⟩ = some (.int .i64 a4) ∧ v.cell? ⟨b, o + 5, none⟩ = some (.int .i64 a5) ∧ v.cell? ⟨b, o + 6, none⟩ = some (.int .i64 a6) ∧ v.cell? ⟨b, o + 7, none⟩ = some (.int .i64 a7)) 15 (by kernel_rfl) ⟨s0, s1, s2, s3, s4, s5, s6, s7, s8⟩ (fun hS => ?_)
      generalize w1.drew = wD at *
      have HV : Hid (∀ V, Below wD.heap.size wD V → V.cell? ⟨w.heap.size + 1, 0, none⟩ = some (.slice xe ne ce) ∧ V.cell? ⟨b, o, none⟩ = some (.int .i64 a0) ∧ V.cell? ⟨b, o + 1, none⟩ = some (.bool a1) ∧ V.cell? ⟨b, o + 2, none⟩ = some (.bool a2) ∧ V.cell? ⟨b, o + 3, none⟩ = some (.int .i64 a3) ∧ V.cell? ⟨b, o + 4, none⟩ = some (.int .i64 a4) ∧ V.cell? ⟨b, o + 5, none⟩ = some (.int .i64 a5) ∧ V.cell? ⟨b, o + 6, none⟩ = some (.int .i64 a6) ∧ V.cell? ⟨b, o + 7, none⟩ = some (.int .i64 a7)) := fun V hb => ⟨keep hb s0, keep hb s1, keep hb s2, keep hb s3, keep hb s4, keep hb s5, keep hb s6, keep hb s7, keep hb s8⟩
      clear s0 s1 s2 s3 s4 s5 s6 s7 s8
      refine By.lk 0 ?_
      refine By.lk 1 ?_
      refine By.lk 2 ?_
      refine By.lk 3 ?_
      refine By.lk 4 ?_
      refine By.lk 5 ?_
      refine By.lk 7 ?_
      refine By.lk 8 ?_
      refine By.lk 9 ?_
      refine wpAnyL_one (i := 6) (by kernel_rfl) rfl (fun K hK => ?_)
      go_simp
      refine (cN _).mono ?_
      rintro e w2 ⟨rfl, hb2⟩
      clear cN
      have v2 := HV.out _ hb2
      have cT2 := cT' _ hb2
      refine hK.out _ _ (fun _ => v2) ?_
      clear hK K
      refine wpAnyL_one (i := 10) (by kernel_rfl) rfl (fun K hK => ?_)
      go_simp
      refine cT2.mono ?_
      rintro e w3 ⟨rfl, hb3⟩
      clear cT2
      have v3 := HV.out _ (on hb2 hb3)
      have G3 := H1.out.below (on hb2 hb3)
      obtain ⟨x', c', w4, hap, q1, q2, q3, q4, H4⟩ := G3.pushE k z (by have := hwl.out; omega)
      rw [e0.out] at hap H4
      have v4 := HV.out _ (on (on hb2 hb3) q4)
      have v5 : w4.cell? ⟨w.heap.size + 1, 0, none⟩ = some (.slice xe ne ce) ∧ w4.cell? ⟨b, o, none⟩ = some (.int .i64 a0) ∧ w4.cell? ⟨b, o + 1, none⟩ = some (.bool a1) ∧ w4.cell? ⟨b, o + 2, none⟩ = some (.bool a2) ∧ w4.cell? ⟨b, o + 3, none⟩ = some (.int .i64 a3) ∧ w4.cell? ⟨b, o + 4, none⟩ = some (.int .i64 a4) ∧ w4.cell? ⟨b, o + 5, none⟩ = some (.int .i64 a5) ∧ w4.cell? ⟨b, o + 6, none⟩ = some (.int .i64 a6) ∧ w4.cell? ⟨b, o + 7, none⟩ = some (.int .i64 a7) := ⟨q1, keep q3 HK.out.1, keep q3 HK.out.2.1, keep q3 HK.out.2.2.1, keep q3 HK.out.2.2.2.1, keep q3 HK.out.2.2.2.2.1, keep q3 HK.out.2.2.2.2.2.1, keep q3 HK.out.2.2.2.2.2.2.1, keep q3 HK.out.2.2.2.2.2.2.2⟩
      clear G3 hb2 hb3 q3 q4 v2 HV cT' hS
      refine hK.out _ _ (fun _ => v3) ?_
      clear hK K
      refine wpAnyL_one (i := 11) (by kernel_rfl) rfl (fun K hK => ?_)
      go_simp
      refine hK.out _ _ (fun _ => v3) ?_
      clear hK K
      refine wpAnyL_one (i := 12) (by kernel_rfl) rfl (fun K hK => ?_)
      go_simp
      refine hK.out _ _ (fun _ => v4) ?_
      clear hK K
      refine wpAnyL_one (i := 13) (by kernel_rfl) rfl (fun K hK => ?_)
      refine ready_append rfl _ _ 77 rfl _ _ rfl rfl hap ?_
      (try simp only [Act.put, List.getElem_toArray, List.getElem_cons_succ, List.getElem_cons_zero, List.setIfInBounds_toArray, List.set_cons_zero, List.set_cons_succ])
      refine hK.out _ _ (fun _ => v5) ?_
      clear hK K
      refine wpAnyL_one (i := 14) (by kernel_rfl) rfl (fun K hK => ?_)
      go_simp
      refine hK.out _ _ (fun _ => v5) ?_
      clear hK K
      refine wpAnyL_one (i := 15) (by kernel_rfl) rfl (fun K hK => ?_)
      go_simp
      refine hK.out _ _ (fun h => absurd rfl h) ?_
      clear hK K
      refine wpAnyL_done (by kernel_rfl) ?_ _
      clear v3 v4 v5 hap q1 q2
      obtain ⟨wE, hwE⟩ : ∃ wE, wE = w4.setCell ⟨w.heap.size + 1, 0, none⟩ (.slice x' (ne + 1) c') := ⟨_, rfl⟩
      rw [← hwE] at H4 ⊢
      clear hwE
      have bF : Below wE.heap.size wE wE.drew := (Below.refl _ _).drew
      have G5 := H4.out.below bF
      have s0 := cell_heap (j := 1) G5.loc rfl
      have cG' := cG wE.drew G5.bel
      have H5 := hid G5
      have Hsz : Hid (w.heap.size + 2 ≤ wE.drew.heap.size ∧ (∀ j, (Value.slice x' (ne + 1) c').ownBlock = some j → j < wE.drew.heap.size) ∧ (∀ j, (Value.slice xu nu cu).ownBlock = some j → j < wE.drew.heap.size)) := by
        have := G5.lt
        exact ⟨by omega, fun j e => (G5.oe.tb e).2.lt, fun j e => (G5.ou.tb e).2.lt⟩
      clear G5 bF cG H4
      go_wp2_with fail
      refine wp_region_last (fun v => v.cell? ⟨w.heap.size + 1, 1, none⟩ = some (.slice xu nu cu)) 11 (by kernel_rfl) s0 (fun hS => ?_)
      generalize wE.drew = wF at *
      refine By.lk 0 ?_
      refine By.lk 1 ?_
      refine By.lk 2 ?_
      refine By.lk 3 ?_
      refine By.lk 4 ?_
      refine By.lk 5 ?_
      refine By.lk 6 ?_
      refine wpAnyL_one (i := 7) (by kernel_rfl) rfl (fun K hK => ?_)
      go_simp
      refine cG'.mono ?_
      rintro e w6 ⟨v, rfl, H6⟩
      clear cG'
      have G6 := H5.out.below H6.out.1
      have t6 := keep H6.out.1 s0
      have HGo := HG.out
      obtain ⟨x2, c2, w7, hap2, r1, r2, r3, r4, H7⟩ := G6.pushU v (R.take m) wF.heap.size k H6.out.2 Hsz.out.1 Hsz.out.2.1 Hsz.out.2.2 HGo.2.2.2.2.2.2.2.1 HGo.2.2.2.2.1 HGo.2.2.2.2.2.2.2.2.1 (by rw [G6.ul]; have := hwl.out; omega)
      rw [form_slice G6.ou] at hap2 H7
      have t7 := keep r4 t6
      clear HGo G6 H6 r3 r4 hS H5 Hsz
      refine hK.out _ _ (fun _ => t6) ?_
      clear hK K
      unfold vB
      refine wpAnyL_one (i := 8) (by kernel_rfl) rfl (fun K hK => ?_)
      go_simp
      refine hK.out _ _ (fun _ => t7) ?_
      clear hK K
      refine wpAnyL_one (i := 9) (by kernel_rfl) rfl (fun K hK => ?_)
      refine ready_append rfl _ _ 78 rfl _ _ rfl rfl hap2 ?_
      (try simp only [Act.put, List.getElem_toArray, List.getElem_cons_succ, List.getElem_cons_zero, List.setIfInBounds_toArray, List.set_cons_zero, List.set_cons_succ])
      refine hK.out _ _ (fun _ => r1) ?_
      clear hK K
      refine wpAnyL_one (i := 10) (by kernel_rfl) rfl (fun K hK => ?_)
      go_simp
      refine hK.out _ _ (fun _ => r1) ?_
      clear hK K
      refine wpAnyL_one (i := 11) (by kernel_rfl) rfl (fun K hK => ?_)
      go_simp
      refine hK.out _ _ (fun h => absurd rfl h) ?_
      clear hK K
      refine wpAnyL_done (by kernel_rfl) ?_ _
      clear r1 r2 hap2 t6 t7 s0
      go_wp2_with fail
      go_roundw
      case rel =>
        obtain ⟨j1, j2, j3, j4, j5, j6, j7, j8, j9, j10⟩ := HG.out
        refine ⟨_, nr - m, cr - m, rfl, by omega, A ++ R.take m, R.drop m, x', x2, ne + 1, c', nu + 1, c2, U ++ [v], ?_, os_from j2 m hmn, ?_, fun p hp q hq => ?_⟩
        · rw [List.append_assoc, List.take_append_drop]
          exact j1
        · rw [j7]
          exact H7.out
        · rcases List.mem_append.1 hp with hp | hp
          · exact j4 p hp q (List.mem_of_mem_drop hq)
          · rw [j5 p hp]
            exact j6 q hq
      case measure =>
        simp [slLen]
        omega
    · have hl0 : ¬ (0 : Int) < (nr : Int) := by omega
      have hR0 : R = [] := List.eq_nil_of_length_eq_zero (by have := i2.len; omega)
      subst hR0
      rw [List.append_nil] at i1
      subst i1
      have s0 := cell_heap (j := 0) i3.loc rfl
      have s1 := cell_heap (j := 1) i3.loc rfl
      have r0 := cell_heap (j := 0) i3.res rfl
      have r1 := cell_heap (j := 1) i3.res rfl
      have f0 := fr_heap i3.res 0
      have f1 := fr_heap i3.res 1
      have HD := hid (i3.done (by have := wg_len (d + 1) S; have := HS.out.2.2; omega))
      clear i2 i3 i4 HR HI
      go_wp2_with fail
      refine bodyPost_ret (v := vB ⟨xe, ne, ce, xu, nu, cu⟩) ?_ rfl ?_
      · rw [results_cell1 rfl]
        unfold vB
        go_simp
      · exact ⟨_, rfl, HD.out.1, HD.out.2⟩

theorem grow_any : ∀ (d : Nat), d ≤ 3 → ∀ (w : World) (x : Option Addr) (n c : Nat) (S : List Osd), At.Os w x n c S → n ≤ 64 → WB S → Srt d S → Calls Try.prog 50 #[.slice x n c, .int .i64 ((d : Int) - 1)] w fun e w' => GrowsTo d w S e w'
  | 0, _, w, x, n, c, S, h, hn, hB, hS => grow_zero w x n c S
  | d + 1, hd, w, x, n, c, S, h, hn, hB, hS => by
    rw [show (((d + 1 : Nat) : Int) - 1) = (d : Int) by omega]
    exact grow_succ d (by omega) w x n c S h hn hB hS (fun w x n c S => grow_any d (by omega) w x n c S)

end Go.Proofs.Ythlfmbijagpggaa.Cr

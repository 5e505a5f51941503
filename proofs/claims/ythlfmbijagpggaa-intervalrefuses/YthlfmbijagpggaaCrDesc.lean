/-
  Package crush: a descent.
  Conditions: the tree lies in memory; numbers of 32 bits.
-/
import Derived.Test.YthlfmbijagpggaaCrGrow
import Derived.Test.YthlfmbijagpggaaJSrCalls
import Derived.Test.YthlfmbijagpggaaJAtSmall
namespace Go.Proofs.Ythlfmbijagpggaa.Cr
open Go.RowKit By Fl At
open Sr (Wd Ws enW cho DL choose_any)
open Mi (h2 h2_lt hash2_any)
set_option linter.unusedVariables false
set_option linter.unusedSimpArgs false
set_option maxRecDepth 100000

def vPa (p : Pa) : Value := .agg #[.int .i64 p.id, .int .i64 p.ho, .int .i64 p.rk]
def noPa : Pa := ⟨0, 0, 0⟩
def putP (d : Nat) (k : Int) (p : Pa) : Pa := if d = 3 then ⟨k, p.ho, p.id⟩ else if d = 2 then ⟨p.rk, k, p.id⟩ else ⟨p.rk, p.ho, k⟩
def fin (x r : Nat) : Nat → List Osd → Pa → Option Pa
  | 0, _, p => some p
  | d + 1, T, p => match stp T (d + 1) x r with
    | none => none
    | some k => fin x r d (sub T (d + 1) k) (putP (d + 1) k p)

theorem dsc_fin (S : List Osd) (x r : Nat) : dsc S x r = fin x r 3 S noPa := by
  unfold dsc
  simp only [fin]
  cases stp S 3 x r with
  | none => rfl
  | some k =>
    dsimp only
    cases stp (sub S 3 k) 2 x r with
    | none => rfl
    | some h =>
      dsimp only
      cases stp (sub (sub S 3 k) 2 h) 1 x r with
      | none => rfl
      | some i => rfl

def outPa (o : Option Pa) : Value := match o with | none => .tuple #[vPa noPa, .bool false] | some p => .tuple #[vPa p, .bool true]

/- How far a descent is. -/
structure Ds (w wr : World) (S : List Osd) (x r d : Nat) (v : Bv) (T : List Osd) (p : Pa) : Prop where
  bel : Below w.heap.size w wr
  bx : wr.heap[w.heap.size]? = some (.cells #[.slice v.x v.n v.c, .slice v.y v.m v.d] 80 (0, 0))
  res : wr.heap[w.heap.size + 1]? = some (.cells #[.int .i64 0, .int .i64 0, .int .i64 0] 83 (0, 0))
  pt : wr.heap[w.heap.size + 1 + 1]? = some (.cells #[.int .i64 p.id, .int .i64 p.ho, .int .i64 p.rk] 83 (0, 0))
  br : BrAt w (fun j => j < w.heap.size) d v T
  eq : dsc S x r = fin x r d T p

theorem Ds.start {w : World} {F : Nat → Prop} {v : Bv} {S : List Osd} (x r : Nat) (h : BrAt w F 3 v S) : Ds w (((w.alloc (.cells #[.slice v.x v.n v.c, .slice v.y v.m v.d] 80)).alloc (.cells #[.int .i64 0, .int .i64 0, .int .i64 0] 83)).alloc (.cells #[.int .i64 0, .int .i64 0, .int .i64 0] 83)) S x r 3 v S noPa := by
  obtain ⟨A, hA⟩ : ∃ A : Obj, A = .cells #[.slice v.x v.n v.c, .slice v.y v.m v.d] 80 := ⟨_, rfl⟩
  obtain ⟨B, hB⟩ : ∃ B : Obj, B = .cells #[.int .i64 0, .int .i64 0, .int .i64 0] 83 := ⟨_, rfl⟩
  rw [← hA, ← hB]
  have s1 : (w.alloc A).heap.size = w.heap.size + 1 := by simp
  have s2 : ((w.alloc A).alloc B).heap.size = w.heap.size + 1 + 1 := by simp
  refine ⟨on (al _ _) (on (al _ _) (al _ _)), ?_, ?_, ?_, BrAt.mono (fun j _ h => h) 3 v S h, dsc_fin S x r⟩
  · rw [← hA]
    exact ((al ((w.alloc A).alloc B) B).block _ (by omega)).trans (((al (w.alloc A) B).block _ (by omega)).trans (heap_alloc_new w A))
  · have := heap_alloc_new (w.alloc A) B
    rw [s1] at this
    rw [← hB]
    exact ((al ((w.alloc A).alloc B) B).block _ (by omega)).trans this
  · have := heap_alloc_new ((w.alloc A).alloc B) B
    rw [s2] at this
    rw [hB] at this ⊢
    exact this

section
variable {w wr : World} {S T : List Osd} {x r d : Nat} {v : Bv} {p : Pa}

theorem Ds.below {w' : World} (h : Ds w wr S x r d v T p) (hb : Below wr.heap.size wr w') : Ds w w' S x r d v T p := by
  have l2 := (Array.getElem?_eq_some_iff.1 h.pt).1
  exact ⟨on h.bel hb, (hb.block _ (by omega)).trans h.bx, (hb.block _ (by omega)).trans h.res, (hb.block _ l2).trans h.pt, h.br, h.eq⟩

/- One step down. -/
theorem Ds.step {i : Nat} {a : Wd} {u : Bv} {U : List Bv} (h : Ds w wr S x r (d + 1) v T p) (hd : d ≤ 2) (hs : stp T (d + 1) x r = some a.id) (hu : BrAt w (fun j => j < w.heap.size) d u (sub T (d + 1) a.id)) :
    Ds w (((wr.setCell ⟨w.heap.size + 1 + 1, d, none⟩ (.int .i64 a.id)).setCell ⟨w.heap.size, 0, none⟩ (.slice u.x u.n u.c)).setCell ⟨w.heap.size, 1, none⟩ (.slice u.y u.m u.d)) S x r d u (sub T (d + 1) a.id) (putP (d + 1) a.id p) := by
  have l2 := (Array.getElem?_eq_some_iff.1 h.pt).1
  have t1 : Turns (fun j => j = w.heap.size + 1 + 1) wr (wr.setCell ⟨w.heap.size + 1 + 1, d, none⟩ (.int .i64 a.id)) := turns_put (Turns.refl _ _) _ _
  have t2 : Turns (fun j => j = w.heap.size) (wr.setCell ⟨w.heap.size + 1 + 1, d, none⟩ (.int .i64 a.id)) (((wr.setCell ⟨w.heap.size + 1 + 1, d, none⟩ (.int .i64 a.id)).setCell ⟨w.heap.size, 0, none⟩ (.slice u.x u.n u.c)).setCell ⟨w.heap.size, 1, none⟩ (.slice u.y u.m u.d)) := turns_put (turns_put (Turns.refl _ _) _ _) _ _
  have z1 := t1.size
  have T2 : Turns (fun j => j = w.heap.size ∨ j = w.heap.size + 1 + 1) wr (((wr.setCell ⟨w.heap.size + 1 + 1, d, none⟩ (.int .i64 a.id)).setCell ⟨w.heap.size, 0, none⟩ (.slice u.x u.n u.c)).setCell ⟨w.heap.size, 1, none⟩ (.slice u.y u.m u.d)) := (t1.weak fun j e => .inr e).trans (t2.weak fun j e => .inl e)
  refine ⟨h.bel.trans (T2.below (fun j e => by omega) (by omega)), ?_, ?_, ?_, hu, ?_⟩
  · have h1 := (t1.block w.heap.size (by omega) (by omega)).trans h.bx
    exact heap_set (heap_set h1 _) _
  · exact (T2.block _ (by omega) (by omega)).trans h.res
  · have h1 := heap_set h.pt (j := d) (.int .i64 a.id)
    refine ((t2.block _ (by omega) (by omega)).trans h1).trans ?_
    rcases (show d = 0 ∨ d = 1 ∨ d = 2 by omega) with rfl | rfl | rfl <;> rfl
  · rw [h.eq]
    simp only [fin, hs]

end

theorem noPa_eq : vPa noPa = .agg #[.int .i64 0, .int .i64 0, .int .i64 0] := rfl

set_option maxHeartbeats 3200000 in
theorem descend_any {w : World} {F : Nat → Prop} {v : Bv} {S : List Osd} (h : BrAt w F 3 v S) (x r : Nat) (hx : x < 4294967296) (hr : r < 4294967296) :
    Calls Try.prog 56 #[vB v, .int .u32 (x : Nat), .int .u32 (r : Nat)] w fun e w' => e = .returned (outPa (dsc S x r)) ∧ Below w.heap.size w w' := by
  have H0 := hid (Ds.start x r h)
  clear h
  unfold vB
  go_enter Try.func56, Try.ntmps56
  go_wp2_with fail
  go_loopw [9] (fun i wr => ∃ d : Nat, d ≤ 3 ∧ i = .int .i64 ((d : Int) - 1) ∧ Hid (∃ v T p, Ds w wr S x r d v T p)) (fun i _ => (intOf i + 1).toNat)
  case atStart => exact ⟨3, by omega, rfl, v, S, noPa, H0.out⟩
  case round =>
    clear H0
    obtain ⟨d, hd, rfl, HR⟩ := hrel
    obtain ⟨v1, T, p, D⟩ := HR.out
    clear HR
    rcases Nat.eq_zero_or_pos d with h0 | h0
    · subst h0
      have s0 := cell_heap (j := 0) D.pt rfl
      have s1 := cell_heap (j := 1) D.pt rfl
      have s2 := cell_heap (j := 2) D.pt rfl
      have r0 := cell_heap (j := 0) D.res rfl
      have r1 := cell_heap (j := 1) D.res rfl
      have r2 := cell_heap (j := 2) D.res rfl
      have f0 := fr_heap D.res 0
      have f1 := fr_heap D.res 1
      have f2 := fr_heap D.res 2
      have HD := hid D
      clear D
      go_wp2_with fail
      refine bodyPost_ret (v := outPa (some p)) ?_ rfl ?_
      · rw [results_cell2 rfl]
        unfold outPa vPa
        go_simp
      · rw [HD.out.eq]
        refine ⟨rfl, ?_⟩
        have B1 := HD.out.bel
        have hz := (Array.getElem?_eq_some_iff.1 HD.out.pt).1
        repeat (first | with_reducible exact B1 | (with_reducible refine Below.setCell ?_ (by first | (simp; done) | (simp; omega) | omega) _) | (with_reducible refine Below.alloc ?_ (by first | (simp; done) | (simp; omega) | omega) _))
    · obtain ⟨q, rfl⟩ : ∃ q, d = q + 1 := ⟨d - 1, by omega⟩
      obtain ⟨b1, b2, U, b3, b4, b5, b6⟩ := D.br
      have hlen := b1.len
      have hwn := b1.small
      have cC := fun p : After wr => choose_any (b1.below (on D.bel p.h)) (h2 x (4 - (q + 1))) r (h2_lt _ _) hr
      have cH := fun p : After wr => hash2_any x (4 - (q + 1)) p.W hx (by omega)
      have hlv : cho (DL (h2 x (4 - (q + 1))) r (wg (q + 1) T)) v1.n = lv T (q + 1) x r := by unfold lv; rw [hlen]
      rw [hlv] at cC
      have e0 := After.cell (cell_heap (j := 0) D.bx rfl)
      have HD := hid D
      have HU := hid (And.intro b1 (And.intro b3 (And.intro b5 b6)))
      haveI := After.ne wr
      by_cases hneg : lv T (q + 1) x r < 0
      · have HN : Hid (fin x r (q + 1) T p = none) := by
          have : stp T (q + 1) x r = none := by unfold stp; rw [if_pos hneg]
          show fin x r (q + 1) T p = none
          simp only [fin, this]
        have hge := Sr.cho_ge (DL (h2 x (4 - (q + 1))) r (wg (q + 1) T)) v1.n
        rw [hlv] at hge
        generalize lv T (q + 1) x r = lvv at *
        generalize h2 x (4 - (q + 1)) = hh at *
        clear D b1 b2 b3 b4 b5 b6 hlv hlen
        have hq : q = 0 ∨ q = 1 ∨ q = 2 := by omega
        rcases hq with rfl | rfl | rfl
        all_goals (
          go_wp2_with fail
          refine wp_region_after (by kernel_rfl) (by kernel_rfl) ?_
          repeat (go_big_quiet_step ((first | (go_at_call 36; with_reducible refine Calls.after_same (cH _)) | (go_at_call 66; with_reducible refine Calls.after_of (cC _)))))
          refine wpQuiet_nil ?_
          rintro _ ⟨P, rfl⟩
          clear cH cC e0
          have DP := HD.out.below P.h
          have r0 := cell_heap (j := 0) DP.res rfl
          have r1 := cell_heap (j := 1) DP.res rfl
          have r2 := cell_heap (j := 2) DP.res rfl
          have f0 := fr_heap DP.res 0
          have f1 := fr_heap DP.res 1
          have f2 := fr_heap DP.res 2
          have HP := hid DP
          clear DP
          go_wp2_with fail
          refine bodyPost_ret (v := outPa none) ?_ rfl ?_
          · rw [results_cell2 rfl]
            unfold outPa
            rw [noPa_eq]
            go_simp
          · rw [HP.out.eq, HN.out]
            refine ⟨rfl, ?_⟩
            have B1 := HP.out.bel
            have hz := (Array.getElem?_eq_some_iff.1 HP.out.pt).1
            repeat (first | with_reducible exact B1 | (with_reducible refine Below.setCell ?_ (by first | (simp; done) | (simp; omega) | omega) _) | (with_reducible refine Below.alloc ?_ (by first | (simp; done) | (simp; omega) | omega) _))
          )
      · have hst : stp T (q + 1) x r = some (pk T (q + 1) (lv T (q + 1) x r)) := by unfold stp; rw [if_neg hneg]
        obtain ⟨i, a, ha1, ha2, ha3, ha4⟩ := stp_some hst
        have hi : i < v1.n := by rw [← hlen]; exact (List.getElem?_eq_some_iff.1 ha2).1
        have hm : v1.m = U.length := b3.len.symm
        have hi2 : i < v1.m := by rw [hm, b5]; exact (List.getElem?_eq_some_iff.1 ha2).1
        obtain ⟨u, hu⟩ : ∃ u, U[i]? = some u := ⟨U[i]'(by omega), List.getElem?_eq_getElem (by omega)⟩
        rw [ha1] at cC hst ha3
        rw [← ha3] at hst
        have HS : Hid (Ds w wr S x r (q + 1) v1 T p → True) := fun _ => trivial
        have HT := hid (And.intro hst (b6 i a u ha2 hu))
        rcases b1.row with q0 | ⟨gb, go, hx1, hx2, hx3⟩
        · omega
        rcases b3.row with q0 | ⟨hb, ho, hy1, hy2, hy3⟩
        · omega
        have c1 := (hx3 i a ha2).1
        have c2 := (hy3 i u hu).1
        have c3 := (hy3 i u hu).2
        have HC := hid (And.intro c1 (And.intro c2 c3))
        have hneg2 : ¬ ((i : Nat) : Int) < 0 := by omega
        have hin : ((i : Nat) : Int) < (v1.n : Int) := by omega
        have him : ((i : Nat) : Int) < (v1.m : Int) := by omega
        rw [hx1] at cC e0
        have hx1' := hid hx1
        have hy1' := hid hy1
        generalize h2 x (4 - (q + 1)) = hh at *
        clear D b1 b2 b3 b4 b5 b6 hlv hlen hneg hst ha1 ha2 ha3 ha4 hu hx3 hy3 c1 c2 c3 hm HU hx1 hy1 HS
        have hq : q = 0 ∨ q = 1 ∨ q = 2 := by omega
        rcases hq with rfl | rfl | rfl
        all_goals (
          go_wp2_with fail
          refine wp_region_after (by kernel_rfl) (by kernel_rfl) ?_
          repeat (go_big_quiet_step ((first | (go_at_call 36; with_reducible refine Calls.after_same (cH _)) | (go_at_call 66; with_reducible refine Calls.after_of (cC _)))))
          refine wpQuiet_nil ?_
          rintro _ ⟨P, rfl⟩
          clear cH cC e0
          have DP := HD.out.below P.h
          have B1 := DP.bel
          have m0 := keep B1 HC.out.1
          have m1 := keep B1 HC.out.2.1
          have m2 := keep B1 HC.out.2.2
          have n0 := cell_heap (j := 0) DP.bx rfl
          have n1 := cell_heap (j := 1) DP.bx rfl
          rw [hx1'.out] at n0
          rw [hy1'.out] at n1
          have p0 := cell_heap (j := 0) DP.pt rfl
          have p1 := cell_heap (j := 1) DP.pt rfl
          have p2 := cell_heap (j := 2) DP.pt rfl
          have g0 := fr_heap DP.pt 0
          have g1 := fr_heap DP.pt 1
          have g2 := fr_heap DP.pt 2
          have f0 := fr_heap DP.bx 0
          have f1 := fr_heap DP.bx 1
          have DS := DP.step (i := i) (U := U) (by omega) HT.out.1 HT.out.2
          have HP := hid DS
          have hbs : gb ≠ w.heap.size + 1 + 1 := by omega
          have hbs2 : hb ≠ w.heap.size + 1 + 1 := by omega
          clear DP B1 DS HD HC
          go_wp2_with fail
          go_roundw
          case rel => exact ⟨_, by omega, rfl, u, _, _, HP.out⟩
          case measure => simp [intOf])

end Go.Proofs.Ythlfmbijagpggaa.Cr

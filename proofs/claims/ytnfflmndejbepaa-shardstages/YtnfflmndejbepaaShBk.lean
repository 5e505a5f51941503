/-
  Back: the last entries are taken back.
  Conditions: the shard lies in memory, its items and Undos are together not too many.
-/
import Derived.Test.YtnfflmndejbepaaJShTake
import Derived.Test.YtnfflmndejbepaaShBkP
import Derived.Test.YtnfflmndejbepaaShAt
namespace Go.Proofs.Ytnfflmndejbepaa.Sh
set_option linter.unusedSectionVars false
variable [Inhabited DZ]
open Go.RowKit By Fl
set_option linter.unusedVariables false
set_option linter.unusedSimpArgs false
set_option maxRecDepth 100000

/- A shard that a call tells, with a number. -/
def Backs (w : World) (P : Shd × Int) (e : Ending) (w' : World) : Prop := ∃ s, e = .returned (.tuple #[vS s, .int .i64 P.2]) ∧ Hid (SAt w' (fun _ => True) s ∧ pS s = P.1 ∧ Below w.heap.size w w')

/- As far as it is taken back. -/
def BkSt (w wr : World) (p : Nat) (S : Shd) (k : Nat) : Prop := ∃ v A, wr.heap[p]? = some (.cells A 26 (0, 0)) ∧ BoxS A 0 v ∧ OwS wr (fun q => p + 2 ≤ q) v ∧ pS v = backN k S ∧ Below w.heap.size w wr ∧ wr.heap[p + 1]? = some (.cells zBox 26 (0, 0))

theorem BkSt.next {w wr w' : World} {p : Nat} {A : Array Value} {S : Shd} {k : Nat} {v : SV} (hp : wr.heap[p]? = some (.cells A 26 (0, 0))) (hs : pS v = backN k S) (hb : Below w.heap.size w wr) (hz : wr.heap[p + 1]? = some (.cells zBox 26 (0, 0))) (hle : w.heap.size ≤ p)
    (H : Turned wr (fun q => p + 2 ≤ q) p 0 A 26 (back1 (pS v)) w') : BkSt w w' p S (k + 1) := by
  obtain ⟨v', A', h1, h2, _, h4, h5, h6⟩ := H
  have l1 := lt_heap hz
  refine ⟨v', A', h1, h2, h4.weak fun q hq => ?_, ?_, hb.trans (h6.below (fun q hq => by rcases hq with hq | hq <;> omega) hb.size), (h6.block (p + 1) l1 (fun hq => by rcases hq with hq | hq <;> omega)).trans hz⟩
  · rcases hq with hq | hq
    · exact hq
    · have := hq.1
      omega
  · rw [h5, backN_next, hs]

theorem put5_box {w : World} {g : Nat} {cs : Array Value} {t : TypeId} (h : w.heap[g]? = some (.cells cs t (0, 0))) (hs : cs.size = 5) (v : SV) : (put5 w g 0 v).heap[g]? = some (.cells (SCells v) t (0, 0)) := by
  unfold put5 SCells
  refine (heap_set (heap_set (heap_set (heap_set (heap_set h _) _) _) _) _).trans ?_
  obtain ⟨l⟩ := cs
  match l, hs with
  | [a0, a1, a2, a3, a4], _ => simp

theorem BkSt.start {w w1 wc wd : World} {S : Shd} {s : SV} {cs : Array Value} (h1 : Below w.heap.size w w1) (hl : w1.heap.size = w.heap.size + 2) (hc : Below w1.heap.size w1 wc) (hd : Below wc.heap.size wc wd) (ho : OwS wd (New wc wd) s) (hs : pS s = S) (hg : wd.heap[w.heap.size]? = some (.cells cs 26 (0, 0))) (h5 : cs.size = 5) (hz : w1.heap[w.heap.size + 1]? = some (.cells zBox 26 (0, 0))) :
    BkSt w (put5 wd w.heap.size 0 s) w.heap.size S 0 := by
  have t := turns_put5 wd w.heap.size 0 s
  have b := on hc hd
  have s1 := hc.size
  have s2 := b.size
  refine ⟨s, SCells s, put5_box hg h5 s, ⟨rfl, rfl, rfl, rfl, rfl⟩, (ho.keeps (.turns t fun q hq e => by have := hq.1; omega)).weak fun q hq => by have := hq.1; omega, hs, (on h1 b).trans (t.below (fun q e => by omega) (by omega)), (t.block _ (by omega) (by omega)).trans ((b.block _ (by omega)).trans hz)⟩

def nE (w : World) (p : Nat) : Nat := match w.cell? ⟨p, 3, none⟩ with | some (.slice _ n _) => n | _ => 0
theorem nE_is {w : World} {p : Nat} {x : Option Addr} {n c : Nat} (h : w.cell? ⟨p, 3, none⟩ = some (.slice x n c)) : nE w p = n := by
  unfold nE
  rw [h]

/- What a round finds. -/
theorem BkSt.facts {wr : World} {p : Nat} {S : Shd} {k : Nat} {v : SV} (hok : okS S) (hk : k ≤ S.und.length) (ho : OwS wr (fun q => p + 2 ≤ q) v) (hs : pS v = backN k S) : Rise (v.I.map pI) ∧ v.I.length ≤ S.its.length + k ∧ v.n2 + k = S.log.length ∧ v.E.length = v.n2 ∧ v.U.length + k = S.und.length := by
  obtain ⟨h1, h2, h3, h4, _⟩ := backs_ok hok hk
  rw [← hs] at h1 h2 h3 h4
  have e := ho.toS.e.len
  refine ⟨okS_rise h1, ?_, ?_, e, ?_⟩
  · have h5 : (v.I.map pI).length ≤ S.its.length + k := h4
    rw [List.length_map] at h5
    exact h5
  · have h5 : v.E.length + k = S.log.length := h2
    omega
  · have h5 : (v.U.map pU).length + k = S.und.length := h3
    rw [List.length_map] at h5
    exact h5

set_option maxHeartbeats 12800000 in
theorem back_any {w : World} {F : Nat → Prop} {v : SV} (head : Int) (h : SAt w F v) (hsm : v.I.length + v.U.length < 100000000) : Calls Try.prog 26 #[vS v, .int .i64 head] w fun e w' => Backs w (backP (pS v) head) e w' := by
  obtain ⟨w1, hw1⟩ : ∃ w1, w1 = (w.alloc (.cells (SCells v) 26)).alloc (.cells zBox 26) := ⟨_, rfl⟩
  obtain ⟨bb, hsz, g0, g1⟩ := two_boxes w (SCells v) zBox 26
  rw [← hw1] at bb hsz g0 g1
  have hC1 := checkShard_any (h.below bb)
  have HC2 := hid (fun W (hW : Below w1.heap.size w1 W) => copiedShard_any (h.below (on bb hW)))
  obtain ⟨tK, htK⟩ : ∃ t, t = bz (okS (pS v)) := ⟨_, rfl⟩
  obtain ⟨tW, htW⟩ : ∃ t, t = decide ((0 : Int) ≤ head ∧ head ≤ (v.n2 : Int)) := ⟨_, rfl⟩
  have HLn := hid (And.intro h.i.len (And.intro h.e.len h.u.len))
  have HP : Hid (backP (pS v) head = if tK then (if tW then (if (v.n3 : Int) < (v.n2 : Int) - head then (zS, 4) else (backN (v.n2 - head.toNat) (pS v), 0)) else (zS, 1)) else (zS, 1)) := hid (by
    rw [htK, htW, ← h.e.len, ← h.u.len]
    unfold backP pS
    dsimp only
    rw [List.length_map])
  have HK := hid htK
  have HTW := hid htW
  rw [← htK] at hC1
  have HB := hid bb
  have HSz := hid hsz
  have HG0 := hid g0
  have HG1 := hid g1
  have HSm := hid hsm
  have eT : er true = 0 := rfl
  have eF : er false = 1 := rfl
  have sm2 := h.e.small
  have sm3 := h.u.small
  generalize backP (pS v) head = PP at *
  clear h bb hsz g0 g1 htK htW hsm
  obtain ⟨V, hV⟩ : ∃ V, V = v := ⟨v, rfl⟩
  have HV := hid hV
  obtain ⟨pl, si, x1, n1, c1, I, x2, n2, c2, E, x3, n3, c3, U⟩ := v
  rw [← hV] at HP HK HC2 HLn HSm
  clear hV
  unfold SCells zBox at hw1
  unfold SCells at HG0
  have HG1' : Hid (w1.heap[w.heap.size + 1]? = some (.cells #[.int .i64 0, .int .i64 0, .slice none 0 0, .slice none 0 0, .slice none 0 0] 26 (0, 0))) := HG1
  unfold vS at hC1
  show Calls Try.prog 26 #[.agg #[.int .i64 pl, .int .i64 si, .slice x1 n1 c1, .slice x2 n2 c2, .slice x3 n3 c3], .int .i64 head] w _
  dsimp only at *
  have fin : ∀ (wc W : World) (s : SV) (z : Int), SAt wc (fun q => w.heap.size + 2 ≤ q) s → Below w.heap.size w wc → Turns (fun k => k = w.heap.size ∨ k = w.heap.size + 1) wc W → PP = (pS s, z) → Backs w PP (.returned (.tuple #[vS s, .int .i64 z])) W := fun wc W s z h2 h3 t hp => by
    have bw : Below w.heap.size w W := h3.trans (t.below (fun q e => by rcases e with e | e <;> omega) h3.size)
    rw [hp]
    exact ⟨s, rfl, hid ⟨(h2.keeps (.turns t fun q hq e => by rcases e with e | e <;> omega)).weak (fun _ _ => trivial), rfl, bw⟩⟩
  have HFin := hid fin
  clear fin
  have a0 := cell_heap HG0.out (j := 0) rfl
  have a1 := cell_heap HG0.out (j := 1) rfl
  have a2 := cell_heap HG0.out (j := 2) rfl
  have a3 := cell_heap HG0.out (j := 3) rfl
  have a4 := cell_heap HG0.out (j := 4) rfl
  have HA := hid (And.intro a0 (And.intro a1 (And.intro a2 (And.intro a3 a4))))
  have HW := hid hw1
  rw [hw1] at a0 a1 a2 a3 a4 hC1
  clear hw1
  cases tK with
  | false =>
    go_enter Try.func26, Try.ntmps26
    go_wp2_with (go_at_call 16; refine hC1.mono ?_; rintro e wa ⟨rfl, H1⟩; rw [← HW.out] at H1; have HA1 := hid H1; have gb := (H1.block (w.heap.size + 1) (by have := HSz.out; omega)).trans HG1'.out; have b0 := cell_heap gb (j := 0) rfl; have fb0 := fr_heap gb 0; have b1 := cell_heap gb (j := 1) rfl; have fb1 := fr_heap gb 1; have b2 := cell_heap gb (j := 2) rfl; have fb2 := fr_heap gb 2; have b3 := cell_heap gb (j := 3) rfl; have fb3 := fr_heap gb 3; have b4 := cell_heap gb (j := 4) rfl; have fb4 := fr_heap gb 4; clear gb hC1 a0 a1 a2 a3 a4)
    refine bodyPost_ret (v := .tuple #[vS zSV, .int .i64 1]) ?_ rfl ?_
    · rw [results_cell2 rfl]
      unfold vS zSV
      go_simp
    · refine HFin.out wa _ zSV 1 (zSV_at wa _) (on HB.out HA1.out) ?_ (by rw [HP.out]; rfl)
      repeat (first | (with_reducible refine Turns.two ?_ (by first | exact .inl rfl | exact .inr rfl) _) | with_reducible exact Turns.refl _ _)
  | true =>
    have HH : Hid (∀ W, Calls Try.prog 23 #[.agg #[.int .i64 pl, .int .i64 si, .slice x1 n1 c1, .slice x2 n2 c2, .slice x3 n3 c3]] W fun e w' => e = .returned (.int .i64 n2) ∧ Below W.heap.size W w') := hid fun W => head_any ⟨pl, si, x1, n1, c1, I, x2, n2, c2, E, x3, n3, c3, U⟩ W
    have HWi : Hid (∀ W, Calls Try.prog 42 #[.int .i64 head, .int .i64 0, .int .i64 n2] W fun e w' => e = .returned (.bool tW) ∧ w' = W) := hid fun W => by
      rw [HTW.out]
      exact within_any head 0 n2 W
    cases tW with
    | false =>
      go_enter Try.func26, Try.ntmps26
      go_wp2_with (first
        | (go_at_call 16; refine hC1.mono ?_; rintro e wa ⟨rfl, H1⟩; rw [← HW.out] at H1; have HA1 := hid H1; replace a0 := keep H1 HA.out.1; replace a1 := keep H1 HA.out.2.1; replace a2 := keep H1 HA.out.2.2.1; replace a3 := keep H1 HA.out.2.2.2.1; replace a4 := keep H1 HA.out.2.2.2.2; clear H1 hC1)
        | (go_at_call 23; refine (HH.out _).mono ?_; rintro e wb ⟨rfl, H2⟩; have HB2 := hid (on HA1.out H2); have gb := (HB2.out.block (w.heap.size + 1) (by have := HSz.out; omega)).trans HG1'.out; have b0 := cell_heap gb (j := 0) rfl; have fb0 := fr_heap gb 0; have b1 := cell_heap gb (j := 1) rfl; have fb1 := fr_heap gb 1; have b2 := cell_heap gb (j := 2) rfl; have fb2 := fr_heap gb 2; have b3 := cell_heap gb (j := 3) rfl; have fb3 := fr_heap gb 3; have b4 := cell_heap gb (j := 4) rfl; have fb4 := fr_heap gb 4; clear gb H2 a0 a1 a2 a3 a4)
        | (go_at_call 42; refine (HWi.out _).mono ?_; rintro e w2 ⟨rfl, hw2⟩; subst w2))
      refine bodyPost_ret (v := .tuple #[vS zSV, .int .i64 1]) ?_ rfl ?_
      · rw [results_cell2 rfl]
        unfold vS zSV
        go_simp
      · refine HFin.out wb _ zSV 1 (zSV_at wb _) (on HB.out HB2.out) ?_ (by rw [HP.out]; rfl)
        repeat (first | (with_reducible refine Turns.two ?_ (by first | exact .inl rfl | exact .inr rfl) _) | with_reducible exact Turns.refl _ _)
    | true =>
      have hh : (0 : Int) ≤ head ∧ head ≤ (n2 : Int) := of_decide_eq_true HTW.out.symm
      obtain ⟨hd, rfl⟩ : ∃ hd : Nat, head = hd := ⟨head.toNat, by omega⟩
      have hdn : hd ≤ n2 := by omega
      obtain ⟨d, hd2⟩ : ∃ d, d = n2 - hd := ⟨_, rfl⟩
      have HD := hid (And.intro hdn hd2)
      have hsub : IntKind.i64.wrap ((n2 : Int) - (hd : Int)) = (d : Int) := by rw [IntKind.wrap_i64]; omega
      have HP2 : Hid (PP = if n3 < d then (zS, 4) else (backN d (pS V), 0)) := hid (by
        rw [HP.out]
        simp only [if_true]
        have e2 : V.n2 = n2 := congrArg SV.n2 HV.out
        have e3 : V.n3 = n3 := congrArg SV.n3 HV.out
        rw [Int.toNat_natCast, e2, e3, ← hd2]
        by_cases q : n3 < d
        · rw [if_pos q, if_pos (by omega)]
        · rw [if_neg q, if_neg (by omega)])
      clear HP HTW hh hdn hd2
      by_cases hU : n3 < d
      · go_enter Try.func26, Try.ntmps26
        go_upto_region 3 with (first
          | (go_at_call 16; refine hC1.mono ?_; rintro e wa ⟨rfl, H1⟩; rw [← HW.out] at H1; have HA1 := hid H1; replace a0 := keep H1 HA.out.1; replace a1 := keep H1 HA.out.2.1; replace a2 := keep H1 HA.out.2.2.1; replace a3 := keep H1 HA.out.2.2.2.1; replace a4 := keep H1 HA.out.2.2.2.2; clear H1 hC1)
          | (go_at_call 23; refine (HH.out _).mono ?_; rintro e wb ⟨rfl, H2⟩; have HB2 := hid (on HA1.out H2); clear H2 a0 a1 a2 a3 a4)
          | (go_at_call 42; refine (HWi.out _).mono ?_; rintro e w2 ⟨rfl, hw2⟩; subst w2))
        have bD := HB2.out.drew
        have S1 := (⟨keep bD HA.out.1, keep bD HA.out.2.1, keep bD HA.out.2.2.1, keep bD HA.out.2.2.2.1, keep bD HA.out.2.2.2.2⟩ : wb.drew.cell? ⟨w.heap.size, 0, none⟩ = some (.int .i64 pl) ∧ wb.drew.cell? ⟨w.heap.size, 1, none⟩ = some (.int .i64 si) ∧ wb.drew.cell? ⟨w.heap.size, 2, none⟩ = some (.slice x1 n1 c1) ∧ wb.drew.cell? ⟨w.heap.size, 3, none⟩ = some (.slice x2 n2 c2) ∧ wb.drew.cell? ⟨w.heap.size, 4, none⟩ = some (.slice x3 n3 c3))
        refine wp_region_tail (fun u => u.cell? ⟨w.heap.size, 0, none⟩ = some (.int .i64 pl) ∧ u.cell? ⟨w.heap.size, 1, none⟩ = some (.int .i64 si) ∧ u.cell? ⟨w.heap.size, 2, none⟩ = some (.slice x1 n1 c1) ∧ u.cell? ⟨w.heap.size, 3, none⟩ = some (.slice x2 n2 c2) ∧ u.cell? ⟨w.heap.size, 4, none⟩ = some (.slice x3 n3 c3)) [] (by kernel_rfl) S1 (fun hS => ?_)
        have HBD := hid bD
        clear S1 bD
        generalize wb.drew = wD at *
        refine By.tk 0 ?_
        refine By.tk 2 ?_
        refine By.tk 4 ?_
        refine By.tk 5 ?_
        refine By.tk 6 ?_
        refine wpAnyT_one (i := 1) (by kernel_rfl) rfl (fun K hK => ?_)
        go_simp
        refine (HH.out wD).mono ?_
        rintro e wc ⟨rfl, b3⟩
        have S2 := (⟨keep b3 hS.1, keep b3 hS.2.1, keep b3 hS.2.2.1, keep b3 hS.2.2.2.1, keep b3 hS.2.2.2.2⟩ : wc.cell? ⟨w.heap.size, 0, none⟩ = some (.int .i64 pl) ∧ wc.cell? ⟨w.heap.size, 1, none⟩ = some (.int .i64 si) ∧ wc.cell? ⟨w.heap.size, 2, none⟩ = some (.slice x1 n1 c1) ∧ wc.cell? ⟨w.heap.size, 3, none⟩ = some (.slice x2 n2 c2) ∧ wc.cell? ⟨w.heap.size, 4, none⟩ = some (.slice x3 n3 c3))
        have HB3 := hid (on HBD.out b3)
        clear hS b3
        refine hK.out _ _ (fun _ => S2) ?_
        clear hK K
        refine By.tk 3 ?_
        refine By.tk 7 ?_
        refine wpAnyT_done (by kernel_rfl) ?_ _
        clear S2
        have gb := (HB3.out.block (w.heap.size + 1) (by have := HSz.out; omega)).trans HG1'.out
        have b0 := cell_heap gb (j := 0) rfl
        have fb0 := fr_heap gb 0
        have b1 := cell_heap gb (j := 1) rfl
        have fb1 := fr_heap gb 1
        have b2 := cell_heap gb (j := 2) rfl
        have fb2 := fr_heap gb 2
        have b3 := cell_heap gb (j := 3) rfl
        have fb3 := fr_heap gb 3
        have b4 := cell_heap gb (j := 4) rfl
        have fb4 := fr_heap gb 4
        clear gb
        go_wp2_with fail
        refine bodyPost_ret (v := .tuple #[vS zSV, .int .i64 4]) ?_ rfl ?_
        · rw [results_cell2 rfl]
          unfold vS zSV
          go_simp
        · refine HFin.out wc _ zSV 4 (zSV_at wc _) (on HB.out HB3.out) ?_ (by rw [HP2.out, if_pos hU]; rfl)
          repeat (first | (with_reducible refine Turns.two ?_ (by first | exact .inl rfl | exact .inr rfl) _) | with_reducible exact Turns.refl _ _)
      · go_enter Try.func26, Try.ntmps26
        go_upto_region 3 with (first
          | (go_at_call 16; refine hC1.mono ?_; rintro e wa ⟨rfl, H1⟩; rw [← HW.out] at H1; have HA1 := hid H1; replace a0 := keep H1 HA.out.1; replace a1 := keep H1 HA.out.2.1; replace a2 := keep H1 HA.out.2.2.1; replace a3 := keep H1 HA.out.2.2.2.1; replace a4 := keep H1 HA.out.2.2.2.2; clear H1 hC1)
          | (go_at_call 23; refine (HH.out _).mono ?_; rintro e wb ⟨rfl, H2⟩; have HB2 := hid (on HA1.out H2); clear H2 a0 a1 a2 a3 a4)
          | (go_at_call 42; refine (HWi.out _).mono ?_; rintro e w2 ⟨rfl, hw2⟩; subst w2))
        have bD := HB2.out.drew
        have S1 := (⟨keep bD HA.out.1, keep bD HA.out.2.1, keep bD HA.out.2.2.1, keep bD HA.out.2.2.2.1, keep bD HA.out.2.2.2.2⟩ : wb.drew.cell? ⟨w.heap.size, 0, none⟩ = some (.int .i64 pl) ∧ wb.drew.cell? ⟨w.heap.size, 1, none⟩ = some (.int .i64 si) ∧ wb.drew.cell? ⟨w.heap.size, 2, none⟩ = some (.slice x1 n1 c1) ∧ wb.drew.cell? ⟨w.heap.size, 3, none⟩ = some (.slice x2 n2 c2) ∧ wb.drew.cell? ⟨w.heap.size, 4, none⟩ = some (.slice x3 n3 c3))
        refine wp_region_tail (fun u => u.cell? ⟨w.heap.size, 0, none⟩ = some (.int .i64 pl) ∧ u.cell? ⟨w.heap.size, 1, none⟩ = some (.int .i64 si) ∧ u.cell? ⟨w.heap.size, 2, none⟩ = some (.slice x1 n1 c1) ∧ u.cell? ⟨w.heap.size, 3, none⟩ = some (.slice x2 n2 c2) ∧ u.cell? ⟨w.heap.size, 4, none⟩ = some (.slice x3 n3 c3)) [] (by kernel_rfl) S1 (fun hS => ?_)
        have HBD := hid bD
        clear S1 bD
        generalize wb.drew = wD at *
        refine By.tk 0 ?_
        refine By.tk 2 ?_
        refine By.tk 4 ?_
        refine By.tk 5 ?_
        refine By.tk 6 ?_
        refine wpAnyT_one (i := 1) (by kernel_rfl) rfl (fun K hK => ?_)
        go_simp
        refine (HH.out wD).mono ?_
        rintro e wc ⟨rfl, b3⟩
        have S2 := (⟨keep b3 hS.1, keep b3 hS.2.1, keep b3 hS.2.2.1, keep b3 hS.2.2.2.1, keep b3 hS.2.2.2.2⟩ : wc.cell? ⟨w.heap.size, 0, none⟩ = some (.int .i64 pl) ∧ wc.cell? ⟨w.heap.size, 1, none⟩ = some (.int .i64 si) ∧ wc.cell? ⟨w.heap.size, 2, none⟩ = some (.slice x1 n1 c1) ∧ wc.cell? ⟨w.heap.size, 3, none⟩ = some (.slice x2 n2 c2) ∧ wc.cell? ⟨w.heap.size, 4, none⟩ = some (.slice x3 n3 c3))
        have HB3 := hid (on HBD.out b3)
        clear hS b3
        refine hK.out _ _ (fun _ => S2) ?_
        clear hK K
        refine By.tk 3 ?_
        refine By.tk 7 ?_
        refine wpAnyT_done (by kernel_rfl) ?_ _
        have HU := hid hU
        have b0 := S2.1
        have b1 := S2.2.1
        have b2 := S2.2.2.1
        have b3 := S2.2.2.2.1
        have b4 := S2.2.2.2.2
        have hC2 := HC2.out wc HB3.out
        rw [HV.out] at hC2
        unfold vS at hC2
        dsimp only at hC2
        clear S2
        go_upto_region 6 with (go_at_call 39; refine hC2.mono ?_; rintro e wd ⟨s', rfl, H4⟩; have gb := ((on HB3.out H4.out.2.2).block w.heap.size (by have := HSz.out; omega)).trans HG0.out; have b0 := cell_heap gb (j := 0) rfl; have fb0 := fr_heap gb 0; have b1 := cell_heap gb (j := 1) rfl; have fb1 := fr_heap gb 1; have b2 := cell_heap gb (j := 2) rfl; have fb2 := fr_heap gb 2; have b3 := cell_heap gb (j := 3) rfl; have fb3 := fr_heap gb 3; have b4 := cell_heap gb (j := 4) rfl; have fb4 := fr_heap gb 4; have HGb := hid gb; clear gb hC2; obtain ⟨tl, ts, t1, j1, l1, tI, t2, j2, l2, tE, t3, j3, l3, tU⟩ := s'; dsimp only)
        have e5 : ((((wd.setCell ⟨w.heap.size, 0, none⟩ (.int .i64 tl)).setCell ⟨w.heap.size, 1, none⟩ (.int .i64 ts)).setCell ⟨w.heap.size, 2, none⟩ (.slice t1 j1 l1)).setCell ⟨w.heap.size, 3, none⟩ (.slice t2 j2 l2)).setCell ⟨w.heap.size, 4, none⟩ (.slice t3 j3 l3) = put5 wd w.heap.size 0 ⟨tl, ts, t1, j1, l1, tI, t2, j2, l2, tE, t3, j3, l3, tU⟩ := rfl
        rw [e5]
        have HS := hid (BkSt.start (S := pS V) HB.out HSz.out HB3.out H4.out.2.2 H4.out.1 (H4.out.2.1.trans (by rw [HV.out])) HGb.out rfl HG1.out)
        generalize put5 wd w.heap.size 0 ⟨tl, ts, t1, j1, l1, tI, t2, j2, l2, tE, t3, j3, l3, tU⟩ = wS at *
        clear e5 b0 b1 b2 b3 b4 fb0 fb1 fb2 fb3 fb4 HC2 HGb H4 HB3 HBD HB2 HA1 hsub
        have HOk : Hid (okS (pS V) ∧ n2 = (pS V).log.length ∧ n3 = (pS V).und.length ∧ (pS V).its.length + n3 < 100000000) := hid (by
          have h1 := bz_of HK.out.symm
          have h2 := HLn.out
          have h3 := HSm.out
          have e2 : V.n2 = n2 := congrArg SV.n2 HV.out
          have e3 : V.n3 = n3 := congrArg SV.n3 HV.out
          refine ⟨h1, ?_, ?_, ?_⟩
          · show n2 = V.E.length
            omega
          · show n3 = (V.U.map pU).length
            rw [List.length_map]; omega
          · show (V.I.map pI).length + n3 < _
            rw [List.length_map]; omega)
        clear HLn HSm HK
        go_loopw [] (fun wr => ∃ k : Nat, k ≤ d ∧ Hid (BkSt w wr w.heap.size (pS V) k)) (fun wr => nE wr w.heap.size)
        case atStart => exact ⟨0, Nat.zero_le _, HS.out⟩
        case round =>
          clear HS
          obtain ⟨k, hk, HR⟩ := hrel
          obtain ⟨vk, A, hp, hA, ho, hs, hbw, hz⟩ := HR.out
          obtain ⟨hri, hil, hnk, hel, hul⟩ := BkSt.facts HOk.out.1 (by have := HOk.out.2.2.1; have := HU.out; omega) ho hs
          have k0 := cell_heap hp hA.1
          have k1 := cell_heap hp hA.2.1
          have k2 := cell_heap hp hA.2.2.1
          have k3 := cell_heap hp hA.2.2.2.1
          have k4 := cell_heap hp hA.2.2.2.2
          have HM := hid (nE_is k3)
          have hH := fun W => head_any vk W
          have HIn := hid (And.intro hp (And.intro hA (And.intro ho (And.intro hs (And.intro hbw hz)))))
          have HFc := hid (And.intro hri (And.intro hil (And.intro hnk (And.intro hel hul))))
          unfold vS at hH
          have HH2 := hid hH
          obtain ⟨m, hm⟩ : ∃ m, m = vk.n2 := ⟨_, rfl⟩
          have HMm := hid hm
          rw [← hm] at k3 HH2
          clear hp hA ho hs hbw hz hri hil hnk hel hul hH hm
          by_cases hlt : hd < m
          · go_upto_region 7 with (go_at_call 23; refine (HH2.out _).mono ?_; rintro e wb ⟨rfl, b2⟩)
            have hI := HIn.out
            have hF := HFc.out
            have hT := takeBack_any ((b2.block _ (lt_heap hI.1)).trans hI.1) hI.2.1 (by decide) (by decide) (by decide) (by decide) (hI.2.2.1.below b2) hF.1 (by have := HOk.out.2.2.2; have := HOk.out.2.2.1; have := HU.out; omega) (fun e => by have h9 := hF.2.2.2.2; rw [e, List.length_nil] at h9; have := HOk.out.2.2.1; have := HOk.out.2.1; have := hF.2.2.1; have := HD.out; have := HMm.out; have := HU.out; omega) (fun e => by have h9 := hF.2.2.2.1; rw [e, List.length_nil] at h9; have := HMm.out; omega)
            have HB2' := hid b2
            clear k0 k1 k2 k3 k4 b2 hI hF HH2
            go_wp2_with (go_at_call 54; refine hT.mono ?_; rintro e w3 ⟨rfl, H3⟩; clear hT)
            go_roundw
            case rel =>
              have hI := HIn.out
              have b2 := HB2'.out
              refine ⟨k + 1, ?_, hid (BkSt.next ((b2.block _ (lt_heap hI.1)).trans hI.1) hI.2.2.2.1 (on hI.2.2.2.2.1 b2) ((b2.block _ (lt_heap hI.2.2.2.2.2)).trans hI.2.2.2.2.2) (Nat.le_refl _) H3.out)⟩
              have := HFc.out.2.2.1
              have := HOk.out.2.1
              have := HD.out
              have := HMm.out
              omega
            case measure =>
              obtain ⟨v', A', q1, q2, _, q4, q5, _⟩ := H3.out
              rw [HM.out, nE_is (cell_heap q1 q2.2.2.2.1), ← q4.toS.e.len, ← HFc.out.2.2.2.1]
              have e1 : (back1 (pS vk)).log.length < (pS vk).log.length := by
                obtain ⟨h1, h2, h3, h4, h5⟩ := backs_ok HOk.out.1 (k := k) (by have := HOk.out.2.2.1; have := HU.out; omega)
                obtain ⟨g1, g2, g3, g4, g5⟩ := backs_ok HOk.out.1 (k := k + 1) (by have := HOk.out.2.2.1; have := HU.out; have := HFc.out.2.2.1; have := HOk.out.2.1; have := HD.out; have := HMm.out; omega)
                rw [HIn.out.2.2.2.1, ← backN_next]
                omega
              rw [← q5] at e1
              exact e1
          · have hI := HIn.out
            have gb0 := hI.2.2.2.2.2
            unfold zBox at gb0
            have HGB := hid gb0
            have hkd : k = d := by
              have := HFc.out.2.2.1
              have := HOk.out.2.1
              have := HD.out
              have := HMm.out
              omega
            have HKD := hid hkd
            have hln := HFc.out.2.2.2.1
            clear gb0 hI hkd
            go_wp2_with (go_at_call 23; refine (HH2.out _).mono ?_; rintro e wb ⟨rfl, b2'⟩; have HB2' := hid b2'; replace k0 := keep b2' k0; replace k1 := keep b2' k1; replace k2 := keep b2' k2; replace k3 := keep b2' k3; replace k4 := keep b2' k4; have gb := (b2'.block _ (lt_heap HGB.out)).trans HGB.out; have b0 := cell_heap gb (j := 0) rfl; have fb0 := fr_heap gb 0; have b1 := cell_heap gb (j := 1) rfl; have fb1 := fr_heap gb 1; have b2 := cell_heap gb (j := 2) rfl; have fb2 := fr_heap gb 2; have b3 := cell_heap gb (j := 3) rfl; have fb3 := fr_heap gb 3; have b4 := cell_heap gb (j := 4) rfl; have fb4 := fr_heap gb 4; clear gb b2' HH2)
            refine bodyPost_ret (v := .tuple #[vS vk, .int .i64 0]) ?_ rfl ?_
            · rw [results_cell2 rfl]
              unfold vS
              rw [← HMm.out]
              go_simp
            · refine HFin.out wb _ vk 0 (HIn.out.2.2.1.below HB2'.out).toS (on HIn.out.2.2.2.2.1 HB2'.out) ?_ (by rw [HP2.out, if_neg HU.out, HIn.out.2.2.2.1, HKD.out])
              repeat (first | (with_reducible refine Turns.two ?_ (by first | exact .inl rfl | exact .inr rfl) _) | with_reducible exact Turns.refl _ _)

end Go.Proofs.Ytnfflmndejbepaa.Sh

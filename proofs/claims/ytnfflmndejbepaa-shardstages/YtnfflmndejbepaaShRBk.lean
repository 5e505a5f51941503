/-
  The document's Back.
  Conditions: the shard lies in memory, its items and Undos are together not too many.
-/
import Derived.Test.YtnfflmndejbepaaShBk
import Derived.Test.YtnfflmndejbepaaJShRSetP
import Derived.Test.YtnfflmndejbepaaShRMay1
namespace Go.Proofs.Ytnfflmndejbepaa.Sh
set_option linter.unusedSectionVars false
variable [Inhabited DZ]
open Go.RowKit By Fl
set_option linter.unusedVariables false
set_option linter.unusedSimpArgs false
set_option maxRecDepth 100000

theorem scells {W : World} {g : Nat} {v : SV} {t : TypeId} (h : W.heap[g]? = some (.cells (SCells v) t (0, 0))) : W.cell? ⟨g, 0, none⟩ = some (.int .i64 v.pl) ∧ W.cell? ⟨g, 1, none⟩ = some (.int .i64 v.si) ∧ W.cell? ⟨g, 2, none⟩ = some (.slice v.x1 v.n1 v.c1) ∧ W.cell? ⟨g, 3, none⟩ = some (.slice v.x2 v.n2 v.c2) ∧ W.cell? ⟨g, 4, none⟩ = some (.slice v.x3 v.n3 v.c3) :=
  ⟨cell_heap h rfl, cell_heap h rfl, cell_heap h rfl, cell_heap h rfl, cell_heap h rfl⟩

/- What is read lies below. -/
section
variable {w : World} {F G : Nat → Prop}
theorem CAt.lt {c : CV} (h : CAt w F c) : CAt w (fun q => q < w.heap.size) c := by
  refine ⟨h.s, h.sm, fun h0 a ha => ?_⟩
  rcases h.s.row with q | ⟨b, o, e, q, _⟩
  · exact absurd q h0
  · rw [e] at ha
    injection ha with ha
    subst ha
    exact q
theorem Lis.lt {α : Type} {en : α → List Value} {sz : Nat} {A : World → (Nat → Prop) → α → Prop} {x : Option Addr} {n c : Nat} {L : List α} (h : Lis en sz A w F x n c L) (hA : ∀ a, A w F a → A w G a) (hG : ∀ q, q < w.heap.size → G q) : Lis en sz A w G x n c L :=
  ⟨h.len, h.le, h.small, h.nil, h.row.imp id fun ⟨b, o, h1, h2, h3, h4⟩ => ⟨b, o, h1, h2, hG _ h2, h4⟩, fun a ha => hA a (h.each a ha)⟩
theorem SAt.lt {v : SV} (h : SAt w F v) : SAt w (fun q => q < w.heap.size) v :=
  ⟨Lis.lt h.i (fun a ha => ⟨ha.1, CAt.lt ha.2⟩) fun _ q => q, Lis.lt h.e (fun a ha => ha) fun _ q => q, Lis.lt h.u (fun a ha => ⟨ha.1, CAt.lt ha.2⟩) fun _ q => q⟩
end

/- As far as it is taken back: in the box g; what it leans on is neither that nor the two boxes ahead of w1's end. -/
def RF (w1 : World) (g q : Nat) : Prop := q ≠ g ∧ (q + 2 < w1.heap.size ∨ w1.heap.size ≤ q)
def RB (w1 wr : World) (g : Nat) (S : Shd) (k : Nat) (v : SV) : Prop :=
  wr.heap[g]? = some (.cells (SCells v) 26 (0, 0)) ∧ SAt wr (RF w1 g) v ∧ pS v = backN k S ∧ Below w1.heap.size w1 wr

theorem RB.facts {w1 wr : World} {g : Nat} {S : Shd} {k : Nat} {v : SV} (hok : okS S) (hk : k ≤ S.und.length) (h : RB w1 wr g S k v) : v.I.length ≤ S.its.length + k ∧ v.n2 + k = S.log.length ∧ v.n3 + k = S.und.length ∧ v.I.length = v.n1 ∧ v.E.length = v.n2 ∧ v.U.length = v.n3 := by
  obtain ⟨h1, h2, h3, h4, _⟩ := backs_ok hok hk
  rw [← h.2.2.1] at h1 h2 h3 h4
  have e1 := h.2.1.i.len
  have e2 := h.2.1.e.len
  have e3 := h.2.1.u.len
  have h5 : (v.I.map pI).length ≤ S.its.length + k := h4
  have h6 : v.E.length + k = S.log.length := h2
  have h7 : (v.U.map pU).length + k = S.und.length := h3
  rw [List.length_map] at h5 h7
  exact ⟨h5, by omega, by omega, e1, e2, e3⟩

theorem RB.next {w1 wr w5 w8 : World} {g : Nat} {S : Shd} {k m2 m3 : Nat} {v : SV} {u : UV} {y : Option Addr} {cy : Nat} {L' : List IV} {B : Nat} (h : RB w1 wr g S k v) (hu : v.U[m3]? = some u) (h3 : v.n3 = m3 + 1) (h2 : v.n2 = m2 + 1) (h1 : v.I.length < 100000000)
    (b5 : Below wr.heap.size wr w5) (ho : Own w5 B 79 4 enI (.slice y L'.length cy) L') (hL : L'.map pI = setI (v.I.map pI) u.nm u.has (pC u.was)) (hln : L'.length ≤ v.I.length + 1) (hm : ∀ a ∈ L', a ∈ v.I ∨ a = ⟨u.nm, u.was⟩) (hB : wr.heap.size ≤ B) (hg1 : w1.heap.size ≤ g) (t8 : Turns (fun q => q = g) w5 w8)
    (h8 : w8.heap[g]? = some (.cells (SCells ⟨v.pl, v.si, y, L'.length, cy, L', v.x2, m2, v.c2, v.E.take m2, v.x3, m3, v.c3, v.U.take m3⟩) 26 (0, 0))) :
    RB w1 w8 g S (k + 1) ⟨v.pl, v.si, y, L'.length, cy, L', v.x2, m2, v.c2, v.E.take m2, v.x3, m3, v.c3, v.U.take m3⟩ := by
  obtain ⟨q1, q2, q3, q4⟩ := h
  have lg := lt_heap q1
  have kp : Keeps (RF w1 g) wr w8 := (Keeps.below b5).trans (.turns t8 fun q hq e => hq.1 e)
  have s8 := q2.keeps kp
  have e2 := q2.e.len
  have e3 := q2.u.len
  refine ⟨h8, ⟨?_, s8.e.take (show m2 ≤ v.n2 by omega), s8.u.take (show m3 ≤ v.n3 by omega)⟩, ?_, (on q4 b5).trans (t8.below (fun q e => by omega) (by have := q4.size; have := b5.size; omega))⟩
  · have o8 := ho.turns t8 (fun q hq e => by have := (World.ownsRow.lt ho q hq).1; omega)
    refine own_lis irow o8 (show L'.length ≤ 100000000 by omega) (fun q hq => ?_) fun a ha => ?_
    · have := (World.ownsRow.lt o8 q hq).1
      have := q4.size
      exact ⟨by omega, .inr (by omega)⟩
    · rcases hm a ha with e | e
      · exact s8.i.each a e
      · rw [e]
        exact s8.u.each u (List.mem_of_getElem? hu)
  · rw [backN_next, ← q3]
    have hgl : (v.U.map pU).getLast? = some (pU u) := by
      rw [List.getLast?_eq_getElem?, List.length_map, List.getElem?_map, e3, h3, Nat.add_sub_cancel, hu]; rfl
    unfold back1 pS
    dsimp only
    rw [hgl]
    dsimp only
    rw [hL, List.dropLast_eq_take, List.dropLast_eq_take, List.length_map, e3, e2, h3, h2, Nat.add_sub_cancel, Nat.add_sub_cancel, List.map_take]
    rfl

theorem RB.fin {w w1 wr W : World} {g : Nat} {S : Shd} {k : Nat} {v : SV} (h : RB w1 wr g S k v) (hl : w1.heap.size = w.heap.size + 2) (bb : Below w.heap.size w w1) (t : Turns (fun k => k = w.heap.size ∨ k = w.heap.size + 1) wr W) : SAt W (fun _ => True) v ∧ Below w.heap.size w W := by
  obtain ⟨q1, q2, q3, q4⟩ := h
  have b := on bb q4
  exact ⟨(q2.keeps (.turns t fun q hq e => by have := hq.2; rcases e with e | e <;> omega)).weak fun _ _ => trivial, b.trans (t.below (fun q e => by rcases e with e | e <;> omega) b.size)⟩

set_option maxHeartbeats 12800000 in
theorem rback_any {w : World} {F : Nat → Prop} {v : SV} (head : Int) (h : SAt w F v) (hsm : v.I.length + v.U.length < 99999990) : Calls Try.prog 27 #[vS v, .int .i64 head] w fun e w' => Backs w (backP (pS v) head) e w' := by
  obtain ⟨w1, hw1⟩ : ∃ w1, w1 = (w.alloc (.cells (SCells v) 26)).alloc (.cells zBox 26) := ⟨_, rfl⟩
  obtain ⟨bb, hsz, g0, g1⟩ := two_boxes w (SCells v) zBox 26
  rw [← hw1] at bb hsz g0 g1
  have hC1 := rshard_any (h.below bb)
  obtain ⟨tK, htK⟩ : ∃ t, t = bz (okS (pS v)) := ⟨_, rfl⟩
  have HLn := hid (And.intro h.i.len (And.intro h.e.len h.u.len))
  have HP : Hid (backP (pS v) head = if tK then (if decide ((0 : Int) ≤ head ∧ head ≤ (v.n2 : Int)) then (if (v.n3 : Int) < (v.n2 : Int) - head then (zS, 4) else (backN (v.n2 - head.toNat) (pS v), 0)) else (zS, 1)) else (zS, 1)) := hid (by
    rw [htK, ← h.e.len, ← h.u.len]
    unfold backP pS
    dsimp only
    rw [List.length_map])
  have HK := hid htK
  rw [← htK] at hC1
  have HB := hid bb
  have HSz := hid hsz
  have HG0 := hid g0
  have HG1' := hid g1
  have HSm := hid hsm
  have HI := hid h
  have sm2 := h.e.small
  have sm3 := h.u.small
  generalize backP (pS v) head = PP at *
  clear h bb hsz g0 g1 htK hsm
  unfold SCells zBox at hw1
  unfold SCells at HG0
  unfold zBox at HG1'
  unfold vS at hC1 ⊢
  have fin : ∀ (W : World) (s : SV) (z : Int), SAt W (fun _ => True) s → Below w.heap.size w W → PP = (pS s, z) → Backs w PP (.returned (.tuple #[vS s, .int .i64 z])) W := fun W s z h2 h3 hp => by
    rw [hp]
    exact ⟨s, rfl, hid ⟨h2, rfl, h3⟩⟩
  have HFin := hid fin
  clear fin
  have a0 := cell_heap HG0.out (j := 0) rfl
  have a1 := cell_heap HG0.out (j := 1) rfl
  have a2 := cell_heap HG0.out (j := 2) rfl
  have a3 := cell_heap HG0.out (j := 3) rfl
  have a4 := cell_heap HG0.out (j := 4) rfl
  have HA := hid (And.intro a0 (And.intro a1 (And.intro a2 (And.intro a3 a4))))
  have HW := hid hw1
  rw [hw1] at a0 a1 a2 a3 a4 hC1
  clear hw1
  cases tK with
  | false =>
    go_enter Try.func27, Try.ntmps27
    go_wp2_with (go_at_call 17; refine hC1.mono ?_; rintro e wa ⟨rfl, H1⟩; rw [← HW.out] at H1; have HA1 := hid H1; replace a0 := keep H1 HA.out.1; replace a1 := keep H1 HA.out.2.1; replace a2 := keep H1 HA.out.2.2.1; replace a3 := keep H1 HA.out.2.2.2.1; replace a4 := keep H1 HA.out.2.2.2.2; have gb := (H1.block (w.heap.size + 1) (by have := HSz.out; omega)).trans HG1'.out; have b0 := cell_heap gb (j := 0) rfl; have fb0 := fr_heap gb 0; have b1 := cell_heap gb (j := 1) rfl; have fb1 := fr_heap gb 1; have b2 := cell_heap gb (j := 2) rfl; have fb2 := fr_heap gb 2; have b3 := cell_heap gb (j := 3) rfl; have fb3 := fr_heap gb 3; have b4 := cell_heap gb (j := 4) rfl; have fb4 := fr_heap gb 4; clear gb H1 hC1)
    refine bodyPost_ret (v := .tuple #[vS zSV, .int .i64 1]) ?_ rfl ?_
    · rw [results_cell2 rfl]
      unfold vS zSV
      go_simp
    · refine HFin.out _ zSV 1 (zSV_at _ _) ?_ (by rw [HP.out]; rfl)
      refine (on HB.out HA1.out).trans (Turns.below (F := fun k => k = w.heap.size ∨ k = w.heap.size + 1) ?_ (fun q e => by rcases e with e | e <;> omega) (on HB.out HA1.out).size)
      repeat (first | (with_reducible refine Turns.two ?_ (by first | exact .inl rfl | exact .inr rfl) _) | with_reducible exact Turns.refl _ _)
  | true =>
    have HPn : Hid (¬ ((0 : Int) ≤ head ∧ head ≤ (v.n2 : Int)) → PP = (zS, 1)) := hid fun hn => by rw [HP.out, decide_eq_false hn]; rfl
    by_cases hneg : head < 0
    · go_enter Try.func27, Try.ntmps27
      go_wp2_with (go_at_call 17; refine hC1.mono ?_; rintro e wa ⟨rfl, H1⟩; rw [← HW.out] at H1; have HA1 := hid H1; replace a0 := keep H1 HA.out.1; replace a1 := keep H1 HA.out.2.1; replace a2 := keep H1 HA.out.2.2.1; replace a3 := keep H1 HA.out.2.2.2.1; replace a4 := keep H1 HA.out.2.2.2.2; have gb := (H1.block (w.heap.size + 1) (by have := HSz.out; omega)).trans HG1'.out; have b0 := cell_heap gb (j := 0) rfl; have fb0 := fr_heap gb 0; have b1 := cell_heap gb (j := 1) rfl; have fb1 := fr_heap gb 1; have b2 := cell_heap gb (j := 2) rfl; have fb2 := fr_heap gb 2; have b3 := cell_heap gb (j := 3) rfl; have fb3 := fr_heap gb 3; have b4 := cell_heap gb (j := 4) rfl; have fb4 := fr_heap gb 4; clear gb H1 hC1)
      refine bodyPost_ret (v := .tuple #[vS zSV, .int .i64 1]) ?_ rfl ?_
      · rw [results_cell2 rfl]
        unfold vS zSV
        go_simp
      · refine HFin.out _ zSV 1 (zSV_at _ _) ?_ (by rw [HPn.out (by omega)]; rfl)
        refine (on HB.out HA1.out).trans (Turns.below (F := fun k => k = w.heap.size ∨ k = w.heap.size + 1) ?_ (fun q e => by rcases e with e | e <;> omega) (on HB.out HA1.out).size)
        repeat (first | (with_reducible refine Turns.two ?_ (by first | exact .inl rfl | exact .inr rfl) _) | with_reducible exact Turns.refl _ _)
    obtain ⟨hd, rfl⟩ : ∃ hd : Nat, head = hd := ⟨head.toNat, by omega⟩
    clear hneg
    by_cases hbig : v.n2 < hd
    · go_enter Try.func27, Try.ntmps27
      go_wp2_with (go_at_call 17; refine hC1.mono ?_; rintro e wa ⟨rfl, H1⟩; rw [← HW.out] at H1; have HA1 := hid H1; replace a0 := keep H1 HA.out.1; replace a1 := keep H1 HA.out.2.1; replace a2 := keep H1 HA.out.2.2.1; replace a3 := keep H1 HA.out.2.2.2.1; replace a4 := keep H1 HA.out.2.2.2.2; have gb := (H1.block (w.heap.size + 1) (by have := HSz.out; omega)).trans HG1'.out; have b0 := cell_heap gb (j := 0) rfl; have fb0 := fr_heap gb 0; have b1 := cell_heap gb (j := 1) rfl; have fb1 := fr_heap gb 1; have b2 := cell_heap gb (j := 2) rfl; have fb2 := fr_heap gb 2; have b3 := cell_heap gb (j := 3) rfl; have fb3 := fr_heap gb 3; have b4 := cell_heap gb (j := 4) rfl; have fb4 := fr_heap gb 4; clear gb H1 hC1)
      refine bodyPost_ret (v := .tuple #[vS zSV, .int .i64 1]) ?_ rfl ?_
      · rw [results_cell2 rfl]
        unfold vS zSV
        go_simp
      · refine HFin.out _ zSV 1 (zSV_at _ _) ?_ (by rw [HPn.out (by omega)]; rfl)
        refine (on HB.out HA1.out).trans (Turns.below (F := fun k => k = w.heap.size ∨ k = w.heap.size + 1) ?_ (fun q e => by rcases e with e | e <;> omega) (on HB.out HA1.out).size)
        repeat (first | (with_reducible refine Turns.two ?_ (by first | exact .inl rfl | exact .inr rfl) _) | with_reducible exact Turns.refl _ _)
    obtain ⟨d, hd2⟩ : ∃ d, d = v.n2 - hd := ⟨_, rfl⟩
    have HD : Hid (hd ≤ v.n2 ∧ d = v.n2 - hd) := hid ⟨by omega, hd2⟩
    have hsub : IntKind.i64.wrap ((v.n2 : Int) - (hd : Int)) = (d : Int) := by rw [IntKind.wrap_i64]; omega
    have HP2 : Hid (PP = if v.n3 < d then (zS, 4) else (backN d (pS v), 0)) := hid (by
      rw [HP.out, decide_eq_true (show ((0 : Int) ≤ (hd : Int) ∧ (hd : Int) ≤ (v.n2 : Int)) by omega), Int.toNat_natCast, ← hd2]
      simp only [if_true]
      by_cases q : v.n3 < d
      · rw [if_pos q, if_pos (by omega)]
      · rw [if_neg q, if_neg (by omega)])
    clear HP HPn hd2
    by_cases hU : v.n3 < d
    · go_enter Try.func27, Try.ntmps27
      go_wp2_with (go_at_call 17; refine hC1.mono ?_; rintro e wa ⟨rfl, H1⟩; rw [← HW.out] at H1; have HA1 := hid H1; replace a0 := keep H1 HA.out.1; replace a1 := keep H1 HA.out.2.1; replace a2 := keep H1 HA.out.2.2.1; replace a3 := keep H1 HA.out.2.2.2.1; replace a4 := keep H1 HA.out.2.2.2.2; have gb := (H1.block (w.heap.size + 1) (by have := HSz.out; omega)).trans HG1'.out; have b0 := cell_heap gb (j := 0) rfl; have fb0 := fr_heap gb 0; have b1 := cell_heap gb (j := 1) rfl; have fb1 := fr_heap gb 1; have b2 := cell_heap gb (j := 2) rfl; have fb2 := fr_heap gb 2; have b3 := cell_heap gb (j := 3) rfl; have fb3 := fr_heap gb 3; have b4 := cell_heap gb (j := 4) rfl; have fb4 := fr_heap gb 4; clear gb H1 hC1)
      refine bodyPost_ret (v := .tuple #[vS zSV, .int .i64 4]) ?_ rfl ?_
      · rw [results_cell2 rfl]
        unfold vS zSV
        go_simp
      · refine HFin.out _ zSV 4 (zSV_at _ _) ?_ (by rw [HP2.out, if_pos hU]; rfl)
        refine (on HB.out HA1.out).trans (Turns.below (F := fun k => k = w.heap.size ∨ k = w.heap.size + 1) ?_ (fun q e => by rcases e with e | e <;> omega) (on HB.out HA1.out).size)
        repeat (first | (with_reducible refine Turns.two ?_ (by first | exact .inl rfl | exact .inr rfl) _) | with_reducible exact Turns.refl _ _)
    · go_enter Try.func27, Try.ntmps27
      go_upto_region 6 with (go_at_call 17; refine hC1.mono ?_; rintro e wa ⟨rfl, H1⟩; rw [← HW.out] at H1; have HA1 := hid H1; replace a0 := keep H1 HA.out.1; replace a1 := keep H1 HA.out.2.1; replace a2 := keep H1 HA.out.2.2.1; replace a3 := keep H1 HA.out.2.2.2.1; replace a4 := keep H1 HA.out.2.2.2.2; have gb := (H1.block (w.heap.size + 1) (by have := HSz.out; omega)).trans HG1'.out; have b0 := cell_heap gb (j := 0) rfl; have fb0 := fr_heap gb 0; have b1 := cell_heap gb (j := 1) rfl; have fb1 := fr_heap gb 1; have b2 := cell_heap gb (j := 2) rfl; have fb2 := fr_heap gb 2; have b3 := cell_heap gb (j := 3) rfl; have fb3 := fr_heap gb 3; have b4 := cell_heap gb (j := 4) rfl; have fb4 := fr_heap gb 4; clear gb H1 hC1)
      have HU := hid hU
      have HOk : Hid (okS (pS v) ∧ v.n2 = (pS v).log.length ∧ v.n3 = (pS v).und.length ∧ (pS v).its.length + v.n3 < 99999990) := hid (by
        have h1 := bz_of HK.out.symm
        have h2 := HLn.out
        have h3 := HSm.out
        refine ⟨h1, ?_, ?_, ?_⟩
        · show v.n2 = v.E.length
          omega
        · show v.n3 = (v.U.map pU).length
          rw [List.length_map]; omega
        · show (v.I.map pI).length + v.n3 < _
          rw [List.length_map]; omega)
      clear HLn HSm HK hsub hU b0 b1 b2 b3 b4 fb0 fb1 fb2 fb3 fb4
      obtain ⟨w3, hw3⟩ : ∃ w3, w3 = wa.alloc (.cells (SCells v) 26) := ⟨_, rfl⟩
      have b3 : Below wa.heap.size wa w3 := by rw [hw3]; exact al _ _
      have hb3 : w3.heap[wa.heap.size]? = some (.cells (SCells v) 26 (0, 0)) := by rw [hw3]; exact heap_alloc_new _ _
      have bw3 := on HA1.out b3
      have HR0 : Hid (RB w1 w3 wa.heap.size (pS v) 0 v) := hid ⟨hb3, ((HI.out.lt).below (on HB.out bw3)).weak (fun q hq => by have := (on HB.out HA1.out).size; have := HSz.out; exact ⟨by omega, .inl (by omega)⟩), rfl, bw3⟩
      unfold SCells at hw3
      rw [← hw3]
      replace a3 := keep b3 a3
      have HGe : Hid (w1.heap.size ≤ wa.heap.size) := hid HA1.out.size
      clear hw3 b3 hb3 bw3 a0 a1 a2 a4
      generalize wa.heap.size = g at *
      go_wp2_with fail
      clear a3
      go_loopw [7] (fun i wr => ∃ m : Nat, i = .int .i64 m ∧ Hid (∃ k vk, m + k = v.n2 ∧ k ≤ d ∧ RB w1 wr g (pS v) k vk)) (fun i _ => (intOf i).toNat)
      case atStart => exact ⟨v.n2, rfl, 0, v, rfl, Nat.zero_le _, HR0.out⟩
      case round =>
        clear HR0
        obtain ⟨m, rfl, HR⟩ := hrel
        obtain ⟨k, vk, hmk, hkd, hrb⟩ := HR.out
        have hF := RB.facts HOk.out.1 (by have := HOk.out.2.2.1; have := HU.out; omega) hrb
        have HRB := hid hrb
        have HF := hid hF
        have HMK := hid (And.intro hmk hkd)
        obtain ⟨k0, k1, k2, k3, k4⟩ := scells hrb.1
        by_cases hlt : hd < m
        · have h2e : vk.n2 = m := by have := HOk.out.2.1; omega
          have h3p : 0 < vk.n3 := by have := HOk.out.2.2.1; have := HU.out; have := HD.out; omega
          obtain ⟨m2, hm2⟩ : ∃ m2, m = m2 + 1 := ⟨m - 1, by omega⟩
          obtain ⟨m3, hm3⟩ : ∃ m3, vk.n3 = m3 + 1 := ⟨vk.n3 - 1, by omega⟩
          obtain ⟨u, hu⟩ : ∃ u, vk.U[m3]? = some u := ⟨_, List.getElem?_eq_getElem (by omega)⟩
          have sm2 := hrb.2.1.e.small
          have sm3 := hrb.2.1.u.small
          have le2 : m2 ≤ vk.c2 := by have := hrb.2.1.e.le; omega
          have le3 : m3 ≤ vk.c3 := by have := hrb.2.1.u.le; omega
          have hs2 : IntKind.i64.wrap ((m : Int) - 1) = (m2 : Int) := by rw [IntKind.wrap_i64]; omega
          have hs3 : IntKind.i64.wrap ((vk.n3 : Int) - 1) = (m3 : Int) := by rw [IntKind.wrap_i64]; omega
          have hi3 : m3 < vk.n3 := by omega
          rcases hrb.2.1.e.row with h0 | ⟨be, oe, hxe, _, _, _⟩
          · omega
          rcases hrb.2.1.u.row with h0 | ⟨bu, ou, hxu, _, _, hcu⟩
          · omega
          obtain ⟨u0, u1, u2, u3, u4, u5⟩ := u_at hcu hu
          have HM := hid (And.intro hm2 (And.intro hm3 (And.intro hu h2e)))
          have HX := hid (And.intro hxe hxu)
          rw [hxe] at k3
          rw [hxu] at k4
          clear hcu hm2 hm3 hu h2e hxe hxu hrb hF hmk hkd h3p
          go_upto_region 11 with (fail)
          obtain ⟨w4, hw4⟩ : ∃ w4, w4 = wr.alloc (.cells #[.int .i64 u.seq, .string u.nm, .bool u.has, .int .i64 u.was.sz, .slice u.was.x u.was.n u.was.c, .int .u32 u.was.sum] 89) := ⟨_, rfl⟩
          have b4 : Below wr.heap.size wr w4 := by rw [hw4]; exact al _ _
          have gu : w4.heap[wr.heap.size]? = some (.cells #[.int .i64 u.seq, .string u.nm, .bool u.has, .int .i64 u.was.sz, .slice u.was.x u.was.n u.was.c, .int .u32 u.was.sum] 89 (0, 0)) := by rw [hw4]; exact heap_alloc_new _ _
          have gb4 := (b4.block _ (lt_heap HRB.out.1)).trans HRB.out.1
          rw [← hw4]
          clear k0 k1 k2 k3 k4 u0 u1 u2 u3 u4 u5 hw4
          have v1 : w4.cell? ⟨wr.heap.size, 1, none⟩ = some (.string u.nm) := cell_heap gu rfl
          have v2 : w4.cell? ⟨wr.heap.size, 2, none⟩ = some (.bool u.has) := cell_heap gu rfl
          have v3 : w4.cell? ⟨wr.heap.size, 3, none⟩ = some (.int .i64 u.was.sz) := cell_heap gu rfl
          have v4 : w4.cell? ⟨wr.heap.size, 4, none⟩ = some (.slice u.was.x u.was.n u.was.c) := cell_heap gu rfl
          have v5 : w4.cell? ⟨wr.heap.size, 5, none⟩ = some (.int .u32 u.was.sum) := cell_heap gu rfl
          obtain ⟨_, _, k2, _, _⟩ := scells gb4
          have hset := rset_any u.nm u.has u.was (Is.below HRB.out.2.1.i b4) (by have := HF.out.1; have := HF.out.2.2.2.1; have := HOk.out.2.2.2; have := HOk.out.2.2.1; have := HU.out; have := HMK.out; omega)
          unfold vC at hset
          have HG4 := hid gb4
          have HB4 := hid b4
          have HLg := hid (lt_heap HRB.out.1)
          clear gb4 b4 gu
          go_upto_region 12 with (go_at_call 55; refine hset.mono ?_; rintro e w5 ⟨y, cy, L', rfl, H5⟩; have gb5 := (H5.out.2.2.2.2.block _ (lt_heap HG4.out)).trans HG4.out; have HG5 := hid gb5; obtain ⟨j0, j1, j2, j3, j4⟩ := scells gb5; have f2 := fr_heap gb5 2; have f3 := fr_heap gb5 3; have f4 := fr_heap gb5 4; rw [HX.out.1] at j3; rw [HX.out.2] at j4; clear gb5 hset v1 v2 v3 v4 v5 k2)
          go_wp2_with fail
          go_roundw
          case rel =>
            have hmm := HM.out
            refine ⟨m2, by go_num, k + 1, ⟨vk.pl, vk.si, y, L'.length, cy, L', vk.x2, m2, vk.c2, vk.E.take m2, vk.x3, m3, vk.c3, vk.U.take m3⟩, by have := HMK.out.1; omega, by have := HMK.out.1; have := HD.out; omega, ?_⟩
            refine RB.next HRB.out hmm.2.2.1 hmm.2.1 (by omega) ?_ (on HB4.out H5.out.2.2.2.2) H5.out.1 H5.out.2.1 H5.out.2.2.1 H5.out.2.2.2.1 HB4.out.size HGe.out ?_ ?_
            · have := HF.out.1; have := HOk.out.2.2.2; have := HOk.out.2.2.1; have := HU.out; have := HMK.out; omega
            · exact turns_put (turns_put (turns_put (Turns.refl _ _) _ _) _ _) _ _
            · rw [HX.out.1, HX.out.2]
              refine (heap_set (heap_set (heap_set HG5.out _) _) _).trans ?_
              unfold SCells
              rfl
          case measure => simp [intOf]; have := HM.out.1; omega
        · have hkd2 : k = d := by have := HF.out.2.1; have := HOk.out.2.1; have := HD.out; have := HMK.out; omega
          have HKD := hid hkd2
          have gb := ((HRB.out.2.2.2).block (w.heap.size + 1) (by have := HSz.out; omega)).trans HG1'.out
          have b0 := cell_heap gb (j := 0) rfl
          have fb0 := fr_heap gb 0
          have b1 := cell_heap gb (j := 1) rfl
          have fb1 := fr_heap gb 1
          have b2 := cell_heap gb (j := 2) rfl
          have fb2 := fr_heap gb 2
          have b3 := cell_heap gb (j := 3) rfl
          have fb3 := fr_heap gb 3
          have b4 := cell_heap gb (j := 4) rfl
          have fb4 := fr_heap gb 4
          clear gb hkd2
          go_wp2_with fail
          refine bodyPost_ret (v := .tuple #[vS vk, .int .i64 0]) ?_ rfl ?_
          · rw [results_cell2 rfl]
            unfold vS
            go_simp
          · have HRBf := hid (fun W t => RB.fin HRB.out HSz.out HB.out (W := W) t)
            have key : ∀ W, Turns (fun k => k = w.heap.size ∨ k = w.heap.size + 1) wr W → Backs w PP (.returned (.tuple #[vS vk, .int .i64 0])) W := fun W t => HFin.out W vk 0 (HRBf.out W t).1 (HRBf.out W t).2 (by rw [HP2.out, if_neg HU.out, HRB.out.2.2.1, HKD.out])
            refine key _ ?_
            repeat (first | (with_reducible refine Turns.two ?_ (by first | exact .inl rfl | exact .inr rfl) _) | with_reducible exact Turns.refl _ _)

end Go.Proofs.Ytnfflmndejbepaa.Sh

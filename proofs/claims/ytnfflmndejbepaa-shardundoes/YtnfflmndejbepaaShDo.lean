/-
  do: an entry that is the next one.
  Conditions: the shard is one's own, its items rise, its lists are short.
-/
import Derived.Test.YtnfflmndejbepaaJMxOrders
import Derived.Test.YtnfflmndejbepaaJShTake
import Derived.Test.YtnfflmndejbepaaShGet
import Derived.Deep.DeepCutAuto
namespace Go.Proofs.Ytnfflmndejbepaa.Sh
set_option linter.unusedSectionVars false
variable [Inhabited DZ]
open Go.RowKit By Fl
set_option linter.unusedVariables false
set_option linter.unusedSimpArgs false
set_option maxRecDepth 100000

/- A chunk that is put into a new box. -/
theorem put_kept {W wc : World} {F : Nat → Prop} {c : CV} {g : Nat} {a b d : Value} {t : TypeId} (hb : Below W.heap.size W wc) (hg : W.heap.size ≤ g) (hbox : wc.heap[g]? = some (.cells #[a, b, d] t (0, 0))) (hc : CAt wc F c)
    (hF : ∀ q, F q → W.heap.size ≤ q ∧ q < wc.heap.size ∧ q ≠ g ∧ Tb wc q 5) :
    Below W.heap.size W (put3 wc g 0 c) ∧ (put3 wc g 0 c).heap[g]? = some (.cells #[.int .i64 c.sz, .slice c.x c.n c.c, .int .u32 c.sum] t (0, 0)) ∧ CAt (put3 wc g 0 c) (Nb (New W (put3 wc g 0 c)) (put3 wc g 0 c)) c := by
  have tt := turns_put3 wc g 0 c
  have hs := tt.size
  refine ⟨hb.trans (tt.below (fun q e => by omega) hb.size), ?_, (SlF.keeps hc (.turns tt fun q hq e => (hF q hq).2.2.1 e)).weak fun q hq => ?_⟩
  · have h3 := heap_set (heap_set (heap_set hbox (j := 0) (.int .i64 c.sz)) (j := 1) (.slice c.x c.n c.c)) (j := 2) (.int .u32 c.sum)
    exact h3
  · obtain ⟨h1, h2, h3, h4⟩ := hF q hq
    exact ⟨⟨h1, by omega⟩, h4.of_heap (tt.block q h2 h3)⟩

/- What region 1 leaves: the chunk that was, in a box. -/
def Was (W wc : World) (o : Option Chk) (gb : Nat) (was : CV) : Prop := Below W.heap.size W wc ∧ W.heap.size ≤ gb ∧ wc.heap[gb]? = some (.cells #[.int .i64 was.sz, .slice was.x was.n was.c, .int .u32 was.sum] 36 (0, 0)) ∧ CAt wc (Nb (New W wc) wc) was ∧ pC was = o.getD zC

set_option maxHeartbeats 3200000 in
theorem do_any {w : World} {G F : Nat → Prop} {p of : Nat} {A : Array Value} {T : TypeId} {v : SV} (e : Ent) (c : CV) (hp : w.heap[p]? = some (.cells A T (0, 0))) (hA : BoxS A of v) (hTI : 79 ≠ T) (hTE : 67 ≠ T) (hTU : 89 ≠ T) (hT8 : 5 ≠ T) (ho : OwS w G v) (hr : Rise (v.I.map pI)) (hsm : v.I.length < 100000000) (hsE : v.E.length < 100000000) (hsU : v.U.length < 100000000) (hnm : e.nm.size ≤ 1048576) (hc : CAt w F c) (hF : ∀ q, F q → q ≠ p ∧ ¬ G q) :
    Calls Try.prog 61 #[.pointer (some ⟨p, of, none⟩), vE e, vC c] w fun r w' => r = .returned (.tuple #[]) ∧ Hid (Turned w G p of A T (doE (pS v) e (pC c)) w') := by
  have HNM := hid hnm
  have HC := hid (And.intro hc hF)
  clear hnm hc hF
  obtain ⟨w1, hw1⟩ : ∃ w1, w1 = (w.alloc (.cells #[.int .i64 e.seq, .int .i64 e.cl, .int .i64 e.ks, .string e.nm, .int .i64 e.code, .bool e.gone, .int .i64 e.sz] 67)).alloc (.cells #[.int .i64 c.sz, .slice c.x c.n c.c, .int .u32 c.sum] 36) := ⟨_, rfl⟩
  obtain ⟨bb, hsz, g0, g1⟩ := two_boxes2 w #[.int .i64 e.seq, .int .i64 e.cl, .int .i64 e.ks, .string e.nm, .int .i64 e.code, .bool e.gone, .int .i64 e.sz] #[.int .i64 c.sz, .slice c.x c.n c.c, .int .u32 c.sum] 67 36
  rw [← hw1] at bb hsz g0 g1
  have hp1 := (bb.block p (lt_heap hp)).trans hp
  have bD : Below w1.heap.size w1 w1.drew := (Below.refl _ _).drew
  have HP := hid hp
  have HA := hid hA
  have HO := hid ho
  have HB := hid bb
  have HSz := hid hsz
  have HG0 := hid g0
  have HG1 := hid g1
  have HP1 := hid hp1
  have HW := hid hw1
  have HT := hid (And.intro hTI (And.intro hTE (And.intro hTU hT8)))
  have HR := hid hr
  have ge2 : w1.cell? ⟨w.heap.size, 3, none⟩ = some (.string e.nm) := cell_heap g0 (by simp)
  have s1 := (⟨keep bD (cell_heap hp1 hA.1), keep bD (cell_heap hp1 hA.2.1), keep bD (cell_heap hp1 hA.2.2.1), keep bD (cell_heap hp1 hA.2.2.2.1), keep bD (cell_heap hp1 hA.2.2.2.2), keep bD ge2⟩ : w1.drew.cell? ⟨p, of, none⟩ = some (.int .i64 v.pl) ∧ w1.drew.cell? ⟨p, of + 1, none⟩ = some (.int .i64 v.si) ∧ w1.drew.cell? ⟨p, of + 2, none⟩ = some (.slice v.x1 v.n1 v.c1) ∧ w1.drew.cell? ⟨p, of + 3, none⟩ = some (.slice v.x2 v.n2 v.c2) ∧ w1.drew.cell? ⟨p, of + 4, none⟩ = some (.slice v.x3 v.n3 v.c3) ∧ w1.drew.cell? ⟨w.heap.size, 3, none⟩ = some (.string e.nm))
  have HS1 := hid (⟨cell_heap hp1 hA.1, cell_heap hp1 hA.2.1, cell_heap hp1 hA.2.2.1, cell_heap hp1 hA.2.2.2.1, cell_heap hp1 hA.2.2.2.2, ge2⟩ : w1.cell? ⟨p, of, none⟩ = some (.int .i64 v.pl) ∧ w1.cell? ⟨p, of + 1, none⟩ = some (.int .i64 v.si) ∧ w1.cell? ⟨p, of + 2, none⟩ = some (.slice v.x1 v.n1 v.c1) ∧ w1.cell? ⟨p, of + 3, none⟩ = some (.slice v.x2 v.n2 v.c2) ∧ w1.cell? ⟨p, of + 4, none⟩ = some (.slice v.x3 v.n3 v.c3) ∧ w1.cell? ⟨w.heap.size, 3, none⟩ = some (.string e.nm))
  clear hr hTI hTE hTU hT8 hw1 hp hA ho bb hsz g0 g1 hp1 ge2
  unfold vC vE
  go_enter Try.func61, Try.ntmps61
  go_upto_region 1 with (fail)
  rw [← HW.out]
  go_cut [6, 7] (fun s6 s7 wc => ∃ (gb : Nat) (was : CV), s6 = .pointer (some ⟨gb, 0, none⟩) ∧ s7 = .bool (find e.nm (v.I.map pI)).isSome ∧ Hid (Was w1 wc (find e.nm (v.I.map pI)) gb was))
  case first =>
    refine wp_region_held_drew (S := fun u => u.cell? ⟨p, of, none⟩ = some (.int .i64 v.pl) ∧ u.cell? ⟨p, of + 1, none⟩ = some (.int .i64 v.si) ∧ u.cell? ⟨p, of + 2, none⟩ = some (.slice v.x1 v.n1 v.c1) ∧ u.cell? ⟨p, of + 3, none⟩ = some (.slice v.x2 v.n2 v.c2) ∧ u.cell? ⟨p, of + 4, none⟩ = some (.slice v.x3 v.n3 v.c3) ∧ u.cell? ⟨w.heap.size, 3, none⟩ = some (.string e.nm)) (by kernel_rfl) s1 (fun hHeld => ?_)
    have HD := hid bD
    generalize w1.drew = wD at *
    refine By.hk 0 ?_
    refine By.hk 1 ?_
    refine By.hk 2 ?_
    refine By.hk 3 ?_
    refine By.hk 4 ?_
    have HV : Hid (∀ V, Below w1.heap.size w1 V → V.cell? ⟨p, of, none⟩ = some (.int .i64 v.pl) ∧ V.cell? ⟨p, of + 1, none⟩ = some (.int .i64 v.si) ∧ V.cell? ⟨p, of + 2, none⟩ = some (.slice v.x1 v.n1 v.c1) ∧ V.cell? ⟨p, of + 3, none⟩ = some (.slice v.x2 v.n2 v.c2) ∧ V.cell? ⟨p, of + 4, none⟩ = some (.slice v.x3 v.n3 v.c3) ∧ V.cell? ⟨w.heap.size, 3, none⟩ = some (.string e.nm)) := hid (fun V hb => ⟨keep hb HS1.out.1, keep hb HS1.out.2.1, keep hb HS1.out.2.2.1, keep hb HS1.out.2.2.2.1, keep hb HS1.out.2.2.2.2.1, keep hb HS1.out.2.2.2.2.2⟩)
    have HGt : Hid (∀ V, Below w1.heap.size w1 V → Calls Try.prog 11 #[vS v, .string e.nm] V fun e' w' => Gets V (find e.nm (v.I.map pI)) e' w') := hid (fun V hb => get_any e.nm ((HO.out.below (on HB.out hb)).toS))
    refine wpAnyH_ready (rs := [5, 9]) (by kernel_rfl) (by simp) ?_
    refine AllReadyH.cons rfl (fun K hK => ?_) (AllReadyH.cons rfl (fun K hK => ?_) AllReadyH.nil)
    · go_simp
      refine (HGt.out wD HD.out).mono ?_
      rintro e' w2 ⟨was, rfl, H2⟩
      have b2 := on HD.out H2.out.2.2
      refine hK.out _ _ (HV.out _ b2) (fun hHeld => ?_)
      clear hK K
      unfold vC
      refine By.hk 6 ?_
      refine By.hk 7 ?_
      refine By.hk 8 ?_
      refine wpAnyH_ready (rs := [9]) (by kernel_rfl) (by simp) ?_
      refine AllReadyH.cons rfl (fun K hK => ?_) AllReadyH.nil
      go_simp
      refine hK.out _ _ (HV.out _ (on b2 (al _ _))) (fun hHeld => ?_)
      clear hK K
      have bA := on b2 (al w2 (.cells #[.int .i64 was.sz, .slice was.x was.n was.c, .int .u32 was.sum] 36))
      have lA := heap_alloc_new w2 (.cells #[.int .i64 was.sz, .slice was.x was.n was.c, .int .u32 was.sum] 36)
      have sA : (w2.alloc (.cells #[.int .i64 was.sz, .slice was.x was.n was.c, .int .u32 was.sum] 36)).heap.size = w2.heap.size + 1 := by simp
      have CA := (CAt.below H2.out.1 (al w2 (.cells #[.int .i64 was.sz, .slice was.x was.n was.c, .int .u32 was.sum] 36))).weak (G := Nb (New w1 (w2.alloc (.cells #[.int .i64 was.sz, .slice was.x was.n was.c, .int .u32 was.sum] 36))) (w2.alloc (.cells #[.int .i64 was.sz, .slice was.x was.n was.c, .int .u32 was.sum] 36))) (fun q hq => ⟨⟨Nat.le_trans HD.out.size hq.1.1, by have := hq.1.2; omega⟩, hq.2.of_heap ((al w2 (.cells #[.int .i64 was.sz, .slice was.x was.n was.c, .int .u32 was.sum] 36)).block q hq.1.2)⟩)
      have HPK := hid (And.intro bA (And.intro lA CA))
      clear bA sA CA
      clear lA
      refine wpAnyH_ready (rs := [10]) (by kernel_rfl) (by simp) ?_
      refine AllReadyH.cons rfl (fun K hK => ?_) AllReadyH.nil
      go_simp
      refine hK.out _ _ (HV.out _ HPK.out.1) (fun hHeld => ?_)
      clear hK K
      refine By.hk 11 ?_
      refine wpAnyH_done (by kernel_rfl) ?_ _
      go_wp2_with fail
      go_meet
      case rel => exact ⟨w2.heap.size, was, rfl, rfl, HPK.out.1, Nat.le_trans HD.out.size H2.out.2.2.size, HPK.out.2.1, HPK.out.2.2, H2.out.2.1⟩
    · go_simp
      have bA := al wD (.cells #[.int .i64 0, .slice none 0 0, .int .u32 0] 36)
      have lA := heap_alloc_new wD (.cells #[.int .i64 0, .slice none 0 0, .int .u32 0] 36)
      have sA : (wD.alloc (.cells #[.int .i64 0, .slice none 0 0, .int .u32 0] 36)).heap.size = wD.heap.size + 1 := by simp
      have HA2 := hid (And.intro bA (And.intro lA sA))
      refine hK.out _ _ (HV.out _ (on HD.out bA)) (fun hHeld => ?_)
      clear hK K
      generalize wD.alloc (.cells #[.int .i64 0, .slice none 0 0, .int .u32 0] 36) = wA at *
      clear bA lA sA
      refine wpAnyH_ready (rs := [5]) (by kernel_rfl) (by simp) ?_
      refine AllReadyH.cons rfl (fun K hK => ?_) AllReadyH.nil
      go_simp
      refine (HGt.out wA (on HD.out HA2.out.1)).mono ?_
      rintro e' w2 ⟨was, rfl, H2⟩
      have b2 := on (on HD.out HA2.out.1) H2.out.2.2
      have l2 := (H2.out.2.2.block wD.heap.size (by have := HA2.out.2.2; omega)).trans HA2.out.2.1
      have s0 := cell_heap (j := 0) l2 rfl
      have s1 := cell_heap (j := 1) l2 rfl
      have s2 := cell_heap (j := 2) l2 rfl
      have g0 := fr_heap l2 0
      have g1 := fr_heap l2 1
      have g2 := fr_heap l2 2
      refine hK.out _ _ (HV.out _ b2) (fun hHeld => ?_)
      clear hK K
      unfold vC
      refine By.hk 6 ?_
      refine By.hk 7 ?_
      refine By.hk 8 ?_
      have HPK := hid (put_kept (F := Nb (New wA w2) w2) b2 HD.out.size l2 H2.out.1 (fun q hq => ⟨by have := HD.out.size; have := HA2.out.2.2; have := hq.1.1; omega, hq.1.2, by have := HA2.out.2.2; have := hq.1.1; omega, hq.2⟩))
      clear l2
      refine wpAnyH_ready (rs := [10]) (by kernel_rfl) (by simp) ?_
      refine AllReadyH.cons rfl (fun K hK => ?_) AllReadyH.nil
      go_simp
      refine hK.out _ _ (HV.out _ HPK.out.1) (fun hHeld => ?_)
      clear hK K
      refine By.hk 11 ?_
      refine wpAnyH_done (by kernel_rfl) ?_ _
      clear s0 s1 s2 g0 g1 g2
      go_wp2_with fail
      go_meet
      case rel => exact ⟨wD.heap.size, was, rfl, rfl, HPK.out.1, HD.out.size, HPK.out.2.1, HPK.out.2.2, H2.out.2.1⟩
  case rest =>
    obtain ⟨gb, was, rfl, rfl, HWas⟩ := hcut
    clear s1 bD
    obtain ⟨ok, hok⟩ : ∃ ok, (find e.nm (v.I.map pI)).isSome = ok := ⟨_, rfl⟩
    rw [hok]
    have HOK := hid hok
    clear hok
    go_upto_region 2 with (fail)
    have bD : Below wc.heap.size wc wc.drew := (Below.refl _ _).drew
    have hw := HWas.out.1
    have e0 : w1.cell? ⟨w.heap.size, 0, none⟩ = some (.int .i64 e.seq) := cell_heap HG0.out (by simp)
    have hg := HWas.out.2.2.1
    have f0 : wc.cell? ⟨gb, 0, none⟩ = some (.int .i64 was.sz) := cell_heap hg (by simp)
    have f1 : wc.cell? ⟨gb, 1, none⟩ = some (.slice was.x was.n was.c) := cell_heap hg (by simp)
    have f2 : wc.cell? ⟨gb, 2, none⟩ = some (.int .u32 was.sum) := cell_heap hg (by simp)
    have S2 := (⟨keep bD (keep hw HS1.out.2.2.2.2.1), keep bD (keep hw e0), keep bD (keep hw HS1.out.2.2.2.2.2), keep bD f0, keep bD f1, keep bD f2⟩ : wc.drew.cell? ⟨p, of + 4, none⟩ = some (.slice v.x3 v.n3 v.c3) ∧ wc.drew.cell? ⟨w.heap.size, 0, none⟩ = some (.int .i64 e.seq) ∧ wc.drew.cell? ⟨w.heap.size, 3, none⟩ = some (.string e.nm) ∧ wc.drew.cell? ⟨gb, 0, none⟩ = some (.int .i64 was.sz) ∧ wc.drew.cell? ⟨gb, 1, none⟩ = some (.slice was.x was.n was.c) ∧ wc.drew.cell? ⟨gb, 2, none⟩ = some (.int .u32 was.sum))
    have ow2 := HO.out.ou.below (on HB.out (on hw bD))
    have HD2 := hid (on hw bD)
    have HDc := hid bD
    clear e0 hg f0 f1 f2 hw bD
    refine wp_region_tail (fun u => u.cell? ⟨p, of + 4, none⟩ = some (.slice v.x3 v.n3 v.c3) ∧ u.cell? ⟨w.heap.size, 0, none⟩ = some (.int .i64 e.seq) ∧ u.cell? ⟨w.heap.size, 3, none⟩ = some (.string e.nm) ∧ u.cell? ⟨gb, 0, none⟩ = some (.int .i64 was.sz) ∧ u.cell? ⟨gb, 1, none⟩ = some (.slice was.x was.n was.c) ∧ u.cell? ⟨gb, 2, none⟩ = some (.int .u32 was.sum)) [14, 15, 16] (by kernel_rfl) S2 (fun hS => ?_)
    clear S2
    generalize wc.drew = wD at *
    refine By.tk 0 ?_
    refine By.tk 1 ?_
    refine By.tk 2 ?_
    refine By.tk 3 ?_
    refine By.tk 4 ?_
    refine By.tk 5 ?_
    refine By.tk 6 ?_
    refine By.tk 7 ?_
    refine By.tk 8 ?_
    refine By.tk 9 ?_
    refine By.tk 10 ?_
    refine By.tk 11 ?_
    refine wpAnyT_one (i := 12) (by kernel_rfl) rfl (fun K hK => ?_)
    go_simp
    have b2 := al wD (.cells #[.int .i64 e.seq, .string e.nm, .bool ok, .int .i64 was.sz, .slice was.x was.n was.c, .int .u32 was.sum] 89)
    have l2 := heap_alloc_new wD (.cells #[.int .i64 e.seq, .string e.nm, .bool ok, .int .i64 was.sz, .slice was.x was.n was.c, .int .u32 was.sum] 89)
    have SA := (⟨keep b2 hS.1, keep b2 hS.2.1, keep b2 hS.2.2.1, keep b2 hS.2.2.2.1, keep b2 hS.2.2.2.2.1, keep b2 hS.2.2.2.2.2⟩ : (wD.alloc (.cells #[.int .i64 e.seq, .string e.nm, .bool ok, .int .i64 was.sz, .slice was.x was.n was.c, .int .u32 was.sum] 89)).cell? ⟨p, of + 4, none⟩ = some (.slice v.x3 v.n3 v.c3) ∧ (wD.alloc (.cells #[.int .i64 e.seq, .string e.nm, .bool ok, .int .i64 was.sz, .slice was.x was.n was.c, .int .u32 was.sum] 89)).cell? ⟨w.heap.size, 0, none⟩ = some (.int .i64 e.seq) ∧ (wD.alloc (.cells #[.int .i64 e.seq, .string e.nm, .bool ok, .int .i64 was.sz, .slice was.x was.n was.c, .int .u32 was.sum] 89)).cell? ⟨w.heap.size, 3, none⟩ = some (.string e.nm) ∧ (wD.alloc (.cells #[.int .i64 e.seq, .string e.nm, .bool ok, .int .i64 was.sz, .slice was.x was.n was.c, .int .u32 was.sum] 89)).cell? ⟨gb, 0, none⟩ = some (.int .i64 was.sz) ∧ (wD.alloc (.cells #[.int .i64 e.seq, .string e.nm, .bool ok, .int .i64 was.sz, .slice was.x was.n was.c, .int .u32 was.sum] 89)).cell? ⟨gb, 1, none⟩ = some (.slice was.x was.n was.c) ∧ (wD.alloc (.cells #[.int .i64 e.seq, .string e.nm, .bool ok, .int .i64 was.sz, .slice was.x was.n was.c, .int .u32 was.sum] 89)).cell? ⟨gb, 2, none⟩ = some (.int .u32 was.sum))
    obtain ⟨x', c', w3, hap, H3⟩ := push2 (ow2.below b2) urow (Nat.zero_le _) ⟨wD.heap.size, 0, none⟩ 1 1 [⟨e.seq, e.nm, ok, was⟩] rfl (fun j u hj => by
      rw [show ((⟨wD.heap.size, 0, none⟩ : Addr).add j) = ⟨wD.heap.size, j, none⟩ by rw [add_at, Nat.zero_add]]
      exact cell_heap l2 (by simpa [enU, flat_one] using hj)) (by omega)
    refine hK.out _ _ (fun _ => SA) ?_
    clear hK K
    have ne : ∀ (b : Nat), (b = p ∨ w.heap.size ≤ b) → (Value.slice v.x3 v.n3 v.c3).ownBlock ≠ some b := fun b hb h => by
      rcases hb with rfl | hb
      · exact box_ne HO.out.ou HP.out HT.out.2.2.1 h rfl
      · have := (World.ownsRow.lt HO.out.ou b h).2
        omega
    have hgb : w.heap.size ≤ gb := Nat.le_trans HB.out.size HWas.out.2.1
    have hK : ∀ (b q : Nat) (x : Value), (b = p ∨ w.heap.size ≤ b) → (wD.alloc (.cells #[.int .i64 e.seq, .string e.nm, .bool ok, .int .i64 was.sz, .slice was.x was.n was.c, .int .u32 was.sum] 89)).cell? ⟨b, q, none⟩ = some x → w3.cell? ⟨b, q, none⟩ = some x := fun b q x hb hv =>
      (World.cell?_of_block (a := ⟨b, q, none⟩) (H3.out.2.1.block b (cell_lt' hv) (ne b hb))).trans hv
    have S3 := (⟨hK _ _ _ (.inl rfl) SA.1, hK _ _ _ (.inr (Nat.le_refl _)) SA.2.1, hK _ _ _ (.inr (Nat.le_refl _)) SA.2.2.1, hK _ _ _ (.inr hgb) SA.2.2.2.1, hK _ _ _ (.inr hgb) SA.2.2.2.2.1, hK _ _ _ (.inr hgb) SA.2.2.2.2.2⟩ : w3.cell? ⟨p, of + 4, none⟩ = some (.slice v.x3 v.n3 v.c3) ∧ w3.cell? ⟨w.heap.size, 0, none⟩ = some (.int .i64 e.seq) ∧ w3.cell? ⟨w.heap.size, 3, none⟩ = some (.string e.nm) ∧ w3.cell? ⟨gb, 0, none⟩ = some (.int .i64 was.sz) ∧ w3.cell? ⟨gb, 1, none⟩ = some (.slice was.x was.n was.c) ∧ w3.cell? ⟨gb, 2, none⟩ = some (.int .u32 was.sum))
    have bp := on HD2.out b2
    have hp3 := (H3.out.2.1.block p (Nat.lt_of_lt_of_le (lt_heap HP1.out) bp.size) (ne p (.inl rfl))).trans ((bp.block p (lt_heap HP1.out)).trans HP1.out)
    have HP3 := hid hp3
    have HBP := hid bp
    have q3 := S3.1
    have f3 := fr_heap hp3 (of + 4)
    clear hK SA l2 b2 hS ow2 bp hp3
    refine wpAnyT_one (i := 13) (by kernel_rfl) rfl (fun K hK => ?_)
    refine st_append rfl _ _ 24 rfl _ _ rfl rfl hap ?_
    (try simp only [Act.put, List.getElem_toArray, List.getElem_cons_succ, List.getElem_cons_zero, List.setIfInBounds_toArray, List.set_cons_zero, List.set_cons_succ])
    refine hK.out _ _ (fun _ => S3) ?_
    clear hK K
    clear hap S3
    refine wpAnyT_one (i := 14) (by kernel_rfl) rfl (fun K hK => ?_)
    go_simp
    refine hK.out _ _ (fun h => absurd (by decide) h) ?_
    clear hK K
    refine wpAnyT_one (i := 15) (by kernel_rfl) rfl (fun K hK => ?_)
    go_simp
    refine hK.out _ _ (fun h => absurd (by decide) h) ?_
    clear hK K
    refine wpAnyT_one (i := 16) (by kernel_rfl) rfl (fun K hK => ?_)
    go_simp
    refine hK.out _ _ (fun h => absurd (by decide) h) ?_
    clear hK K
    refine wpAnyT_done (by kernel_rfl) ?_ _
    clear q3 f3
    go_upto_region 3 with (fail)
    have hb4 := heap_set HP3.out (j := of + 4) (.slice x' (v.U.length + 1) c')
    have t4 := (Turns.refl (fun q => q = p) w3).setCell (p := ⟨p, of + 4, none⟩) (.inl rfl) (.slice x' (v.U.length + 1) c')
    have HB4 := hid hb4
    have HT4 := hid ((((Turns.of_below HBP.out).trans (H3.out.2.1.weak fun q hq => .inr hq)).trans (t4.weak fun q hq => .inl hq)) : Turns (fun q => q = p ∨ (Value.slice v.x3 v.n3 v.c3).ownBlock = some q) w1 _)
    have HT34 := hid t4
    clear t4
    generalize w3.setCell ⟨p, of + 4, none⟩ (.slice x' (v.U.length + 1) c') = w4 at *
    have bW := on HDc.out (al wD (.cells #[.int .i64 e.seq, .string e.nm, .bool ok, .int .i64 was.sz, .slice was.x was.n was.c, .int .u32 was.sum] 89))
    have M4 := hid (undo_more HP.out HA.out HT.out HO.out (on HB.out HBP.out) (u := ⟨e.seq, e.nm, ok, was⟩) ⟨HNM.out, (CAt.below HWas.out.2.2.2.1 bW).weak fun q hq => ⟨⟨Nat.le_trans HB.out.size hq.1.1, Nat.lt_of_lt_of_le hq.1.2 bW.size⟩, hq.2.of_heap (bW.block q hq.1.2)⟩⟩ H3.out HT34.out HB4.out hsU)
    clear bW
    have HNE := hid ne
    have hE4 := (HT4.out.block w.heap.size (by have := HSz.out; omega) (fun h => by
      rcases h with h | h
      · have := lt_heap HP.out
        omega
      · exact ne _ (.inr (Nat.le_refl _)) h)).trans HG0.out
    have HE4 := hid hE4
    have bD : Below w4.heap.size w4 w4.drew := (Below.refl _ _).drew
    have z0 := cell_heap hb4 (j := of + 3) (by rw [arr_ne (by omega)]; exact HA.out.2.2.2.1)
    have S4 := (⟨keep bD z0, keep bD (cell_heap hE4 (by simp)), keep bD (cell_heap hE4 (by simp)), keep bD (cell_heap hE4 (by simp)), keep bD (cell_heap hE4 (by simp)), keep bD (cell_heap hE4 (by simp)), keep bD (cell_heap hE4 (by simp)), keep bD (cell_heap hE4 (by simp))⟩ : w4.drew.cell? ⟨p, of + 3, none⟩ = some (.slice v.x2 v.n2 v.c2) ∧ w4.drew.cell? ⟨w.heap.size, 0, none⟩ = some (.int .i64 e.seq) ∧ w4.drew.cell? ⟨w.heap.size, 1, none⟩ = some (.int .i64 e.cl) ∧ w4.drew.cell? ⟨w.heap.size, 2, none⟩ = some (.int .i64 e.ks) ∧ w4.drew.cell? ⟨w.heap.size, 3, none⟩ = some (.string e.nm) ∧ w4.drew.cell? ⟨w.heap.size, 4, none⟩ = some (.int .i64 e.code) ∧ w4.drew.cell? ⟨w.heap.size, 5, none⟩ = some (.bool e.gone) ∧ w4.drew.cell? ⟨w.heap.size, 6, none⟩ = some (.int .i64 e.sz))
    have oe4 := ((HO.out.oe.below HB.out).turns HT4.out (fun q hq h => by
      rcases h with h | h
      · exact box_ne HO.out.oe HP.out HT.out.2.1 hq h.symm
      · exact own_ne HO.out.oe HO.out.ou (by decide) hq h rfl)).below bD
    have HD4 := hid bD
    clear z0 hE4 hb4 ne bD
    refine wp_region_tail (fun u => u.cell? ⟨p, of + 3, none⟩ = some (.slice v.x2 v.n2 v.c2) ∧ u.cell? ⟨w.heap.size, 0, none⟩ = some (.int .i64 e.seq) ∧ u.cell? ⟨w.heap.size, 1, none⟩ = some (.int .i64 e.cl) ∧ u.cell? ⟨w.heap.size, 2, none⟩ = some (.int .i64 e.ks) ∧ u.cell? ⟨w.heap.size, 3, none⟩ = some (.string e.nm) ∧ u.cell? ⟨w.heap.size, 4, none⟩ = some (.int .i64 e.code) ∧ u.cell? ⟨w.heap.size, 5, none⟩ = some (.bool e.gone) ∧ u.cell? ⟨w.heap.size, 6, none⟩ = some (.int .i64 e.sz)) [8, 9, 10] (by kernel_rfl) S4 (fun hS => ?_)
    clear S4
    generalize w4.drew = wE at *
    refine By.tk 0 ?_
    refine By.tk 1 ?_
    refine By.tk 2 ?_
    refine By.tk 3 ?_
    refine By.tk 4 ?_
    refine By.tk 5 ?_
    refine wpAnyT_one (i := 6) (by kernel_rfl) rfl (fun K hK => ?_)
    go_simp
    have b5 := al wE (.cells #[.int .i64 e.seq, .int .i64 e.cl, .int .i64 e.ks, .string e.nm, .int .i64 e.code, .bool e.gone, .int .i64 e.sz] 67)
    have l5 := heap_alloc_new wE (.cells #[.int .i64 e.seq, .int .i64 e.cl, .int .i64 e.ks, .string e.nm, .int .i64 e.code, .bool e.gone, .int .i64 e.sz] 67)
    have SB := (⟨keep b5 hS.1, keep b5 hS.2.1, keep b5 hS.2.2.1, keep b5 hS.2.2.2.1, keep b5 hS.2.2.2.2.1, keep b5 hS.2.2.2.2.2.1, keep b5 hS.2.2.2.2.2.2.1, keep b5 hS.2.2.2.2.2.2.2⟩ : (wE.alloc (.cells #[.int .i64 e.seq, .int .i64 e.cl, .int .i64 e.ks, .string e.nm, .int .i64 e.code, .bool e.gone, .int .i64 e.sz] 67)).cell? ⟨p, of + 3, none⟩ = some (.slice v.x2 v.n2 v.c2) ∧ (wE.alloc (.cells #[.int .i64 e.seq, .int .i64 e.cl, .int .i64 e.ks, .string e.nm, .int .i64 e.code, .bool e.gone, .int .i64 e.sz] 67)).cell? ⟨w.heap.size, 0, none⟩ = some (.int .i64 e.seq) ∧ (wE.alloc (.cells #[.int .i64 e.seq, .int .i64 e.cl, .int .i64 e.ks, .string e.nm, .int .i64 e.code, .bool e.gone, .int .i64 e.sz] 67)).cell? ⟨w.heap.size, 1, none⟩ = some (.int .i64 e.cl) ∧ (wE.alloc (.cells #[.int .i64 e.seq, .int .i64 e.cl, .int .i64 e.ks, .string e.nm, .int .i64 e.code, .bool e.gone, .int .i64 e.sz] 67)).cell? ⟨w.heap.size, 2, none⟩ = some (.int .i64 e.ks) ∧ (wE.alloc (.cells #[.int .i64 e.seq, .int .i64 e.cl, .int .i64 e.ks, .string e.nm, .int .i64 e.code, .bool e.gone, .int .i64 e.sz] 67)).cell? ⟨w.heap.size, 3, none⟩ = some (.string e.nm) ∧ (wE.alloc (.cells #[.int .i64 e.seq, .int .i64 e.cl, .int .i64 e.ks, .string e.nm, .int .i64 e.code, .bool e.gone, .int .i64 e.sz] 67)).cell? ⟨w.heap.size, 4, none⟩ = some (.int .i64 e.code) ∧ (wE.alloc (.cells #[.int .i64 e.seq, .int .i64 e.cl, .int .i64 e.ks, .string e.nm, .int .i64 e.code, .bool e.gone, .int .i64 e.sz] 67)).cell? ⟨w.heap.size, 5, none⟩ = some (.bool e.gone) ∧ (wE.alloc (.cells #[.int .i64 e.seq, .int .i64 e.cl, .int .i64 e.ks, .string e.nm, .int .i64 e.code, .bool e.gone, .int .i64 e.sz] 67)).cell? ⟨w.heap.size, 6, none⟩ = some (.int .i64 e.sz))
    obtain ⟨y', d', w5, hap, H5⟩ := push2 (oe4.below b5) erow (Nat.zero_le _) ⟨wE.heap.size, 0, none⟩ 1 1 [e] rfl (fun j u hj => by
      rw [show ((⟨wE.heap.size, 0, none⟩ : Addr).add j) = ⟨wE.heap.size, j, none⟩ by rw [add_at, Nat.zero_add]]
      exact cell_heap l5 (by simpa [enE, flat_one] using hj)) (by omega)
    refine hK.out _ _ (fun _ => SB) ?_
    clear hK K
    have ne : ∀ (b : Nat), (b = p ∨ w.heap.size ≤ b) → (Value.slice v.x2 v.n2 v.c2).ownBlock ≠ some b := fun b hb h => by
      rcases hb with rfl | hb
      · exact box_ne HO.out.oe HP.out HT.out.2.1 h rfl
      · have := (World.ownsRow.lt HO.out.oe b h).2
        omega
    have hK : ∀ (b q : Nat) (x : Value), (b = p ∨ w.heap.size ≤ b) → (wE.alloc (.cells #[.int .i64 e.seq, .int .i64 e.cl, .int .i64 e.ks, .string e.nm, .int .i64 e.code, .bool e.gone, .int .i64 e.sz] 67)).cell? ⟨b, q, none⟩ = some x → w5.cell? ⟨b, q, none⟩ = some x := fun b q x hb hv =>
      (World.cell?_of_block (a := ⟨b, q, none⟩) (H5.out.2.1.block b (cell_lt' hv) (ne b hb))).trans hv
    have S5 := (⟨hK _ _ _ (.inl rfl) SB.1, hK _ _ _ (.inr (Nat.le_refl _)) SB.2.1, hK _ _ _ (.inr (Nat.le_refl _)) SB.2.2.1, hK _ _ _ (.inr (Nat.le_refl _)) SB.2.2.2.1, hK _ _ _ (.inr (Nat.le_refl _)) SB.2.2.2.2.1, hK _ _ _ (.inr (Nat.le_refl _)) SB.2.2.2.2.2.1, hK _ _ _ (.inr (Nat.le_refl _)) SB.2.2.2.2.2.2.1, hK _ _ _ (.inr (Nat.le_refl _)) SB.2.2.2.2.2.2.2⟩ : w5.cell? ⟨p, of + 3, none⟩ = some (.slice v.x2 v.n2 v.c2) ∧ w5.cell? ⟨w.heap.size, 0, none⟩ = some (.int .i64 e.seq) ∧ w5.cell? ⟨w.heap.size, 1, none⟩ = some (.int .i64 e.cl) ∧ w5.cell? ⟨w.heap.size, 2, none⟩ = some (.int .i64 e.ks) ∧ w5.cell? ⟨w.heap.size, 3, none⟩ = some (.string e.nm) ∧ w5.cell? ⟨w.heap.size, 4, none⟩ = some (.int .i64 e.code) ∧ w5.cell? ⟨w.heap.size, 5, none⟩ = some (.bool e.gone) ∧ w5.cell? ⟨w.heap.size, 6, none⟩ = some (.int .i64 e.sz))
    have bp := on HD4.out b5
    have hp5 := (H5.out.2.1.block p (Nat.lt_of_lt_of_le (lt_heap HB4.out) bp.size) (ne p (.inl rfl))).trans ((bp.block p (lt_heap HB4.out)).trans HB4.out)
    have HP5 := hid hp5
    have HBP5 := hid bp
    have HNE5 := hid ne
    have q5 := S5.1
    have f5 := fr_heap hp5 (of + 3)
    clear hK SB l5 b5 hS oe4 bp hp5 ne
    refine wpAnyT_one (i := 7) (by kernel_rfl) rfl (fun K hK => ?_)
    refine st_append rfl _ _ 23 rfl _ _ rfl rfl hap ?_
    (try simp only [Act.put, List.getElem_toArray, List.getElem_cons_succ, List.getElem_cons_zero, List.setIfInBounds_toArray, List.set_cons_zero, List.set_cons_succ])
    refine hK.out _ _ (fun _ => S5) ?_
    clear hK K
    clear hap S5
    refine wpAnyT_one (i := 8) (by kernel_rfl) rfl (fun K hK => ?_)
    go_simp
    refine hK.out _ _ (fun h => absurd (by decide) h) ?_
    clear hK K
    refine wpAnyT_one (i := 9) (by kernel_rfl) rfl (fun K hK => ?_)
    go_simp
    refine hK.out _ _ (fun h => absurd (by decide) h) ?_
    clear hK K
    refine wpAnyT_one (i := 10) (by kernel_rfl) rfl (fun K hK => ?_)
    go_simp
    refine hK.out _ _ (fun h => absurd (by decide) h) ?_
    clear hK K
    refine wpAnyT_done (by kernel_rfl) ?_ _
    clear q5 f5
    have hb6 := heap_set HP5.out (j := of + 3) (.slice y' (v.E.length + 1) d')
    have t6 := (Turns.refl (fun q => q = p) w5).setCell (p := ⟨p, of + 3, none⟩) (.inl rfl) (.slice y' (v.E.length + 1) d')
    have HB6 := hid hb6
    have HT6 := hid (((Turns.of_below HBP5.out).trans (H5.out.2.1.weak fun q hq => .inr hq)).trans (t6.weak fun q hq => .inl hq) : Turns (fun q => q = p ∨ (Value.slice v.x2 v.n2 v.c2).ownBlock = some q) w4 _)
    have HT56 := hid t6
    clear t6 hb6
    generalize w5.setCell ⟨p, of + 3, none⟩ (.slice y' (v.E.length + 1) d') = w6 at *
    obtain ⟨v6, hv6⟩ : ∃ v6 : SV, v6 = ⟨v.pl, v.si, v.x1, v.n1, v.c1, v.I, y', v.E.length + 1, d', v.E ++ [e], x', v.U.length + 1, c', v.U ++ [⟨e.seq, e.nm, ok, was⟩]⟩ := ⟨_, rfl⟩
    have M6 : Hid (OwS w6 (fun q => G q ∨ New w w6 q) v6 ∧ BoxS ((A.setIfInBounds (of + 4) (.slice x' (v.U.length + 1) c')).setIfInBounds (of + 3) (.slice y' (v.E.length + 1) d')) of v6 ∧ Turns (fun q => q = p ∨ G q) w w6) := hid (by
      rw [hv6]
      exact two_more M4.out (entry_more HB4.out M4.out.2.1 HT.out M4.out.1 HBP5.out (u := e) HNM.out H5.out HT56.out HB6.out hsE))
    have HV6 := hid hv6
    have HJ : Hid (∀ j, (j < of ∨ of + 5 ≤ j) → ((A.setIfInBounds (of + 4) (.slice x' (v.U.length + 1) c')).setIfInBounds (of + 3) (.slice y' (v.E.length + 1) d'))[j]? = A[j]?) := hid fun j hj => by rw [arr_ne (by omega), arr_ne (by omega)]
    have HEq : Hid (doE (pS v) e (pC c) = ⟨v6.pl, v6.si, if e.code = 0 then setI (v6.I.map pI) e.nm (!e.gone) (pC c) else v6.I.map pI, v6.E, v6.U.map pU⟩) := hid (by
      rw [hv6]
      exact do_is HOK.out HWas.out.2.2.2.2)
    have HI6 : Hid (v6.I = v.I) := hid (by rw [hv6])
    have HX6 : Hid (Value.slice v6.x1 v6.n1 v6.c1 = Value.slice v.x1 v.n1 v.c1) := hid (by rw [hv6])
    clear hv6 M4
    generalize (A.setIfInBounds (of + 4) (.slice x' (v.U.length + 1) c')).setIfInBounds (of + 3) (.slice y' (v.E.length + 1) d') = A6 at *
    have hE6 := (HT6.out.block w.heap.size (lt_heap HE4.out) (fun h => by
      rcases h with h | h
      · have := lt_heap HP.out
        omega
      · exact HNE5.out _ (.inr (Nat.le_refl _)) h)).trans HE4.out
    have hC4 := (HT4.out.block (w.heap.size + 1) (by have := HSz.out; omega) (fun h => by
      rcases h with h | h
      · have := lt_heap HP.out
        omega
      · exact HNE.out _ (.inr (by omega)) h)).trans HG1.out
    have hC6 := (HT6.out.block (w.heap.size + 1) (lt_heap hC4) (fun h => by
      rcases h with h | h
      · have := lt_heap HP.out
        omega
      · exact HNE5.out _ (.inr (by omega)) h)).trans hC4
    have HE6 := hid hE6
    have HC6 := hid hC6
    have z4 : w6.cell? ⟨w.heap.size, 4, none⟩ = some (.int .i64 e.code) := cell_heap hE6 (by simp)
    clear hE6 hC4 hC6
    have HC7 : Hid (CAt w6 F c) := hid (SlF.keeps HC.out.1 (.turns M6.out.2.2 fun q hq h => by
      rcases h with h | h
      · exact (HC.out.2 q hq).1 h
      · exact (HC.out.2 q hq).2 h))
    clear HT4 HT34 HNE HE4 HNE5 HBP HBP5 H3 H5 HP5 HP3 HT6 HT56 HB4 HDc HD2 HD4
    go_upto_region 5 with (fail)
    · rename_i hcode
      have HK := hid (show e.code = 0 by simpa using hcode)
      clear hcode z4
      have bD : Below w6.heap.size w6 w6.drew := (Below.refl _ _).drew
      have S6 := (⟨keep bD (cell_heap HE6.out (by simp)), keep bD (cell_heap HE6.out (by simp)), keep bD (cell_heap HC6.out (by simp)), keep bD (cell_heap HC6.out (by simp)), keep bD (cell_heap HC6.out (by simp))⟩ : w6.drew.cell? ⟨w.heap.size, 3, none⟩ = some (.string e.nm) ∧ w6.drew.cell? ⟨w.heap.size, 5, none⟩ = some (.bool e.gone) ∧ w6.drew.cell? ⟨w.heap.size + 1, 0, none⟩ = some (.int .i64 c.sz) ∧ w6.drew.cell? ⟨w.heap.size + 1, 1, none⟩ = some (.slice c.x c.n c.c) ∧ w6.drew.cell? ⟨w.heap.size + 1, 2, none⟩ = some (.int .u32 c.sum))
      refine wp_region_tail (fun u => u.cell? ⟨w.heap.size, 3, none⟩ = some (.string e.nm) ∧ u.cell? ⟨w.heap.size, 5, none⟩ = some (.bool e.gone) ∧ u.cell? ⟨w.heap.size + 1, 0, none⟩ = some (.int .i64 c.sz) ∧ u.cell? ⟨w.heap.size + 1, 1, none⟩ = some (.slice c.x c.n c.c) ∧ u.cell? ⟨w.heap.size + 1, 2, none⟩ = some (.int .u32 c.sum)) [] (by kernel_rfl) S6 (fun hS => ?_)
      have HD6 := hid bD
      clear S6 bD
      generalize w6.drew = wF at *
      refine By.tk 0 ?_
      refine By.tk 1 ?_
      refine By.tk 2 ?_
      refine By.tk 3 ?_
      refine By.tk 4 ?_
      refine By.tk 5 ?_
      refine By.tk 6 ?_
      refine wpAnyT_one (i := 7) (by kernel_rfl) rfl (fun K hK => ?_)
      go_simp
      have hcp := copiedChunk_any (CAt.below HC7.out HD6.out)
      unfold vC at hcp
      refine hcp.mono ?_
      rintro e' w7 ⟨z, cz, rfl, H7⟩
      have b7 := H7.out.2
      have S7 := (⟨keep b7 hS.1, keep b7 hS.2.1, keep b7 hS.2.2.1, keep b7 hS.2.2.2.1, keep b7 hS.2.2.2.2⟩ : w7.cell? ⟨w.heap.size, 3, none⟩ = some (.string e.nm) ∧ w7.cell? ⟨w.heap.size, 5, none⟩ = some (.bool e.gone) ∧ w7.cell? ⟨w.heap.size + 1, 0, none⟩ = some (.int .i64 c.sz) ∧ w7.cell? ⟨w.heap.size + 1, 1, none⟩ = some (.slice c.x c.n c.c) ∧ w7.cell? ⟨w.heap.size + 1, 2, none⟩ = some (.int .u32 c.sum))
      have b67 := on HD6.out b7
      have HB67 := hid b67
      have o7 : OwS w7 (fun q => G q ∨ New w w7 q) v6 := (M6.out.1.below b67).weak fun q hq => hq.imp id fun h => ⟨h.1, Nat.lt_of_lt_of_le h.2 b67.size⟩
      have hp7 := (b67.block p (lt_heap HB6.out)).trans HB6.out
      have c7 : CAt w7 (Nb (fun q => G q ∨ New w w7 q) w7) ⟨c.sz, z, c.n, cz, c.dat, c.sum⟩ := H7.out.1.weak fun q hq => ⟨.inr ⟨Nat.le_trans M6.out.2.2.size (Nat.le_trans HD6.out.size hq.1.1), hq.1.2⟩, hq.2⟩
      have hSet := set_any e.nm (!e.gone) ⟨c.sz, z, c.n, cz, c.dat, c.sum⟩ hp7 M6.out.2.1.2.2.1 HT.out.1 o7.oi o7.toS.i (by rw [HI6.out]; exact HR.out) (by rw [HI6.out]; exact hsm)
      have HO7 := hid (And.intro o7 (And.intro hp7 c7))
      unfold vC at hSet
      dsimp only at hSet
      clear hS b7 b67 o7 hp7 c7 hcp
      refine hK.out _ _ (fun _ => S7) ?_
      clear hK K
      refine wpAnyT_one (i := 8) (by kernel_rfl) rfl (fun K hK => ?_)
      go_simp
      with_reducible refine hSet.mono ?_
      rintro e' w8 ⟨rfl, H8⟩
      have hK : ∀ (b q : Nat) (x : Value), w.heap.size ≤ b → w7.cell? ⟨b, q, none⟩ = some x → w8.cell? ⟨b, q, none⟩ = some x := fun b q x hb hv => by
        obtain ⟨_, _, _, _, _, _, _, _, TT, _, _⟩ := H8.out
        refine (World.cell?_of_block (a := ⟨b, q, none⟩) (TT.block b (cell_lt' hv) (fun e => ?_))).trans hv
        have hlp := lt_heap HP.out
        rcases e with e | e
        · omega
        · rw [HX6.out] at e
          have := (World.ownsRow.lt HO.out.oi b e).2
          omega
      have S8 := (⟨hK _ _ _ (Nat.le_refl _) S7.1, hK _ _ _ (Nat.le_refl _) S7.2.1, hK _ _ _ (Nat.le_succ _) S7.2.2.1, hK _ _ _ (Nat.le_succ _) S7.2.2.2.1, hK _ _ _ (Nat.le_succ _) S7.2.2.2.2⟩ : w8.cell? ⟨w.heap.size, 3, none⟩ = some (.string e.nm) ∧ w8.cell? ⟨w.heap.size, 5, none⟩ = some (.bool e.gone) ∧ w8.cell? ⟨w.heap.size + 1, 0, none⟩ = some (.int .i64 c.sz) ∧ w8.cell? ⟨w.heap.size + 1, 1, none⟩ = some (.slice c.x c.n c.c) ∧ w8.cell? ⟨w.heap.size + 1, 2, none⟩ = some (.int .u32 c.sum))
      clear hK S7
      refine hK.out _ _ (fun _ => S8) ?_
      clear hK K
      clear S8
      refine wpAnyT_done (by kernel_rfl) ?_ _
      clear hSet
      go_wp2_with fail
      go_end0
      refine ⟨rfl, hid ?_⟩
      have h9 := turned_next HJ.out (M6.out.2.2.trans (Turns.of_below HB67.out)) (set_turned HO7.out.2.1 M6.out.2.1 HT.out HO7.out.1 HNM.out HO7.out.2.2 (by rw [HI6.out]; exact hsm) H8.out)
      rw [HEq.out, if_pos HK.out]
      exact h9
    · rename_i hcode
      have HK := hid (show ¬ e.code = 0 by simpa using hcode)
      go_end0
      refine ⟨rfl, hid ?_⟩
      rw [HEq.out, if_neg HK.out]
      exact turned_here HB6.out M6.out.2.1 HJ.out M6.out.1 M6.out.2.2

end Go.Proofs.Ytnfflmndejbepaa.Sh

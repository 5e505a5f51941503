/-
  The law's own question.
  Conditions: none.
-/
import Derived.Test.YtgcjecmgjncclaaPeProg
import Derived.Deep.Cut
namespace Go.Proofs.Ytgcjecmgjncclaa.Pe
open Go.RowKit By Fl Pz
set_option linter.unusedVariables false
set_option linter.unusedSimpArgs false
set_option maxRecDepth 100000
attribute [local go_sem] Oper.semAt_some

theorem lis_block {α : Type} {en : α → List Value} {sz : Nat} {A : World → (Nat → Prop) → α → Prop} {W : World} {F : Nat → Prop} {a n : Nat} {C : Array Value} {t : TypeId} {L : List α} (hl : ∀ x, (en x).length = sz) (h : W.heap[a]? = some (.cells C t (0, 0))) (hC : C.toList = flat en L) (hn : L.length = n) (hs : n ≤ 17592186043904) (hF : F a) (he : ∀ x ∈ L, A W F x) :
    Lis en sz A W F (some ⟨a, 0, none⟩) n n L := by
  refine ⟨hn, Nat.le_refl _, hs, (fun e => by cases e), .inr ⟨a, 0, rfl, lt_heap h, hF, fun k x hk j v hv => ?_⟩, he⟩
  rw [Nat.zero_add]
  refine cell_heap h ?_
  have hj := (List.getElem?_eq_some_iff.1 hv).1
  rw [hl] at hj
  have := flat_get hl L k x hk j hj
  rw [← hC, hv] at this
  simpa using this

def awJ (a b : Nat) : JV := ⟨3, 0, some ⟨a, 0, none⟩, 3, 3, [5, 6, 7], some ⟨b, 0, none⟩, 3, 3, [1, 1, 1], none, 0, 0, [], 0⟩
def awF (o h : Int) : FV := ⟨o, 1, 3, h, none, 0, 0, []⟩
def awG : FV := ⟨7, 1, 0, 0, none, 0, 0, []⟩
theorem awF_at (w : World) (F : Nat → Prop) (o h : Int) : FAt w F (awF o h) := Lis.empty w F
theorem awG_at (w : World) (F : Nat → Prop) : FAt w F awG := Lis.empty w F
theorem aw_cho (a b : Nat) : chooseP ([awJ a b].map pJ) ([awF 5 5, awF 6 4].map pF) 2 = (⟨3, 3, 4, [5, 6]⟩, 0) := by rfl
theorem aw_lack (a b : Nat) : lacks (pJ (awJ a b)) (pF awG) = true := by rfl

set_option maxHeartbeats 6400000 in
theorem awake_any (w : World) : Calls Try.prog 12 #[] w fun e w' => e = .returned (.bool true) ∧ Below w.heap.size w w' := by
  obtain ⟨a, ha⟩ : ∃ a, a = w.heap.size := ⟨_, rfl⟩
  obtain ⟨b, hb⟩ : ∃ b, b = w.heap.size + 1 := ⟨_, rfl⟩
  obtain ⟨w2, hw2⟩ : ∃ w2, w2 = (w.alloc (.cells #[.int .i64 5, .int .i64 6, .int .i64 7] 3)).alloc (.cells #[.int .i64 1, .int .i64 1, .int .i64 1] 3) := ⟨_, rfl⟩
  obtain ⟨bb, hsz, g0, g1⟩ := two_boxes w #[.int .i64 5, .int .i64 6, .int .i64 7] #[.int .i64 1, .int .i64 1, .int .i64 1] 3
  rw [← hw2] at bb hsz g0 g1
  rw [← ha] at g0
  rw [← hb] at g1
  have HB := hid bb
  have HJ : Hid (∀ W, Below w2.heap.size w2 W → JAt W (fun _ => True) (awJ a b)) := hid fun W hW =>
    ⟨lis_block nrow.len ((hW.block _ (lt_heap g0)).trans g0) rfl rfl (by show 3 ≤ 17592186043904; omega) trivial (fun _ _ => trivial), lis_block nrow.len ((hW.block _ (lt_heap g1)).trans g1) rfl rfl (by show 3 ≤ 17592186043904; omega) trivial (fun _ _ => trivial), Lis.empty W _⟩
  have HW := hid (And.intro hw2 (And.intro ha hb))
  clear bb hsz g0 g1 hw2 ha hb
  go_enter Try.func12, Try.ntmps12
  go_upto_region 2 with (fail)
  obtain ⟨p, hp⟩ : ∃ p, p = w2.heap.size := ⟨_, rfl⟩
  have hp2 : w.heap.size + 1 + 1 = p := by rw [hp, HW.out.1]; simp
  obtain ⟨w3, hw3⟩ : ∃ w3, w3 = w2.alloc (.cells #[.int .i64 3, .int .i64 0, .slice (some ⟨a, 0, none⟩) 3 3, .slice (some ⟨b, 0, none⟩) 3 3, .slice none 0 0, .int .i64 0] 24) := ⟨_, rfl⟩
  have b3 := al w2 (.cells #[.int .i64 3, .int .i64 0, .slice (some ⟨a, 0, none⟩) 3 3, .slice (some ⟨b, 0, none⟩) 3 3, .slice none 0 0, .int .i64 0] 24)
  have g3 := heap_alloc_new w2 (.cells #[.int .i64 3, .int .i64 0, .slice (some ⟨a, 0, none⟩) 3 3, .slice (some ⟨b, 0, none⟩) 3 3, .slice none 0 0, .int .i64 0] 24)
  rw [← hw3] at b3 g3
  rw [← hp] at g3
  rw [hp2, ← HW.out.2.2, ← HW.out.2.1, ← HW.out.1, ← hw3]
  have HB3 := hid b3
  have HG3 := hid g3
  clear hp hp2 hw3 b3 g3
  obtain ⟨bb, hsz, g0, g1⟩ := two_boxes2 w3 #[.int .i64 3, .int .i64 0, .slice (some ⟨a, 0, none⟩) 3 3, .slice (some ⟨b, 0, none⟩) 3 3, .slice none 0 0, .int .i64 0] #[.int .i64 5, .int .i64 1, .int .i64 3, .int .i64 5, .slice none 0 0, .int .i64 6, .int .i64 1, .int .i64 3, .int .i64 4, .slice none 0 0] 24 27
  have cH := pchoose_any (F := fun _ => True) (G := fun _ => True) (L := [awJ a b]) (I := [awF 5 5, awF 6 4]) (n := 1) (m := 2) 2 (lis_block jrow.len g0 rfl rfl (by omega) trivial (fun x hx => by rw [List.mem_singleton.1 hx]; exact HJ.out _ (on HB3.out bb)))
    (lis_block frow.len g1 rfl rfl (by omega) trivial (fun x hx => by
      rcases List.mem_cons.1 hx with e | e
      · rw [e]; exact awF_at _ _ _ _
      · rw [List.mem_singleton.1 e]; exact awF_at _ _ _ _)) (fun i hi => by
      rcases List.mem_cons.1 hi with e | e
      · rw [e]; exact ⟨by show (-9223372036854775808 : Int) ≤ 5; omega, by show (5 : Int) ≤ 9223372036854775807; omega⟩
      · rw [List.mem_singleton.1 e]; exact ⟨by show (-9223372036854775808 : Int) ≤ 6; omega, by show (6 : Int) ≤ 9223372036854775807; omega⟩) (by omega)
  rw [aw_cho] at cH
  have HBc := hid (on HB3.out bb)
  have HBg : Hid (∀ W, Below (w3.heap.size + 2) ((w3.alloc (.cells #[.int .i64 3, .int .i64 0, .slice (some ⟨a, 0, none⟩) 3 3, .slice (some ⟨b, 0, none⟩) 3 3, .slice none 0 0, .int .i64 0] 24)).alloc (.cells #[.int .i64 5, .int .i64 1, .int .i64 3, .int .i64 5, .slice none 0 0, .int .i64 6, .int .i64 1, .int .i64 3, .int .i64 4, .slice none 0 0] 27)) W → W.heap[p]? = some (.cells #[.int .i64 3, .int .i64 0, .slice (some ⟨a, 0, none⟩) 3 3, .slice (some ⟨b, 0, none⟩) 3 3, .slice none 0 0, .int .i64 0] 24 (0, 0))) := hid fun W hW => (hW.block p (by have := lt_heap HG3.out; omega)).trans ((bb.block p (lt_heap HG3.out)).trans HG3.out)
  have HSz := hid hsz
  obtain ⟨p0, p1, p2, p3, p4, p5⟩ := jcells (v := awJ a b) HG3.out
  unfold awJ at p0 p1 p2 p3 p4 p5
  dsimp only at p0 p1 p2 p3 p4 p5
  clear bb hsz g0 g1
  go_upto_region 3 with (go_at_call 13; refine cH.mono ?_; rintro e wc ⟨v, z, rfl, HV⟩; unfold vC; clear cH)
  obtain ⟨h1, h2, h3⟩ := HV.out
  injection h2 with h2 hz
  subst hz
  have hk : v.kind = 3 := congrArg Cho.kind h2
  have hsi : v.si = 3 := congrArg Cho.si h2
  have hhe : v.he = 4 := congrArg Cho.he h2
  have hwl : v.n = 2 := by
    have e : v.W = [5, 6] := congrArg Cho.wh h2
    have := Lis.len h1
    rw [e] at this
    exact this.symm
  have h3' := h3
  rw [HSz.out] at h3'
  obtain ⟨r, hr⟩ : ∃ r, r = wc.heap.size := ⟨_, rfl⟩
  obtain ⟨wd, hwd⟩ : ∃ wd, wd = wc.alloc (.cells #[.int .i64 v.kind, .int .i64 v.si, .int .i64 v.he, .slice v.x v.n v.c] 35) := ⟨_, rfl⟩
  have bd : Below wc.heap.size wc wd := by rw [hwd]; exact al _ _
  have gd : wd.heap[r]? = some (.cells #[.int .i64 v.kind, .int .i64 v.si, .int .i64 v.he, .slice v.x v.n v.c] 35 (0, 0)) := by rw [hwd, hr]; exact heap_alloc_new _ _
  rw [← hwd, ← hr]
  have hgp := HBg.out wc h3'
  have gp := (bd.block p (lt_heap hgp)).trans hgp
  obtain ⟨q0, q1, q2, q3, q4, q5⟩ := jcells (v := awJ a b) gp
  unfold awJ at q0 q1 q2 q3 q4 q5
  dsimp only at q0 q1 q2 q3 q4 q5
  rw [hk, hsi, hhe, hwl] at gd
  obtain ⟨r0, r1, r2, r3⟩ := ccells gd
  have HBv := hid (on HBc.out (on h3 bd))
  have cL := placks_any (HJ.out wd HBv.out) (awG_at wd (fun _ => True))
  rw [aw_lack] at cL
  unfold vJ vF awJ awG at cL
  dsimp only at cL
  clear h1 h2 h3 h3' gp hgp p0 p1 p2 p3 p4 p5 HV hwd hr bd gd hk hsi hhe hwl
  go_wp2_with (go_at_call 10; refine cL.mono ?_; rintro e we ⟨rfl, hb⟩; have HBe := hid hb; clear cL hb)
  go_ret
  exact ⟨rfl, on HB.out (on HBv.out HBe.out)⟩
end Go.Proofs.Ytgcjecmgjncclaa.Pe

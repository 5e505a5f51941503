/-
  set: an item is a chunk, or gone.
  Conditions: the shard's items are one's own, rise, and are not too many.
-/
import Derived.Test.YtnfflmndejbepaaJShBin
import Derived.Test.YtnfflmndejbepaaShIns
import Derived.Test.YtnfflmndejbepaaShDel
import Derived.Test.YtnfflmndejbepaaShCopy
import Derived.Deep.Cut
namespace Go.Proofs.Ytnfflmndejbepaa.Sh
set_option linter.unusedSectionVars false
variable [Inhabited DZ]
open Go.RowKit By Fl
set_option linter.unusedVariables false
set_option linter.unusedSimpArgs false
set_option maxRecDepth 100000

/- What has come of the items, and of the box that holds their slice. -/
def SetOk (w : World) (p of : Nat) (A : Array Value) (T : TypeId) (R : Value) (L : List IV) (nm : ByteArray) (has : Bool) (ch : CV) (w' : World) : Prop :=
  ∃ x' n' c' L', w'.heap[p]? = some (.cells (A.setIfInBounds (of + 2) (.slice x' n' c')) T (0, 0)) ∧ Own w' 0 79 4 enI (.slice x' n' c') L' ∧ L'.map pI = setI (L.map pI) nm has (pC ch) ∧ (∀ a ∈ L', a ∈ L ∨ a = ⟨nm, ch⟩) ∧
    Turns (fun q => q = p ∨ R.ownBlock = some q) w w' ∧ (∀ g, (Value.slice x' n' c').ownBlock = some g → R.ownBlock = some g ∨ w.heap.size ≤ g) ∧ L'.length ≤ L.length + 1

theorem arr_same {A : Array Value} {j : Nat} {v : Value} (h : A[j]? = some v) : A.setIfInBounds j v = A := by
  apply Array.toList_inj.1
  rw [Array.toList_setIfInBounds]
  exact set_same' (by simpa using h)

theorem set_is {L : List Itm} {nm : ByteArray} {c : Chk} {has t : Bool} {k : Nat} (h : ((∃ a, L[k]? = some a ∧ a.nm = nm) → setT nm c false L = L.take k ++ ⟨nm, c⟩ :: L.drop (k + 1) ∧ del nm L = L.take k ++ L.drop (k + 1)) ∧ ((¬ ∃ a, L[k]? = some a ∧ a.nm = nm) → setT nm c false L = L.take k ++ ⟨nm, c⟩ :: L.drop k ∧ del nm L = L)) (ht : t = true ↔ ∃ a, L[k]? = some a ∧ a.nm = nm) :
    setI L nm has c = match has, t with | true, true => L.take k ++ ⟨nm, c⟩ :: L.drop (k + 1) | true, false => L.take k ++ ⟨nm, c⟩ :: L.drop k | false, true => L.take k ++ L.drop (k + 1) | false, false => L := by
  unfold setI
  cases has <;> cases t
  · simp only [Bool.not_false]
    rw [setT_true]
    exact (h.2 fun q => by have := ht.2 q; cases this).2
  · simp only [Bool.not_false]
    rw [setT_true]
    exact (h.1 (ht.1 rfl)).2
  · exact (h.2 fun q => by have := ht.2 q; cases this).1
  · exact (h.1 (ht.1 rfl)).1

set_option maxHeartbeats 6400000 in
theorem set_any {w : World} {F : Nat → Prop} {p of n c : Nat} {A : Array Value} {T : TypeId} {x : Option Addr} {L : List IV} (nm : ByteArray) (has : Bool) (ch : CV) (hp : w.heap[p]? = some (.cells A T (0, 0))) (hA : A[of + 2]? = some (.slice x n c)) (hT : 79 ≠ T) (ho : Own w 0 79 4 enI (.slice x n c) L) (hi : Is w F x n c L) (hr : Rise (L.map pI)) (hsm : L.length < 100000000) :
    Calls Try.prog 78 #[.pointer (some ⟨p, of, none⟩), .string nm, .bool has, vC ch] w fun e w' => e = .returned (.tuple #[]) ∧ Hid (SetOk w p of A T (.slice x n c) L nm has ch w') := by
  have hb0 := al w (.cells #[.int .i64 ch.sz, .slice ch.x ch.n ch.c, .int .u32 ch.sum] 36)
  have hS := bsearch_any nm (Is.below hi hb0) hr
  have hlp := lt_heap hp
  have hn : L.length = n := hi.len
  have p2 := keep hb0 (cell_heap hp hA)
  have HP := hid hp
  have HAA := hid hA
  have HT := hid hT
  have HO := hid ho
  have HR := hid hr
  have HB0 := hid hb0
  have HLp := hid hlp
  have HN := hid hn
  obtain ⟨w1, hw1⟩ : ∃ w1, w1 = w.alloc (.cells #[.int .i64 ch.sz, .slice ch.x ch.n ch.c, .int .u32 ch.sum] 36) := ⟨_, rfl⟩
  have HC : Hid (∀ W, Below w1.heap.size w1 W → W.cell? ⟨w.heap.size, 0, none⟩ = some (.int .i64 ch.sz) ∧ W.cell? ⟨w.heap.size, 1, none⟩ = some (.slice ch.x ch.n ch.c) ∧ W.cell? ⟨w.heap.size, 2, none⟩ = some (.int .u32 ch.sum)) := fun W hW =>
    ⟨keep hW (by rw [hw1]; go_simp), keep hW (by rw [hw1]; go_simp), keep hW (by rw [hw1]; go_simp)⟩
  have HCh : Hid (∃ c0, c0 = ch) := ⟨ch, rfl⟩
  obtain ⟨c0, hc0⟩ : ∃ c0, c0 = ch := ⟨ch, rfl⟩
  have HC0 := hid hc0
  rw [← hc0] at HC
  unfold Found at hS
  have HW := hid hw1
  rw [← hc0] at HW
  rw [show SetOk w p of A T (.slice x n c) L nm has ch = SetOk w p of A T (.slice x n c) L nm has c0 by rw [hc0]]
  clear hp hA hT ho hi hr hb0 hlp hw1 hc0 HCh
  have place := fun (k : Nat) (hk : k ≤ n) h1 h2 => set_place (nm := nm) (c := pC c0) (k := k) HR.out (by rw [List.length_map, hn]; exact hk) h1 h2
  have HPl := hid place
  clear place
  obtain ⟨sz, cx, cn, cc, dat, sum⟩ := ch
  unfold vC
  dsimp only at *
  have HC1 : c0 = ⟨sz, cx, cn, cc, dat, sum⟩ := HC0.out
  have HCC := hid HC1
  subst HC1
  dsimp only at HW HC
  go_enter Try.func78, Try.ntmps78
  go_upto_region 2 with (go_at_call 88; refine hS.mono ?_; rintro e w2 ⟨k, t, rfl, H2⟩)
  rw [← HW.out] at H2
  have HB2 := hid H2.out.2.2.2.2
  have HK := hid H2.out.1
  have HD : Hid (t = true ↔ ∃ a, (L.map pI)[k]? = some a ∧ a.nm = nm) := by
    refine hid (H2.out.2.2.2.1.trans ⟨fun ⟨a, ha, he⟩ => ⟨pI a, map_get ha, he⟩, fun ⟨a, ha, he⟩ => ?_⟩)
    rw [List.getElem?_map] at ha
    obtain ⟨u, hu, rfl⟩ := Option.map_eq_some_iff.1 ha
    exact ⟨u, hu, he⟩
  have HS := hid (set_is (has := has) (t := t) (HPl.out k H2.out.1 (fun j a hj ha => by
    rw [List.getElem?_map] at ha
    obtain ⟨u, hu, rfl⟩ := Option.map_eq_some_iff.1 ha
    exact H2.out.2.1 j u hj hu) (fun j a hj ha => by
    rw [List.getElem?_map] at ha
    obtain ⟨u, hu, rfl⟩ := Option.map_eq_some_iff.1 ha
    exact H2.out.2.2.1 j u hj hu)) HD.out)
  have HY := hid H2.out.2.2.2.1
  have HB0' : Hid (Below w.heap.size w w1) := hid (by rw [HW.out]; exact HB0.out)
  have hbw := on HB0'.out HB2.out
  have HBW := hid hbw
  have HP2 : Hid (w2.heap[p]? = some (.cells A T (0, 0))) := hid ((hbw.block p HLp.out).trans HP.out)
  have q2 : w2.cell? ⟨p, of + 2, none⟩ = some (.slice x n c) := cell_heap HP2.out HAA.out
  obtain ⟨r0, r1, r2⟩ := HC.out w2 HB2.out
  have ow2 := HO.out.below hbw
  have hkn := HK.out
  clear p2 H2 hbw hS
  cases has with
  | false =>
    cases t with
    | false =>
      go_wp2_with fail
      go_end0
      exact ⟨rfl, hid ⟨x, n, c, L, by rw [arr_same HAA.out]; exact HP2.out, ow2, by rw [HS.out], fun a ha => .inl ha, Turns.of_below HBW.out, fun g hg => .inl hg, Nat.le_succ _⟩⟩
    | true =>
      obtain ⟨a, ha, he⟩ := HY.out.1 rfl
      have hkl : k < L.length := (List.getElem?_eq_some_iff.1 ha).1
      obtain ⟨g, c', hR, hle, hcm, _, hgl⟩ := ow2.there (fun e => by rw [e] at hkl; simp at hkl)
      injection hR with e1 e2 e3
      subst e1 e3
      obtain ⟨j, hj⟩ : ∃ j, j = k + 1 := ⟨_, rfl⟩
      have HJ := hid hj
      have hji : (k : Int) + 1 = (j : Int) := by omega
      have hwr : IntKind.i64.wrap ((j : Int)) = (j : Int) := by rw [IntKind.wrap_i64]; omega
      have hD := deleteI_any (i := k) (j := j) ow2 (by omega) (by omega)
      have HNe := hid (box_ne ow2 HP2.out HT.out (g := g) rfl)
      have HX := hid (And.intro hkl e2)
      clear hj hkl hle hcm hgl ha he e2 ow2
      go_wp2_with (go_at_call 92; refine hD.mono ?_; rintro e w3 ⟨rfl, H3⟩; have hp3 := (H3.out.2.block p (lt_heap HP2.out) HNe.out).trans HP2.out; have q3 := cell_heap hp3 HAA.out; have f3 := fr_heap hp3 (of + 2); have HP3 := hid hp3; clear hD hp3)
      go_end0
      refine ⟨rfl, hid ⟨_, _, _, L.take k ++ L.drop j, heap_set HP3.out _, H3.out.1.turns (turns_put (a := p) (Turns.refl _ w3) _ _) (fun q hq e => by have e2 : g = q := (by simpa [Value.ownBlock] using hq); have := HNe.out; omega), ?_, fun a ha => .inl ?_, ?_, fun q hq => .inl hq, ?_⟩⟩
      · rw [HS.out, HJ.out]; simp
      · rcases List.mem_append.1 ha with ha | ha
        · exact List.mem_of_mem_take ha
        · exact List.mem_of_mem_drop ha
      · exact ((Turns.of_below HBW.out).trans (H3.out.2.weak fun q hq => .inr (by rw [hq]; rfl))).setCell (p := ⟨p, of + 2, none⟩) (.inl (.inl rfl)) _
      · simp; have := HX.out.1; have := HJ.out; omega
  | true =>
    cases t with
    | true =>
      obtain ⟨a, ha, he⟩ := HY.out.1 rfl
      have hkl : k < L.length := (List.getElem?_eq_some_iff.1 ha).1
      obtain ⟨g, c', hR, hle, hcm, _, hgl⟩ := ow2.there (fun e => by rw [e] at hkl; simp at hkl)
      injection hR with e1 e2 e3
      subst e1 e3
      have hkn2 : (k : Int) < (n : Int) := by omega
      have HA2 := hid (And.intro ha he)
      have HX := hid (And.intro hkl e2)
      have HOw := hid ow2
      have HK4 := hid (⟨q2, r0, r1, r2⟩ : w2.cell? ⟨p, of + 2, none⟩ = some (.slice (some ⟨g, 0, none⟩) n c) ∧ w2.cell? ⟨w.heap.size, 0, none⟩ = some (.int .i64 sz) ∧ w2.cell? ⟨w.heap.size, 1, none⟩ = some (.slice cx cn cc) ∧ w2.cell? ⟨w.heap.size, 2, none⟩ = some (.int .u32 sum))
      clear hkl hle hcm hgl ha he e2 ow2 q2 r0 r1 r2
      go_upto_region 3 with (fail)
      refine wp_region_tail (fun v => v.cell? ⟨p, of + 2, none⟩ = some (.slice (some ⟨g, 0, none⟩) n c) ∧ v.cell? ⟨w.heap.size, 0, none⟩ = some (.int .i64 sz) ∧ v.cell? ⟨w.heap.size, 1, none⟩ = some (.slice cx cn cc) ∧ v.cell? ⟨w.heap.size, 2, none⟩ = some (.int .u32 sum)) [6, 7, 8] (by kernel_rfl) HK4.out (fun hS => ?_)
      have bD : Below w2.heap.size w2 w2.drew := (Below.refl _ _).drew
      generalize w2.drew = wD at *
      refine By.tk 0 ?_
      refine By.tk 1 ?_
      refine By.tk 2 ?_
      refine By.tk 3 ?_
      refine By.tk 4 ?_
      refine By.tk 5 ?_
      have owD := HOw.out.below bD
      have d1 := owD.cell irow.len HA2.out.1 (j := 1) (v := .int .i64 a.ch.sz) rfl
      have d2 := owD.cell irow.len HA2.out.1 (j := 2) (v := .slice a.ch.x a.ch.n a.ch.c) rfl
      have d3 := owD.cell irow.len HA2.out.1 (j := 3) (v := .int .u32 a.ch.sum) rfl
      have f1 := owD.frozen (k := k * 4 + 1)
      have f2 := owD.frozen (k := k * 4 + 2)
      have f3 := owD.frozen (k := k * 4 + 3)
      have HOD := hid owD
      have HBD := hid bD
      clear owD bD hS
      refine wpAnyT_one (i := 6) (by kernel_rfl) rfl (fun K hK => ?_)
      go_simp
      refine hK.out _ _ (fun h => absurd (by decide) h) ?_
      clear hK K
      refine wpAnyT_one (i := 7) (by kernel_rfl) rfl (fun K hK => ?_)
      go_simp
      refine hK.out _ _ (fun h => absurd (by decide) h) ?_
      clear hK K
      refine wpAnyT_one (i := 8) (by kernel_rfl) rfl (fun K hK => ?_)
      go_simp
      refine hK.out _ _ (fun h => absurd (by decide) h) ?_
      clear hK K
      refine wpAnyT_done (by kernel_rfl) ?_ _
      clear d1 d2 d3 f1 f2 f3
      go_wp2_with fail
      go_end0
      have hset := Own.setC HOD.out HA2.out.1 ⟨sz, cx, cn, cc, dat, sum⟩
      have tt := turns_put3 wD g (k * 4 + 1) ⟨sz, cx, cn, cc, dat, sum⟩
      have npg := box_ne HOD.out ((HBD.out.block p (lt_heap HP2.out)).trans HP2.out) HT.out (g := g) rfl
      refine ⟨rfl, hid ⟨_, _, _, L.set k ⟨a.nm, ⟨sz, cx, cn, cc, dat, sum⟩⟩, ?_, hset, ?_, fun b hb => ?_, ((Turns.of_below HBW.out).trans (Turns.of_below HBD.out)).trans (tt.weak fun q hq => .inr (by rw [hq]; rfl)), fun q hq => .inl hq, by simp⟩⟩
      · rw [arr_same HAA.out]
        exact (tt.block p (by have := lt_heap HP2.out; have := HBD.out.size; omega) npg).trans ((HBD.out.block p (lt_heap HP2.out)).trans HP2.out)
      · rw [HS.out, List.map_set]
        rw [List.set_eq_take_append_cons_drop, if_pos (by rw [List.length_map]; exact HX.out.1)]
        simp [pI, HA2.out.2]
      · rcases List.mem_or_eq_of_mem_set hb with hb | hb
        · exact .inl hb
        · exact .inr (by rw [hb, HA2.out.2])
    | false =>
      have HOw := hid ow2
      have HK4 := hid (⟨q2, r0, r1, r2⟩ : w2.cell? ⟨p, of + 2, none⟩ = some (.slice x n c) ∧ w2.cell? ⟨w.heap.size, 0, none⟩ = some (.int .i64 sz) ∧ w2.cell? ⟨w.heap.size, 1, none⟩ = some (.slice cx cn cc) ∧ w2.cell? ⟨w.heap.size, 2, none⟩ = some (.int .u32 sum))
      clear ow2 q2 r0 r1 r2
      go_upto_region 5 with (fail)
      refine wp_region_tail (fun v => v.cell? ⟨p, of + 2, none⟩ = some (.slice x n c) ∧ v.cell? ⟨w.heap.size, 0, none⟩ = some (.int .i64 sz) ∧ v.cell? ⟨w.heap.size, 1, none⟩ = some (.slice cx cn cc) ∧ v.cell? ⟨w.heap.size, 2, none⟩ = some (.int .u32 sum)) [11, 12, 13] (by kernel_rfl) HK4.out (fun hS => ?_)
      have bD : Below w2.heap.size w2 w2.drew := (Below.refl _ _).drew
      generalize w2.drew = wD at *
      refine By.tk 0 ?_
      refine By.tk 1 ?_
      refine By.tk 2 ?_
      refine By.tk 3 ?_
      refine By.tk 4 ?_
      refine By.tk 5 ?_
      refine By.tk 6 ?_
      refine By.tk 7 ?_
      refine By.tk 8 ?_
      have bI := al wD (.cells #[.string nm, .int .i64 sz, .slice cx cn cc, .int .u32 sum] 79)
      have SI := (⟨keep bI hS.1, keep bI hS.2.1, keep bI hS.2.2.1, keep bI hS.2.2.2⟩ : (wD.alloc (.cells #[.string nm, .int .i64 sz, .slice cx cn cc, .int .u32 sum] 79)).cell? ⟨p, of + 2, none⟩ = some (.slice x n c) ∧ (wD.alloc (.cells #[.string nm, .int .i64 sz, .slice cx cn cc, .int .u32 sum] 79)).cell? ⟨w.heap.size, 0, none⟩ = some (.int .i64 sz) ∧ (wD.alloc (.cells #[.string nm, .int .i64 sz, .slice cx cn cc, .int .u32 sum] 79)).cell? ⟨w.heap.size, 1, none⟩ = some (.slice cx cn cc) ∧ (wD.alloc (.cells #[.string nm, .int .i64 sz, .slice cx cn cc, .int .u32 sum] 79)).cell? ⟨w.heap.size, 2, none⟩ = some (.int .u32 sum))
      have owI := (HOw.out.below bD).below bI
      have hbx : ∀ q, (Value.slice x n c).ownBlock = some q → q < w.heap.size ∧ q ≠ p := fun q hq => ⟨(World.ownsRow.lt HO.out q hq).2, fun e => box_ne HOw.out HP2.out HT.out hq e.symm⟩
      have hI := insert_any (i := k) (vb := wD.heap.size) (o := ⟨nm, ⟨sz, cx, cn, cc, dat, sum⟩⟩) owI (heap_alloc_new _ _) (fun e => by have := (hbx _ e).1; have := HBW.out.size; have := bD.size; omega) (Nat.zero_le _) hkn (by omega)
      have HX := hid hbx
      have HBD := hid (on bD bI)
      have HPI := hid (((on bD bI).block p (lt_heap HP2.out)).trans HP2.out)
      clear owI hbx bD hS
      refine wpAnyT_one (i := 9) (by kernel_rfl) rfl (fun K hK => ?_)
      go_simp
      refine hK.out _ _ (fun _ => SI) ?_
      clear hK K
      refine wpAnyT_one (i := 10) (by kernel_rfl) rfl (fun K hK => ?_)
      go_simp
      refine hI.mono ?_
      rintro e w3 ⟨x', c', rfl, H3⟩
      have hK : ∀ (b q : Nat) (v : Value), (b = p ∨ b = w.heap.size) → (wD.alloc (.cells #[.string nm, .int .i64 sz, .slice cx cn cc, .int .u32 sum] 79)).cell? ⟨b, q, none⟩ = some v → w3.cell? ⟨b, q, none⟩ = some v := fun b q v hb hv =>
        (World.cell?_of_block (a := ⟨b, q, none⟩) (H3.out.2.1.block b (cell_lt' hv) (fun e => by have := HX.out b e; omega))).trans hv
      have S3 := (⟨hK _ _ _ (.inl rfl) SI.1, hK _ _ _ (.inr rfl) SI.2.1, hK _ _ _ (.inr rfl) SI.2.2.1, hK _ _ _ (.inr rfl) SI.2.2.2⟩ : w3.cell? ⟨p, of + 2, none⟩ = some (.slice x n c) ∧ w3.cell? ⟨w.heap.size, 0, none⟩ = some (.int .i64 sz) ∧ w3.cell? ⟨w.heap.size, 1, none⟩ = some (.slice cx cn cc) ∧ w3.cell? ⟨w.heap.size, 2, none⟩ = some (.int .u32 sum))
      have hp3 := (H3.out.2.1.block p (lt_heap HPI.out) (fun e => (HX.out p e).2 rfl)).trans HPI.out
      have HP3 := hid hp3
      clear hI hK SI bI
      refine hK.out _ _ (fun _ => S3) ?_
      clear hK K
      have q3 := S3.1
      have f3 := fr_heap hp3 (of + 2)
      clear S3 hp3
      refine wpAnyT_one (i := 11) (by kernel_rfl) rfl (fun K hK => ?_)
      go_simp
      refine hK.out _ _ (fun h => absurd (by decide) h) ?_
      clear hK K
      refine wpAnyT_one (i := 12) (by kernel_rfl) rfl (fun K hK => ?_)
      go_simp
      refine hK.out _ _ (fun h => absurd (by decide) h) ?_
      clear hK K
      refine wpAnyT_one (i := 13) (by kernel_rfl) rfl (fun K hK => ?_)
      go_simp
      refine hK.out _ _ (fun h => absurd (by decide) h) ?_
      clear hK K
      refine wpAnyT_done (by kernel_rfl) ?_ _
      clear q3 f3
      go_wp2_with fail
      go_end0
      have npx : ∀ q, (Value.slice x' (n + 1) c').ownBlock = some q → q ≠ p := fun q hq e => by
        rcases H3.out.2.2 q hq with h | h
        · exact (HX.out q h).2 e
        · have := lt_heap HPI.out; omega
      refine ⟨rfl, hid ⟨_, _, _, L.take k ++ ⟨nm, ⟨sz, cx, cn, cc, dat, sum⟩⟩ :: L.drop k, heap_set HP3.out _, H3.out.1.turns (turns_put (a := p) (Turns.refl _ w3) _ _) npx, ?_, fun b hb => ?_, ?_, fun q hq => ?_, ?_⟩⟩
      · rw [HS.out]; simp [pI]
      · rcases List.mem_append.1 hb with hb | hb
        · exact .inl (List.mem_of_mem_take hb)
        · rcases List.mem_cons.1 hb with hb | hb
          · exact .inr hb
          · exact .inl (List.mem_of_mem_drop hb)
      · exact (((Turns.of_below HBW.out).trans (Turns.of_below HBD.out)).trans (H3.out.2.1.weak fun q hq => .inr hq)).setCell (p := ⟨p, of + 2, none⟩) (.inl (.inl rfl)) _
      · rcases H3.out.2.2 q hq with h | h
        · exact .inl h
        · exact .inr (by have := HBW.out.size; have := HBD.out.size; omega)
      · simp; omega

end Go.Proofs.Ytnfflmndejbepaa.Sh

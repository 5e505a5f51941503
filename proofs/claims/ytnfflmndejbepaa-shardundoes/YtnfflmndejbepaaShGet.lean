/-
  Get, the program's and the document's.
  Conditions: the shard lies in memory.
-/
import Derived.Test.YtnfflmndejbepaaShMay2
import Derived.Test.YtnfflmndejbepaaShMay3
import Derived.Test.YtnfflmndejbepaaShAsk
namespace Go.Proofs.Ytnfflmndejbepaa.Sh
set_option linter.unusedSectionVars false
variable [Inhabited DZ]
open Go.RowKit By Fl
set_option linter.unusedVariables false
set_option linter.unusedSimpArgs false
set_option maxRecDepth 100000

theorem two_boxes2 (w : World) (A B : Array Value) (t u : TypeId) : Below w.heap.size w ((w.alloc (.cells A t)).alloc (.cells B u)) ∧ ((w.alloc (.cells A t)).alloc (.cells B u)).heap.size = w.heap.size + 2 ∧
    ((w.alloc (.cells A t)).alloc (.cells B u)).heap[w.heap.size]? = some (.cells A t (0, 0)) ∧ ((w.alloc (.cells A t)).alloc (.cells B u)).heap[w.heap.size + 1]? = some (.cells B u (0, 0)) := by
  refine ⟨on (al _ _) (al _ _), by simp, ((al (w.alloc (.cells A t)) _).block w.heap.size (by simp)).trans (heap_alloc_new w _), ?_⟩
  have := heap_alloc_new (w.alloc (.cells A t)) (.cells B u)
  simpa using this

theorem find_at {nm : ByteArray} : ∀ {L : List Itm} {k : Nat} {y : Itm}, L[k]? = some y → y.nm = nm → (∀ (j : Nat) (z : Itm), j < k → L[j]? = some z → z.nm ≠ nm) → find nm L = some y.ch
  | [], k, y, h, _, _ => by simp at h
  | x :: L, 0, y, h, e, _ => by
    simp at h
    subst h
    unfold find
    rw [if_pos e]
  | x :: L, k + 1, y, h, e, hn => by
    simp at h
    unfold find
    rw [if_neg (hn 0 x (by omega) rfl)]
    exact find_at h e fun j z hj hz => hn (j + 1) z (by omega) (by simpa using hz)

theorem find_no {nm : ByteArray} : ∀ {L : List Itm}, (∀ (j : Nat) (z : Itm), L[j]? = some z → z.nm ≠ nm) → find nm L = none
  | [], _ => rfl
  | x :: L, hn => by
    unfold find
    rw [if_neg (hn 0 x rfl)]
    exact find_no fun j z hz => hn (j + 1) z (by simpa using hz)

/- What Get tells; the document's, which shares the chunk's bytes. -/
def Gets (w : World) (o : Option Chk) (e : Ending) (w' : World) : Prop := ∃ c, e = .returned (.tuple #[vC c, .bool o.isSome]) ∧ Hid (CAt w' (Nb (New w w') w') c ∧ pC c = o.getD zC ∧ Below w.heap.size w w')
def RGets (w : World) (F : Nat → Prop) (o : Option Chk) (e : Ending) (w' : World) : Prop := ∃ c, e = .returned (.tuple #[vC c, .bool o.isSome]) ∧ Hid (CAt w' F c ∧ pC c = o.getD zC ∧ Below w.heap.size w w')

theorem got_kept {w w1 wc W : World} {c : CV} (h1 : Below w.heap.size w w1) (hl : w1.heap.size = w.heap.size + 2) (h : CAt wc (Nb (New w1 wc) wc) c) (hb : Below w1.heap.size w1 wc) (t : Turns (fun k => k = w.heap.size ∨ k = w.heap.size + 1) wc W) : CAt W (Nb (New w W) W) c ∧ Below w.heap.size w W := by
  have s1 := hb.size
  have s2 := t.size
  refine ⟨(SlF.keeps h (.turns t fun q hq e => by have := hq.1.1; rcases e with e | e <;> omega)).weak fun q hq => ?_, (on h1 hb).trans (t.below (fun q e => by rcases e with e | e <;> omega) (by omega))⟩
  have a := hq.1.1
  have b := hq.1.2
  exact ⟨⟨by omega, by omega⟩, hq.2.of_heap (t.block q b (fun e => by rcases e with e | e <;> omega))⟩

set_option maxHeartbeats 6400000 in
theorem get_any {w : World} {F : Nat → Prop} {v : SV} (name : ByteArray) (h : SAt w F v) : Calls Try.prog 11 #[vS v, .string name] w fun e w' => Gets w (find name (v.I.map pI)) e w' := by
  obtain ⟨w1, hw1⟩ : ∃ w1, w1 = (w.alloc (.cells (SCells v) 26)).alloc (.cells #[.int .i64 0, .slice none 0 0, .int .u32 0] 36) := ⟨_, rfl⟩
  obtain ⟨bb, hsz, g0, g1⟩ := two_boxes2 w (SCells v) #[.int .i64 0, .slice none 0 0, .int .u32 0] 26 36
  rw [← hw1] at bb hsz g0 g1
  have HB := hid bb
  have HSz := hid hsz
  have HG1 := hid g1
  have HA := hid h.i
  have hsm := h.i.small
  have HL := hid h.i.len
  have HN : Hid ((∀ (j : Nat) (z : IV), v.I[j]? = some z → z.nm ≠ name) → find name (v.I.map pI) = none) := hid (fun hn => find_no fun j z hz => by
    rw [List.getElem?_map] at hz
    obtain ⟨u, hu, rfl⟩ := Option.map_eq_some_iff.1 hz
    exact hn j u hu)
  have HY : Hid (∀ (k : Nat) (a : IV), v.I[k]? = some a → a.nm = name → (∀ (j : Nat) (z : IV), j < k → v.I[j]? = some z → z.nm ≠ name) → find name (v.I.map pI) = some (pC a.ch)) := hid (fun k a ha e hn => find_at (map_get ha) e fun j z hj hz => by
    rw [List.getElem?_map] at hz
    obtain ⟨u, hu, rfl⟩ := Option.map_eq_some_iff.1 hz
    exact hn j u hj hu)
  generalize find name (v.I.map pI) = O at *
  have p2 : w1.cell? ⟨w.heap.size, 2, none⟩ = some (.slice v.x1 v.n1 v.c1) := cell_heap g0 rfl
  clear h bb hsz g0 g1
  obtain ⟨pl, si, x1, n1, c1, I, x2, n2, c2, E, x3, n3, c3, U⟩ := v
  unfold SCells at hw1
  unfold vS
  dsimp only at *
  have fin : ∀ (wc W : World) (c : CV), CAt wc (Nb (New w1 wc) wc) c → Below w1.heap.size w1 wc → Turns (fun k => k = w.heap.size ∨ k = w.heap.size + 1) wc W → pC c = O.getD zC → ∀ t, t = O.isSome → Gets w O (.returned (.tuple #[vC c, .bool t])) W := fun wc W c h2 h3 t hp b hb => by
    have := got_kept HB.out HSz.out h2 h3 t
    rw [hb]
    exact ⟨c, rfl, hid ⟨this.1, hp, this.2⟩⟩
  have HFin := hid fin
  clear fin
  have HW := hid hw1
  rw [hw1] at p2
  clear hw1
  go_enter Try.func11, Try.ntmps11
  go_wp2_with fail
  clear p2
  rw [← HW.out]
  go_loopw [11] (fun i wr => ∃ k : Nat, k ≤ n1 ∧ i = .int .i64 k ∧ Hid (Below w1.heap.size w1 wr ∧ ∀ (j : Nat) (z : IV), j < k → I[j]? = some z → z.nm ≠ name)) (fun i _ => n1 - (intOf i).toNat)
  case atStart => exact ⟨0, by omega, rfl, Below.refl _ _, fun j z hj => by omega⟩
  case round =>
    obtain ⟨k, hk, rfl, HR⟩ := hrel
    by_cases hlt : k < n1
    · have hkn : (k : Int) < (n1 : Int) := by omega
      obtain ⟨a, ha, hm⟩ := Lis.some HA.out hlt
      have A1 := hid (HA.out.each a hm)
      rcases HA.out.row with h0 | ⟨bl, o, rfl, hbl, _, hc⟩
      · omega
      obtain ⟨k0, k1, k2, k3⟩ := i_at hc ha
      have hbw := on HB.out HR.out.1
      replace k0 := keep hbw k0
      replace k1 := keep hbw k1
      replace k2 := keep hbw k2
      replace k3 := keep hbw k3
      have ba := al wr (.cells #[.string a.nm, .int .i64 a.ch.sz, .slice a.ch.x a.ch.n a.ch.c, .int .u32 a.ch.sum] 79)
      have HBA := hid ba
      have hC := copiedChunk_any (CAt.below A1.out.2 (on hbw ba))
      obtain ⟨t, ht⟩ : ∃ t, (a.nm.toList == name.toList) = t := ⟨_, rfl⟩
      have HT : Hid (t = true ↔ a.nm = name) := hid (by rw [← ht, str_eq]; simp)
      have HM := hid ha
      clear hc ha hm hbl hbw ba
      obtain ⟨nm, sz, x, m, cc, dat, sum⟩ := a
      unfold vC at hC
      dsimp only at k0 k1 k2 k3 hC ht
      cases t with
      | false =>
        go_wp2_with fail
        go_roundw
        case rel =>
          refine ⟨k + 1, by omega, by go_num, on HR.out.1 HBA.out, fun j z hj hz => ?_⟩
          by_cases e : j = k
          · subst e
            have := Option.some.inj (HM.out.symm.trans hz)
            rw [← this]
            exact fun q => by have := HT.out.2 q; cases this
          · exact HR.out.2 j z (by omega) hz
        case measure => simp [intOf]; omega
      | true =>
        have HO := hid (HY.out k _ HM.out (HT.out.1 rfl) HR.out.2)
        go_wp2_with (go_at_call 41; refine hC.mono ?_; rintro e w3 ⟨y, cy, rfl, H3⟩; have HB3 := hid (on HR.out.1 (on HBA.out H3.out.2)); have gb := (HB3.out.block (w.heap.size + 1) (by have := HSz.out; omega)).trans HG1.out; have b0 := cell_heap gb (j := 0) rfl; have fb0 := fr_heap gb 0; have b1 := cell_heap gb (j := 1) rfl; have fb1 := fr_heap gb 1; have b2 := cell_heap gb (j := 2) rfl; have fb2 := fr_heap gb 2;  clear gb hC)
        refine bodyPost_ret (v := .tuple #[vC ⟨sz, y, m, cy, dat, sum⟩, .bool true]) ?_ rfl ?_
        · rw [results_cell2 rfl]
          unfold vC
          go_simp
        · refine HFin.out w3 _ ⟨sz, y, m, cy, dat, sum⟩ (CAt.weak H3.out.1 fun q hq => ⟨⟨by have := hq.1.1; have := HR.out.1.size; have := HBA.out.size; omega, hq.1.2⟩, hq.2⟩) HB3.out ?_ (by rw [HO.out]; rfl) true (by rw [HO.out]; rfl)
          repeat (first | (with_reducible refine Turns.two ?_ (by first | exact .inl rfl | exact .inr rfl) _) | with_reducible exact Turns.refl _ _)
    · have hk2 : n1 = k := by omega
      subst hk2
      have HO := hid (HN.out fun j z hz => HR.out.2 j z (by have := (List.getElem?_eq_some_iff.1 hz).1; have := HL.out; omega) hz)
      have gb := (HR.out.1.block (w.heap.size + 1) (by have := HSz.out; omega)).trans HG1.out
      have b0 := cell_heap gb (j := 0) rfl
      have fb0 := fr_heap gb 0
      have b1 := cell_heap gb (j := 1) rfl
      have fb1 := fr_heap gb 1
      have b2 := cell_heap gb (j := 2) rfl
      have fb2 := fr_heap gb 2
      clear gb
      go_wp2_with fail
      refine bodyPost_ret (v := .tuple #[vC zCV, .bool false]) ?_ rfl ?_
      · rw [results_cell2 rfl]
        unfold vC zCV
        go_simp
      · refine HFin.out wr _ zCV (zCV_at wr _) HR.out.1 ?_ (by rw [HO.out]; rfl) false (by rw [HO.out]; rfl)
        repeat (first | (with_reducible refine Turns.two ?_ (by first | exact .inl rfl | exact .inr rfl) _) | with_reducible exact Turns.refl _ _)

set_option maxHeartbeats 6400000 in
theorem rget_any {w : World} {F : Nat → Prop} {v : SV} (name : ByteArray) (h : SAt w F v) : Calls Try.prog 12 #[vS v, .string name] w fun e w' => RGets w F (find name (v.I.map pI)) e w' := by
  obtain ⟨w1, hw1⟩ : ∃ w1, w1 = (w.alloc (.cells (SCells v) 26)).alloc (.cells #[.int .i64 0, .slice none 0 0, .int .u32 0] 36) := ⟨_, rfl⟩
  obtain ⟨bb, hsz, g0, g1⟩ := two_boxes2 w (SCells v) #[.int .i64 0, .slice none 0 0, .int .u32 0] 26 36
  rw [← hw1] at bb hsz g0 g1
  have HB := hid bb
  have HSz := hid hsz
  have HG1 := hid g1
  have HA := hid h.i
  have hsm := h.i.small
  have HL := hid h.i.len
  have HN : Hid ((∀ (j : Nat) (z : IV), v.I[j]? = some z → z.nm ≠ name) → find name (v.I.map pI) = none) := hid (fun hn => find_no fun j z hz => by
    rw [List.getElem?_map] at hz
    obtain ⟨u, hu, rfl⟩ := Option.map_eq_some_iff.1 hz
    exact hn j u hu)
  have HY : Hid (∀ (k : Nat) (a : IV), v.I[k]? = some a → a.nm = name → (∀ (j : Nat) (z : IV), j < k → v.I[j]? = some z → z.nm ≠ name) → find name (v.I.map pI) = some (pC a.ch)) := hid (fun k a ha e hn => find_at (map_get ha) e fun j z hj hz => by
    rw [List.getElem?_map] at hz
    obtain ⟨u, hu, rfl⟩ := Option.map_eq_some_iff.1 hz
    exact hn j u hj hu)
  generalize find name (v.I.map pI) = O at *
  have p2 : w1.cell? ⟨w.heap.size, 2, none⟩ = some (.slice v.x1 v.n1 v.c1) := cell_heap g0 rfl
  clear h bb hsz g0 g1
  obtain ⟨pl, si, x1, n1, c1, I, x2, n2, c2, E, x3, n3, c3, U⟩ := v
  unfold SCells at hw1
  unfold vS
  dsimp only at *
  have fin : ∀ (wc W : World) (c : CV), CAt w F c → Below w1.heap.size w1 wc → Turns (fun k => k = w.heap.size ∨ k = w.heap.size + 1) wc W → pC c = O.getD zC → ∀ t, t = O.isSome → RGets w F O (.returned (.tuple #[vC c, .bool t])) W := fun wc W c h2 h3 t hp b hb => by
    have bw : Below w.heap.size w W := (on HB.out h3).trans (t.below (fun q e => by rcases e with e | e <;> omega) (by have := HSz.out; have := h3.size; omega))
    rw [hb]
    exact ⟨c, rfl, hid ⟨h2.below bw, hp, bw⟩⟩
  have HFin := hid fin
  clear fin
  have HP2 := hid p2
  have HW := hid hw1
  clear hw1 p2
  go_enter Try.func12, Try.ntmps12
  go_wp2_with fail
  rw [← HW.out]
  go_loopw [6] (fun i wr => ∃ k : Nat, k ≤ n1 ∧ i = .int .i64 k ∧ Hid (Below w1.heap.size w1 wr ∧ ∀ (j : Nat) (z : IV), j < k → I[j]? = some z → z.nm ≠ name)) (fun i _ => n1 - (intOf i).toNat)
  case atStart => exact ⟨0, by omega, rfl, Below.refl _ _, fun j z hj => by omega⟩
  case round =>
    obtain ⟨k, hk, rfl, HR⟩ := hrel
    have pa := keep HR.out.1 HP2.out
    by_cases hlt : k < n1
    · have hkn : (k : Int) < (n1 : Int) := by omega
      obtain ⟨a, ha, hm⟩ := Lis.some HA.out hlt
      have A1 := hid (HA.out.each a hm)
      rcases HA.out.row with h0 | ⟨bl, o, rfl, hbl, _, hc⟩
      · omega
      obtain ⟨k0, k1, k2, k3⟩ := i_at hc ha
      have hbw := on HB.out HR.out.1
      replace k0 := keep hbw k0
      replace k1 := keep hbw k1
      replace k2 := keep hbw k2
      replace k3 := keep hbw k3
      obtain ⟨t, ht⟩ : ∃ t, (a.nm.toList == name.toList) = t := ⟨_, rfl⟩
      have HT : Hid (t = true ↔ a.nm = name) := hid (by rw [← ht, str_eq]; simp)
      have HM := hid ha
      clear hc ha hm hbl hbw
      obtain ⟨nm, sz, x, m, cc, dat, sum⟩ := a
      dsimp only at k0 k1 k2 k3 ht
      cases t with
      | false =>
        go_wp2_with fail
        go_roundw
        case rel =>
          refine ⟨k + 1, by omega, by go_num, HR.out.1, fun j z hj hz => ?_⟩
          by_cases e : j = k
          · subst e
            have := Option.some.inj (HM.out.symm.trans hz)
            rw [← this]
            exact fun q => by have := HT.out.2 q; cases this
          · exact HR.out.2 j z (by omega) hz
        case measure => simp [intOf]; omega
      | true =>
        have HO := hid (HY.out k _ HM.out (HT.out.1 rfl) HR.out.2)
        have gb := (HR.out.1.block (w.heap.size + 1) (by have := HSz.out; omega)).trans HG1.out
        have b0 := cell_heap gb (j := 0) rfl
        have fb0 := fr_heap gb 0
        have b1 := cell_heap gb (j := 1) rfl
        have fb1 := fr_heap gb 1
        have b2 := cell_heap gb (j := 2) rfl
        have fb2 := fr_heap gb 2
        clear gb
        go_wp2_with fail
        refine bodyPost_ret (v := .tuple #[vC ⟨sz, x, m, cc, dat, sum⟩, .bool true]) ?_ rfl ?_
        · rw [results_cell2 rfl]
          unfold vC
          go_simp
        · refine HFin.out wr _ ⟨sz, x, m, cc, dat, sum⟩ A1.out.2 HR.out.1 ?_ (by rw [HO.out]; rfl) true (by rw [HO.out]; rfl)
          repeat (first | (with_reducible refine Turns.two ?_ (by first | exact .inl rfl | exact .inr rfl) _) | with_reducible exact Turns.refl _ _)
    · have hk2 : n1 = k := by omega
      subst hk2
      have HO := hid (HN.out fun j z hz => HR.out.2 j z (by have := (List.getElem?_eq_some_iff.1 hz).1; have := HL.out; omega) hz)
      have gb := (HR.out.1.block (w.heap.size + 1) (by have := HSz.out; omega)).trans HG1.out
      have b0 := cell_heap gb (j := 0) rfl
      have fb0 := fr_heap gb 0
      have b1 := cell_heap gb (j := 1) rfl
      have fb1 := fr_heap gb 1
      have b2 := cell_heap gb (j := 2) rfl
      have fb2 := fr_heap gb 2
      clear gb
      go_wp2_with fail
      refine bodyPost_ret (v := .tuple #[vC zCV, .bool false]) ?_ rfl ?_
      · rw [results_cell2 rfl]
        unfold vC zCV
        go_simp
      · refine HFin.out wr _ zCV (zCV_at w _) HR.out.1 ?_ (by rw [HO.out]; rfl) false (by rw [HO.out]; rfl)
        repeat (first | (with_reducible refine Turns.two ?_ (by first | exact .inl rfl | exact .inr rfl) _) | with_reducible exact Turns.refl _ _)

end Go.Proofs.Ytnfflmndejbepaa.Sh

/-
  What a flight's own calls do: New, Look, Part, Heal, Twice, Post.
  Conditions: the flight is one that New gave ('FlAt').
-/
import Derived.Test.YtmekbbddfmmbeaaFlCalls
import Derived.OwnWalk
namespace Go.Proofs.Ytmekbbddfmmbeaa.Fl
open Go.RowKit By
set_option linter.unusedVariables false
set_option linter.unusedSimpArgs false
set_option maxRecDepth 100000

theorem ready_append {P : Program} {w w' : World} {ops : Array Oper} {o : Oper} {a : Act} {K : Act → World → Prop} {Q : Exit → Act → World → Prop} {v' : Value} (hg : Region.wanted o (yielded ops a.tmps) = true) (s x : Operand) (t : TypeId)
    (ho : o.op = .call { callee := .builtin .append, args := #[s, x], argTypes := #[t, t] }) (v1 v2 : Value) (hs : a.eval s = v1) (hx : a.eval x = v2) (hr : (Builtin.append_ #[t, t] o.type #[v1, v2]).run P w = .ok v' w')
    (h : K (a.put o.dst v') w') : if Region.wanted o (yielded ops a.tmps) = true then Oper.wp P o a w K Q else K (a.put o.dst undef) w := st_append hg s x t ho v1 v2 hs hx hr h

theorem results_tmp4 {fn : Func} {t u v x : Tmp} (h : fn.results = #[.tmp t, .tmp u, .tmp v, .tmp x]) (tmps : Array Value) (P : Program) (w : World) :
    (results fn tmps).run P w = .ok (.tuple #[tmps.getD t undef, tmps.getD u undef, tmps.getD v undef, tmps.getD x undef]) w := by
  simp [results, h]

theorem new_any (w : World) : Calls Try.prog 8 #[] w fun e w' => ∃ p mb, e = .returned (.pointer (some ⟨p, 0, none⟩)) ∧ Hid (Below w.heap.size w w' ∧ FlAt w' w.heap.size p mb 0 (.map []) (.slice none 0 0) [] (fun _ _ => false)) := by
  have HN : Hid (Below w.heap.size w ((w.alloc (.map #[] 0)).alloc (.cells #[.slice none 0 0, .map (some w.heap.size)] 49)) ∧ FlAt ((w.alloc (.map #[] 0)).alloc (.cells #[.slice none 0 0, .map (some w.heap.size)] 49)) w.heap.size (w.heap.size + 1) w.heap.size 0 (.map []) (.slice none 0 0) [] (fun _ _ => false)) := by
    have b1 : Below w.heap.size w (w.alloc (.map #[] 0)) := (Below.refl _ _).alloc (Nat.le_refl _) _
    refine ⟨b1.alloc b1.size _, ⟨?_, Own.nil _ _ _ _ _, (World.ownsMap_made w Try.prog 59 unitElem).alloc _, fun a b _ _ => rfl, fun m hm => (by cases hm), Nat.le_succ _, Nat.le_refl _⟩⟩
    have := Blk.new (w.alloc (.map #[] 0)) 49 2 (obj2 (.slice none 0 0) (.map (some w.heap.size))) #[.slice none 0 0, .map (some w.heap.size)] rfl
    simpa using this
  have hmm := @run_makeMap Try.prog
  go_enter Try.func8, Try.ntmps8
  go_wp2_with fail
  go_ret
  exact ⟨w.heap.size + 1, w.heap.size, by simp, HN.out⟩

section
variable {w : World} {B p mb nb : Nat} {D : DataW Value} {R : Value} {L : List MV} {S : Int → Int → Bool}

theorem heal_any (h : FlAt w B p mb nb D R L S) : Calls Try.prog 20 #[.pointer (some ⟨p, 0, none⟩)] w fun e w' => e = .returned (.tuple #[]) ∧ Hid (FlAt w' B p mb 0 (.map []) R L (fun _ _ => false) ∧ Turns (fp p mb R) w w') := by
  have hM := made_yes w p mb h.c1
  have c1 := h.c1
  obtain ⟨es, clock, hb, F, hs, hD⟩ := h.map
  have hcl : ∀ ty, (Builtin.clear_ #[47] ty #[.map (some mb)]).run Try.prog w = .ok (.tuple #[]) (ChangeMaps.setBlock w mb (.map #[] clock)) := fun ty => by
    simp [Builtin.clear_, run_underlying Try.underlying47, MapKept.run_getObj_map hb, MapKept.run_setObj_map _ hb, Result.andThen]
    rfl
  have HT : Hid (FlAt (ChangeMaps.setBlock w mb (.map #[] clock)) B p mb 0 (.map []) R L (fun _ _ => false) ∧ Turns (fp p mb R) w (ChangeMaps.setBlock w mb (.map #[] clock))) := by
    have t : Turns (fun k => k = mb) w (ChangeMaps.setBlock w mb (.map #[] clock)) := ⟨rfl, rfl, rfl, by simp [ChangeMaps.setBlock], fun k _ hk => ChangeMaps.heap_setBlock_other hb _ hk⟩
    have hne : p ≠ mb := fun e => by
      subst e
      exact h.obj.tb.not_map (map_lt h.map).2
    refine ⟨⟨t.blk h.obj hne, h.own.turns t (fun g hg e => ?_), ⟨#[], clock, ChangeMaps.heap_setBlock_same hb _, ?_, Nat.le_refl _, rfl⟩, fun _ _ _ _ => rfl, fun m hm => (h.dat m hm).turns t (fun a ha e => ?_), h.bp, h.bm⟩, t.weak (fun k hk => .inr (.inl hk))⟩
    · subst e
      exact (h.own.tb hg).2.not_map (map_lt h.map).2
    · exact ⟨by simp, ⟨fun _ h => by simp at h, by simp, by simp⟩, fun _ h => by simp at h⟩
    · have := (h.dat m hm).tb a ha
      rw [e] at this
      exact this.not_map (map_lt h.map).2
  clear h hb F hs hD
  go_enter Try.func20, Try.ntmps20
  go_wp2_with (go_at_call 23; refine hM.mono ?_; rintro e w' ⟨rfl, hw⟩; subst w'; clear hM)
  refine bodyPost_end (results_none rfl _ _ _) rfl ?_
  exact ⟨rfl, HT.out⟩

theorem part_same (h : FlAt w B p mb nb D R L S) (a : Int) : Calls Try.prog 19 #[.pointer (some ⟨p, 0, none⟩), .int .i64 a, .int .i64 a] w fun e w' => e = .returned (.tuple #[]) ∧ w' = w := by
  have hM := made_yes w p mb h.c1
  clear h
  go_enter Try.func19, Try.ntmps19
  go_wp2_with (go_at_call 23; refine hM.mono ?_; rintro e w' ⟨rfl, hw⟩; subst w'; clear hM)
  refine bodyPost_end (results_none rfl _ _ _) rfl ?_
  exact ⟨rfl, rfl⟩

theorem part_two (h : FlAt w B p mb nb D R L S) (a b : Int) (ha : wfi a) (hb : wfi b) (hab : a ≠ b) (hn : nb < 1000000000) : Calls Try.prog 19 #[.pointer (some ⟨p, 0, none⟩), .int .i64 a, .int .i64 b] w fun e w' => e = .returned (.tuple #[]) ∧
    Hid (∃ D', FlAt w' B p mb (nb + 1) D' R L (fun x y => S x y || decide (min x y = min a b ∧ max x y = max a b)) ∧ Turns (fp p mb R) w w') := by
  have hM := made_yes w p mb h.c1
  have hS : Hid (∀ v, Below w.heap.size w v → v.cell? ⟨p, 1, none⟩ = some (.map (some mb))) := fun v hv => (h.below hv).c1
  have hU : Hid (∀ v, Below w.heap.size w v → ∃ v1, (Instr.mapUpdate 47 (.map (some mb)) (pk (min a b) (max a b)) (.agg #[])).run Try.prog v = .ok () v1 ∧ v1.cell? ⟨p, 1, none⟩ = some (.map (some mb)) ∧
      Hid (∃ D', FlAt v1 B p mb (nb + 1) D' R L (fun x y => S x y || decide (min x y = min a b ∧ max x y = max a b)) ∧ Turns (fp p mb R) w v1)) := fun v hv => by
    have k := h.below hv
    obtain ⟨v1, h1, h2, h3⟩ := k.map.store (t := 47) (e := 56) plaw Try.underlying47 (by unfold maxLen; omega) (pk_key (wfi_min ha hb) (wfi_max ha hb)) unitElem_mk
    have hg := h3.grown
    have t : Turns (fun k => k = mb) v v1 := ⟨hg.os, hg.tape, hg.output, hg.size, fun k hk hr => hg.block k hk (fun e => hr (by injection e))⟩
    have hne : p ≠ mb := fun e => by
      subst e
      exact k.obj.tb.not_map (map_lt k.map).2
    have hf : FlAt v1 B p mb (nb + 1) (D.put (plit (min a b) (max a b)) (.agg [])) R L (fun x y => S x y || decide (min x y = min a b ∧ max x y = max a b)) := by
      refine ⟨t.blk k.obj hne, k.own.turns t (fun g hg2 e => ?_), h2, fun x y hx hy => ?_, fun m hm => (k.dat m hm).turns t (fun a ha e => ?_), k.bp, k.bm⟩
      · subst e
        exact (k.own.tb hg2).2.not_map (map_lt k.map).2
      · by_cases e : min x y = min a b ∧ max x y = max a b
        · rw [e.1, e.2, Maps.has_put_same k.map.isMap (plaw.key (pk_key (wfi_min ha hb) (wfi_max ha hb)))]
          simp
        · rw [Maps.has_put_other (fun h => e (pair_inj (wfi_min hx hy) (wfi_max hx hy) (wfi_min ha hb) (wfi_max ha hb) h)), k.has x y hx hy]
          simp [e]
      · have := (k.dat m hm).tb a ha
        rw [e] at this
        exact this.not_map (map_lt k.map).2
    exact ⟨v1, h1, hf.c1, _, hf, ((Turns.of_below (F := fun k => k = mb) hv).trans t).weak (fun k hk => .inr (.inl hk))⟩
  have hP := fun v => pairOf_any a b v
  have hne : (a != b) = true := by simpa using hab
  clear h ha hb hab hn
  generalize pk (min a b) (max a b) = K at *
  go_enter Try.func19, Try.ntmps19
  go_wp2_with (go_at_call 23; refine hM.mono ?_; rintro e w' ⟨rfl, hw⟩; subst w'; clear hM)
  have b0 : Below w.heap.size w w.drew := (Below.refl _ _).drew
  refine wp_region_held_drew (S := fun v => v.cell? ⟨p, 1, none⟩ = some (.map (some mb))) (by kernel_rfl) (hS.out _ b0) (fun hHeld => ?_)
  refine wpAnyH_take (i := 0) (v := ?_) rfl (by kernel_rfl) (by kernel_rfl) (by kernel_rfl) (fun _ _ _ h => h) (Or.inl ⟨by rfl, ?_⟩) (by assumption) ?_
  case refine_2 => (intro w hSw; (try dsimp only at hSw); go_simp; (try with_reducible rfl))
  (try simp only [Act.put, List.getElem_toArray, List.getElem_cons_succ, List.getElem_cons_zero, List.setIfInBounds_toArray, List.set_cons_zero, List.set_cons_succ])
  refine wpAnyH_take (i := 1) (v := ?_) rfl (by kernel_rfl) (by kernel_rfl) (by kernel_rfl) (fun _ _ _ h => h) (Or.inl ⟨by rfl, ?_⟩) (by assumption) ?_
  case refine_2 => (intro w hSw; (try dsimp only at hSw); go_simp; (try with_reducible rfl))
  (try simp only [Act.put, List.getElem_toArray, List.getElem_cons_succ, List.getElem_cons_zero, List.setIfInBounds_toArray, List.set_cons_zero, List.set_cons_succ])
  refine wpAnyH_take (i := 2) (v := ?_) rfl (by kernel_rfl) (by kernel_rfl) (by kernel_rfl) (fun _ _ _ h => h) (Or.inl ⟨by rfl, ?_⟩) (by assumption) ?_
  case refine_2 => (intro w hSw; (try dsimp only at hSw); go_simp; (try with_reducible rfl))
  (try simp only [Act.put, List.getElem_toArray, List.getElem_cons_succ, List.getElem_cons_zero, List.setIfInBounds_toArray, List.set_cons_zero, List.set_cons_succ])
  refine wpAnyH_take (i := 3) (v := ?_) rfl (by kernel_rfl) (by kernel_rfl) (by kernel_rfl) (fun _ _ _ h => h) (Or.inl ⟨by rfl, ?_⟩) (by assumption) ?_
  case refine_2 => (intro w hSw; (try dsimp only at hSw); go_simp; (try with_reducible rfl))
  (try simp only [Act.put, List.getElem_toArray, List.getElem_cons_succ, List.getElem_cons_zero, List.setIfInBounds_toArray, List.set_cons_zero, List.set_cons_succ])
  refine wpAnyH_take (i := 4) (v := ?_) rfl (by kernel_rfl) (by kernel_rfl) (by kernel_rfl) (fun _ _ _ h => h) (Or.inl ⟨by rfl, ?_⟩) (by assumption) ?_
  case refine_2 => (intro w hSw; (try dsimp only at hSw); go_simp; (try with_reducible rfl))
  (try simp only [Act.put, List.getElem_toArray, List.getElem_cons_succ, List.getElem_cons_zero, List.setIfInBounds_toArray, List.set_cons_zero, List.set_cons_succ])
  refine wpAnyH_take (i := 5) (v := ?_) rfl (by kernel_rfl) (by kernel_rfl) (by kernel_rfl) (fun _ _ _ h => h) (Or.inl ⟨by rfl, ?_⟩) (by assumption) ?_
  case refine_2 => (intro w hSw; (try dsimp only at hSw); go_simp; (try with_reducible rfl))
  (try simp only [Act.put, List.getElem_toArray, List.getElem_cons_succ, List.getElem_cons_zero, List.setIfInBounds_toArray, List.set_cons_zero, List.set_cons_succ])
  refine wpAnyH_take (i := 7) (v := ?_) rfl (by kernel_rfl) (by kernel_rfl) (by kernel_rfl) (fun _ _ _ h => h) (Or.inl ⟨by rfl, ?_⟩) (by assumption) ?_
  case refine_2 => (intro w hSw; (try dsimp only at hSw); go_simp; (try with_reducible rfl))
  (try simp only [Act.put, List.getElem_toArray, List.getElem_cons_succ, List.getElem_cons_zero, List.setIfInBounds_toArray, List.set_cons_zero, List.set_cons_succ])
  refine wpAnyH_ready (rs := [6]) (by kernel_rfl) (by simp) ?_
  refine AllReadyH.cons rfl (fun K hK => ?_) AllReadyH.nil
  go_simp
  refine (hP _).mono ?_
  rintro e w1 ⟨rfl, hb1⟩
  have b1 : Below w.heap.size w w1 := b0.trans (hb1.mono (by simp))
  obtain ⟨v1, hmu, s1, HN⟩ := hU.out w1 b1
  refine hK.out _ _ (hS.out _ b1) (fun hHeld => ?_)
  clear hK K
  refine wpAnyH_ready (rs := [8]) (by kernel_rfl) (by simp) ?_
  refine AllReadyH.cons rfl (fun K hK => ?_) AllReadyH.nil
  refine st_mapset rfl _ _ _ 47 rfl _ _ _ rfl rfl rfl hmu ?_
  refine hK.out _ _ s1 (fun hHeld => ?_)
  clear hK K
  refine wpAnyH_done (by kernel_rfl) ?_ _
  go_wp2_with fail
  refine bodyPost_end (results_none rfl _ _ _) rfl ?_
  exact ⟨rfl, HN.out⟩

theorem look_no (h : FlAt w B p mb nb D R L S) (i : Int) (hi : i < 0 ∨ (L.length : Int) ≤ i) : Calls Try.prog 13 #[.pointer (some ⟨p, 0, none⟩), .int .i64 i] w fun e w' => e = .returned (.tuple #[.int .i64 0, .int .i64 0, .slice none 0 0, .bool false]) ∧ w' = w := by
  obtain ⟨x, c, hR, _⟩ := h.own.form
  have hH := has_no w p L.length c i x (hR ▸ h.c0) hi
  clear h hR hi
  go_enter Try.func13, Try.ntmps13
  go_wp2_with (go_at_call 25; refine hH.mono ?_; rintro e w' ⟨rfl, hw⟩; subst w'; clear hH)
  refine bodyPost_ret (results_tmp4 rfl _ _ _) rfl ?_
  exact ⟨rfl, rfl⟩

theorem look_yes (h : FlAt w B p mb nb D R L S) (k : Nat) (m : MV) (hm : L[k]? = some m) : Calls Try.prog 13 #[.pointer (some ⟨p, 0, none⟩), .int .i64 (k : Int)] w fun e w' =>
    ∃ y cy, e = .returned (.tuple #[.int .i64 m.fr, .int .i64 m.to, .slice y m.n cy, .bool true]) ∧ Hid (Below w.heap.size w w' ∧ Sl w' y m.n cy m.d ∧ (∀ a, y = some a → w.heap.size ≤ a.block ∧ Tb w' a.block 5 ∧ (∀ j, w'.frozen? ⟨a.block, j, none⟩ = false) ∧ a = ⟨a.block, 0, none⟩)) := by
  have hk : k < L.length := (List.getElem?_eq_some_iff.1 hm).1
  have hmem : m ∈ L := List.mem_of_getElem? hm
  obtain ⟨g, c, hR, hc, _, _, hg⟩ := h.own.there (by intro e; rw [e] at hk; simp at hk)
  have c0 := h.c0
  have own := h.own
  rw [hR] at c0 own
  have hH := has_yes w p L.length c k _ c0 hk
  have k0 := own.cell mrow.len hm (j := 0) (v := .int .i64 m.fr) rfl
  rw [Nat.add_zero] at k0
  have k1 := own.cell mrow.len hm (j := 1) (v := .int .i64 m.to) rfl
  have k2 := own.cell mrow.len hm (j := 2) (v := .slice m.x m.n m.c) rfl
  have hok := h.dat m hmem
  have hC : ∀ (v : World) (hv : Hid (Below w.heap.size w v)), Calls Try.prog 26 #[.slice m.x m.n m.c] v fun e w' => ∃ y cy, e = .returned (.slice y m.n cy) ∧ Hid (Below v.heap.size v w' ∧ Below w.heap.size w w' ∧ Sl w' y m.n cy m.d ∧ (∀ a, y = some a → w.heap.size ≤ a.block ∧ Tb w' a.block 5 ∧ (∀ j, w'.frozen? ⟨a.block, j, none⟩ = false) ∧ a = ⟨a.block, 0, none⟩)) := fun v hv => by
    have hsm := hok.sm
    refine (clone_sl m.x m.n m.c m.d v (hok.sl.below hv.out) (by omega)).mono fun e w' ⟨y, cy, h1, h2⟩ => ⟨y, cy, h1, h2.out.1, hv.out.trans (h2.out.1.mono hv.out.size), h2.out.2.1, fun a ha => ⟨Nat.le_trans hv.out.size (h2.out.2.2 a ha).1, (h2.out.2.2 a ha).2⟩⟩
  have hkL : (k : Int) < (L.length : Int) := by omega
  clear h own hR hok hm hmem hk
  generalize m.fr = f at *
  generalize m.to = t at *
  generalize m.n = n at *
  generalize m.c = mc at *
  generalize m.x = x at *
  generalize m.d = d at *
  generalize L.length = l at *
  have b1 : Hid (Below w.heap.size w (w.alloc (.cells #[.int .i64 f, .int .i64 t, .slice x n mc] 62)).drew) := ((Below.refl _ _).alloc (Nat.le_refl _) _).drew
  have hC1 := hC _ b1
  clear hC
  go_enter Try.func13, Try.ntmps13
  go_wp2_with (go_at_call 25; refine hH.mono ?_; rintro e w' ⟨rfl, hw⟩; subst w'; clear hH)
  refine wp_region_held_drew (S := fun v => v.cell? ⟨w.heap.size, 0, none⟩ = some (.int .i64 f) ∧ v.cell? ⟨w.heap.size, 1, none⟩ = some (.int .i64 t) ∧ v.cell? ⟨w.heap.size, 2, none⟩ = some (.slice x n mc)) (by kernel_rfl) ⟨by simp, by simp, by simp⟩ (fun hHeld => ?_)
  refine wpAnyH_take (i := 0) (v := ?_) rfl (by kernel_rfl) (by kernel_rfl) (by kernel_rfl) (fun _ _ _ h => h) (Or.inl ⟨by rfl, ?_⟩) (by assumption) ?_
  case refine_2 => (intro w hSw; (try dsimp only at hSw); go_simp; (try with_reducible rfl))
  (try simp only [Act.put, List.getElem_toArray, List.getElem_cons_succ, List.getElem_cons_zero, List.setIfInBounds_toArray, List.set_cons_zero, List.set_cons_succ])
  refine wpAnyH_take (i := 1) (v := ?_) rfl (by kernel_rfl) (by kernel_rfl) (by kernel_rfl) (fun _ _ _ h => h) (Or.inl ⟨by rfl, ?_⟩) (by assumption) ?_
  case refine_2 => (intro w hSw; (try dsimp only at hSw); go_simp; (try with_reducible rfl))
  (try simp only [Act.put, List.getElem_toArray, List.getElem_cons_succ, List.getElem_cons_zero, List.setIfInBounds_toArray, List.set_cons_zero, List.set_cons_succ])
  refine wpAnyH_take (i := 2) (v := ?_) rfl (by kernel_rfl) (by kernel_rfl) (by kernel_rfl) (fun _ _ _ h => h) (Or.inl ⟨by rfl, ?_⟩) (by assumption) ?_
  case refine_2 => (intro w hSw; (try dsimp only at hSw); go_simp; (try with_reducible rfl))
  (try simp only [Act.put, List.getElem_toArray, List.getElem_cons_succ, List.getElem_cons_zero, List.setIfInBounds_toArray, List.set_cons_zero, List.set_cons_succ])
  refine wpAnyH_take (i := 3) (v := ?_) rfl (by kernel_rfl) (by kernel_rfl) (by kernel_rfl) (fun _ _ _ h => h) (Or.inl ⟨by rfl, ?_⟩) (by assumption) ?_
  case refine_2 => (intro w hSw; (try dsimp only at hSw); go_simp; (try with_reducible rfl))
  (try simp only [Act.put, List.getElem_toArray, List.getElem_cons_succ, List.getElem_cons_zero, List.setIfInBounds_toArray, List.set_cons_zero, List.set_cons_succ])
  refine wpAnyH_take (i := 4) (v := ?_) rfl (by kernel_rfl) (by kernel_rfl) (by kernel_rfl) (fun _ _ _ h => h) (Or.inl ⟨by rfl, ?_⟩) (by assumption) ?_
  case refine_2 => (intro w hSw; (try dsimp only at hSw); go_simp; (try with_reducible rfl))
  (try simp only [Act.put, List.getElem_toArray, List.getElem_cons_succ, List.getElem_cons_zero, List.setIfInBounds_toArray, List.set_cons_zero, List.set_cons_succ])
  refine wpAnyH_take (i := 5) (v := ?_) rfl (by kernel_rfl) (by kernel_rfl) (by kernel_rfl) (fun _ _ _ h => h) (Or.inl ⟨by rfl, ?_⟩) (by assumption) ?_
  case refine_2 => (intro w hSw; (try dsimp only at hSw); go_simp; (try with_reducible rfl))
  (try simp only [Act.put, List.getElem_toArray, List.getElem_cons_succ, List.getElem_cons_zero, List.setIfInBounds_toArray, List.set_cons_zero, List.set_cons_succ])
  refine wpAnyH_ready (rs := [6]) (by kernel_rfl) (by simp) ?_
  refine AllReadyH.cons rfl (fun K hK => ?_) AllReadyH.nil
  go_simp
  refine hC1.mono ?_
  rintro e w2 ⟨y, cy, rfl, HC⟩
  have hs : w2.cell? ⟨w.heap.size, 0, none⟩ = some (.int .i64 f) ∧ w2.cell? ⟨w.heap.size, 1, none⟩ = some (.int .i64 t) ∧ w2.cell? ⟨w.heap.size, 2, none⟩ = some (.slice x n mc) := by
    have hbb := HC.out.1
    refine ⟨(hbb.cell (p := ⟨w.heap.size, 0, none⟩) (by simp)).trans (by simp), (hbb.cell (p := ⟨w.heap.size, 1, none⟩) (by simp)).trans (by simp), (hbb.cell (p := ⟨w.heap.size, 2, none⟩) (by simp)).trans (by simp)⟩
  refine hK.out _ _ hs (fun hHeld => ?_)
  clear hK K
  refine wpAnyH_take (i := 7) (v := ?_) rfl (by kernel_rfl) (by kernel_rfl) (by kernel_rfl) (fun _ _ _ h => h) (Or.inl ⟨by rfl, ?_⟩) (by assumption) ?_
  case refine_2 => (intro w hSw; (try dsimp only at hSw); go_simp; (try with_reducible rfl))
  (try simp only [Act.put, List.getElem_toArray, List.getElem_cons_succ, List.getElem_cons_zero, List.setIfInBounds_toArray, List.set_cons_zero, List.set_cons_succ])
  refine wpAnyH_take (i := 8) (v := ?_) rfl (by kernel_rfl) (by kernel_rfl) (by kernel_rfl) (fun _ _ _ h => h) (Or.inl ⟨by rfl, ?_⟩) (by assumption) ?_
  case refine_2 => (intro w hSw; (try dsimp only at hSw); go_simp; (try with_reducible rfl))
  (try simp only [Act.put, List.getElem_toArray, List.getElem_cons_succ, List.getElem_cons_zero, List.setIfInBounds_toArray, List.set_cons_zero, List.set_cons_succ])
  refine wpAnyH_take (i := 9) (v := ?_) rfl (by kernel_rfl) (by kernel_rfl) (by kernel_rfl) (fun _ _ _ h => h) (Or.inl ⟨by rfl, ?_⟩) (by assumption) ?_
  case refine_2 => (intro w hSw; (try dsimp only at hSw); go_simp; (try with_reducible rfl))
  (try simp only [Act.put, List.getElem_toArray, List.getElem_cons_succ, List.getElem_cons_zero, List.setIfInBounds_toArray, List.set_cons_zero, List.set_cons_succ])
  refine wpAnyH_take (i := 10) (v := ?_) rfl (by kernel_rfl) (by kernel_rfl) (by kernel_rfl) (fun _ _ _ h => h) (Or.inl ⟨by rfl, ?_⟩) (by assumption) ?_
  case refine_2 => (intro w hSw; (try dsimp only at hSw); go_simp; (try with_reducible rfl))
  (try simp only [Act.put, List.getElem_toArray, List.getElem_cons_succ, List.getElem_cons_zero, List.setIfInBounds_toArray, List.set_cons_zero, List.set_cons_succ])
  refine wpAnyH_done (by kernel_rfl) ?_ _
  go_wp2_with fail
  refine bodyPost_ret (results_tmp4 rfl _ _ _) rfl ?_
  exact ⟨y, cy, rfl, HC.out.2⟩

end

end Go.Proofs.Ytmekbbddfmmbeaa.Fl

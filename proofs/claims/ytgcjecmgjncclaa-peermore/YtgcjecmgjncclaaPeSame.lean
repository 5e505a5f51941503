/-
  A choice as it lies in memory; the document's Same.
  Conditions: what it is handed lies in memory.
-/
import Derived.Test.YtgcjecmgjncclaaPeMem
namespace Go.Proofs.Ytgcjecmgjncclaa.Pe
open Go.RowKit By Fl Pz
set_option linter.unusedVariables false
set_option linter.unusedSimpArgs false
set_option maxRecDepth 100000
attribute [local go_sem] Oper.semAt_some

structure CV where
  kind : Int
  si : Int
  he : Int
  x : Option Addr
  n : Nat
  c : Nat
  W : List Int
def pC (v : CV) : Cho := ⟨v.kind, v.si, v.he, v.W⟩
def CCells (v : CV) : Array Value := #[.int .i64 v.kind, .int .i64 v.si, .int .i64 v.he, .slice v.x v.n v.c]
def vC (v : CV) : Value := .agg #[.int .i64 v.kind, .int .i64 v.si, .int .i64 v.he, .slice v.x v.n v.c]
def CAt (w : World) (F : Nat → Prop) (v : CV) : Prop := Ns w F v.x v.n v.c v.W
section
variable {F G : Nat → Prop} {w w' : World}
theorem CAt.keeps {v : CV} (h : CAt w F v) (k : Keeps F w w') : CAt w' F v := Ns.keeps h k
theorem CAt.weak {v : CV} (h : CAt w F v) (k : ∀ i, F i → G i) : CAt w G v := Ns.weak h k
theorem CAt.below {v : CV} (h : CAt w F v) (k : Below w.heap.size w w') : CAt w' F v := Ns.below h k
end
theorem cho_ext {a b : Cho} (h : a.kind = b.kind ∧ a.si = b.si ∧ a.he = b.he ∧ a.wh = b.wh) : a = b := by
  obtain ⟨a0, a1, a2, a3⟩ := a
  obtain ⟨b0, b1, b2, b3⟩ := b
  obtain ⟨e0, e1, e2, e3⟩ := h
  dsimp only at e0 e1 e2 e3
  subst e0 e1 e2 e3
  rfl
def sameC (a b : Cho) : Bool := a.kind == b.kind && a.si == b.si && a.he == b.he && a.wh == b.wh
theorem sameC_iff (a b : Cho) : sameC a b = true ↔ a = b := by
  unfold sameC
  simp only [Bool.and_eq_true, beq_iff_eq]
  exact ⟨fun ⟨⟨⟨h1, h2⟩, h3⟩, h4⟩ => cho_ext ⟨h1, h2, h3, h4⟩, fun e => by subst e; exact ⟨⟨⟨rfl, rfl⟩, rfl⟩, rfl⟩⟩

set_option maxHeartbeats 6400000 in
theorem same_any {w : World} {F G : Nat → Prop} {a b : CV} (ha : CAt w F a) (hb : CAt w G b) :
    Calls Try.prog 15 #[vC a, vC b] w fun e w' => e = .returned (.bool (sameC (pC a) (pC b))) ∧ Below w.heap.size w w' := by
  obtain ⟨t1, h1⟩ : ∃ t, (a.kind != b.kind) = t := ⟨_, rfl⟩
  obtain ⟨t2, h2⟩ : ∃ t, (a.si != b.si) = t := ⟨_, rfl⟩
  obtain ⟨t3, h3⟩ : ∃ t, (a.he != b.he) = t := ⟨_, rfl⟩
  obtain ⟨R, hR⟩ : ∃ R, R = sameC (pC a) (pC b) := ⟨_, rfl⟩
  have HF0 : Hid ((t1 = true ∨ t2 = true ∨ t3 = true) → R = false) := hid fun h => by
    rw [hR, ← h1, ← h2, ← h3] at *
    simp only [bne_iff_ne, ne_eq] at h
    rw [← Bool.not_eq_true, sameC_iff]
    intro e
    rcases h with h | h | h
    · exact h (congrArg Cho.kind e)
    · exact h (congrArg Cho.si e)
    · exact h (congrArg Cho.he e)
  have HF1 : Hid (a.W.map id ≠ b.W.map id → R = false) := hid fun h => by
    rw [hR, ← Bool.not_eq_true, sameC_iff]
    intro e
    exact h (by rw [show a.W = b.W from congrArg Cho.wh e])
  have HTr : Hid (t1 = false → t2 = false → t3 = false → a.W.map id = b.W.map id → R = true) := hid fun e1 e2 e3 e4 => by
    rw [hR, sameC_iff]
    rw [← h1] at e1
    rw [← h2] at e2
    rw [← h3] at e3
    simp at e1 e2 e3 e4
    exact cho_ext ⟨e1, e2, e3, e4⟩
  rw [← hR]
  clear hR
  obtain ⟨w1, hw1⟩ : ∃ w1, w1 = (w.alloc (.cells (CCells a) 35)).alloc (.cells (CCells b) 35) := ⟨_, rfl⟩
  obtain ⟨bb, hsz, g0, g1⟩ := two_boxes2 w (CCells a) (CCells b) 35 35
  rw [← hw1] at bb hsz g0 g1
  have HB := hid bb
  have HKa : Hid (∀ W, Below w1.heap.size w1 W → W.cell? ⟨w.heap.size, 3, none⟩ = some (.slice a.x a.n a.c)) := hid fun W hW => cell_heap ((hW.block _ (lt_heap g0)).trans g0) rfl
  have HKb : Hid (∀ W, Below w1.heap.size w1 W → W.cell? ⟨w.heap.size + 1, 3, none⟩ = some (.slice b.x b.n b.c)) := hid fun W hW => cell_heap ((hW.block _ (lt_heap g1)).trans g1) rfl
  have HA : Hid (Ns w F a.x a.n a.c a.W) := hid ha
  have HBl : Hid (Ns w G b.x b.n b.c b.W) := hid hb
  have HLn : Hid (a.W.length = a.n ∧ b.W.length = b.n) := hid ⟨ha.len, hb.len⟩
  have hsm := ha.small
  unfold CCells at hw1
  unfold vC
  clear ha hb bb hsz g0 g1
  obtain ⟨kind, si, he, x, n, c, L⟩ := a
  obtain ⟨kind', si', he', y, m, d, M⟩ := b
  dsimp only at *
  have HW := hid hw1
  cases t1
  rotate_left
  · go_enter Try.func15, Try.ntmps15
    go_wp2_with fail
    go_ret
    exact ⟨by rw [HF0.out (by simp)]; rfl, by have := HB.out; rw [hw1] at this; exact this⟩
  cases t2
  rotate_left
  · go_enter Try.func15, Try.ntmps15
    go_wp2_with fail
    go_ret
    exact ⟨by rw [HF0.out (by simp)]; rfl, by have := HB.out; rw [hw1] at this; exact this⟩
  cases t3
  rotate_left
  · go_enter Try.func15, Try.ntmps15
    go_wp2_with fail
    go_ret
    exact ⟨by rw [HF0.out (by simp)]; rfl, by have := HB.out; rw [hw1] at this; exact this⟩
  by_cases e1 : n = m
  rotate_left
  · have q1 : ((n : Int) != (m : Int)) = true := by simp; omega
    go_enter Try.func15, Try.ntmps15
    go_wp2_with fail
    go_ret
    exact ⟨by rw [HF1.out fun e => e1 (by have := congrArg List.length e; simp at this; have := HLn.out; omega)]; rfl, by have := HB.out; rw [hw1] at this; exact this⟩
  subst e1
  have o4 : ((n : Int) != (n : Int)) = false := by simp
  go_enter Try.func15, Try.ntmps15
  go_upto_region 3 with (fail)
  rw [← hw1]
  clear hw1 o4 h1 h2 h3
  go_wp2_with fail
  go_loopw [5] (fun i wr => ∃ k : Nat, k ≤ n ∧ i = .int .i64 k ∧ Hid (Below w1.heap.size w1 wr ∧ (L.take k).map id = (M.take k).map id)) (fun i _ => n - (intOf i).toNat)
  case atStart => exact ⟨0, by omega, rfl, Below.refl _ _, by simp⟩
  case round =>
    obtain ⟨k, hk, rfl, HR⟩ := hrel
    have pa := HKa.out wr HR.out.1
    have pb := HKb.out wr HR.out.1
    by_cases hlt : k < n
    · have hkn : (k : Int) < (n : Int) := by omega
      obtain ⟨a, ha, hm⟩ := Lis.some HA.out hlt
      obtain ⟨b, hb, hm2⟩ := Lis.some HBl.out hlt
      rcases HA.out.row with hr0 | ⟨bl, o, hx, hbl, _, hc⟩
      · omega
      rcases HBl.out.row with hr0 | ⟨bl2, q, hy, hbl2, _, hc2⟩
      · omega
      have k0 := n_at hc ha
      have l0 := n_at hc2 hb
      have hbw := on HB.out HR.out.1
      subst hx hy
      have pa' := After.cell pa
      have pb' := After.cell pb
      have r0 := After.cell (keep hbw k0)
      have s0 := After.cell (keep hbw l0)
      obtain ⟨t, ht⟩ : ∃ t, (a != b) = t := ⟨_, rfl⟩
      have HE : Hid (t = false ↔ a = b) := hid (by rw [← ht]; simp)
      have HY := hid (And.intro ha hb)
      clear hc ha hm hbl hc2 hbl2 hb hm2 k0 l0 hbw
      haveI := After.ne wr
      cases t with
      | false =>
        go_wp2_with fail
        refine wp_region_after (by kernel_rfl) (by kernel_rfl) ?_
        repeat (go_big_quiet_step (simp only [ht]))
        refine wpQuiet_nil ?_
        rintro _ ⟨q, rfl⟩
        go_wp2_with fail
        go_roundw
        case rel => exact ⟨k + 1, by omega, by go_num, on HR.out.1 q.h, take_map HY.out.1 HY.out.2 HR.out.2 (by rw [HE.out.1 (by trivial)])⟩
        case measure => simp [intOf]; omega
      | true =>
        go_wp2_with fail
        refine wp_region_after (by kernel_rfl) (by kernel_rfl) ?_
        repeat (go_big_quiet_step (simp only [ht]))
        refine wpQuiet_nil ?_
        rintro _ ⟨q, rfl⟩
        go_wp2_with fail
        go_ret
        exact ⟨by rw [HF1.out fun h => by have := HE.out.2 (map_at (f := id) HY.out.1 HY.out.2 h); cases this]; rfl, on HB.out (on HR.out.1 q.h)⟩
    · have hk2 : n = k := by omega
      subst hk2
      have HI := hid (take_all HLn.out.1 HLn.out.2 HR.out.2)
      go_wp2_with fail
      go_ret
      exact ⟨by rw [HTr.out (by trivial) (by trivial) (by trivial) HI.out]; rfl, on HB.out HR.out.1⟩

end Go.Proofs.Ytgcjecmgjncclaa.Pe

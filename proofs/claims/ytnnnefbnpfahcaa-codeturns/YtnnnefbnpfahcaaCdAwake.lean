/-
  What the laws' own awake answers: true.
  Conditions: none.
-/
import Derived.Test.YtnnnefbnpfahcaaCdDecode
namespace Go.Proofs.Ytnnnefbnpfahcaa
open Go.RowKit Gf
set_option linter.unusedVariables false
set_option linter.unusedSimpArgs false

def X57 : Nat → Nat → Nat := fun r _ => if r = 0 then 5 else 7

theorem X57_lt (r j : Nat) : X57 r j < 256 := by unfold X57; split <;> omega

theorem rowIs_one (w : World) (v : Value) (t : TypeId) : (w.alloc (.cells #[v] t)).rowIs w.heap.size t 1 (fun _ => v) := World.rowIs_alloc w _ _ _ (fun i hi => by
  have : i = 0 := by simpa using hi
  subst this; rfl)

theorem encode_57 (w : World) : Calls Try.prog 10 #[.int .i64 2, .int .i64 1, .slice (some ⟨w.heap.size + 1 + 1, 0, none⟩) 2 2]
    (((w.alloc (.cells #[.int .u8 5] 5)).alloc (.cells #[.int .u8 7] 5)).alloc (.cells #[.slice (some ⟨w.heap.size, 0, none⟩) 1 1, .slice (some ⟨w.heap.size + 1, 0, none⟩) 1 1] 34)) fun e w' =>
    ∃ w1 A1 C1, Below w.heap.size w w1 ∧ e = .returned (.tuple #[.slice (some ⟨w1.heap.size, 0, none⟩) 3 3, .int .i64 0]) ∧ Build w1 w' 3 3 A1 (fun _ => 1) C1 (encF 2 1 X57) := by
  have e1 : (w.alloc (.cells #[.int .u8 5] 5)).heap.size = w.heap.size + 1 := by simp
  have e2 : ((w.alloc (.cells #[.int .u8 5] 5)).alloc (.cells #[.int .u8 7] 5)).heap.size = w.heap.size + 1 + 1 := by simp
  have r1 := ((rowIs_one w (.int .u8 5) 5).alloc (.cells #[.int .u8 7] 5)).alloc (.cells #[.slice (some ⟨w.heap.size, 0, none⟩) 1 1, .slice (some ⟨w.heap.size + 1, 0, none⟩) 1 1] 34)
  have r2 := (rowIs_one (w.alloc (.cells #[.int .u8 5] 5)) (.int .u8 7) 5).alloc (.cells #[.slice (some ⟨w.heap.size, 0, none⟩) 1 1, .slice (some ⟨w.heap.size + 1, 0, none⟩) 1 1] 34)
  rw [e1] at r2
  have r3 := World.rowIs_alloc ((w.alloc (.cells #[.int .u8 5] 5)).alloc (.cells #[.int .u8 7] 5)) #[.slice (some ⟨w.heap.size, 0, none⟩) 1 1, .slice (some ⟨w.heap.size + 1, 0, none⟩) 1 1] 34 (fun r => .slice (some ⟨w.heap.size + r, 0, none⟩) 1 1) (fun i hi => by
    have hi2 : i < 2 := by simpa using hi
    match i, hi2 with
    | 0, _ => rfl
    | 1, _ => rfl)
  rw [e2] at r3
  have hG : IsGrid (((w.alloc (.cells #[.int .u8 5] 5)).alloc (.cells #[.int .u8 7] 5)).alloc (.cells #[.slice (some ⟨w.heap.size, 0, none⟩) 1 1, .slice (some ⟨w.heap.size + 1, 0, none⟩) 1 1] 34)) (some ⟨w.heap.size + 1 + 1, 0, none⟩) 2 (fun r => some ⟨w.heap.size + r, 0, none⟩) (fun _ => 1) (fun _ => 1) X57 :=
    ⟨.inr ⟨w.heap.size + 1 + 1, 0, rfl, r3.lt, fun r hr => by rw [Nat.zero_add]; exact r3.cell hr⟩, fun r hr => .inr ⟨w.heap.size + r, 0, rfl, by simp; omega, fun i hi => by
      have hi0 : i = 0 := by have : i < 1 := hi; omega
      subst hi0
      match r, hr with
      | 0, _ => exact r1.cell (by omega)
      | 1, _ => exact r2.cell (by omega)⟩, X57_lt⟩
  refine (encode_yes 2 1 1 (w.heap.size + 1 + 1) 0 2 _ _ X57 _ (by omega) (by omega) (by omega) (by omega) hG).mono fun e w' ⟨w1, A1, C1, hb, he, hB⟩ => ⟨w1, A1, C1, ?_, he, hB⟩
  exact ((((Below.refl w.heap.size w).alloc (Nat.le_refl _) _).alloc (by simp) _).alloc (by simp; omega) _).trans (hb.mono (by simp; omega))

theorem plc_57 : Plc (fun i => decide (i ≠ 0)) 3 2 (fun r => r + 1) := by
  refine ⟨by decide, fun r hr => by omega, fun r hr => by simp, fun r hr => ?_⟩
  match r, hr with
  | 0, _ => decide
  | 1, _ => decide

theorem decode_57 (w1 x : World) (A1 : Nat → Option Addr) (C1 : Nat → Nat) (h : Build w1 x 3 3 A1 (fun _ => 1) C1 (encF 2 1 X57)) :
    Calls Try.prog 15 #[.int .i64 2, .int .i64 1, .slice (some ⟨w1.heap.size, 0, none⟩) 3 3, .slice (some ⟨x.heap.size, 0, none⟩) 3 3] ((x.setCell ⟨w1.heap.size, 0, none⟩ (.slice none 0 0)).alloc (.cells #[.bool false, .bool true, .bool true] 4)) fun e w' =>
      ∃ B g o c, e = .returned (.tuple #[.slice (some ⟨B, 0, none⟩) 3 3, .int .i64 0]) ∧ Below w1.heap.size w1 w' ∧ w'.cell? ⟨B, 0, none⟩ = some (.slice (some ⟨g, o, none⟩) 1 c) ∧ w'.cell? ⟨g, o, none⟩ = some (.int .u8 5) := by
  have hp := h.put (r := 0) (i' := 3) (l := 0) (c := 0) (a := none) (f' := fun _ => 0) (by omega) (fun s hs => by omega) (.inl rfl) (fun _ => by omega)
  have hq := hp.more (Nat.le_refl _) ((Below.refl _ _).alloc (Nat.le_refl _) (.cells #[.bool false, .bool true, .bool true] 4))
  have r3 := World.rowIs_alloc (x.setCell ⟨w1.heap.size, 0, none⟩ (.slice none 0 0)) #[.bool false, .bool true, .bool true] 4 (fun i => .bool (decide (i ≠ 0))) (fun i hi => by
    have hi2 : i < 3 := by simpa using hi
    match i, hi2 with
    | 0, _ => rfl
    | 1, _ => rfl
    | 2, _ => rfl)
  rw [show (x.setCell ⟨w1.heap.size, 0, none⟩ (.slice none 0 0)).heap.size = x.heap.size by simp] at r3
  have hH : BoolsAt ((x.setCell ⟨w1.heap.size, 0, none⟩ (.slice none 0 0)).alloc (.cells #[.bool false, .bool true, .bool true] 4)) (some ⟨x.heap.size, 0, none⟩) (2 + 1) (fun i => decide (i ≠ 0)) :=
    .inr ⟨x.heap.size, 0, rfl, r3.lt, fun i hi => by rw [Nat.zero_add]; exact r3.cell hi⟩
  refine (decode_yes 2 1 1 w1.heap.size 0 x.heap.size 0 3 3 2 _ _ _ _ (fun i => decide (i ≠ 0)) (fun r => r + 1) _ (by omega) (by omega) (by omega) (by omega) hq.grid hH plc_57 (fun r hr => by simp) (by omega)).mono fun e w' ⟨w2, A2, C2, hb, he, hB⟩ => ?_
  have hv : decF 2 1 (fun r => r + 1) (fun r => (fun s j => if s = 0 then (fun _ => 0) j else encF 2 1 X57 s j) (r + 1)) 0 0 = 5 := by
    rw [decF_all (X := X57) X57_lt (fun r j => by simp; exact encF_lt X57_lt _ _) (by omega) (fun r hr => by omega) (fun r s _ _ h => by omega) 1 (fun r hr j hj => by simp) 0 0 (by omega), encF_data X57_lt (by omega)]
    rfl
  have hrow := hB.rowAt (r := 0) (by omega)
  rcases hrow with h0 | ⟨g, o, hA, hg, hc⟩
  · exact absurd h0 (by show ¬ (1 = 0); omega)
  · refine ⟨w2.heap.size, g, o, C2 0, he, ?_, ?_, ?_⟩
    · exact hq.below.trans ((hb.trans (hB.below.mono hb.size)).mono (Nat.le_of_lt hq.hb))
    · have := hB.top 0 (by omega)
      rw [hA] at this
      exact this
    · have := hc 0 (by show 0 < 1; omega)
      rw [hv] at this
      exact this

set_option maxHeartbeats 2000000 in
set_option maxRecDepth 100000 in
theorem awake3 (w : World) : Calls Try.prog 9 #[] w fun e w' => e = .returned (.bool true) ∧ Below w.heap.size w w' := by
  have henc := encode_57 w
  have hdec := decode_57
  go_enter Try.func9, Try.ntmps9
  go_wp2_with (go_at_call 10; refine henc.mono ?_; rintro e x1 ⟨w1, A1, C1, hb1, rfl, hB1⟩; clear henc; have hd := hdec w1 x1 A1 C1 hB1; clear hdec; have t2 := hB1.top 2 (by omega); have t0 := hB1.top 0 (by omega); have f0 := hB1.fb 0)
  go_wp2_with (go_at_call 15; refine hd.mono ?_; rintro e x2 ⟨B, g, o, c, rfl, hb2, k1, k2⟩; clear hd)
  go_ret
  exact ⟨rfl, hb1.trans (hb2.mono hb1.size)⟩

end Go.Proofs.Ytnnnefbnpfahcaa

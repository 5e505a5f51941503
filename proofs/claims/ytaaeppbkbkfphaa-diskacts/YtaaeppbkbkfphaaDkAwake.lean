/-
  A disk in use: contracts that carry what lies below along; the statements' own check that what was flushed is safe.
  Conditions: none.
-/
import Derived.Test.YtaaeppbkbkfphaaDkCrash
namespace Go.Proofs.Ytaaeppbkbkfphaa
open Go.RowKit By Dk
set_option linter.unusedVariables false
set_option linter.unusedSimpArgs false

structure Dsk (B : Nat) (w0 w : World) (F : Nat → Prop) (p n m : Nat) (f A : Nat → Nat) (D : Nat → Nat → Nat) : Prop where
  bel : Below B w0 w
  size : B ≤ w.heap.size
  foot : ∀ k, F k → B ≤ k
  pd : Pd w F p n m f A D

section
variable {B : Nat} {w0 w : World} {F : Nat → Prop} {p n m : Nat} {f A : Nat → Nat} {D : Nat → Nat → Nat}

theorem Dsk.below {w' : World} (h : Dsk B w0 w F p n m f A D) (t : Below w.heap.size w w') : Dsk B w0 w' F p n m f A D :=
  ⟨h.bel.trans (t.mono h.size), Nat.le_trans h.size t.size, h.foot, h.pd.below t⟩

theorem Dsk.turns {w' : World} {G : Nat → Prop} (h : Dsk B w0 w F p n m f A D) (t : Turns G w w') (hG : ∀ k, G k → B ≤ k) (hd : ∀ k, F k → ¬ G k) : Dsk B w0 w' F p n m f A D :=
  ⟨h.bel.trans (t.below hG h.size), Nat.le_trans h.size t.size, h.foot, h.pd.turns t hd⟩

theorem Dsk.drewN (h : Dsk B w0 w F p n m f A D) (k : Nat) : Dsk B w0 (w.drewN k) F p n m f A D := ⟨⟨h.bel.os, h.bel.tape, h.bel.output, h.bel.size, h.bel.block⟩, h.size, h.foot, h.pd.drewN k⟩
theorem Dsk.drew (h : Dsk B w0 w F p n m f A D) : Dsk B w0 w.drew F p n m f A D := h.drewN 1

theorem Pd.flt (h : Pd w F p n m f A D) : ∀ k, F k → k < w.heap.size := by
  obtain ⟨gs, gn, R, s, q, h⟩ := h
  exact h.flt

theorem Pd.lt (h : Pd w F p n m f A D) : ∀ i, f i < 256 := by
  obtain ⟨gs, gn, R, s, q, h⟩ := h
  exact h.lt

theorem Pd.ltD (h : Pd w F p n m f A D) : ∀ i j, D i j < 256 := by
  obtain ⟨gs, gn, R, s, q, h⟩ := h
  exact h.ltD

end

theorem dnew (n : Nat) (z : Int) (hz : z = (n : Int)) (w : World) (h1 : 1 ≤ n) (h2 : n ≤ 4096) :
    Calls Try.prog 7 #[.int .i64 z] w fun e w' => ∃ p F, e = .returned (.tuple #[.pointer (some ⟨p, 0, none⟩), .int .i64 0]) ∧ Dsk w.heap.size w w' F p n 0 (fun _ => 0) (fun _ => 0) (fun _ _ => 0) :=
  (new_yes n z hz _ _ (fun _ _ => by omega) w h1 h2).mono fun e w' ⟨p, he, hb, hd⟩ => ⟨p, _, he, hb, hb.size, fun k hk => hk.1, hd⟩

theorem dwrite (B p n m a c : Nat) (F : Nat → Prop) (f A g : Nat → Nat) (D : Nat → Nat → Nat) (x : Option Addr) (z : Int) (hz : z = (a : Int)) (w0 w : World) (h : Dsk B w0 w F p n m f A D) (ha : a < n) (hx : RowAt w x 64 g) (hg : ∀ i, g i < 256) (hm : m < 1000) :
    Calls Try.prog 17 #[.pointer (some ⟨p, 0, none⟩), .int .i64 z, .slice x 64 c] w fun e w' => e = .returned (.int .i64 0) ∧ Turns F w w' ∧ Dsk B w0 w' (grow F w w') p n (m + 1) f (ext A m a) (ext D m g) :=
  (write_yes p n m a c F f A g D x z hz w h.pd ha hx hg hm).mono fun e w' ⟨he, ht, hd⟩ => ⟨he, ht, h.bel.trans (ht.below h.foot h.size), Nat.le_trans h.size ht.size, fun k hk => by
    rcases hk with hk | hk
    · exact h.foot k hk
    · exact Nat.le_trans h.size hk.1, hd⟩

theorem dflush (B p n m : Nat) (F : Nat → Prop) (f A : Nat → Nat) (D : Nat → Nat → Nat) (w0 w : World) (h : Dsk B w0 w F p n m f A D) :
    Calls Try.prog 18 #[.pointer (some ⟨p, 0, none⟩)] w fun e w' => e = .returned (.tuple #[]) ∧ Turns F w w' ∧ Dsk B w0 w' F p n 0 (kept f A D (fun _ => true) m) A D :=
  (flush_any p n m F f A D w h.pd).mono fun e w' ⟨he, ht, hd⟩ => ⟨he, ht, h.bel.trans (ht.below h.foot h.size), Nat.le_trans h.size ht.size, h.foot, hd⟩

theorem dcrash (B p n m l lc : Nat) (F : Nat → Prop) (f A : Nat → Nat) (D : Nat → Nat → Nat) (y : Option Addr) (b : Nat → Bool) (w0 w : World) (h : Dsk B w0 w F p n m f A D) (hy : BoolsAt w y l b) (hyF : l ≠ 0 → ∀ a, y = some a → ¬ F a.block) (hl : l ≤ 140737488355328) :
    Calls Try.prog 19 #[.pointer (some ⟨p, 0, none⟩), .slice y l lc] w fun e w' => e = .returned (.tuple #[]) ∧ Turns F w w' ∧ Dsk B w0 w' F p n 0 (kept f A D (cutB l b) m) A D :=
  (crash_any p n m l lc F f A D y b w h.pd hy hyF hl).mono fun e w' ⟨he, ht, hd⟩ => ⟨he, ht, h.bel.trans (ht.below h.foot h.size), Nat.le_trans h.size ht.size, h.foot, hd⟩

theorem dread (B p n m a : Nat) (F : Nat → Prop) (f A : Nat → Nat) (D : Nat → Nat → Nat) (z : Int) (hz : z = (a : Int)) (w0 w : World) (h : Dsk B w0 w F p n m f A D) (ha : a < n) :
    Calls Try.prog 12 #[.pointer (some ⟨p, 0, none⟩), .int .i64 z] w fun e w' => e = .returned (.tuple #[.slice (some ⟨w.heap.size, 0, none⟩) 64 64, .int .i64 0]) ∧ Below w.heap.size w w' ∧ Dsk B w0 w' F p n m f A D ∧ Blk w' w.heap.size 5 64 (fun i => .int .u8 (now f A D a m i : Int)) :=
  (read_yes p n m a F f A D z hz w h.pd ha).mono fun e w' ⟨he, hb, hk⟩ => ⟨he, hb, h.below hb, hk⟩

def g7 : Nat → Nat := fun i => if i = 3 then 7 else 0

theorem g7_lt (i : Nat) : g7 i < 256 := by unfold g7; split <;> omega

set_option maxHeartbeats 2000000 in
theorem awake_any (w : World) : Calls Try.prog 9 #[] w fun e w' => e = .returned (.bool true) ∧ Below w.heap.size w w' := by
  have hN := dnew 2 2 rfl w (by omega) (by omega)
  have hmk : ∀ v : World, ∃ w1, (Instr.makeSlice 32 (.int .i64 64) (.int .i64 64)).run Try.prog v = .ok (.slice (some ⟨v.heap.size, 0, none⟩) 64 64) w1 ∧ (w1.cell? ⟨v.heap.size, 3, none⟩ = some (.int .u8 0) ∧ w1.frozen? ⟨v.heap.size, 3, none⟩ = false) ∧ Below v.heap.size v (w1.setCell ⟨v.heap.size, 3, none⟩ (.int .u8 7)) ∧ RowAt (w1.setCell ⟨v.heap.size, 3, none⟩ (.int .u8 7)) (some ⟨v.heap.size, 0, none⟩) 64 g7 ∧ v.heap.size < (w1.setCell ⟨v.heap.size, 3, none⟩ (.int .u8 7)).heap.size := fun v => by
    obtain ⟨w1, h1, h2, h3, h4⟩ := make_blk v 64 (by omega)
    refine ⟨w1, h1, ⟨h2.cell (k := 3) (by omega), h2.frozen 3⟩, h3.setCell (p := ⟨v.heap.size, 3, none⟩) (Nat.le_refl _) _, ?_, by simp [World.setCell, h4]⟩
    refine Blk.row ((h2.set 3 (.int .u8 7)).congr fun k hk => ?_)
    unfold upd g7
    by_cases e : k = 3
    · simp [e]
    · simp [e]
  go_enter Try.func9, Try.ntmps9
  go_wp2_with (first
    | (go_at_call 7; refine hN.mono ?_; rintro e w1 ⟨p, F, rfl, d1⟩; clear hN
       obtain ⟨w2, hm2, ⟨hc2, hf2⟩, hb2, hr2, hl2⟩ := hmk w1; clear hmk
       have hW1 := dwrite w.heap.size p 2 0 1 64 F _ _ g7 _ _ 1 rfl w _ (d1.below hb2) (by omega) hr2 g7_lt (by omega)
       have HR := hid hr2
       have HD := hid (And.intro d1.pd.flt hl2)
       clear d1 hb2 hr2 hl2)
    | (go_at_call 17; refine hW1.mono ?_; rintro e w3 ⟨rfl, t3, d3⟩; clear hW1
       have hF1 := dflush _ _ _ _ _ _ _ _ w w3 d3
       have HT3 := hid t3; clear t3 d3)
    | (go_at_call 18; refine hF1.mono ?_; rintro e w4 ⟨rfl, t4, d4⟩; clear hF1
       have hW2 := dwrite w.heap.size p 2 0 0 64 _ _ _ g7 _ _ 0 rfl w w4 d4 (by omega) ((HT3.out.row HR.out (fun ad had => by cases had; exact fun hF => by have := HD.out.1 _ hF; have e1 : (⟨w1.heap.size, 0, none⟩ : Addr).block = w1.heap.size := rfl; omega)).below (Below.refl _ _) |> fun r => t4.row r (fun ad had => by
          cases had
          rintro (hF | ⟨hF, _⟩)
          · have := HD.out.1 _ hF
            have e1 : (⟨w1.heap.size, 0, none⟩ : Addr).block = w1.heap.size := rfl
            omega
          · have := HD.out.2
            have e1 : (⟨w1.heap.size, 0, none⟩ : Addr).block = w1.heap.size := rfl
            omega)) g7_lt (by omega)
       clear t4 d4 HT3 HR HD)
    | (go_at_call 17; refine hW2.mono ?_; rintro e w5 ⟨rfl, t5, d5⟩; clear hW2
       have hC := dcrash _ _ _ _ 0 0 _ _ _ _ none (fun _ => false) w w5 d5 (.inl rfl) (fun h => absurd rfl h) (by omega)
       clear t5 d5)
    | (go_at_call 19; refine hC.mono ?_; rintro e w6 ⟨rfl, t6, d6⟩; clear hC
       have hR1 := dread _ _ _ _ 1 _ _ _ _ 1 rfl w w6 d6 (by omega)
       clear t6 d6)
    | (go_at_call 12; refine hR1.mono ?_; rintro e w7 ⟨rfl, b7, d7, k7⟩; clear hR1
       have hR2 := dread _ _ _ _ 0 _ _ _ _ 0 rfl w w7 d7 (by omega)
       have c7 := k7.cell (k := 3) (by omega)
       have l7 := k7.lt
       clear b7 d7 k7)
    | (go_at_call 12; refine hR2.mono ?_; rintro e w8 ⟨rfl, b8, d8, k8⟩; clear hR2
       have c8 := k8.cell (k := 3) (by omega)
       have e7 := (b8.cell (p := ⟨w6.heap.size, 3, none⟩) l7).trans c7
       have HB := hid d8.bel
       clear b8 d8 k8 c7 l7))
  go_ret
  exact ⟨rfl, HB.out⟩

end Go.Proofs.Ytaaeppbkbkfphaa

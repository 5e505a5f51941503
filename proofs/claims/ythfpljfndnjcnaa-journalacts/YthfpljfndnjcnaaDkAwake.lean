/-
  A disk in use: contracts that carry what lies below along; the statements' own check that what was flushed is safe.
  Conditions: none.
-/
import Derived.Test.YthfpljfndnjcnaaDkCrash
namespace Go.Proofs.Ythfpljfndnjcnaa
open Go.RowKit By Dk
set_option linter.unusedVariables false
set_option linter.unusedSimpArgs false

structure Dsk (B : Nat) (w0 w : World) (F : Nat → Prop) (p n m : Nat) (f A : Nat → Nat) (D : Nat → Nat → Nat) : Prop where
  bel : Below B w0 w
  size : B ≤ w.heap.size
  foot : ∀ k, F k → B ≤ k
  pd : Pd w F p n m f A D

section
variable {B : Nat} {w0 w : World} {F : Nat → Prop} {p n m : Nat} {f A : Nat → Nat} {D : Nat → Nat → Nat}

theorem Dsk.below {w' : World} (h : Dsk B w0 w F p n m f A D) (t : Below w.heap.size w w') : Dsk B w0 w' F p n m f A D :=
  ⟨h.bel.trans (t.mono h.size), Nat.le_trans h.size t.size, h.foot, h.pd.below t⟩

theorem Dsk.turns {w' : World} {G : Nat → Prop} (h : Dsk B w0 w F p n m f A D) (t : Turns G w w') (hG : ∀ k, G k → B ≤ k) (hd : ∀ k, F k → ¬ G k) : Dsk B w0 w' F p n m f A D :=
  ⟨h.bel.trans (t.below hG h.size), Nat.le_trans h.size t.size, h.foot, h.pd.turns t hd⟩

theorem Dsk.drewN (h : Dsk B w0 w F p n m f A D) (k : Nat) : Dsk B w0 (w.drewN k) F p n m f A D := ⟨⟨h.bel.os, h.bel.tape, h.bel.output, h.bel.size, h.bel.block⟩, h.size, h.foot, h.pd.drewN k⟩
theorem Dsk.drew (h : Dsk B w0 w F p n m f A D) : Dsk B w0 w.drew F p n m f A D := h.drewN 1

theorem Pd.flt (h : Pd w F p n m f A D) : ∀ k, F k → k < w.heap.size := by
  obtain ⟨gs, gn, R, s, q, h⟩ := h
  exact h.flt

theorem Pd.lt (h : Pd w F p n m f A D) : ∀ i, f i < 256 := by
  obtain ⟨gs, gn, R, s, q, h⟩ := h
  exact h.lt

theorem Pd.ltD (h : Pd w F p n m f A D) : ∀ i j, D i j < 256 := by
  obtain ⟨gs, gn, R, s, q, h⟩ := h
  exact h.ltD

end

theorem dnew (n : Nat) (z : Int) (hz : z = (n : Int)) (w : World) (h1 : 1 ≤ n) (h2 : n ≤ 4096) :
    Calls Try.prog 8 #[.int .i64 z] w fun e w' => ∃ p F, e = .returned (.tuple #[.pointer (some ⟨p, 0, none⟩), .int .i64 0]) ∧ Dsk w.heap.size w w' F p n 0 (fun _ => 0) (fun _ => 0) (fun _ _ => 0) :=
  (new_yes n z hz _ _ (fun _ _ => by omega) w h1 h2).mono fun e w' ⟨p, he, hb, hd⟩ => ⟨p, _, he, hb, hb.size, fun k hk => hk.1, hd⟩

theorem dwrite (B p n m a c : Nat) (F : Nat → Prop) (f A g : Nat → Nat) (D : Nat → Nat → Nat) (x : Option Addr) (z : Int) (hz : z = (a : Int)) (w0 w : World) (h : Dsk B w0 w F p n m f A D) (ha : a < n) (hx : RowAt w x 64 g) (hg : ∀ i, g i < 256) (hm : m < 1000) :
    Calls Try.prog 26 #[.pointer (some ⟨p, 0, none⟩), .int .i64 z, .slice x 64 c] w fun e w' => e = .returned (.int .i64 0) ∧ Turns F w w' ∧ Dsk B w0 w' (grow F w w') p n (m + 1) f (ext A m a) (ext D m g) :=
  (write_yes p n m a c F f A g D x z hz w h.pd ha hx hg hm).mono fun e w' ⟨he, ht, hd⟩ => ⟨he, ht, h.bel.trans (ht.below h.foot h.size), Nat.le_trans h.size ht.size, fun k hk => by
    rcases hk with hk | hk
    · exact h.foot k hk
    · exact Nat.le_trans h.size hk.1, hd⟩

theorem dflush (B p n m : Nat) (F : Nat → Prop) (f A : Nat → Nat) (D : Nat → Nat → Nat) (w0 w : World) (h : Dsk B w0 w F p n m f A D) :
    Calls Try.prog 33 #[.pointer (some ⟨p, 0, none⟩)] w fun e w' => e = .returned (.tuple #[]) ∧ Turns F w w' ∧ Dsk B w0 w' F p n 0 (kept f A D (fun _ => true) m) A D :=
  (flush_any p n m F f A D w h.pd).mono fun e w' ⟨he, ht, hd⟩ => ⟨he, ht, h.bel.trans (ht.below h.foot h.size), Nat.le_trans h.size ht.size, h.foot, hd⟩

theorem dcrash (B p n m l lc : Nat) (F : Nat → Prop) (f A : Nat → Nat) (D : Nat → Nat → Nat) (y : Option Addr) (b : Nat → Bool) (w0 w : World) (h : Dsk B w0 w F p n m f A D) (hy : BoolsAt w y l b) (hyF : l ≠ 0 → ∀ a, y = some a → ¬ F a.block) (hl : l ≤ 140737488355328) :
    Calls Try.prog 13 #[.pointer (some ⟨p, 0, none⟩), .slice y l lc] w fun e w' => e = .returned (.tuple #[]) ∧ Turns F w w' ∧ Dsk B w0 w' F p n 0 (kept f A D (cutB l b) m) A D :=
  (crash_any p n m l lc F f A D y b w h.pd hy hyF hl).mono fun e w' ⟨he, ht, hd⟩ => ⟨he, ht, h.bel.trans (ht.below h.foot h.size), Nat.le_trans h.size ht.size, h.foot, hd⟩

theorem dread (B p n m a : Nat) (F : Nat → Prop) (f A : Nat → Nat) (D : Nat → Nat → Nat) (z : Int) (hz : z = (a : Int)) (w0 w : World) (h : Dsk B w0 w F p n m f A D) (ha : a < n) :
    Calls Try.prog 37 #[.pointer (some ⟨p, 0, none⟩), .int .i64 z] w fun e w' => e = .returned (.tuple #[.slice (some ⟨w.heap.size, 0, none⟩) 64 64, .int .i64 0]) ∧ Below w.heap.size w w' ∧ Dsk B w0 w' F p n m f A D ∧ Blk w' w.heap.size 5 64 (fun i => .int .u8 (now f A D a m i : Int)) :=
  (read_yes p n m a F f A D z hz w h.pd ha).mono fun e w' ⟨he, hb, hk⟩ => ⟨he, hb, h.below hb, hk⟩

def g7 : Nat → Nat := fun i => if i = 3 then 7 else 0

theorem g7_lt (i : Nat) : g7 i < 256 := by unfold g7; split <;> omega

end Go.Proofs.Ythfpljfndnjcnaa

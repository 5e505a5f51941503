/-
  What is read of what was written; a reader, and an item laid for one round, as they lie in memory.
  Conditions: none.
-/
import Derived.Test.YtjodeceaogngfaaWiWritten
import Derived.Test.YtjodeceaogngfaaWiTake
import Derived.Test.YtjodeceaogngfaaWiItem
import Derived.Deep.QuietTactic
import Derived.BigQuiet
namespace Go.Proofs.Ytjodeceaogngfaa
open Go.RowKit Wi By
set_option linter.unusedVariables false
set_option linter.unusedSimpArgs false
set_option maxRecDepth 100000

theorem rUv_back {N : Nat} (hN : N < 18446744073709551616) (r : List Nat) : rUv (uv N ++ r) 0 = (N, r, 0) := by
  rw [rUv_yes (lead_uv hN r), List.drop_left]

theorem rFx_back {N s : Nat} (hN : N < 256 ^ s) (r : List Nat) : rFx s (fx N s ++ r) 0 = (N, r, 0) := by
  rw [rFx_yes (by rw [List.length_append, fx_len]; omega)]
  have h1 : (fx N s ++ r).take s = fx N s := by
    have := List.take_left (l₁ := fx N s) (l₂ := r)
    rwa [fx_len] at this
  have h2 : (fx N s ++ r).drop s = r := by
    have := List.drop_left (l₁ := fx N s) (l₂ := r)
    rwa [fx_len] at this
  rw [h1, h2, le_fx s N hN]

theorem rBy_back (k r : List Nat) (hk : k.length < 18446744073709551616) : rBy (k.length : Int) (uv k.length ++ k ++ r) 0 = (k, r, 0) := by
  have e : rUv (uv k.length ++ k ++ r) 0 = (k.length, k ++ r, 0) := by rw [List.append_assoc]; exact rUv_back hk _
  have e2 : rNum (k.length : Int) (uv k.length ++ k ++ r) 0 = (k.length, k ++ r, 0) := by
    rw [rNum_yes (by rw [e]) (by rw [e]; omega), e]
  rw [rBy_yes (by rw [e2]) (by rw [e2]; simp), e2]
  simp

/- Lists, one behind the other. -/
def cat (en : Nat → List Nat) : Nat → List Nat
  | 0 => []
  | k + 1 => cat en k ++ en k

def rs (en : Nat → List Nat) : Nat → Nat → List Nat
  | _, 0 => []
  | k, c + 1 => en k ++ rs en (k + 1) c

theorem cat_rs (en : Nat → List Nat) : ∀ c k, cat en k ++ rs en k c = cat en (k + c)
  | 0, k => by simp [rs]
  | c + 1, k => by
    rw [rs, ← List.append_assoc]
    have := cat_rs en c (k + 1)
    rw [cat] at this
    rw [this]
    congr 1
    omega

/- A reader, and the item of a round. -/
structure RS (w v : World) (p g : Nat) (D : Int) (N : Nat) (y : Option Addr) (m d : Nat) (r : List Nat) : Prop where
  rd : ∃ xp np cp, PRd v p xp np cp r 0
  c0 : v.cell? ⟨g, 0, none⟩ = some (.int .i64 D)
  c1 : v.cell? ⟨g, 1, none⟩ = some (.int .u64 (N : Int))
  c2 : v.cell? ⟨g, 2, none⟩ = some (.slice y m d)
  bel : Below w.heap.size w v
  gp : g ≠ p
  Bp : w.heap.size ≤ p

theorem RS.drewN {w v : World} {p g N m d : Nat} {D : Int} {y : Option Addr} {r : List Nat} (h : RS w v p g D N y m d r) (n : Nat) : RS w (v.drewN n) p g D N y m d r := by
  obtain ⟨xp, np, cp, h1⟩ := h.rd
  exact ⟨⟨xp, np, cp, h1.rest, h1.wrong, h1.fr, h1.sl.heap rfl, h1.ap, h1.small⟩, h.c0, h.c1, h.c2, below_drewN' h.bel n, h.gp, h.Bp⟩

theorem RS.after {w v v' : World} {p g N m d : Nat} {D : Int} {y x : Option Addr} {r r' : List Nat} (h : RS w v p g D N y m d r) (k : PGo v v' p x r' 0) : RS w v' p g D N y m d r' := by
  obtain ⟨t, xp, np, cp, h1, _⟩ := k
  have hg := cell_lt' h.c0
  have hle : w.heap.size ≤ v.heap.size := h.bel.size
  exact ⟨⟨xp, np, cp, h1⟩, (t.cell (p := ⟨g, 0, none⟩) h.gp hg).trans h.c0, (t.cell (p := ⟨g, 1, none⟩) h.gp hg).trans h.c1, (t.cell (p := ⟨g, 2, none⟩) h.gp hg).trans h.c2, h.bel.trans (t.below h.Bp hle), h.gp, h.Bp⟩

theorem hideP {a : Prop} (h : a) : Hid a := h

end Go.Proofs.Ytjodeceaogngfaa

/-
  Those that stand by, as an Info tells of them.
  Conditions: none.
-/
import Derived.Test.YtgcjecmgjncclaaPzLis
namespace Go.Proofs.Ytgcjecmgjncclaa.Pz
open Go.RowKit By Fl
set_option linter.unusedVariables false
set_option linter.unusedSimpArgs false
set_option maxRecDepth 100000

/- One that is told of as standing by. -/
structure TV where
  si : Int
  hd : Int
def enT (v : TV) : List Value := [.int .i64 v.si, .int .i64 v.hd]
def TAt (w : World) (F : Nat → Prop) (v : TV) : Prop := True
def Ts := Lis enT 2 TAt
theorem Ts.below {w w' : World} {F : Nat → Prop} {x : Option Addr} {n c : Nat} {L : List TV} (h : Ts w F x n c L) (k : Below w.heap.size w w') : Ts w' F x n c L := Lis.keeps (fun _ _ => trivial) h (.below k)
theorem t_at {w : World} {b o k : Nat} {L : List TV} {v : TV} (h : ∀ (k : Nat) (v : TV), L[k]? = some v → ∀ (j : Nat) (u : Value), (enT v)[j]? = some u → w.cell? ⟨b, o + k * 2 + j, none⟩ = some u) (hk : L[k]? = some v) :
    w.cell? ⟨b, o + k * 2, none⟩ = some (.int .i64 v.si) ∧ w.cell? ⟨b, o + k * 2 + 1, none⟩ = some (.int .i64 v.hd) := ⟨h k v hk 0 _ rfl, h k v hk 1 _ rfl⟩
theorem trow : Row 25 48 2 16 enT := by
  have hi : (Try.prog.info? 48).map (fun i => (i.zero, i.size, i.bytes)) = some (some (.agg #[.int .i64 0, .int .i64 0]), 2, 16) := by kernel_rfl
  obtain ⟨i0, h1, h2, h3, h4⟩ := info_parts hi
  exact ⟨Try.underlying25, ⟨i0, _, h1, h2, h3, h4, rfl⟩, by decide, by decide, fun a => rfl, fun a v hv => by simp [enT] at hv; rcases hv with rfl | rfl <;> rfl⟩
def zNBox : Array Value := #[.int .i64 0, .int .i64 0, .int .i64 0, .int .i64 0, .slice none 0 0]
theorem neq_t (a : TV) (w : World) : (binOp .neq 48 (.agg #[.int .i64 a.si, .int .i64 a.hd]) (.agg #[.int .i64 a.si, .int .i64 a.hd])).run Try.prog w = .ok (.bool false) w := by
  go_simp
def NCells (os li no he : Int) (y : Value) : Array Value := #[.int .i64 os, .int .i64 li, .int .i64 no, .int .i64 he, y]
end Go.Proofs.Ytgcjecmgjncclaa.Pz

/-
  Intervals and infos as they lie in memory.
  Conditions: none.
-/
import Derived.Test.YtgcjecmgjncclaaPzStd
import Derived.Test.YtgcjecmgjncclaaPzSameI
import Derived.Test.YtgcjecmgjncclaaPePlain
namespace Go.Proofs.Ytgcjecmgjncclaa.Pe
open Go.RowKit By Fl Pz
set_option linter.unusedVariables false
set_option linter.unusedSimpArgs false
set_option maxRecDepth 100000

/- A list of numbers that is read. -/
def enN (z : Int) : List Value := [.int .i64 z]
def NAt (w : World) (F : Nat → Prop) (z : Int) : Prop := True
def Ns := Lis enN 1 NAt

/- An interval, an info, with where their lists lie. -/
structure JV where
  fr : Int
  to : Int
  x1 : Option Addr
  n1 : Nat
  c1 : Nat
  A : List Int
  x2 : Option Addr
  n2 : Nat
  c2 : Nat
  V : List Int
  x3 : Option Addr
  n3 : Nat
  c3 : Nat
  B : List Int
  pr : Int
structure FV where
  os : Int
  li : Int
  no : Int
  he : Int
  x : Option Addr
  n : Nat
  c : Nat
  L : List TV
def pJ (v : JV) : Itv := ⟨v.fr, v.A, v.V⟩
def pF (v : FV) : Inf := ⟨v.os, v.li, v.no, v.he, v.L.map pT⟩
def enJ (v : JV) : List Value := [.int .i64 v.fr, .int .i64 v.to, .slice v.x1 v.n1 v.c1, .slice v.x2 v.n2 v.c2, .slice v.x3 v.n3 v.c3, .int .i64 v.pr]
def enF (v : FV) : List Value := [.int .i64 v.os, .int .i64 v.li, .int .i64 v.no, .int .i64 v.he, .slice v.x v.n v.c]
def JCells (v : JV) : Array Value := #[.int .i64 v.fr, .int .i64 v.to, .slice v.x1 v.n1 v.c1, .slice v.x2 v.n2 v.c2, .slice v.x3 v.n3 v.c3, .int .i64 v.pr]
def FCells (v : FV) : Array Value := #[.int .i64 v.os, .int .i64 v.li, .int .i64 v.no, .int .i64 v.he, .slice v.x v.n v.c]
def vJ (v : JV) : Value := .agg #[.int .i64 v.fr, .int .i64 v.to, .slice v.x1 v.n1 v.c1, .slice v.x2 v.n2 v.c2, .slice v.x3 v.n3 v.c3, .int .i64 v.pr]
def vF (v : FV) : Value := .agg #[.int .i64 v.os, .int .i64 v.li, .int .i64 v.no, .int .i64 v.he, .slice v.x v.n v.c]
structure JAt (w : World) (F : Nat → Prop) (v : JV) : Prop where
  a : Ns w F v.x1 v.n1 v.c1 v.A
  l : Ns w F v.x2 v.n2 v.c2 v.V
  b : Ns w F v.x3 v.n3 v.c3 v.B
def FAt (w : World) (F : Nat → Prop) (v : FV) : Prop := Ts w F v.x v.n v.c v.L
def Js := Lis enJ 6 JAt
def Fs := Lis enF 5 FAt

section
variable {F G : Nat → Prop} {w w' : World} {x : Option Addr} {n c : Nat}
theorem Ns.keeps {L : List Int} (h : Ns w F x n c L) (k : Keeps F w w') : Ns w' F x n c L := Lis.keeps (fun _ _ => trivial) h k
theorem Ns.weak {L : List Int} (h : Ns w F x n c L) (k : ∀ i, F i → G i) : Ns w G x n c L := Lis.weak (fun _ _ => trivial) h k
theorem Ns.below {L : List Int} (h : Ns w F x n c L) (k : Below w.heap.size w w') : Ns w' F x n c L := h.keeps (.below k)
theorem JAt.keeps {v : JV} (h : JAt w F v) (k : Keeps F w w') : JAt w' F v := ⟨h.a.keeps k, h.l.keeps k, h.b.keeps k⟩
theorem JAt.weak {v : JV} (h : JAt w F v) (k : ∀ i, F i → G i) : JAt w G v := ⟨h.a.weak k, h.l.weak k, h.b.weak k⟩
theorem JAt.below {v : JV} (h : JAt w F v) (k : Below w.heap.size w w') : JAt w' F v := h.keeps (.below k)
theorem FAt.keeps {v : FV} (h : FAt w F v) (k : Keeps F w w') : FAt w' F v := Lis.keeps (fun _ _ => trivial) h k
theorem FAt.weak {v : FV} (h : FAt w F v) (k : ∀ i, F i → G i) : FAt w G v := Lis.weak (fun _ _ => trivial) h k
theorem FAt.below {v : FV} (h : FAt w F v) (k : Below w.heap.size w w') : FAt w' F v := h.keeps (.below k)
theorem Js.keeps {L : List JV} (h : Js w F x n c L) (k : Keeps F w w') : Js w' F x n c L := Lis.keeps (fun a ha => JAt.keeps ha k) h k
theorem Js.weak {L : List JV} (h : Js w F x n c L) (k : ∀ i, F i → G i) : Js w G x n c L := Lis.weak (fun a ha => JAt.weak ha k) h k
theorem Js.below {L : List JV} (h : Js w F x n c L) (k : Below w.heap.size w w') : Js w' F x n c L := h.keeps (.below k)
theorem Fs.keeps {L : List FV} (h : Fs w F x n c L) (k : Keeps F w w') : Fs w' F x n c L := Lis.keeps (fun a ha => FAt.keeps ha k) h k
theorem Fs.weak {L : List FV} (h : Fs w F x n c L) (k : ∀ i, F i → G i) : Fs w G x n c L := Lis.weak (fun a ha => FAt.weak ha k) h k
theorem Fs.below {L : List FV} (h : Fs w F x n c L) (k : Below w.heap.size w w') : Fs w' F x n c L := h.keeps (.below k)
end

/- The cells of the k-th one. -/
section
variable {w : World} {b o k : Nat}
theorem n_at {L : List Int} {z : Int} (h : ∀ (k : Nat) (v : Int), L[k]? = some v → ∀ (j : Nat) (u : Value), (enN v)[j]? = some u → w.cell? ⟨b, o + k * 1 + j, none⟩ = some u) (hk : L[k]? = some z) : w.cell? ⟨b, o + k, none⟩ = some (.int .i64 z) := by
  have := h k z hk 0 _ rfl
  rwa [Nat.mul_one, Nat.add_zero] at this
theorem j_at {L : List JV} {v : JV} (h : ∀ (k : Nat) (v : JV), L[k]? = some v → ∀ (j : Nat) (u : Value), (enJ v)[j]? = some u → w.cell? ⟨b, o + k * 6 + j, none⟩ = some u) (hk : L[k]? = some v) :
    w.cell? ⟨b, o + k * 6, none⟩ = some (.int .i64 v.fr) ∧ w.cell? ⟨b, o + k * 6 + 1, none⟩ = some (.int .i64 v.to) ∧ w.cell? ⟨b, o + k * 6 + 2, none⟩ = some (.slice v.x1 v.n1 v.c1) ∧ w.cell? ⟨b, o + k * 6 + 3, none⟩ = some (.slice v.x2 v.n2 v.c2) ∧
    w.cell? ⟨b, o + k * 6 + 4, none⟩ = some (.slice v.x3 v.n3 v.c3) ∧ w.cell? ⟨b, o + k * 6 + 5, none⟩ = some (.int .i64 v.pr) :=
  ⟨h k v hk 0 _ rfl, h k v hk 1 _ rfl, h k v hk 2 _ rfl, h k v hk 3 _ rfl, h k v hk 4 _ rfl, h k v hk 5 _ rfl⟩
theorem f_at {L : List FV} {v : FV} (h : ∀ (k : Nat) (v : FV), L[k]? = some v → ∀ (j : Nat) (u : Value), (enF v)[j]? = some u → w.cell? ⟨b, o + k * 5 + j, none⟩ = some u) (hk : L[k]? = some v) :
    w.cell? ⟨b, o + k * 5, none⟩ = some (.int .i64 v.os) ∧ w.cell? ⟨b, o + k * 5 + 1, none⟩ = some (.int .i64 v.li) ∧ w.cell? ⟨b, o + k * 5 + 2, none⟩ = some (.int .i64 v.no) ∧ w.cell? ⟨b, o + k * 5 + 3, none⟩ = some (.int .i64 v.he) ∧
    w.cell? ⟨b, o + k * 5 + 4, none⟩ = some (.slice v.x v.n v.c) :=
  ⟨h k v hk 0 _ rfl, h k v hk 1 _ rfl, h k v hk 2 _ rfl, h k v hk 3 _ rfl, h k v hk 4 _ rfl⟩
/- The cells of a box. -/
theorem jcells {g : Nat} {v : JV} {t : TypeId} (h : w.heap[g]? = some (.cells (JCells v) t (0, 0))) : w.cell? ⟨g, 0, none⟩ = some (.int .i64 v.fr) ∧ w.cell? ⟨g, 1, none⟩ = some (.int .i64 v.to) ∧ w.cell? ⟨g, 2, none⟩ = some (.slice v.x1 v.n1 v.c1) ∧ w.cell? ⟨g, 3, none⟩ = some (.slice v.x2 v.n2 v.c2) ∧ w.cell? ⟨g, 4, none⟩ = some (.slice v.x3 v.n3 v.c3) ∧ w.cell? ⟨g, 5, none⟩ = some (.int .i64 v.pr) :=
  ⟨cell_heap h rfl, cell_heap h rfl, cell_heap h rfl, cell_heap h rfl, cell_heap h rfl, cell_heap h rfl⟩
theorem fcells {g : Nat} {v : FV} {t : TypeId} (h : w.heap[g]? = some (.cells (FCells v) t (0, 0))) : w.cell? ⟨g, 0, none⟩ = some (.int .i64 v.os) ∧ w.cell? ⟨g, 1, none⟩ = some (.int .i64 v.li) ∧ w.cell? ⟨g, 2, none⟩ = some (.int .i64 v.no) ∧ w.cell? ⟨g, 3, none⟩ = some (.int .i64 v.he) ∧ w.cell? ⟨g, 4, none⟩ = some (.slice v.x v.n v.c) :=
  ⟨cell_heap h rfl, cell_heap h rfl, cell_heap h rfl, cell_heap h rfl, cell_heap h rfl⟩
end

theorem nrow : Row 22 3 1 8 enN := by
  have hi : (Try.prog.info? 3).map (fun i => (i.zero, i.size, i.bytes)) = some (some (.int .i64 0), 1, 8) := by kernel_rfl
  obtain ⟨i0, h1, h2, h3, h4⟩ := info_parts hi
  exact ⟨Try.underlying22, ⟨i0, _, h1, h2, h3, h4, rfl⟩, by decide, by decide, fun a => rfl, fun a v hv => by simp [enN] at hv; subst hv; rfl⟩
theorem jrow : Row 32 24 6 96 enJ := by
  have hi : (Try.prog.info? 24).map (fun i => (i.zero, i.size, i.bytes)) = some (some (.agg #[.int .i64 0, .int .i64 0, .slice none 0 0, .slice none 0 0, .slice none 0 0, .int .i64 0]), 6, 96) := by kernel_rfl
  obtain ⟨i0, h1, h2, h3, h4⟩ := info_parts hi
  exact ⟨Try.underlying32, ⟨i0, _, h1, h2, h3, h4, rfl⟩, by decide, by decide, fun a => rfl, fun a v hv => by simp [enJ] at hv; rcases hv with rfl | rfl | rfl | rfl | rfl | rfl <;> rfl⟩
theorem frow : Row 33 27 5 56 enF := by
  have hi : (Try.prog.info? 27).map (fun i => (i.zero, i.size, i.bytes)) = some (some (.agg #[.int .i64 0, .int .i64 0, .int .i64 0, .int .i64 0, .slice none 0 0]), 5, 56) := by kernel_rfl
  obtain ⟨i0, h1, h2, h3, h4⟩ := info_parts hi
  exact ⟨Try.underlying33, ⟨i0, _, h1, h2, h3, h4, rfl⟩, by decide, by decide, fun a => rfl, fun a v hv => by simp [enF] at hv; rcases hv with rfl | rfl | rfl | rfl | rfl <;> rfl⟩

end Go.Proofs.Ytgcjecmgjncclaa.Pe

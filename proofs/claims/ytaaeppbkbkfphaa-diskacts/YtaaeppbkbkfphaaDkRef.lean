/-
  The document's disk as it lies in memory: its sectors as texts, and what is not safe.
  Conditions: none.
-/
import Derived.Test.YtaaeppbkbkfphaaDkAll
import Derived.Lib.AppendStr
import Derived.Lib.ConvBytes
namespace Go.Proofs.Ytaaeppbkbkfphaa
open Go.RowKit By Dk
set_option linter.unusedVariables false
set_option linter.unusedSimpArgs false

def secS (f : Nat → Nat) (k : Nat) : Value := .string (strOfNums (nums (sec f k) 64))
def datS (d : Nat → Nat) : Value := .string (strOfNums (nums d 64))
def wrP (A : Nat → Nat) (D : Nat → Nat → Nat) : Nat → Value := fun i => if i % 2 = 0 then .int .i64 (A (i / 2) : Int) else datS (D (i / 2))
def obj2 (a b : Value) : Nat → Value := fun i => if i = 0 then a else b

structure RDk (w : World) (G : Nat → Prop) (r : Nat) (S P : Value) (n m : Nat) (f A : Nat → Nat) (D : Nat → Nat → Nat) : Prop where
  obj : Blk w r 40 2 (obj2 S P)
  sec_ : w.ownsRow 0 9 1 S n (rowOf (secS f) n)
  pen : w.ownsRow 0 66 2 P m (rowOf (wrP A D) (m * 2))
  at_ : ∀ i, i < m → A i < n
  fr : G r
  fS : ∀ g, S.ownBlock = some g → G g
  fP : ∀ g, P.ownBlock = some g → G g
  lt : ∀ i, f i < 256
  ltD : ∀ i j, D i j < 256
  flt : ∀ k, G k → k < w.heap.size
  n2 : n ≤ 4096
  m2 : m ≤ 1000

section
variable {w : World} {G : Nat → Prop} {r : Nat} {S P : Value} {n m : Nat} {f A : Nat → Nat} {D : Nat → Nat → Nat}

theorem RDk.c0 (h : RDk w G r S P n m f A D) : w.cell? ⟨r, 0, none⟩ = some S := h.obj.cell (k := 0) (by omega)
theorem RDk.c1 (h : RDk w G r S P n m f A D) : w.cell? ⟨r, 1, none⟩ = some P := h.obj.cell (k := 1) (by omega)

theorem RDk.heap {w' : World} (h : RDk w G r S P n m f A D) (e : ∀ k, G k → w'.heap[k]? = w.heap[k]?) (hs : w.heap.size ≤ w'.heap.size) : RDk w' G r S P n m f A D :=
  ⟨h.obj.of_heap (e _ h.fr), ownsRow_same h.sec_ (fun g hg => e g (h.fS g hg)), ownsRow_same h.pen (fun g hg => e g (h.fP g hg)), h.at_, h.fr, h.fS, h.fP, h.lt, h.ltD, fun k hk => Nat.lt_of_lt_of_le (h.flt k hk) hs, h.n2, h.m2⟩

theorem RDk.turns {w' : World} {F : Nat → Prop} (h : RDk w G r S P n m f A D) (t : Turns F w w') (hd : ∀ k, G k → ¬ F k) : RDk w' G r S P n m f A D :=
  h.heap (fun k hk => t.block k (h.flt k hk) (hd k hk)) t.size

theorem RDk.below {w' : World} (h : RDk w G r S P n m f A D) (t : Below w.heap.size w w') : RDk w' G r S P n m f A D :=
  h.heap (fun k hk => t.block k (h.flt k hk)) t.size

theorem RDk.drewN (h : RDk w G r S P n m f A D) (k : Nat) : RDk (w.drewN k) G r S P n m f A D := h.heap (fun _ _ => rfl) (Nat.le_refl _)
theorem RDk.drew (h : RDk w G r S P n m f A D) : RDk w.drew G r S P n m f A D := h.heap (fun _ _ => rfl) (Nat.le_refl _)

end

def Rd (w : World) (G : Nat → Prop) (r n m : Nat) (f A : Nat → Nat) (D : Nat → Nat → Nat) : Prop := ∃ S P, RDk w G r S P n m f A D

section
variable {w : World} {G : Nat → Prop} {r n m : Nat} {f A : Nat → Nat} {D : Nat → Nat → Nat}

theorem Rd.turns {w' : World} {F : Nat → Prop} (h : Rd w G r n m f A D) (t : Turns F w w') (hd : ∀ k, G k → ¬ F k) : Rd w' G r n m f A D := by
  obtain ⟨S, P, h⟩ := h
  exact ⟨S, P, h.turns t hd⟩

theorem Rd.below {w' : World} (h : Rd w G r n m f A D) (t : Below w.heap.size w w') : Rd w' G r n m f A D := by
  obtain ⟨S, P, h⟩ := h
  exact ⟨S, P, h.below t⟩

theorem Rd.drewN (h : Rd w G r n m f A D) (k : Nat) : Rd (w.drewN k) G r n m f A D := by
  obtain ⟨S, P, h⟩ := h
  exact ⟨S, P, h.drewN k⟩

theorem Rd.flt (h : Rd w G r n m f A D) : ∀ k, G k → k < w.heap.size := by
  obtain ⟨S, P, h⟩ := h
  exact h.flt

end

/- Rows of one's own: their form, and a cell. -/
theorem ownsRow_form2 {w : World} {base : Nat} {e : TypeId} {size : Nat} {R : Value} {n : Nat} {xs : List Value} (h : w.ownsRow base e size R n xs) :
    ∃ x c, R = .slice x n c ∧ n ≤ c ∧ (x = none → n = 0 ∧ c = 0) ∧ (n = 0 ∨ ∃ g, x = some ⟨g, 0, none⟩ ∧ ∀ i u, xs[i]? = some u → w.cell? ⟨g, i, none⟩ = some u ∧ w.frozen? ⟨g, i, none⟩ = false) := by
  rcases h.2 with ⟨rfl, h0⟩ | ⟨g, cap, cur, hv, h1, h2, h3, h4⟩
  · subst h0
    exact ⟨none, 0, rfl, Nat.le_refl _, fun _ => ⟨rfl, rfl⟩, .inl rfl⟩
  · subst hv
    refine ⟨_, cap, rfl, h3, (fun e => by cases e), .inr ⟨g, rfl, fun i u hi => ?_⟩⟩
    have := h.cells (g := g) rfl i u hi
    rw [add_at, Nat.zero_add] at this
    exact ⟨this, by simp [World.frozen?, h2]⟩

theorem info_str : (Try.prog.info? 9).map (fun i => (i.zero, i.size, i.bytes)) = some (some (.string ByteArray.empty), 1, 16) := by kernel_rfl

theorem info_wri : (Try.prog.info? 66).map (fun i => (i.zero, i.size, i.bytes)) = some (some (.agg #[.int .i64 0, .string ByteArray.empty]), 2, 24) := by kernel_rfl

/- One cell of a row of one's own is written. -/
theorem ownsRow_set {w : World} {e : TypeId} {g n c k : Nat} {v : Nat → Value} (h : w.ownsRow 0 e 1 (.slice (some ⟨g, 0, none⟩) n c) n (rowOf v n)) (hk : k < n) (u : Value) :
    (w.setCell ⟨g, k, none⟩ u).ownsRow 0 e 1 (.slice (some ⟨g, 0, none⟩) n c) n (rowOf (upd v k u) n) := by
  refine ⟨by simp [rowOf_len], ?_⟩
  rcases h.2 with ⟨hv, _⟩ | ⟨g', cap, cur, hv, h1, h2, h3, h4, h5, h6⟩
  · cases hv
  · injection hv with e1 _ e3
    injection e1 with e1
    injection e1 with e1 _ _
    subst e1 e3
    obtain ⟨q1, q2⟩ := Array.getElem?_eq_some_iff.1 h2
    refine .inr ⟨g, c, cur.setIfInBounds k u, rfl, Nat.zero_le _, ?_, h3, h4, by simpa using h5, ?_⟩
    · simp only [World.setCell]
      rw [Array.getElem?_eq_getElem (by simpa using q1), Array.getElem_modify, if_pos rfl, q2]
      simp
    · rw [Nat.mul_one] at h6 ⊢
      rw [← rowOf_set, ← h6, Array.toList_setIfInBounds, List.take_set]

end Go.Proofs.Ytaaeppbkbkfphaa

/-
  Five cells side by side; what the inner partOf of package journal does where the sum is another one.
  Conditions: the sector lies in memory.
-/
import Derived.Test.YthfpljfndnjcnaaJoSmall
import Derived.Laws.ResultCell
namespace Go.Proofs.Ythfpljfndnjcnaa
open Go.RowKit By Dk Su Jo
set_option linter.unusedVariables false
set_option linter.unusedSimpArgs false

def noPart : Value := .agg #[.int .i64 0, .int .u32 0, .int .i64 0, .bool false, .slice none 0 0]

/- Five cells, side by side, of a block. -/
structure Five (w : World) (p : Nat) (a b c d e : Value) : Prop where
  c0 : w.cell? ⟨p, 0, none⟩ = some a
  c1 : w.cell? ⟨p, 1, none⟩ = some b
  c2 : w.cell? ⟨p, 2, none⟩ = some c
  c3 : w.cell? ⟨p, 3, none⟩ = some d
  c4 : w.cell? ⟨p, 4, none⟩ = some e
  f0 : w.frozen? ⟨p, 0, none⟩ = false
  f1 : w.frozen? ⟨p, 1, none⟩ = false
  f2 : w.frozen? ⟨p, 2, none⟩ = false
  f3 : w.frozen? ⟨p, 3, none⟩ = false
  f4 : w.frozen? ⟨p, 4, none⟩ = false

theorem Five.new (w : World) (a b c d e : Value) (t : TypeId) : Five (w.alloc (.cells #[a, b, c, d, e] t)) w.heap.size a b c d e := by
  constructor <;> simp only [World.cell?, World.frozen?, heap_alloc_new] <;> rfl

theorem Five.below {w w' : World} {p B : Nat} {a b c d e : Value} (h : Five w p a b c d e) (hb : Below B w w') (hp : p < B) : Five w' p a b c d e :=
  ⟨(hb.cell (by exact hp)).trans h.c0, (hb.cell (by exact hp)).trans h.c1, (hb.cell (by exact hp)).trans h.c2, (hb.cell (by exact hp)).trans h.c3, (hb.cell (by exact hp)).trans h.c4,
    (hb.frozen (by exact hp)).trans h.f0, (hb.frozen (by exact hp)).trans h.f1, (hb.frozen (by exact hp)).trans h.f2, (hb.frozen (by exact hp)).trans h.f3, (hb.frozen (by exact hp)).trans h.f4⟩

theorem below_part {w w1 : World} (h : Below (w.heap.size + 1) (w.alloc (.cells #[.int .i64 0, .int .u32 0, .int .i64 0, .bool false, .slice none 0 0] 79)) w1) : Below w.heap.size w w1 :=
  ((Below.refl _ _).alloc (Nat.le_refl _) _).trans (h.mono (Nat.le_succ _))

theorem below_five {B p : Nat} {w w1 : World} (h : Below B w w1) (hp : B ≤ p) (v0 v1 v2 v3 v4 : Value) : Below B w (((((w1.setCell ⟨p, 0, none⟩ v0).setCell ⟨p, 1, none⟩ v1).setCell ⟨p, 2, none⟩ v2).setCell ⟨p, 3, none⟩ v3).setCell ⟨p, 4, none⟩ v4) :=
  ((((h.setCell (p := ⟨p, 0, none⟩) hp _).setCell (p := ⟨p, 1, none⟩) hp _).setCell (p := ⟨p, 2, none⟩) hp _).setCell (p := ⟨p, 3, none⟩) hp _).setCell (p := ⟨p, 4, none⟩) hp _

def zPart (w : World) : World := w.alloc (.cells #[.int .i64 0, .int .u32 0, .int .i64 0, .bool false, .slice none 0 0] 79)

theorem zPart_size (w : World) : (zPart w).heap.size = w.heap.size + 1 := by simp [zPart]

theorem partof_sum (b o c : Nat) (s : Nat → Nat) (w : World) (hs : ∀ i, s i < 256) (hc : 64 ≤ c) (h : RowAt w (some ⟨b, o, none⟩) 64 s) (hno : ¬ Ends s 60) :
    Calls Try.prog 44 #[.slice (some ⟨b, o, none⟩) 64 c] w fun e w' => e = .returned (.tuple #[noPart, .bool false]) ∧ Below w.heap.size w w' := by
  have hst : Calls Try.prog 49 #[.slice (some ⟨b, o, none⟩) 64 c] (zPart w) fun e w' => e = .returned (.tuple #[.slice none 0 0, .bool false]) ∧ Hid (Below w.heap.size w w') ∧ Five w' w.heap.size (.int .i64 0) (.int .u32 0) (.int .i64 0) (.bool false) (.slice none 0 0) :=
    (strip_no 64 c b o 60 s (zPart w) hs (by omega) hc rfl (h.below ((Below.refl _ _).alloc (Nat.le_refl _) _)) hno).mono fun e v ⟨h1, h2⟩ => by
      rw [zPart_size] at h2
      exact ⟨h1, below_part h2, (Five.new w _ _ _ _ _ _).below h2 (Nat.lt_succ_self _)⟩
  clear h hno
  unfold zPart at hst
  go_enter Try.func44, Try.ntmps44
  go_wp2_with ((go_at_call 49; refine hst.mono ?_; rintro e w1 ⟨rfl, HB, c0, c1, c2, c3, c4, f0, f1, f2, f3, f4⟩; clear hst))
  refine bodyPost_ret (v := .tuple #[noPart, .bool false]) ?_ rfl ?_
  · rw [results_cell_tmp rfl]; go_simp; rfl
  · exact ⟨rfl, below_five HB.out (Nat.le_refl _) _ _ _ _ _⟩

/- partOf, from the sum on: what lies there is b's bytes (y), the answer's place (P), the part that is made (Q). -/
structure PSt (w wr : World) (y P Q : Nat) (s : Nat → Nat) (g r : Nat) : Prop where
  bel : Below w.heap.size w wr
  row : ∀ i, i < 60 → wr.cell? ⟨y, i, none⟩ = some (.int .u8 (s i : Int))
  res : Five wr P (.int .i64 0) (.int .u32 0) (.int .i64 0) (.bool false) (.slice none 0 0)
  par : Five wr Q (.int .i64 (g : Int)) (.int .u32 (r : Int)) (.int .i64 (s 7 : Int)) (.bool (lst s)) (.slice none 0 0)
  pq : P ≠ Q
  yq : y ≠ Q
  ip : w.heap.size ≤ P
  iq : w.heap.size ≤ Q
  yl : y < wr.heap.size

theorem cell_off {w : World} {a b : Addr} {v : Value} (h : a ≠ b) : (w.setCell a v).cell? b = w.cell? b := World.cell?_setCell_other _ _ _ _ h

theorem Five.other {w : World} {p q k : Nat} {a b c d e v : Value} (h : Five w p a b c d e) (hq : p ≠ q) : Five (w.setCell ⟨q, k, none⟩ v) p a b c d e := by
  have e1 : ∀ j, (w.setCell ⟨q, k, none⟩ v).cell? ⟨p, j, none⟩ = w.cell? ⟨p, j, none⟩ := fun j => cell_off (fun e => by injection e with e _; exact hq e.symm)
  have e2 : ∀ j, (w.setCell ⟨q, k, none⟩ v).frozen? ⟨p, j, none⟩ = w.frozen? ⟨p, j, none⟩ := fun j => by simp
  exact ⟨(e1 0).trans h.c0, (e1 1).trans h.c1, (e1 2).trans h.c2, (e1 3).trans h.c3, (e1 4).trans h.c4, (e2 0).trans h.f0, (e2 1).trans h.f1, (e2 2).trans h.f2, (e2 3).trans h.f3, (e2 4).trans h.f4⟩

theorem cell_same {w : World} {a : Addr} {v u : Value} (h : w.cell? a = some u) : (w.setCell a v).cell? a = some v := by simpa using World.cell?_setCell_same _ _ _ h

theorem off_ne {p j k : Nat} (h : j ≠ k) : (⟨p, j, none⟩ : Addr) ≠ ⟨p, k, none⟩ := fun e => by injection e with _ e _; exact h e

theorem Five.set0 {w : World} {p : Nat} {a b c d e v : Value} (h : Five w p a b c d e) : Five (w.setCell ⟨p, 0, none⟩ v) p v b c d e :=
  ⟨cell_same h.c0, (cell_off (off_ne (by decide))).trans h.c1, (cell_off (off_ne (by decide))).trans h.c2, (cell_off (off_ne (by decide))).trans h.c3, (cell_off (off_ne (by decide))).trans h.c4, by simpa using h.f0, by simpa using h.f1, by simpa using h.f2, by simpa using h.f3, by simpa using h.f4⟩

theorem Five.set1 {w : World} {p : Nat} {a b c d e v : Value} (h : Five w p a b c d e) : Five (w.setCell ⟨p, 1, none⟩ v) p a v c d e :=
  ⟨(cell_off (off_ne (by decide))).trans h.c0, cell_same h.c1, (cell_off (off_ne (by decide))).trans h.c2, (cell_off (off_ne (by decide))).trans h.c3, (cell_off (off_ne (by decide))).trans h.c4, by simpa using h.f0, by simpa using h.f1, by simpa using h.f2, by simpa using h.f3, by simpa using h.f4⟩

theorem Five.drew {w : World} {p : Nat} {a b c d e : Value} (h : Five w p a b c d e) : Five w.drew p a b c d e := ⟨h.c0, h.c1, h.c2, h.c3, h.c4, h.f0, h.f1, h.f2, h.f3, h.f4⟩

section
variable {w wr : World} {y P Q : Nat} {s : Nat → Nat} {g r : Nat}

theorem PSt.drew (h : PSt w wr y P Q s g r) : PSt w wr.drew y P Q s g r := ⟨h.bel.drew, h.row, h.res.drew, h.par.drew, h.pq, h.yq, h.ip, h.iq, h.yl⟩

theorem PSt.setG (h : PSt w wr y P Q s g r) (g' : Nat) : PSt w (wr.setCell ⟨Q, 0, none⟩ (.int .i64 (g' : Int))) y P Q s g' r :=
  ⟨h.bel.setCell (p := ⟨Q, 0, none⟩) h.iq _, fun i hi => (cell_off (fun e => by injection e with e _; exact h.yq e.symm)).trans (h.row i hi), h.res.other h.pq, h.par.set0, h.pq, h.yq, h.ip, h.iq, by simpa [World.setCell] using h.yl⟩

theorem PSt.setR (h : PSt w wr y P Q s g r) (r' : Nat) : PSt w (wr.setCell ⟨Q, 1, none⟩ (.int .u32 (r' : Int))) y P Q s g r' :=
  ⟨h.bel.setCell (p := ⟨Q, 1, none⟩) h.iq _, fun i hi => (cell_off (fun e => by injection e with e _; exact h.yq e.symm)).trans (h.row i hi), h.res.other h.pq, h.par.set1, h.pq, h.yq, h.ip, h.iq, by simpa [World.setCell] using h.yl⟩

end

theorem pst_start {w w1 : World} {y : Nat} {s : Nat → Nat} (h1 : Below w.heap.size w w1) (h2 : ∀ i, i < 60 → w1.cell? ⟨y, i, none⟩ = some (.int .u8 (s i : Int))) (h3 : y < w1.heap.size) (h4 : w.heap.size < w1.heap.size) (h5 : Five w1 w.heap.size (.int .i64 0) (.int .u32 0) (.int .i64 0) (.bool false) (.slice none 0 0)) :
    PSt w (w1.alloc (.cells #[.int .i64 0, .int .u32 0, .int .i64 (s 7 : Int), .bool (lst s), .slice none 0 0] 79)).drew y w.heap.size w1.heap.size s 0 0 := by
  have hb : ∀ ob, Below w1.heap.size w1 (w1.alloc ob).drew := fun ob => ((Below.refl w1.heap.size w1).alloc (Nat.le_refl _) ob).drew
  exact ⟨h1.trans ((hb _).mono h1.size), fun i hi => ((hb _).cell (p := ⟨y, i, none⟩) h3).trans (h2 i hi), h5.below (hb _) h4, (Five.new w1 _ _ _ _ _ _).drew, by omega, by omega, Nat.le_refl _, by omega, by have := (hb (.cells #[.int .i64 0, .int .u32 0, .int .i64 (s 7 : Int), .bool (lst s), .slice none 0 0] 79)).size; omega⟩

def gk (s : Nat → Nat) (k : Nat) : Nat := if k = 0 then 0 else if k = 1 then s 1 else genS s
def rk (s : Nat → Nat) (k : Nat) : Nat := if k = 0 then 0 else if k = 1 then s 3 else if k = 2 then s 3 + 256 * s 4 else if k = 3 then s 3 + 256 * s 4 + 65536 * s 5 else num s

end Go.Proofs.Ythfpljfndnjcnaa

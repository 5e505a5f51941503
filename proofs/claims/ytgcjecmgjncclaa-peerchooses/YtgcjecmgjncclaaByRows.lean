/-
  Lists of bytes in memory: what lies there, as text, copied, and as a law is told of them; bytes.Equal and bytes.Clone.
  Conditions: lists that are looked at lie in memory.
-/
import Derived.Test.YtgcjecmgjncclaaRows
import Derived.WalkKit
import Derived.WalkSpells
import Derived.WalkLawsBesides
import Derived.Laws.Tables
import Derived.Laws.BytesArg
import Derived.Laws.AppendOwn
import Derived.Laws.AppendOwnNone
import Derived.Laws.OwnMore
import Derived.OpenShut
import Derived.SizedLaws
import Derived.Below
import Derived.ShutString
import Derived.Deep.Grids
namespace Go.Proofs.Ytgcjecmgjncclaa.By
open Go.RowKit Go.ChangeShapes Go.WideShapes Go.Deep
set_option linter.unusedVariables false
set_option linter.unusedSimpArgs false
set_option maxRecDepth 100000

def RowAt (w : World) (x : Option Addr) (n : Nat) (f : Nat → Nat) : Prop :=
  n = 0 ∨ ∃ b o, x = some ⟨b, o, none⟩ ∧ b < w.heap.size ∧ ∀ i, i < n → w.cell? ⟨b, o + i, none⟩ = some (.int .u8 (f i : Int))

theorem RowAt.below {w w' : World} {x : Option Addr} {n : Nat} {f : Nat → Nat} (h : RowAt w x n f) (hb : Below w.heap.size w w') : RowAt w' x n f := by
  rcases h with h | ⟨b, o, h1, h2, h3⟩
  · exact .inl h
  · exact .inr ⟨b, o, h1, Nat.lt_of_lt_of_le h2 hb.size, fun i hi => (hb.cell (by exact h2)).trans (h3 i hi)⟩

theorem RowAt.drewN {w : World} {x : Option Addr} {n m : Nat} {f : Nat → Nat} (h : RowAt w x n f) : RowAt (w.drewN m) x n f := h

theorem RowAt.congr {w : World} {x : Option Addr} {n : Nat} {f g : Nat → Nat} (h : RowAt w x n f) (e : ∀ i, i < n → f i = g i) : RowAt w x n g := by
  rcases h with h | ⟨b, o, h1, h2, h3⟩
  · exact .inl h
  · exact .inr ⟨b, o, h1, h2, fun i hi => by rw [← e i hi]; exact h3 i hi⟩

theorem RowAt.take {w : World} {x : Option Addr} {n m : Nat} {f : Nat → Nat} (h : RowAt w x n f) (hm : m ≤ n) : RowAt w x m f := by
  rcases h with h | ⟨b, o, h1, h2, h3⟩
  · exact .inl (by omega)
  · exact .inr ⟨b, o, h1, h2, fun i hi => h3 i (by omega)⟩

theorem below_of_drewN {B m : Nat} {w x : World} (h : Below B (w.drewN m) x) : Below B w x := ⟨h.os, h.tape, h.output, h.size, h.block⟩
theorem below_drewN' {B : Nat} {a w : World} (h : Below B a w) (n : Nat) : Below B a (w.drewN n) := ⟨h.os, h.tape, h.output, h.size, h.block⟩

theorem drewN_more {w wr : World} {n : Nat} (h : ∃ m, wr = w.drewN m) : ∃ m, wr.drewN n = w.drewN m := by
  obtain ⟨m, rfl⟩ := h
  exact ⟨m + n, by rw [World.drewN_drewN]⟩

/- As text. -/
def nums (f : Nat → Nat) (n : Nat) : List Int := (List.range n).map fun i => (f i : Int)

theorem nums_get (f : Nat → Nat) (n i : Nat) (h : i < n) : (nums f n).getD i 0 = (f i : Int) := by
  unfold nums
  simp [h]

theorem str_inj {f g : Nat → Nat} {n m : Nat} (hf : ∀ i, f i < 256) (hg : ∀ i, g i < 256) (h : strOfNums (nums f n) = strOfNums (nums g m)) : n = m ∧ ∀ i, i < n → f i = g i := by
  have h1 : (nums f n).map (fun n => UInt8.ofNat n.toNat) = (nums g m).map (fun n => UInt8.ofNat n.toNat) := by
    rw [← strOfNums_data, ← strOfNums_data, h]
  have hl : n = m := by
    have := congrArg List.length h1
    simpa [nums] using this
  subst hl
  refine ⟨rfl, fun i hi => ?_⟩
  have h2 := congrArg (fun l => l[i]?) h1
  simp only [nums, List.map_map, List.getElem?_map, List.getElem?_range hi, Option.map_some, Function.comp, Int.toNat_natCast] at h2
  injection h2 with h2
  have h3 := congrArg UInt8.toNat h2
  simp only [UInt8.toNat_ofNat'] at h3
  rwa [Nat.mod_eq_of_lt (hf i), Nat.mod_eq_of_lt (hg i)] at h3

theorem toList_inj {S T : ByteArray} (h : S.toList = T.toList) : S = T := by
  rw [ByteArray.toList_eq, ByteArray.toList_eq] at h
  exact Go.WideShapes.bytes_inj h

theorem str_congr {f g : Nat → Nat} {n : Nat} (h : ∀ i, i < n → f i = g i) : strOfNums (nums f n) = strOfNums (nums g n) := by
  have : nums f n = nums g n := List.map_congr_left (fun i hi => by rw [h i (List.mem_range.1 hi)])
  rw [this]

theorem wpList_append_run {P : Program} {w w' : World} {ops : Array Oper} {rest : List Oper} {o : Oper} {a : Act} {Q : Exit → Act → World → Prop} {v' : Value} (hgd : o.guard = none) (s x : Operand) (t : TypeId)
    (ho : o.op = .call { callee := .builtin .append, args := #[s, x], argTypes := #[t, t] }) (v1 v2 : Value) (hs : a.eval s = v1) (hx : a.eval x = v2) (hr : (Builtin.append_ #[t, t] o.type #[v1, v2]).run P w = .ok v' w')
    (h : wpList P ops Q rest (a.put o.dst v') w') : wpList P ops Q (o :: rest) a w := by
  refine wpList_plain hgd fun K hK => ?_
  unfold Oper.wp execOp
  simp only [ho, resolve, invoke, builtin, Sem.run_bind, Sem.run_pure, Result.andThen_ok, List.map_toArray, List.map_cons, List.map_nil, hs, hx, hr]
  exact hK _ _ h

/- A copy in new memory. -/
theorem info_byte : (Try.prog.info? 5).map (fun i => (i.zero, i.size, i.bytes)) = some (some (.int .u8 0), 1, 1) := by kernel_rfl

def bytesOf (f : Nat → Nat) (n : Nat) : List Value := (List.range n).map fun i => Value.int .u8 (f i : Int)

theorem add_at (b o i : Nat) : (⟨b, o, none⟩ : Addr).add i = ⟨b, o + i, none⟩ := by unfold Addr.add; split <;> simp_all

theorem empty_bytes (w : World) : (w.alloc (.cells #[] 5)).ownsRow w.heap.size 5 1 (.slice (some ⟨w.heap.size, 0, none⟩) 0 0) 0 [] :=
  ⟨rfl, .inr ⟨w.heap.size, 0, #[], rfl, Nat.le_refl _, heap_alloc_new _ _, Nat.le_refl _, Nat.zero_le _, rfl, rfl⟩⟩

/- A list that is one's own lies there. -/
theorem own_rowAt {w : World} {base : Nat} {R : Value} {n : Nat} {f : Nat → Nat} (h : w.ownsRow base 5 1 R n (bytesOf f n)) (hn : R ≠ .slice none 0 0) :
    ∃ g c, R = .slice (some ⟨g, 0, none⟩) n c ∧ base ≤ g ∧ g < w.heap.size ∧ n ≤ c ∧ (∀ i, i < n → w.cell? ⟨g, 0 + i, none⟩ = some (.int .u8 (f i : Int))) ∧ RowAt w (some ⟨g, 0, none⟩) n f := by
  rcases h.2 with ⟨hv, _⟩ | ⟨g, c, cur, hv, hg, hh, hc, _⟩
  · exact absurd hv hn
  · subst hv
    have hc2 : ∀ i, i < n → w.cell? ⟨g, 0 + i, none⟩ = some (.int .u8 (f i : Int)) := fun j hj => by
      rw [Nat.zero_add, h.cellAt j (by omega)]
      simp [bytesOf, hj]
    exact ⟨g, c, rfl, hg, (Array.getElem?_eq_some_iff.1 hh).1, hc, hc2, .inr ⟨g, 0, rfl, (Array.getElem?_eq_some_iff.1 hh).1, hc2⟩⟩

/- What a law is told of a list of bytes that came in, with its reach. -/
theorem u8_nat {x : Int} (h : (Lit.int .u8 x).wf = true) : ∃ n : Nat, x = n ∧ n < 256 := by
  have := bounds_u8 h
  exact ⟨x.toNat, by omega, by omega⟩

theorem cell_lt' {w : World} {a : Addr} {v : Value} (h : w.cell? a = some v) : a.block < w.heap.size := by
  by_cases hb : a.block < w.heap.size
  · exact hb
  · unfold World.cell? at h
    simp [Array.getElem?_eq_none (Nat.le_of_not_lt hb)] at h

theorem u8_getD {zs : List Int} (h : ∀ n ∈ zs, (Lit.int .u8 n).wf = true) (i : Nat) : ∃ n : Nat, zs.getD i 0 = n ∧ n < 256 := by
  by_cases hi : i < zs.length
  · have := h zs[i] (List.getElem_mem hi)
    obtain ⟨n, h1, h2⟩ := u8_nat this
    exact ⟨n, by simp [hi, h1], h2⟩
  · exact ⟨0, by simp [Nat.le_of_not_lt hi], by omega⟩

theorem row_at {w : World} {a : Addr} {n : Nat} {zs : List Int} (hz : ∀ n ∈ zs, (Lit.int .u8 n).wf = true) (h : ∀ c, c < n → w.cell? (a.add c) = some (.int .u8 (zs.getD c 0))) :
    RowAt w (some a) n (fun i => (zs.getD i 0).toNat) := by
  by_cases h0 : n = 0
  · exact .inl h0
  · obtain ⟨b, off, spot⟩ := a
    have hspot : spot = none := by simpa [Addr.add] using World.cell?_spot (h 0 (by omega))
    subst hspot
    refine .inr ⟨b, off, rfl, cell_lt' (h 0 (by omega)), fun i hi => ?_⟩
    have := h i hi
    rw [add_at] at this
    obtain ⟨m, h1, h2⟩ := u8_getD hz i
    rw [this]
    show some (Value.int .u8 (zs.getD i 0)) = some (Value.int .u8 (((zs.getD i 0).toNat : Nat) : Int))
    rw [h1]
    rfl

structure BytesIn (w : World) (a : Option Addr) (len cap : Nat) (f : Nat → Nat) : Prop where
  row : RowAt w a len f
  lt : ∀ i, f i < 256
  le : len ≤ cap
  small : cap ≤ 140737488351232
  nil : a = none → len = 0 ∧ cap = 0

section
variable {H : Type} {enc : TypeId × Value → H} {W : World} {base fuel : Nat} {held : Bool} {cs : List Value} {d : DataW H} {p : List MemPlace}

end

end Go.Proofs.Ytgcjecmgjncclaa.By

/-
  2 texts of this proof, one behind the other: ByRows, ByUpto.
-/
import Derived.Test.YtnfflmndejbepaaRows
import Derived.WalkKit
import Derived.WalkSpells
import Derived.WalkLawsBesides
import Derived.Laws.Tables
import Derived.Laws.BytesArg
import Derived.Laws.AppendOwn
import Derived.Laws.AppendOwnNone
import Derived.Laws.OwnMore
import Derived.OpenShut
import Derived.SizedLaws
import Derived.Below
import Derived.ShutString
import Derived.Deep.Grids
/-
  Lists of bytes in memory: what lies there, as text, copied, and as a law is told of them; bytes.Equal and bytes.Clone.
  Conditions: lists that are looked at lie in memory.
-/
namespace Go.Proofs.Ytnfflmndejbepaa.By
open Go.RowKit Go.ChangeShapes Go.WideShapes Go.Deep
set_option linter.unusedVariables false
set_option linter.unusedSimpArgs false
set_option maxRecDepth 100000

def RowAt (w : World) (x : Option Addr) (n : Nat) (f : Nat → Nat) : Prop :=
  n = 0 ∨ ∃ b o, x = some ⟨b, o, none⟩ ∧ b < w.heap.size ∧ ∀ i, i < n → w.cell? ⟨b, o + i, none⟩ = some (.int .u8 (f i : Int))

theorem RowAt.below {w w' : World} {x : Option Addr} {n : Nat} {f : Nat → Nat} (h : RowAt w x n f) (hb : Below w.heap.size w w') : RowAt w' x n f := by
  rcases h with h | ⟨b, o, h1, h2, h3⟩
  · exact .inl h
  · exact .inr ⟨b, o, h1, Nat.lt_of_lt_of_le h2 hb.size, fun i hi => (hb.cell (by exact h2)).trans (h3 i hi)⟩

theorem RowAt.drewN {w : World} {x : Option Addr} {n m : Nat} {f : Nat → Nat} (h : RowAt w x n f) : RowAt (w.drewN m) x n f := h

theorem RowAt.congr {w : World} {x : Option Addr} {n : Nat} {f g : Nat → Nat} (h : RowAt w x n f) (e : ∀ i, i < n → f i = g i) : RowAt w x n g := by
  rcases h with h | ⟨b, o, h1, h2, h3⟩
  · exact .inl h
  · exact .inr ⟨b, o, h1, h2, fun i hi => by rw [← e i hi]; exact h3 i hi⟩

theorem RowAt.take {w : World} {x : Option Addr} {n m : Nat} {f : Nat → Nat} (h : RowAt w x n f) (hm : m ≤ n) : RowAt w x m f := by
  rcases h with h | ⟨b, o, h1, h2, h3⟩
  · exact .inl (by omega)
  · exact .inr ⟨b, o, h1, h2, fun i hi => h3 i (by omega)⟩

theorem below_of_drewN {B m : Nat} {w x : World} (h : Below B (w.drewN m) x) : Below B w x := ⟨h.os, h.tape, h.output, h.size, h.block⟩
theorem below_drewN' {B : Nat} {a w : World} (h : Below B a w) (n : Nat) : Below B a (w.drewN n) := ⟨h.os, h.tape, h.output, h.size, h.block⟩

theorem drewN_more {w wr : World} {n : Nat} (h : ∃ m, wr = w.drewN m) : ∃ m, wr.drewN n = w.drewN m := by
  obtain ⟨m, rfl⟩ := h
  exact ⟨m + n, by rw [World.drewN_drewN]⟩

/- As text. -/
def nums (f : Nat → Nat) (n : Nat) : List Int := (List.range n).map fun i => (f i : Int)

theorem nums_get (f : Nat → Nat) (n i : Nat) (h : i < n) : (nums f n).getD i 0 = (f i : Int) := by
  unfold nums
  simp [h]

theorem conv_row (w : World) (x : Option Addr) (n c : Nat) (f : Nat → Nat) (h : RowAt w x n f) :
    (convert 33 9 (.slice x n c)).run Try.prog w = .ok (.string (strOfNums (nums f n))) w := by
  by_cases h0 : n = 0
  · subst h0
    cases x with
    | none => exact run_convert_bytes_nil w 33 5 Try.underlying33 Try.underlying5 0 c 9 Try.underlying9
    | some a =>
      rw [run_convert_bytes_string w 33 9 5 _ 0 c Try.underlying33 Try.underlying5 Try.underlying9]
      rw [run_bytesToString w a 0 c [] (by rfl)]
      rfl
  · rcases h with h | ⟨b, o, rfl, _, hc⟩
    · exact absurd h h0
    · exact run_convert_bytes_arg w 33 5 Try.underlying33 Try.underlying5 b o n c (nums f n) (by simp [nums]) (fun i hi => by rw [nums_get f n i hi]; exact hc i hi) 9 Try.underlying9

theorem str_inj {f g : Nat → Nat} {n m : Nat} (hf : ∀ i, f i < 256) (hg : ∀ i, g i < 256) (h : strOfNums (nums f n) = strOfNums (nums g m)) : n = m ∧ ∀ i, i < n → f i = g i := by
  have h1 : (nums f n).map (fun n => UInt8.ofNat n.toNat) = (nums g m).map (fun n => UInt8.ofNat n.toNat) := by
    rw [← strOfNums_data, ← strOfNums_data, h]
  have hl : n = m := by
    have := congrArg List.length h1
    simpa [nums] using this
  subst hl
  refine ⟨rfl, fun i hi => ?_⟩
  have h2 := congrArg (fun l => l[i]?) h1
  simp only [nums, List.map_map, List.getElem?_map, List.getElem?_range hi, Option.map_some, Function.comp, Int.toNat_natCast] at h2
  injection h2 with h2
  have h3 := congrArg UInt8.toNat h2
  simp only [UInt8.toNat_ofNat'] at h3
  rwa [Nat.mod_eq_of_lt (hf i), Nat.mod_eq_of_lt (hg i)] at h3

theorem toList_inj {S T : ByteArray} (h : S.toList = T.toList) : S = T := by
  rw [ByteArray.toList_eq, ByteArray.toList_eq] at h
  exact Go.WideShapes.bytes_inj h

theorem str_congr {f g : Nat → Nat} {n : Nat} (h : ∀ i, i < n → f i = g i) : strOfNums (nums f n) = strOfNums (nums g n) := by
  have : nums f n = nums g n := List.map_congr_left (fun i hi => by rw [h i (List.mem_range.1 hi)])
  rw [this]

theorem wpList_append_run {P : Program} {w w' : World} {ops : Array Oper} {rest : List Oper} {o : Oper} {a : Act} {Q : Exit → Act → World → Prop} {v' : Value} (hgd : o.guard = none) (s x : Operand) (t : TypeId)
    (ho : o.op = .call { callee := .builtin .append, args := #[s, x], argTypes := #[t, t] }) (v1 v2 : Value) (hs : a.eval s = v1) (hx : a.eval x = v2) (hr : (Builtin.append_ #[t, t] o.type #[v1, v2]).run P w = .ok v' w')
    (h : wpList P ops Q rest (a.put o.dst v') w') : wpList P ops Q (o :: rest) a w := by
  refine wpList_plain hgd fun K hK => ?_
  unfold Oper.wp execOp
  simp only [ho, resolve, invoke, builtin, Sem.run_bind, Sem.run_pure, Result.andThen_ok, List.map_toArray, List.map_cons, List.map_nil, hs, hx, hr]
  exact hK _ _ h

/- A copy in new memory. -/
theorem info_byte : (Try.prog.info? 5).map (fun i => (i.zero, i.size, i.bytes)) = some (some (.int .u8 0), 1, 1) := by kernel_rfl

def bytesOf (f : Nat → Nat) (n : Nat) : List Value := (List.range n).map fun i => Value.int .u8 (f i : Int)

theorem add_at (b o i : Nat) : (⟨b, o, none⟩ : Addr).add i = ⟨b, o + i, none⟩ := by unfold Addr.add; split <;> simp_all

theorem empty_bytes (w : World) : (w.alloc (.cells #[] 5)).ownsRow w.heap.size 5 1 (.slice (some ⟨w.heap.size, 0, none⟩) 0 0) 0 [] :=
  ⟨rfl, .inr ⟨w.heap.size, 0, #[], rfl, Nat.le_refl _, heap_alloc_new _ _, Nat.le_refl _, Nat.zero_le _, rfl, rfl⟩⟩

/- What is one's own, and a list, behind it. -/
theorem push_row (w w0 : World) (base : Nat) (R : Value) (n : Nat) (f : Nat → Nat) (hown : w.ownsRow base 5 1 R n (bytesOf f n)) (hb : base ≤ w.heap.size) (h0 : Below base w0 w)
    (x : Option Addr) (m c : Nat) (g : Nat → Nat) (hnil : x = none → m = 0 ∧ c = 0) (hg : RowAt w x m g) (hs : n + m ≤ 140737488355328) :
    ∃ R' w', (Builtin.append_ #[33, 33] 33 #[R, .slice x m c]).run Try.prog w = .ok R' w' ∧
      w'.ownsRow base 5 1 R' (n + m) (bytesOf (fun i => if i < n then f i else g (i - n)) (n + m)) ∧ Below base w0 w' ∧ (R' = .slice none 0 0 → R = .slice none 0 0) := by
  obtain ⟨i0, hi, hz0, hz1, hz2⟩ := info_parts info_byte
  have hcat : bytesOf (fun i => if i < n then f i else g (i - n)) (n + m) = bytesOf f n ++ bytesOf g m := by
    unfold bytesOf
    rw [List.range_add, List.map_append, List.map_map]
    congr 1
    · refine List.map_congr_left fun i hi => ?_
      have := List.mem_range.1 hi
      simp [this]
    · refine List.map_congr_left fun i hi => ?_
      simp [show ¬ n + i < n by omega]
  cases x with
  | none =>
    obtain ⟨rfl, rfl⟩ := hnil rfl
    have hrun := run_append_owned_none (P := Try.prog) (w := w) base 33 33 5 i0 1 Try.underlying33 hi R n _ hown
    refine ⟨R, w, hrun, ?_, h0, fun h => h⟩
    rw [hcat]
    simpa [bytesOf] using hown
  | some ad =>
    obtain ⟨v', w', hr, h2, h3, h4⟩ := run_append_own (P := Try.prog) w base 33 33 5 i0 (.int .u8 0) 1 1 Try.underlying33 hi hz0 hz1 hz2 rfl (by decide) R n (bytesOf f n) hown
      ad m c (bytesOf g m) (by simp [bytesOf]) (fun j u hj => by
        have hjm : j < m := by
          have := (List.getElem?_eq_some_iff.1 hj).1
          simpa [bytesOf] using this
        have e : u = .int .u8 (g j : Int) := by simp [bytesOf, hjm] at hj; exact hj.symm
        rcases hg with hg | ⟨b, o, hx, hb, hc⟩
        · omega
        · injection hx with hx
          subst hx
          rw [e, add_at]
          exact hc j hjm) (fun u hu => by
        simp [bytesOf] at hu
        obtain ⟨j, _, rfl⟩ := hu
        rfl) (by unfold maxLen; omega) (by omega) hb
    refine ⟨v', w', hr, by rw [hcat]; exact h2, h0.grown h3 hb (fun k hk => (hown.lt k hk).1), fun h => (h4.1 h).1⟩

/- A list that is one's own lies there. -/
theorem own_rowAt {w : World} {base : Nat} {R : Value} {n : Nat} {f : Nat → Nat} (h : w.ownsRow base 5 1 R n (bytesOf f n)) (hn : R ≠ .slice none 0 0) :
    ∃ g c, R = .slice (some ⟨g, 0, none⟩) n c ∧ base ≤ g ∧ g < w.heap.size ∧ n ≤ c ∧ (∀ i, i < n → w.cell? ⟨g, 0 + i, none⟩ = some (.int .u8 (f i : Int))) ∧ RowAt w (some ⟨g, 0, none⟩) n f := by
  rcases h.2 with ⟨hv, _⟩ | ⟨g, c, cur, hv, hg, hh, hc, _⟩
  · exact absurd hv hn
  · subst hv
    have hc2 : ∀ i, i < n → w.cell? ⟨g, 0 + i, none⟩ = some (.int .u8 (f i : Int)) := fun j hj => by
      rw [Nat.zero_add, h.cellAt j (by omega)]
      simp [bytesOf, hj]
    exact ⟨g, c, rfl, hg, (Array.getElem?_eq_some_iff.1 hh).1, hc, hc2, .inr ⟨g, 0, rfl, (Array.getElem?_eq_some_iff.1 hh).1, hc2⟩⟩

theorem bytes_copy (w : World) (x : Option Addr) (n c : Nat) (f : Nat → Nat) (hl : RowAt w x n f) (hnil : x = none → n = 0 ∧ c = 0) (hn : n ≤ 140737488355328) :
    ∃ g cy w', (Builtin.append_ #[33, 33] 33 #[.slice (some ⟨w.heap.size, 0, none⟩) 0 0, .slice x n c]).run Try.prog (w.alloc (.cells #[] 5)) = .ok (.slice (some ⟨g, 0, none⟩) n cy) w' ∧ Below w.heap.size w w' ∧
      w'.ownsRow w.heap.size 5 1 (.slice (some ⟨g, 0, none⟩) n cy) n (bytesOf f n) ∧ w.heap.size ≤ g ∧ g < w'.heap.size ∧ (∀ j, j < n → w'.cell? ⟨g, 0 + j, none⟩ = some (.int .u8 (f j : Int))) ∧ RowAt w' (some ⟨g, 0, none⟩) n f := by
  have hbel : Below w.heap.size w (w.alloc (.cells #[] 5)) := (Below.refl w.heap.size w).alloc (Nat.le_refl _) _
  obtain ⟨R, w', hr, h2, h3, h4⟩ := push_row (w.alloc (.cells #[] 5)) w w.heap.size (.slice (some ⟨w.heap.size, 0, none⟩) 0 0) 0 f (empty_bytes w) (by simp) hbel x n c f hnil (hl.below hbel) (by omega)
  have hnn : R ≠ .slice none 0 0 := fun h => by have := h4 h; simp at this
  have e : bytesOf (fun i => if i < 0 then f i else f (i - 0)) (0 + n) = bytesOf f n := by
    rw [Nat.zero_add]
    refine List.map_congr_left fun i hi => ?_
    simp
  rw [e, Nat.zero_add] at h2
  obtain ⟨g, cy, rfl, g1, g2, g3, g4, g5⟩ := own_rowAt h2 hnn
  exact ⟨g, cy, w', hr, h3, h2, g1, g2, g4, g5⟩

theorem bequal_any (x y : Option Addr) (n m c1 c2 : Nat) (t : Bool) (f g : Nat → Nat) (w : World) (hf : ∀ i, f i < 256) (hg : ∀ i, g i < 256) (h1 : RowAt w x n f) (h2 : RowAt w y m g) (hy : n = m → (∀ i, i < n → f i = g i) → t = true) (hx : ¬ (n = m ∧ ∀ i, i < n → f i = g i) → t = false) :
    Calls Try.prog 86 #[.slice x n c1, .slice y m c2] w fun e w' => e = .returned (.bool t) ∧ w' = w := by
  have v1 := conv_row w x n c1 f h1
  have v2 := conv_row w y m c2 g h2
  have ht : ((strOfNums (nums f n)).toList == (strOfNums (nums g m)).toList) = t := by
    by_cases e : n = m ∧ ∀ i, i < n → f i = g i
    · rw [hy e.1 e.2]
      obtain ⟨rfl, e⟩ := e
      rw [str_congr e]
      simp
    · rw [hx e]
      have hne : (strOfNums (nums f n)).toList ≠ (strOfNums (nums g m)).toList := fun h => e (str_inj hf hg (toList_inj h))
      simpa using hne
  generalize strOfNums (nums f n) = S at v1 ht
  generalize strOfNums (nums g m) = S' at v2 ht
  clear h1 h2 hy hx
  go_enter Try.func86, Try.ntmps86
  go_wp2_with fail
  go_ret
  exact ⟨by rw [← ht]; rfl, rfl⟩

theorem clone_nil (w : World) : Calls Try.prog 69 #[.slice none 0 0] w fun e w' => e = .returned (.slice none 0 0) ∧ w' = w := by
  have he : ∀ w : World, (binOp .eql 33 (.slice none 0 0) (.slice none 0 0)).run Try.prog w = .ok (.bool true) w := fun _ => by kernel_rfl
  go_enter Try.func69, Try.ntmps69
  go_wp2_with fail
  go_ret
  exact ⟨rfl, rfl⟩

theorem clone_strong (ad : Addr) (n c : Nat) (f : Nat → Nat) (w : World) (hl : RowAt w (some ad) n f) (hn : n ≤ 140737488355328) :
    Calls Try.prog 69 #[.slice (some ad) n c] w fun e w' => ∃ g cy, e = .returned (.slice (some ⟨g, 0, none⟩) n cy) ∧ Below w.heap.size w w' ∧ RowAt w' (some ⟨g, 0, none⟩) n f ∧ n ≤ cy ∧ w.heap.size ≤ g ∧ g < w'.heap.size := by
  obtain ⟨g, cy, w', hrun, h1, h0, h2, h3, h4, h5⟩ := bytes_copy w (some ad) n c f hl (fun h => by cases h) hn
  have hcy : n ≤ cy := by
    obtain ⟨g', c', e, _, _, h6, _⟩ := own_rowAt h0 (fun h => by cases h)
    injection e with _ _ e
    omega
  clear hl h0
  have H1 : Hid (Below w.heap.size w w' ∧ RowAt w' (some ⟨g, 0, none⟩) n f ∧ n ≤ cy ∧ w.heap.size ≤ g ∧ g < w'.heap.size) := ⟨h1, h5, hcy, h2, h3⟩
  have he : ∀ w : World, (binOp .eql 33 (.slice (some ad) n c) (.slice none 0 0)).run Try.prog w = .ok (.bool false) w := fun _ => by kernel_rfl
  clear h1 h2 h3 h4 h5 hcy
  go_enter Try.func69, Try.ntmps69
  go_wp2_with (at_builtin; refine wpList_append_run rfl _ _ 33 rfl _ _ rfl rfl hrun ?_; clear hrun)
  go_ret
  exact ⟨g, cy, rfl, H1.out⟩

theorem clone_some (ad : Addr) (n c : Nat) (f : Nat → Nat) (w : World) (hl : RowAt w (some ad) n f) (hn : n ≤ 140737488355328) :
    Calls Try.prog 69 #[.slice (some ad) n c] w fun e w' => ∃ g cy, e = .returned (.slice (some ⟨g, 0, none⟩) n cy) ∧ Below w.heap.size w w' ∧ RowAt w' (some ⟨g, 0, none⟩) n f :=
  (clone_strong ad n c f w hl hn).mono fun e w' ⟨g, cy, h1, h2, h3, _⟩ => ⟨g, cy, h1, h2, h3⟩

theorem clone_full (x : Option Addr) (n c : Nat) (f : Nat → Nat) (w : World) (hl : RowAt w x n f) (hn : n ≤ 140737488355328) (hnil : x = none → n = 0 ∧ c = 0) :
    Calls Try.prog 69 #[.slice x n c] w fun e w' => ∃ y cy, e = .returned (.slice y n cy) ∧ Below w.heap.size w w' ∧ RowAt w' y n f ∧ n ≤ cy ∧ (y = none → n = 0 ∧ cy = 0) ∧ ∀ ad, y = some ad → w.heap.size ≤ ad.block ∧ ad.block < w'.heap.size := by
  cases x with
  | none =>
    obtain ⟨rfl, rfl⟩ := hnil rfl
    exact (clone_nil w).mono fun e w' h => ⟨none, 0, h.1, by rw [h.2]; exact Below.refl _ _, .inl rfl, Nat.le_refl _, fun _ => ⟨rfl, rfl⟩, fun ad h => by cases h⟩
  | some ad => exact (clone_strong ad n c f w hl hn).mono fun e w' ⟨g, cy, h1, h2, h3, h4, h5, h6⟩ => ⟨_, cy, h1, h2, h3, h4, (fun h => by cases h), (fun a h => by cases h; exact ⟨h5, h6⟩)⟩

theorem clone_any (x : Option Addr) (n c : Nat) (f : Nat → Nat) (w : World) (hl : RowAt w x n f) (hn : n ≤ 140737488355328) (hnil : x = none → n = 0 ∧ c = 0) :
    Calls Try.prog 69 #[.slice x n c] w fun e w' => ∃ y cy, e = .returned (.slice y n cy) ∧ Below w.heap.size w w' ∧ RowAt w' y n f := by
  cases x with
  | none =>
    obtain ⟨rfl, rfl⟩ := hnil rfl
    exact (clone_nil w).mono fun e w' h => ⟨none, 0, h.1, by rw [h.2]; exact Below.refl _ _, .inl rfl⟩
  | some ad => exact (clone_some ad n c f w hl hn).mono fun e w' ⟨g, cy, h1, h2, h3⟩ => ⟨_, cy, h1, h2, h3⟩

/- What a law is told of a list of bytes that came in, with its reach. -/
theorem u8_nat {x : Int} (h : (Lit.int .u8 x).wf = true) : ∃ n : Nat, x = n ∧ n < 256 := by
  have := bounds_u8 h
  exact ⟨x.toNat, by omega, by omega⟩

theorem cell_lt' {w : World} {a : Addr} {v : Value} (h : w.cell? a = some v) : a.block < w.heap.size := by
  by_cases hb : a.block < w.heap.size
  · exact hb
  · unfold World.cell? at h
    simp [Array.getElem?_eq_none (Nat.le_of_not_lt hb)] at h

theorem u8_getD {zs : List Int} (h : ∀ n ∈ zs, (Lit.int .u8 n).wf = true) (i : Nat) : ∃ n : Nat, zs.getD i 0 = n ∧ n < 256 := by
  by_cases hi : i < zs.length
  · have := h zs[i] (List.getElem_mem hi)
    obtain ⟨n, h1, h2⟩ := u8_nat this
    exact ⟨n, by simp [hi, h1], h2⟩
  · exact ⟨0, by simp [Nat.le_of_not_lt hi], by omega⟩

theorem row_at {w : World} {a : Addr} {n : Nat} {zs : List Int} (hz : ∀ n ∈ zs, (Lit.int .u8 n).wf = true) (h : ∀ c, c < n → w.cell? (a.add c) = some (.int .u8 (zs.getD c 0))) :
    RowAt w (some a) n (fun i => (zs.getD i 0).toNat) := by
  by_cases h0 : n = 0
  · exact .inl h0
  · obtain ⟨b, off, spot⟩ := a
    have hspot : spot = none := by simpa [Addr.add] using World.cell?_spot (h 0 (by omega))
    subst hspot
    refine .inr ⟨b, off, rfl, cell_lt' (h 0 (by omega)), fun i hi => ?_⟩
    have := h i hi
    rw [add_at] at this
    obtain ⟨m, h1, h2⟩ := u8_getD hz i
    rw [this]
    show some (Value.int .u8 (zs.getD i 0)) = some (Value.int .u8 (((zs.getD i 0).toNat : Nat) : Int))
    rw [h1]
    rfl

structure BytesIn (w : World) (a : Option Addr) (len cap : Nat) (f : Nat → Nat) : Prop where
  row : RowAt w a len f
  lt : ∀ i, f i < 256
  le : len ≤ cap
  small : cap ≤ 140737488351232
  nil : a = none → len = 0 ∧ cap = 0

section
variable {H : Type} {enc : TypeId × Value → H} {W : World} {base fuel : Nat} {held : Bool} {cs : List Value} {d : DataW H} {p : List MemPlace}

theorem bytes_in (hf : DataW.trod enc Try.prog W base (fun _ => true) held fuel 33 cs = some (d, p)) (hw : ∀ x ∈ d.weights Try.prog 33, x ≤ reachBytes) :
    ∃ a len cap f, cs = [.slice a len cap] ∧ BytesIn W a len cap f := by
  rcases open_ints Try.underlying33 Try.underlying5 (by kernel_rfl) hf with ⟨hcs, _⟩ | ⟨x, len, cap, zs, hcs, _, hl, hm, hz, hx, hcell, hwz⟩
  · exact ⟨none, 0, 0, fun _ => 0, hcs, .inl rfl, fun _ => Nat.zero_lt_succ _, Nat.le_refl _, by omega, fun _ => ⟨rfl, rfl⟩⟩
  · simp only [if_true] at hz
    simp only [Prod.mk.injEq] at hx
    have hd := hx.1
    subst hd
    have hb1 : Try.prog.bytesOf 5 = 1 := by kernel_rfl
    simp only [DataW.weights, Try.underlying33, List.mem_cons, hb1] at hw
    have hw0 := hw _ (.inl rfl)
    simp only [lits, List.length_map, List.length_take, List.length_drop, reachBytes] at hw0
    refine ⟨some x, len, cap, _, hcs, row_at hwz (fun c hc => hcell c (by omega)), fun i => ?_, hl, by omega, fun h => by cases h⟩
    obtain ⟨n, h1, h2⟩ := u8_getD hwz i
    omega

end

end Go.Proofs.Ytnfflmndejbepaa.By

/-
  What a law's second form is told of a list of bytes that came in: the bound of the bulk is one of its length.
  Conditions: none.
-/
namespace Go.Proofs.Ytnfflmndejbepaa.By
open Go.RowKit Go.ChangeShapes Go.WideShapes Go.Deep
set_option linter.unusedVariables false

theorem bulk_each {H : Type} : ∀ l : List (DataW H), l.length ≤ Rows.uptoBulkAll l
  | [] => Nat.zero_le _
  | d :: l => by
    have h := bulk_each l
    have h1 : 1 ≤ Rows.uptoBulk d := by
      cases d with
      | lit x => cases x <;> simp [Rows.uptoBulk]
      | _ => simp [Rows.uptoBulk]
    simp only [Rows.uptoBulkAll, List.length_cons]
    omega

section
variable {H : Type} {enc : TypeId × Value → H} {W : World} {base fuel : Nat} {held : Bool} {cs : List Value} {d : DataW H} {p : List MemPlace}

theorem bytes_in_upto (hf : DataW.trod enc Try.prog W base (fun _ => true) held fuel 33 cs = some (d, p)) (hw : Rows.uptoBulk d ≤ 1048576) :
    ∃ a len cap f, cs = [.slice a len cap] ∧ BytesIn W a len cap f ∧ len ≤ 1048576 := by
  rcases open_ints Try.underlying33 Try.underlying5 (by kernel_rfl) hf with ⟨hcs, _⟩ | ⟨x, len, cap, zs, hcs, _, hl, hm, hz, hx, hcell, hwz⟩
  · exact ⟨none, 0, 0, fun _ => 0, hcs, ⟨.inl rfl, fun _ => Nat.zero_lt_succ _, Nat.le_refl _, by omega, fun _ => ⟨rfl, rfl⟩⟩, by omega⟩
  · simp only [if_true] at hz
    simp only [Prod.mk.injEq] at hx
    have hd := hx.1
    subst hd
    simp only [Rows.uptoBulk] at hw
    have h1 := bulk_each (H := H) (lits .u8 (zs.take len))
    have h2 := bulk_each (H := H) (lits .u8 (zs.drop len))
    simp only [lits, List.length_map, List.length_take, List.length_drop] at h1 h2 hw
    have hcap : cap ≤ 1048576 := by omega
    refine ⟨some x, len, cap, _, hcs, ⟨row_at hwz (fun c hc => hcell c (by omega)), fun i => ?_, hl, by omega, fun h => by cases h⟩, by omega⟩
    obtain ⟨n, h1, h2⟩ := u8_getD hwz i
    omega

end

end Go.Proofs.Ytnfflmndejbepaa.By

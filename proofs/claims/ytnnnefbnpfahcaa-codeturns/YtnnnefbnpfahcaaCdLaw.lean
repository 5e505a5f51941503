/-
  What a law is told of lists of lists of bytes, of a list of bytes and of a struct Lost that came in, with their reach.
  Conditions: none.
-/
import Derived.Test.YtnnnefbnpfahcaaCdAwake
import Derived.Deep.Grids
import Derived.SizedLaws
namespace Go.Proofs.Ytnnnefbnpfahcaa
open Go.RowKit Gf Go.ChangeShapes Go.WideShapes Go.Deep
set_option linter.unusedVariables false

theorem mem_weightsAll {H : Type} {P : Program} {e : TypeId} {d : DataW H} {n : Nat} (hn : n ∈ d.weights P e) : ∀ {ds : List (DataW H)}, d ∈ ds → n ∈ DataW.weightsAll P e ds
  | d0 :: ds, h => by
    simp only [DataW.weightsAll, List.mem_append]
    rcases List.mem_cons.1 h with h | h
    · subst h; exact .inl hn
    · exact .inr (mem_weightsAll hn h)

structure GridIn (w : World) (a : Option Addr) (len cap : Nat) (A : Nat → Option Addr) (L C : Nat → Nat) (f : Nat → Nat → Nat) : Prop where
  grid : IsGrid w a len A L C f
  row : ∀ r, r < len → L r ≤ 140737488351232
  le : len ≤ cap
  small : len ≤ 5864062014634
  nil : a = none → len = 0 ∧ cap = 0

structure BytesIn (w : World) (a : Option Addr) (len cap : Nat) (f : Nat → Nat) : Prop where
  row : RowAt w a len f
  lt : ∀ i, f i < 256
  le : len ≤ cap
  small : len ≤ 140737488351232
  nil : a = none → len = 0 ∧ cap = 0

structure BoolsIn (w : World) (a : Option Addr) (len cap : Nat) (h : Nat → Bool) : Prop where
  row : BoolsAt w a len h
  le : len ≤ cap
  small : len ≤ 140737488351232
  nil : a = none → len = 0 ∧ cap = 0

section
variable {H : Type} {enc : TypeId × Value → H} {W : World} {base fuel : Nat} {held : Bool} {cs : List Value} {d : DataW H} {p : List MemPlace}

theorem grid_in (hf : DataW.trod enc Try.prog W base (fun _ => true) held fuel 22 cs = some (d, p)) (hw : ∀ x ∈ d.weights Try.prog 22, x ≤ reachBytes) :
    ∃ a len cap A L C f, cs = [.slice a len cap] ∧ GridIn W a len cap A L C f := by
  rcases open_int_rows Try.underlying22 Try.underlying34 Try.underlying5 (by kernel_rfl) (by kernel_rfl) hf with ⟨hcs, _⟩ | ⟨x, len, cap, A, L, C, Z, hcs, _, hl, hm, hx, hr⟩
  · exact ⟨none, 0, 0, fun _ => none, fun _ => 0, fun _ => 0, fun _ _ => 0, hcs, ⟨.inl rfl, fun r hr => by omega, fun _ _ => Nat.zero_lt_succ _⟩, fun r hr => by omega, Nat.le_refl _, by omega, fun _ => ⟨rfl, rfl⟩⟩
  · simp only [Prod.mk.injEq] at hx
    have hd := hx.1
    subst hd
    have hb24 : Try.prog.bytesOf 34 = 24 := by kernel_rfl
    have hb1 : Try.prog.bytesOf 5 = 1 := by kernel_rfl
    simp only [DataW.weights, Try.underlying22, List.mem_cons, List.mem_append, hb24] at hw
    have hw0 := hw _ (.inl rfl)
    simp only [List.length_map, List.length_range, reachBytes] at hw0
    have hrow : ∀ r, r < len → C r ≤ 140737488351232 := fun r hrl => by
      obtain ⟨_, h1, h2, h3, h4, h5, h6⟩ := hr r (by omega)
      cases e : A r with
      | none => rw [h5 e]; omega
      | some a' =>
        have h9 := hw (C r) (.inr (.inl (mem_weightsAll (d := intRow .u8 (A r) (L r) (Z r)) (by
          rw [e]
          simp only [intRow, DataW.weights, Try.underlying34, List.mem_cons, hb1]
          left
          simp only [lits, List.length_map, List.length_take, List.length_drop, h3]
          omega) (List.mem_map.2 ⟨r, List.mem_range.2 hrl, rfl⟩))))
        simpa [reachBytes] using h9
    refine ⟨some x, len, cap, A, L, C, fun r i => if r < cap then ((Z r).getD i 0).toNat else 0, hcs, ⟨?_, fun r hlt => ?_, fun r j => ?_⟩, fun r hrl => Nat.le_trans (hr r (by omega)).2.1 (hrow r hrl), hl, by omega, fun h => by cases h⟩
    · by_cases h0 : len = 0
      · exact .inl h0
      · obtain ⟨b, off, spot⟩ := x
        have hspot : spot = none := by simpa [Addr.add] using World.cell?_spot (hr 0 (by omega)).1
        subst hspot
        refine .inr ⟨b, off, rfl, cell_lt' (hr 0 (by omega)).1, fun r hlt => ?_⟩
        have := (hr r (by omega)).1
        rwa [add_at] at this
    · obtain ⟨_, h1, h2, h3, h4, h5, h6⟩ := hr r (by omega)
      cases e : A r with
      | none => exact .inl (by have := h5 e; omega)
      | some a' =>
        have := row_at (w := W) (a := a') (n := L r) h4 (fun c hc => (h6 a' e).2 c (by omega))
        simpa [show r < cap by omega] using this
    · by_cases e : r < cap
      · obtain ⟨n, h1, h2⟩ := u8_getD (hr r e).2.2.2.2.1 j
        simp only [e, if_true]
        omega
      · simp [e]

theorem bytes_in (hf : DataW.trod enc Try.prog W base (fun _ => true) held fuel 34 cs = some (d, p)) (hw : ∀ x ∈ d.weights Try.prog 34, x ≤ reachBytes) :
    ∃ a len cap f, cs = [.slice a len cap] ∧ BytesIn W a len cap f := by
  rcases open_ints Try.underlying34 Try.underlying5 (by kernel_rfl) hf with ⟨hcs, _⟩ | ⟨x, len, cap, zs, hcs, _, hl, hm, hz, hx, hcell, hwz⟩
  · exact ⟨none, 0, 0, fun _ => 0, hcs, .inl rfl, fun _ => Nat.zero_lt_succ _, Nat.le_refl _, by omega, fun _ => ⟨rfl, rfl⟩⟩
  · simp only [if_true] at hz
    simp only [Prod.mk.injEq] at hx
    have hd := hx.1
    subst hd
    have hb1 : Try.prog.bytesOf 5 = 1 := by kernel_rfl
    simp only [DataW.weights, Try.underlying34, List.mem_cons, hb1] at hw
    have hw0 := hw _ (.inl rfl)
    simp only [lits, List.length_map, List.length_take, List.length_drop, reachBytes] at hw0
    refine ⟨some x, len, cap, _, hcs, row_at hwz (fun c hc => hcell c (by omega)), fun i => ?_, hl, by omega, fun h => by cases h⟩
    obtain ⟨n, h1, h2⟩ := u8_getD hwz i
    omega

theorem bools_in (hf : DataW.trod enc Try.prog W base (fun _ => true) held fuel 31 cs = some (d, p)) (hw : ∀ x ∈ d.weights Try.prog 31, x ≤ reachBytes) :
    ∃ a len cap h, cs = [.slice a len cap] ∧ BoolsIn W a len cap h := by
  rcases open_bools Try.underlying31 Try.underlying4 (by kernel_rfl) hf with ⟨hcs, _⟩ | ⟨x, len, cap, B, hcs, _, hl, hm, hx, hcell⟩
  · exact ⟨none, 0, 0, fun _ => false, hcs, .inl rfl, Nat.le_refl _, by omega, fun _ => ⟨rfl, rfl⟩⟩
  · simp only [Prod.mk.injEq] at hx
    have hd := hx.1
    subst hd
    have hb1 : Try.prog.bytesOf 4 = 1 := by kernel_rfl
    simp only [boolRow, DataW.weights, Try.underlying31, List.mem_cons, hb1] at hw
    have hw0 := hw _ (.inl rfl)
    simp only [List.length_map, List.length_range, reachBytes] at hw0
    refine ⟨some x, len, cap, B, hcs, ?_, hl, by omega, fun h => by cases h⟩
    by_cases h0 : len = 0
    · exact .inl h0
    · obtain ⟨b, off, spot⟩ := x
      have hspot : spot = none := by simpa [Addr.add] using World.cell?_spot (hcell 0 (by omega))
      subst hspot
      refine .inr ⟨b, off, rfl, cell_lt' (hcell 0 (by omega)), fun i hi => ?_⟩
      have := hcell i (by omega)
      rwa [add_at] at this

end

structure LostIn (w : World) (K M : Int) (a : Option Addr) (len cap : Nat) (y : Option Addr) (p c : Nat) (A : Nat → Option Addr) (L C : Nat → Nat) (f : Nat → Nat → Nat) (h : Nat → Bool) : Prop where
  k : (Lit.int .i64 K).wf = true
  m : (Lit.int .i64 M).wf = true
  data : GridIn w a len cap A L C f
  have_ : BoolsIn w y p c h

section
variable {H : Type} {enc : TypeId × Value → H} {W : World} {base : Nat} {held : Bool} {v : Value} {d : DataW H} {p : List MemPlace}

theorem lost_in (hv : ∃ cs, v = .agg cs ∧ cs.size = Try.prog.cellsOf 33) (h : DataW.Trod enc Try.prog W base (fun _ => true) held 33 v d p) (hw : ∀ x ∈ d.weights Try.prog 33, x ≤ reachBytes) :
    ∃ K M a len cap y q c A L C f g, v = .agg #[.int .i64 K, .int .i64 M, .slice a len cap, .slice y q c] ∧ LostIn W K M a len cap y q c A L C f g := by
  obtain ⟨cs, rfl, hcs⟩ := hv
  obtain ⟨fuel, hf⟩ := h
  have h4 : Try.prog.cellsOf 33 = 4 := by kernel_rfl
  have c3 : Try.prog.cellsOf 3 = 1 := by kernel_rfl
  have c22 : Try.prog.cellsOf 22 = 1 := by kernel_rfl
  have c31 : Try.prog.cellsOf 31 = 1 := by kernel_rfl
  rw [h4] at hcs
  obtain ⟨xs, n, _, hx, _, hxl, hF⟩ := DataW.trod_struct Try.underlying33 hf
  simp only [Prod.mk.injEq] at hx
  obtain ⟨hd, _⟩ := hx
  subst hd
  obtain ⟨x0, x1, x2, x3, rfl⟩ : ∃ x0 x1 x2 x3, xs = [x0, x1, x2, x3] := by
    match xs, hxl with
    | [x0, x1, x2, x3], _ => exact ⟨x0, x1, x2, x3, rfl⟩
  obtain ⟨e0, e1, e2, e3, rfl⟩ : ∃ e0 e1 e2 e3, cs = #[e0, e1, e2, e3] := by
    obtain ⟨l⟩ := cs
    match l, hcs with
    | [e0, e1, e2, e3], _ => exact ⟨e0, e1, e2, e3, rfl⟩
  have f0' : DataW.trod enc Try.prog W base (fun _ => true) held n 3 (([e0, e1, e2, e3].drop 0).take (Try.prog.cellsOf 3)) = some x0 := hF 0 _ rfl
  rw [c3] at f0'
  have f0 : DataW.trod enc Try.prog W base (fun _ => true) held n 3 [e0] = some x0 := f0'
  have f1' : DataW.trod enc Try.prog W base (fun _ => true) held n 3 (([e0, e1, e2, e3].drop 1).take (Try.prog.cellsOf 3)) = some x1 := hF 1 _ rfl
  rw [c3] at f1'
  have f1 : DataW.trod enc Try.prog W base (fun _ => true) held n 3 [e1] = some x1 := f1'
  have f2' : DataW.trod enc Try.prog W base (fun _ => true) held n 22 (([e0, e1, e2, e3].drop 2).take (Try.prog.cellsOf 22)) = some x2 := hF 2 _ rfl
  rw [c22] at f2'
  have f2 : DataW.trod enc Try.prog W base (fun _ => true) held n 22 [e2] = some x2 := f2'
  have f3' : DataW.trod enc Try.prog W base (fun _ => true) held n 31 (([e0, e1, e2, e3].drop 3).take (Try.prog.cellsOf 31)) = some x3 := hF 3 _ rfl
  rw [c31] at f3'
  have f3 : DataW.trod enc Try.prog W base (fun _ => true) held n 31 [e3] = some x3 := f3'
  obtain ⟨K, k1, _, k3⟩ := DataW.trod_int Try.underlying3 f0
  obtain ⟨M, m1, _, m3⟩ := DataW.trod_int Try.underlying3 f1
  simp only [DataW.weights, Try.underlying33] at hw
  obtain ⟨a, len, cap, A, L, C, f, g1, g2⟩ := grid_in (d := x2.1) (p := x2.2) f2 (fun x hx => hw x (DataW.weights_mem_each (j := 2) (t := 22) rfl rfl x hx))
  obtain ⟨y, q, c, g, b1, b2⟩ := bools_in (d := x3.1) (p := x3.2) f3 (fun x hx => hw x (DataW.weights_mem_each (j := 3) (t := 31) rfl rfl x hx))
  refine ⟨K, M, a, len, cap, y, q, c, A, L, C, f, g, ?_, k3, m3, g2, b2⟩
  simp at k1 m1 g1 b1
  rw [k1, m1, g1, b1]

end

end Go.Proofs.Ytnnnefbnpfahcaa

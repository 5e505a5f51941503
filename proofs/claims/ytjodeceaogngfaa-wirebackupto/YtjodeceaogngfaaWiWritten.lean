/-
  What 'written' of the statements does: each kind of item lets just its bytes follow, and the document tells them.
  Conditions: bytes that are looked at lie in memory.
-/
import Derived.Test.YtjodeceaogngfaaWiPut
import Derived.Deep.RegionHeld3
namespace Go.Proofs.Ytjodeceaogngfaa
open Go.RowKit Wi By
set_option linter.unusedVariables false
set_option linter.unusedSimpArgs false
set_option maxRecDepth 100000

/- A number without sign, taken as one with sign. -/
def sg (N : Nat) : Int := if N < 9223372036854775808 then (N : Int) else (N : Int) - 18446744073709551616

theorem sg_bound {N : Nat} (h : N < 18446744073709551616) : -9223372036854775808 ≤ sg N ∧ sg N ≤ 9223372036854775807 := by
  unfold sg
  split <;> omega

theorem sg_wrap {N : Nat} (h : N < 18446744073709551616) : IntKind.i64.wrap (N : Int) = sg N := by
  rw [IntKind.wrap_i64]
  unfold sg
  split <;> omega

/- The bytes of an item. -/
def enI (D : Int) (N : Nat) (k : List Nat) : List Nat :=
  if D = 0 then uv N else if D = 1 then uv (zz (sg N)) else if D = 2 then fx (N % 4294967296) 4 else if D = 3 then fx N 8 else if D = 6 then uv k.length ++ k else []

def IsSl (w : World) (v : Value) (l : List Nat) : Prop := ∃ x c, v = .slice x l.length c ∧ Sl w x l.length c l

theorem IsSl.of_own {w : World} {base : Nat} {v : Value} {l : List Nat} (h : OwnL w base v l) (hl : ∀ u ∈ l, u < 256) : IsSl w v l := by
  obtain ⟨x, c, h1, h2, _⟩ := h.sl hl
  exact ⟨x, c, h1, h2⟩

theorem IsSl.below {w w' : World} {v : Value} {l : List Nat} (h : IsSl w v l) (b : Below w.heap.size w w') : IsSl w' v l := by
  obtain ⟨x, c, h1, h2⟩ := h
  exact ⟨x, c, h1, h2.below b⟩

/- A list lies where another one does, or in new memory. -/
def Where (x : Option Addr) (w w' : World) (v : Value) : Prop := ∀ g, v.ownBlock = some g → (∃ a, x = some a ∧ a.block = g) ∨ (w.heap.size ≤ g ∧ g < w'.heap.size)

theorem Where.of_own {x : Option Addr} {w w2 w3 : World} {base : Nat} {v : Value} {l : List Nat} (h : OwnL w2 base v l) (hb : w.heap.size ≤ base) (hs : w2.heap.size ≤ w3.heap.size) : Where x w w3 v := fun g hg => by
  obtain ⟨h1, h2⟩ := World.ownsRow.lt h g hg
  exact .inr ⟨Nat.le_trans hb h1, Nat.lt_of_lt_of_le h2 hs⟩

theorem lt_append {l k : List Nat} (hl : ∀ u ∈ l, u < 256) (hk : ∀ u ∈ k, u < 256) : ∀ u ∈ l ++ k, u < 256 := fun u hu => by
  rcases List.mem_append.1 hu with h | h
  · exact hl u h
  · exact hk u h

theorem below_drew2 {B : Nat} {a w : World} (h : Below B a w) : Below B a w.drew := ⟨h.os, h.tape, h.output, h.size, h.block⟩

/- An append that comes up alone in a region that draws its order. -/
theorem ready_append2 {P : Program} {w w' : World} {ops : Array Oper} {o : Oper} {a : Act} {K : Act → World → Prop} {Q : Exit → Act → World → Prop} {v' : Value} (hg : Region.wanted o (yielded ops a.tmps) = true) (s x : Operand) (t : TypeId)
    (ho : o.op = .call { callee := .builtin .append, args := #[s, x], argTypes := #[t, t] }) (v1 v2 : Value) (hs : a.eval s = v1) (hx : a.eval x = v2) (hr : (Builtin.append_ #[t, t] o.type #[v1, v2]).run P w = .ok v' w')
    (h : K (a.put o.dst v') w') : if Region.wanted o (yielded ops a.tmps) = true then Oper.wp P o a w K Q else K (a.put o.dst undef) w := by
  rw [if_pos hg]
  unfold Oper.wp execOp
  simp only [ho, resolve, invoke, builtin, Sem.run_bind, Sem.run_pure, Result.andThen_ok, List.map_toArray, List.map_cons, List.map_nil, hs, hx, hr]
  exact h

set_option maxHeartbeats 2000000 in
set_option maxRecDepth 100000 in
theorem written_uv (n c m d N : Nat) (x y : Option Addr) (l k : List Nat) (M : Int) (w : World) (hl : Sl w x n c l) (hk : Sl w y m d k) (hN : N < 18446744073709551616) (hs : n + m ≤ 140737488340000) :
    Calls Try.prog 8 #[.slice x n c, .agg #[.int .i64 0, .int .u64 N, .slice y m d, .int .i64 M]] w fun ed w' => ∃ v1 v2, ed = .returned (.tuple #[v1, v2]) ∧ IsSl w' v1 (l ++ enI 0 N k) ∧ IsSl w' v2 (enI 0 N k) ∧ Below w.heap.size w w' ∧ Where x w w' v1 := by
  obtain ⟨w1, hw1⟩ : ∃ w1, w1 = w.alloc (.cells #[.int .i64 0, .int .u64 N, .slice y m d, .int .i64 M] 28) := ⟨_, rfl⟩
  have hb0 : Below w.heap.size w w1 := by rw [hw1]; exact (Below.refl _ _).alloc (Nat.le_refl _) _
  have hbd : Below w.heap.size w w1.drew := below_drew2 hb0
  have hc1 : w1.cell? ⟨w.heap.size, 1, none⟩ = some (.int .u64 (N : Int)) := by rw [hw1]; simp
  have hgw : w.heap.size < w1.heap.size := cell_lt' hc1
  have hS2 : ∀ v, Below w1.drew.heap.size w1.drew v → v.cell? ⟨w.heap.size, 1, none⟩ = some (.int .u64 (N : Int)) := fun v hv => (hv.cell (p := ⟨w.heap.size, 1, none⟩) hgw).trans hc1
  have HE : Hid (enI 0 N k = uv N) := rfl
  have hlt : ∀ u ∈ uv N, u < 256 := uv_lt N
  have hp := uvarint_any x n c l N w1.drew (hl.below hbd) hN (by omega)
  have hr := fun v => ruvarint_any N v hN
  have hll := lt_append hl.lt hlt
  generalize uv N = E at *
  generalize hLE : l ++ E = LE at *
  clear hl hk
  subst hw1
  go_enter Try.func8, Try.ntmps8
  go_wp2_with fail
  refine wp_region_held_drew (S := fun v => v.cell? ⟨w.heap.size, 1, none⟩ = some (.int .u64 (N : Int))) (by kernel_rfl) hc1 (fun hHeld => ?_)
  refine wpAnyH_take (i := 0) (v := ?_) rfl (by kernel_rfl) (by kernel_rfl) (by kernel_rfl) (fun _ _ _ h => h) (Or.inl ⟨by rfl, ?_⟩) (by assumption) ?_
  case refine_2 => (intro w hSw; (try dsimp only at hSw); go_simp; (try with_reducible rfl))
  (try simp only [Act.put, List.getElem_toArray, List.getElem_cons_succ, List.getElem_cons_zero, List.setIfInBounds_toArray, List.set_cons_zero, List.set_cons_succ])
  refine wpAnyH_take (i := 1) (v := ?_) rfl (by kernel_rfl) (by kernel_rfl) (by kernel_rfl) (fun _ _ _ h => h) (Or.inl ⟨by rfl, ?_⟩) (by assumption) ?_
  case refine_2 => (intro w hSw; (try dsimp only at hSw); go_simp; (try with_reducible rfl))
  (try simp only [Act.put, List.getElem_toArray, List.getElem_cons_succ, List.getElem_cons_zero, List.setIfInBounds_toArray, List.set_cons_zero, List.set_cons_succ])
  refine wpAnyH_take (i := 2) (v := ?_) rfl (by kernel_rfl) (by kernel_rfl) (by kernel_rfl) (fun _ _ _ h => h) (Or.inl ⟨by rfl, ?_⟩) (by assumption) ?_
  case refine_2 => (intro w hSw; (try dsimp only at hSw); go_simp; (try with_reducible rfl))
  (try simp only [Act.put, List.getElem_toArray, List.getElem_cons_succ, List.getElem_cons_zero, List.setIfInBounds_toArray, List.set_cons_zero, List.set_cons_succ])
  refine wpAnyH_take (i := 4) (v := ?_) rfl (by kernel_rfl) (by kernel_rfl) (by kernel_rfl) (fun _ _ _ h => h) (Or.inl ⟨by rfl, ?_⟩) (by assumption) ?_
  case refine_2 => (intro w hSw; (try dsimp only at hSw); go_simp; (try with_reducible rfl))
  (try simp only [Act.put, List.getElem_toArray, List.getElem_cons_succ, List.getElem_cons_zero, List.setIfInBounds_toArray, List.set_cons_zero, List.set_cons_succ])
  refine wpAnyH_take (i := 5) (v := ?_) rfl (by kernel_rfl) (by kernel_rfl) (by kernel_rfl) (fun _ _ _ h => h) (Or.inl ⟨by rfl, ?_⟩) (by assumption) ?_
  case refine_2 => (intro w hSw; (try dsimp only at hSw); go_simp; (try with_reducible rfl))
  (try simp only [Act.put, List.getElem_toArray, List.getElem_cons_succ, List.getElem_cons_zero, List.setIfInBounds_toArray, List.set_cons_zero, List.set_cons_succ])
  refine wpAnyH_ready (rs := [3]) (by kernel_rfl) (by simp) ?_
  refine AllReadyH.cons rfl (fun K hK => ?_) AllReadyH.nil
  go_simp
  refine hp.mono ?_
  rintro ed w2 ⟨R2, rfl, ho2, hb2⟩
  have hq2 := hS2 _ hb2
  clear hp
  refine hK.out _ _ hq2 (fun hHeld => ?_)
  clear hK K
  refine wpAnyH_ready (rs := [6]) (by kernel_rfl) (by simp) ?_
  refine AllReadyH.cons rfl (fun K hK => ?_) AllReadyH.nil
  go_simp
  refine (hr _).mono ?_
  rintro ed w3 ⟨R3, rfl, ho3, hb3⟩
  have hb23 := hb2.trans (hb3.mono hb2.size)
  have hq3 := hS2 _ hb23
  clear hr
  refine hK.out _ _ hq3 (fun hHeld => ?_)
  clear hK K
  refine wpAnyH_take (i := 7) (v := ?_) rfl (by kernel_rfl) (by kernel_rfl) (by kernel_rfl) (fun _ _ _ h => h) (Or.inl ⟨by rfl, ?_⟩) (by assumption) ?_
  case refine_2 => (intro w hSw; (try dsimp only at hSw); go_simp; (try with_reducible rfl))
  (try simp only [Act.put, List.getElem_toArray, List.getElem_cons_succ, List.getElem_cons_zero, List.setIfInBounds_toArray, List.set_cons_zero, List.set_cons_succ])
  refine wpAnyH_take (i := 8) (v := ?_) rfl (by kernel_rfl) (by kernel_rfl) (by kernel_rfl) (fun _ _ _ h => h) (Or.inl ⟨by rfl, ?_⟩) (by assumption) ?_
  case refine_2 => (intro w hSw; (try dsimp only at hSw); go_simp; (try with_reducible rfl))
  (try simp only [Act.put, List.getElem_toArray, List.getElem_cons_succ, List.getElem_cons_zero, List.setIfInBounds_toArray, List.set_cons_zero, List.set_cons_succ])
  refine wpAnyH_done (by kernel_rfl) ?_ _
  have HR2 : Hid (IsSl w3 R2 LE ∧ IsSl w3 R3 E ∧ Below w.heap.size w w3 ∧ Where x w w3 R2) := ⟨(IsSl.of_own ho2 hll).below hb3, IsSl.of_own ho3 hlt, hbd.trans (hb23.mono hbd.size), Where.of_own ho2 hbd.size hb3.size⟩
  clear hS2 ho2 ho3 hb2 hb3 hb23 hq2 hq3 hc1 hHeld hb0 hbd
  go_wp2_with fail
  go_ret2
  rw [HE.out, hLE]
  exact ⟨R2, R3, rfl, HR2.out⟩

set_option maxHeartbeats 2000000 in
set_option maxRecDepth 100000 in
theorem written_var (n c m d N : Nat) (x y : Option Addr) (l k : List Nat) (M : Int) (w : World) (hl : Sl w x n c l) (hk : Sl w y m d k) (hN : N < 18446744073709551616) (hs : n + m ≤ 140737488340000) :
    Calls Try.prog 8 #[.slice x n c, .agg #[.int .i64 1, .int .u64 N, .slice y m d, .int .i64 M]] w fun ed w' => ∃ v1 v2, ed = .returned (.tuple #[v1, v2]) ∧ IsSl w' v1 (l ++ enI 1 N k) ∧ IsSl w' v2 (enI 1 N k) ∧ Below w.heap.size w w' ∧ Where x w w' v1 := by
  obtain ⟨w1, hw1⟩ : ∃ w1, w1 = w.alloc (.cells #[.int .i64 1, .int .u64 N, .slice y m d, .int .i64 M] 28) := ⟨_, rfl⟩
  have hb0 : Below w.heap.size w w1 := by rw [hw1]; exact (Below.refl _ _).alloc (Nat.le_refl _) _
  have hbd : Below w.heap.size w w1.drew := below_drew2 hb0
  have hc1 : w1.cell? ⟨w.heap.size, 1, none⟩ = some (.int .u64 (N : Int)) := by rw [hw1]; simp
  have hgw : w.heap.size < w1.heap.size := cell_lt' hc1
  have hS2 : ∀ v, Below w1.drew.heap.size w1.drew v → v.cell? ⟨w.heap.size, 1, none⟩ = some (.int .u64 (N : Int)) := fun v hv => (hv.cell (p := ⟨w.heap.size, 1, none⟩) hgw).trans hc1
  have HE : Hid (enI 1 N k = uv (zz (sg N))) := rfl
  have hlt : ∀ u ∈ uv (zz (sg N)), u < 256 := uv_lt _
  have hcv := sg_wrap hN
  have hsb := sg_bound hN
  have hp := varint_any x n c l (sg N) w1.drew (hl.below hbd) hsb.1 hsb.2 (by omega)
  have hr := fun v => rvarint_any (sg N) v hsb.1 hsb.2
  have hll := lt_append hl.lt hlt
  generalize uv (zz (sg N)) = E at *
  generalize sg N = Z at *
  generalize hLE : l ++ E = LE at *
  clear hl hk
  subst hw1
  go_enter Try.func8, Try.ntmps8
  go_wp2_with fail
  refine wp_region_held_drew (S := fun v => v.cell? ⟨w.heap.size, 1, none⟩ = some (.int .u64 (N : Int))) (by kernel_rfl) hc1 (fun hHeld => ?_)
  refine wpAnyH_take (i := 0) (v := ?_) rfl (by kernel_rfl) (by kernel_rfl) (by kernel_rfl) (fun _ _ _ h => h) (Or.inl ⟨by rfl, ?_⟩) (by assumption) ?_
  case refine_2 => (intro w hSw; (try dsimp only at hSw); go_simp; (try with_reducible rfl))
  (try simp only [Act.put, List.getElem_toArray, List.getElem_cons_succ, List.getElem_cons_zero, List.setIfInBounds_toArray, List.set_cons_zero, List.set_cons_succ])
  refine wpAnyH_take (i := 1) (v := ?_) rfl (by kernel_rfl) (by kernel_rfl) (by kernel_rfl) (fun _ _ _ h => h) (Or.inl ⟨by rfl, ?_⟩) (by assumption) ?_
  case refine_2 => (intro w hSw; (try dsimp only at hSw); go_simp; (try with_reducible rfl))
  (try simp only [Act.put, List.getElem_toArray, List.getElem_cons_succ, List.getElem_cons_zero, List.setIfInBounds_toArray, List.set_cons_zero, List.set_cons_succ])
  refine wpAnyH_take (i := 2) (v := ?_) rfl (by kernel_rfl) (by kernel_rfl) (by kernel_rfl) (fun _ _ _ h => h) (Or.inl ⟨by rfl, ?_⟩) (by assumption) ?_
  case refine_2 => (intro w hSw; (try dsimp only at hSw); go_simp; (try with_reducible rfl))
  (try simp only [Act.put, List.getElem_toArray, List.getElem_cons_succ, List.getElem_cons_zero, List.setIfInBounds_toArray, List.set_cons_zero, List.set_cons_succ])
  refine wpAnyH_take (i := 3) (v := ?_) rfl (by kernel_rfl) (by kernel_rfl) (by kernel_rfl) (fun _ _ _ h => h) (Or.inl ⟨by rfl, ?_⟩) (by assumption) ?_
  case refine_2 => (intro w hSw; (try dsimp only at hSw); go_simp; (try with_reducible rfl))
  (try simp only [Act.put, List.getElem_toArray, List.getElem_cons_succ, List.getElem_cons_zero, List.setIfInBounds_toArray, List.set_cons_zero, List.set_cons_succ])
  refine wpAnyH_take (i := 5) (v := ?_) rfl (by kernel_rfl) (by kernel_rfl) (by kernel_rfl) (fun _ _ _ h => h) (Or.inl ⟨by rfl, ?_⟩) (by assumption) ?_
  case refine_2 => (intro w hSw; (try dsimp only at hSw); go_simp; (try with_reducible rfl))
  (try simp only [Act.put, List.getElem_toArray, List.getElem_cons_succ, List.getElem_cons_zero, List.setIfInBounds_toArray, List.set_cons_zero, List.set_cons_succ])
  refine wpAnyH_take (i := 6) (v := ?_) rfl (by kernel_rfl) (by kernel_rfl) (by kernel_rfl) (fun _ _ _ h => h) (Or.inl ⟨by rfl, ?_⟩) (by assumption) ?_
  case refine_2 => (intro w hSw; (try dsimp only at hSw); go_simp; (try with_reducible rfl))
  (try simp only [Act.put, List.getElem_toArray, List.getElem_cons_succ, List.getElem_cons_zero, List.setIfInBounds_toArray, List.set_cons_zero, List.set_cons_succ])
  refine wpAnyH_take (i := 7) (v := ?_) rfl (by kernel_rfl) (by kernel_rfl) (by kernel_rfl) (fun _ _ _ h => h) (Or.inl ⟨by rfl, ?_⟩) (by assumption) ?_
  case refine_2 => (intro w hSw; (try dsimp only at hSw); go_simp; (try with_reducible rfl))
  (try simp only [Act.put, List.getElem_toArray, List.getElem_cons_succ, List.getElem_cons_zero, List.setIfInBounds_toArray, List.set_cons_zero, List.set_cons_succ])
  refine wpAnyH_ready (rs := [4]) (by kernel_rfl) (by simp) ?_
  refine AllReadyH.cons rfl (fun K hK => ?_) AllReadyH.nil
  go_simp
  refine hp.mono ?_
  rintro ed w2 ⟨R2, rfl, ho2, hb2⟩
  have hq2 := hS2 _ hb2
  clear hp
  refine hK.out _ _ hq2 (fun hHeld => ?_)
  clear hK K
  refine wpAnyH_ready (rs := [8]) (by kernel_rfl) (by simp) ?_
  refine AllReadyH.cons rfl (fun K hK => ?_) AllReadyH.nil
  go_simp
  refine (hr _).mono ?_
  rintro ed w3 ⟨R3, rfl, ho3, hb3⟩
  have hb23 := hb2.trans (hb3.mono hb2.size)
  have hq3 := hS2 _ hb23
  clear hr
  refine hK.out _ _ hq3 (fun hHeld => ?_)
  clear hK K
  refine wpAnyH_take (i := 9) (v := ?_) rfl (by kernel_rfl) (by kernel_rfl) (by kernel_rfl) (fun _ _ _ h => h) (Or.inl ⟨by rfl, ?_⟩) (by assumption) ?_
  case refine_2 => (intro w hSw; (try dsimp only at hSw); go_simp; (try with_reducible rfl))
  (try simp only [Act.put, List.getElem_toArray, List.getElem_cons_succ, List.getElem_cons_zero, List.setIfInBounds_toArray, List.set_cons_zero, List.set_cons_succ])
  refine wpAnyH_take (i := 10) (v := ?_) rfl (by kernel_rfl) (by kernel_rfl) (by kernel_rfl) (fun _ _ _ h => h) (Or.inl ⟨by rfl, ?_⟩) (by assumption) ?_
  case refine_2 => (intro w hSw; (try dsimp only at hSw); go_simp; (try with_reducible rfl))
  (try simp only [Act.put, List.getElem_toArray, List.getElem_cons_succ, List.getElem_cons_zero, List.setIfInBounds_toArray, List.set_cons_zero, List.set_cons_succ])
  refine wpAnyH_done (by kernel_rfl) ?_ _
  have HR2 : Hid (IsSl w3 R2 LE ∧ IsSl w3 R3 E ∧ Below w.heap.size w w3 ∧ Where x w w3 R2) := ⟨(IsSl.of_own ho2 hll).below hb3, IsSl.of_own ho3 hlt, hbd.trans (hb23.mono hbd.size), Where.of_own ho2 hbd.size hb3.size⟩
  clear hS2 ho2 ho3 hb2 hb3 hb23 hq2 hq3 hc1 hHeld hb0 hbd
  go_wp2_with fail
  go_ret2
  rw [HE.out, hLE]
  exact ⟨R2, R3, rfl, HR2.out⟩

set_option maxHeartbeats 2000000 in
set_option maxRecDepth 100000 in
theorem written_f4 (n c m d N : Nat) (x y : Option Addr) (l k : List Nat) (M : Int) (w : World) (hl : Sl w x n c l) (hk : Sl w y m d k) (hN : N < 18446744073709551616) (hs : n + m ≤ 140737488340000) :
    Calls Try.prog 8 #[.slice x n c, .agg #[.int .i64 2, .int .u64 N, .slice y m d, .int .i64 M]] w fun ed w' => ∃ v1 v2, ed = .returned (.tuple #[v1, v2]) ∧ IsSl w' v1 (l ++ enI 2 N k) ∧ IsSl w' v2 (enI 2 N k) ∧ Below w.heap.size w w' ∧ Where x w w' v1 := by
  obtain ⟨w1, hw1⟩ : ∃ w1, w1 = w.alloc (.cells #[.int .i64 2, .int .u64 N, .slice y m d, .int .i64 M] 28) := ⟨_, rfl⟩
  have hb0 : Below w.heap.size w w1 := by rw [hw1]; exact (Below.refl _ _).alloc (Nat.le_refl _) _
  have hbd : Below w.heap.size w w1.drew := below_drew2 hb0
  have hc1 : w1.cell? ⟨w.heap.size, 1, none⟩ = some (.int .u64 (N : Int)) := by rw [hw1]; simp
  have hgw : w.heap.size < w1.heap.size := cell_lt' hc1
  have hS2 : ∀ v, Below w1.drew.heap.size w1.drew v → v.cell? ⟨w.heap.size, 1, none⟩ = some (.int .u64 (N : Int)) := fun v hv => (hv.cell (p := ⟨w.heap.size, 1, none⟩) hgw).trans hc1
  have HE : Hid (enI 2 N k = fx (N % 4294967296) 4) := rfl
  have hlt : ∀ u ∈ fx (N % 4294967296) 4, u < 256 := fx_lt _ _
  have ha : ((N % 4294967296 : Nat) : Int) = (N : Int) % 4294967296 := by omega
  have hand : bits .and .u64 (N : Int) 4294967295 = (N : Int) % 4294967296 := by
    have := u64_and_nat N 4294967295 hN (by omega)
    rw [show N &&& 4294967295 = N % 4294967296 from Nat.and_two_pow_sub_one_eq_mod N 32, ha] at this
    exact this
  have hp := fixed4_any x n c l (N % 4294967296) w1.drew (hl.below hbd) (by omega) (by omega)
  have hr := fun v => rfixed_any (N % 4294967296) 4 v (by omega) (by omega)
  rw [ha] at hp
  simp only [ha] at hr
  have hll := lt_append hl.lt hlt
  generalize fx (N % 4294967296) 4 = E at *
  generalize hLE : l ++ E = LE at *
  clear hl hk
  subst hw1
  go_enter Try.func8, Try.ntmps8
  go_wp2_with fail
  refine wp_region_held_drew (S := fun v => v.cell? ⟨w.heap.size, 1, none⟩ = some (.int .u64 (N : Int))) (by kernel_rfl) hc1 (fun hHeld => ?_)
  refine wpAnyH_take (i := 0) (v := ?_) rfl (by kernel_rfl) (by kernel_rfl) (by kernel_rfl) (fun _ _ _ h => h) (Or.inl ⟨by rfl, ?_⟩) (by assumption) ?_
  case refine_2 => (intro w hSw; (try dsimp only at hSw); go_simp; (try with_reducible rfl))
  (try simp only [Act.put, List.getElem_toArray, List.getElem_cons_succ, List.getElem_cons_zero, List.setIfInBounds_toArray, List.set_cons_zero, List.set_cons_succ])
  refine wpAnyH_take (i := 1) (v := ?_) rfl (by kernel_rfl) (by kernel_rfl) (by kernel_rfl) (fun _ _ _ h => h) (Or.inl ⟨by rfl, ?_⟩) (by assumption) ?_
  case refine_2 => (intro w hSw; (try dsimp only at hSw); go_simp; (try with_reducible rfl))
  (try simp only [Act.put, List.getElem_toArray, List.getElem_cons_succ, List.getElem_cons_zero, List.setIfInBounds_toArray, List.set_cons_zero, List.set_cons_succ])
  refine wpAnyH_take (i := 2) (v := ?_) rfl (by kernel_rfl) (by kernel_rfl) (by kernel_rfl) (fun _ _ _ h => h) (Or.inl ⟨by rfl, ?_⟩) (by assumption) ?_
  case refine_2 => (intro w hSw; (try dsimp only at hSw); go_simp; (try with_reducible rfl))
  (try simp only [Act.put, List.getElem_toArray, List.getElem_cons_succ, List.getElem_cons_zero, List.setIfInBounds_toArray, List.set_cons_zero, List.set_cons_succ])
  refine wpAnyH_take (i := 3) (v := ?_) rfl (by kernel_rfl) (by kernel_rfl) (by kernel_rfl) (fun _ _ _ h => h) (Or.inl ⟨by rfl, ?_⟩) (by assumption) ?_
  case refine_2 => (intro w hSw; (try dsimp only at hSw); go_simp; (try with_reducible rfl))
  (try simp only [Act.put, List.getElem_toArray, List.getElem_cons_succ, List.getElem_cons_zero, List.setIfInBounds_toArray, List.set_cons_zero, List.set_cons_succ])
  refine wpAnyH_take (i := 5) (v := ?_) rfl (by kernel_rfl) (by kernel_rfl) (by kernel_rfl) (fun _ _ _ h => h) (Or.inl ⟨by rfl, ?_⟩) (by assumption) ?_
  case refine_2 => (intro w hSw; (try dsimp only at hSw); go_simp; (try with_reducible rfl))
  (try simp only [Act.put, List.getElem_toArray, List.getElem_cons_succ, List.getElem_cons_zero, List.setIfInBounds_toArray, List.set_cons_zero, List.set_cons_succ])
  refine wpAnyH_take (i := 6) (v := ?_) rfl (by kernel_rfl) (by kernel_rfl) (by kernel_rfl) (fun _ _ _ h => h) (Or.inl ⟨by rfl, ?_⟩) (by assumption) ?_
  case refine_2 => (intro w hSw; (try dsimp only at hSw); go_simp; (try with_reducible rfl))
  (try simp only [Act.put, List.getElem_toArray, List.getElem_cons_succ, List.getElem_cons_zero, List.setIfInBounds_toArray, List.set_cons_zero, List.set_cons_succ])
  refine wpAnyH_take (i := 7) (v := ?_) rfl (by kernel_rfl) (by kernel_rfl) (by kernel_rfl) (fun _ _ _ h => h) (Or.inl ⟨by rfl, ?_⟩) (by assumption) ?_
  case refine_2 => (intro w hSw; (try dsimp only at hSw); go_simp; (try with_reducible rfl))
  (try simp only [Act.put, List.getElem_toArray, List.getElem_cons_succ, List.getElem_cons_zero, List.setIfInBounds_toArray, List.set_cons_zero, List.set_cons_succ])
  refine wpAnyH_ready (rs := [4]) (by kernel_rfl) (by simp) ?_
  refine AllReadyH.cons rfl (fun K hK => ?_) AllReadyH.nil
  go_simp
  refine hp.mono ?_
  rintro ed w2 ⟨R2, rfl, ho2, hb2⟩
  have hq2 := hS2 _ hb2
  clear hp
  refine hK.out _ _ hq2 (fun hHeld => ?_)
  clear hK K
  refine wpAnyH_ready (rs := [8]) (by kernel_rfl) (by simp) ?_
  refine AllReadyH.cons rfl (fun K hK => ?_) AllReadyH.nil
  go_simp
  refine (hr _).mono ?_
  rintro ed w3 ⟨R3, rfl, ho3, hb3⟩
  have hb23 := hb2.trans (hb3.mono hb2.size)
  have hq3 := hS2 _ hb23
  clear hr
  refine hK.out _ _ hq3 (fun hHeld => ?_)
  clear hK K
  refine wpAnyH_take (i := 9) (v := ?_) rfl (by kernel_rfl) (by kernel_rfl) (by kernel_rfl) (fun _ _ _ h => h) (Or.inl ⟨by rfl, ?_⟩) (by assumption) ?_
  case refine_2 => (intro w hSw; (try dsimp only at hSw); go_simp; (try with_reducible rfl))
  (try simp only [Act.put, List.getElem_toArray, List.getElem_cons_succ, List.getElem_cons_zero, List.setIfInBounds_toArray, List.set_cons_zero, List.set_cons_succ])
  refine wpAnyH_take (i := 10) (v := ?_) rfl (by kernel_rfl) (by kernel_rfl) (by kernel_rfl) (fun _ _ _ h => h) (Or.inl ⟨by rfl, ?_⟩) (by assumption) ?_
  case refine_2 => (intro w hSw; (try dsimp only at hSw); go_simp; (try with_reducible rfl))
  (try simp only [Act.put, List.getElem_toArray, List.getElem_cons_succ, List.getElem_cons_zero, List.setIfInBounds_toArray, List.set_cons_zero, List.set_cons_succ])
  refine wpAnyH_done (by kernel_rfl) ?_ _
  have HR2 : Hid (IsSl w3 R2 LE ∧ IsSl w3 R3 E ∧ Below w.heap.size w w3 ∧ Where x w w3 R2) := ⟨(IsSl.of_own ho2 hll).below hb3, IsSl.of_own ho3 hlt, hbd.trans (hb23.mono hbd.size), Where.of_own ho2 hbd.size hb3.size⟩
  clear hS2 ho2 ho3 hb2 hb3 hb23 hq2 hq3 hc1 hHeld hb0 hbd
  go_wp2_with fail
  go_ret2
  rw [HE.out, hLE]
  exact ⟨R2, R3, rfl, HR2.out⟩

set_option maxHeartbeats 2000000 in
set_option maxRecDepth 100000 in
theorem written_f8 (n c m d N : Nat) (x y : Option Addr) (l k : List Nat) (M : Int) (w : World) (hl : Sl w x n c l) (hk : Sl w y m d k) (hN : N < 18446744073709551616) (hs : n + m ≤ 140737488340000) :
    Calls Try.prog 8 #[.slice x n c, .agg #[.int .i64 3, .int .u64 N, .slice y m d, .int .i64 M]] w fun ed w' => ∃ v1 v2, ed = .returned (.tuple #[v1, v2]) ∧ IsSl w' v1 (l ++ enI 3 N k) ∧ IsSl w' v2 (enI 3 N k) ∧ Below w.heap.size w w' ∧ Where x w w' v1 := by
  obtain ⟨w1, hw1⟩ : ∃ w1, w1 = w.alloc (.cells #[.int .i64 3, .int .u64 N, .slice y m d, .int .i64 M] 28) := ⟨_, rfl⟩
  have hb0 : Below w.heap.size w w1 := by rw [hw1]; exact (Below.refl _ _).alloc (Nat.le_refl _) _
  have hbd : Below w.heap.size w w1.drew := below_drew2 hb0
  have hc1 : w1.cell? ⟨w.heap.size, 1, none⟩ = some (.int .u64 (N : Int)) := by rw [hw1]; simp
  have hgw : w.heap.size < w1.heap.size := cell_lt' hc1
  have hS2 : ∀ v, Below w1.drew.heap.size w1.drew v → v.cell? ⟨w.heap.size, 1, none⟩ = some (.int .u64 (N : Int)) := fun v hv => (hv.cell (p := ⟨w.heap.size, 1, none⟩) hgw).trans hc1
  have HE : Hid (enI 3 N k = fx N 8) := rfl
  have hlt : ∀ u ∈ fx N 8, u < 256 := fx_lt _ _
  have hp := fixed8_any x n c l N w1.drew (hl.below hbd) hN (by omega)
  have hr := fun v => rfixed_any N 8 v hN (by omega)
  have hll := lt_append hl.lt hlt
  generalize fx N 8 = E at *
  generalize hLE : l ++ E = LE at *
  clear hl hk
  subst hw1
  go_enter Try.func8, Try.ntmps8
  go_wp2_with fail
  refine wp_region_held_drew (S := fun v => v.cell? ⟨w.heap.size, 1, none⟩ = some (.int .u64 (N : Int))) (by kernel_rfl) hc1 (fun hHeld => ?_)
  refine wpAnyH_take (i := 0) (v := ?_) rfl (by kernel_rfl) (by kernel_rfl) (by kernel_rfl) (fun _ _ _ h => h) (Or.inl ⟨by rfl, ?_⟩) (by assumption) ?_
  case refine_2 => (intro w hSw; (try dsimp only at hSw); go_simp; (try with_reducible rfl))
  (try simp only [Act.put, List.getElem_toArray, List.getElem_cons_succ, List.getElem_cons_zero, List.setIfInBounds_toArray, List.set_cons_zero, List.set_cons_succ])
  refine wpAnyH_take (i := 1) (v := ?_) rfl (by kernel_rfl) (by kernel_rfl) (by kernel_rfl) (fun _ _ _ h => h) (Or.inl ⟨by rfl, ?_⟩) (by assumption) ?_
  case refine_2 => (intro w hSw; (try dsimp only at hSw); go_simp; (try with_reducible rfl))
  (try simp only [Act.put, List.getElem_toArray, List.getElem_cons_succ, List.getElem_cons_zero, List.setIfInBounds_toArray, List.set_cons_zero, List.set_cons_succ])
  refine wpAnyH_take (i := 2) (v := ?_) rfl (by kernel_rfl) (by kernel_rfl) (by kernel_rfl) (fun _ _ _ h => h) (Or.inl ⟨by rfl, ?_⟩) (by assumption) ?_
  case refine_2 => (intro w hSw; (try dsimp only at hSw); go_simp; (try with_reducible rfl))
  (try simp only [Act.put, List.getElem_toArray, List.getElem_cons_succ, List.getElem_cons_zero, List.setIfInBounds_toArray, List.set_cons_zero, List.set_cons_succ])
  refine wpAnyH_take (i := 4) (v := ?_) rfl (by kernel_rfl) (by kernel_rfl) (by kernel_rfl) (fun _ _ _ h => h) (Or.inl ⟨by rfl, ?_⟩) (by assumption) ?_
  case refine_2 => (intro w hSw; (try dsimp only at hSw); go_simp; (try with_reducible rfl))
  (try simp only [Act.put, List.getElem_toArray, List.getElem_cons_succ, List.getElem_cons_zero, List.setIfInBounds_toArray, List.set_cons_zero, List.set_cons_succ])
  refine wpAnyH_take (i := 5) (v := ?_) rfl (by kernel_rfl) (by kernel_rfl) (by kernel_rfl) (fun _ _ _ h => h) (Or.inl ⟨by rfl, ?_⟩) (by assumption) ?_
  case refine_2 => (intro w hSw; (try dsimp only at hSw); go_simp; (try with_reducible rfl))
  (try simp only [Act.put, List.getElem_toArray, List.getElem_cons_succ, List.getElem_cons_zero, List.setIfInBounds_toArray, List.set_cons_zero, List.set_cons_succ])
  refine wpAnyH_ready (rs := [3]) (by kernel_rfl) (by simp) ?_
  refine AllReadyH.cons rfl (fun K hK => ?_) AllReadyH.nil
  go_simp
  refine hp.mono ?_
  rintro ed w2 ⟨R2, rfl, ho2, hb2⟩
  have hq2 := hS2 _ hb2
  clear hp
  refine hK.out _ _ hq2 (fun hHeld => ?_)
  clear hK K
  refine wpAnyH_ready (rs := [6]) (by kernel_rfl) (by simp) ?_
  refine AllReadyH.cons rfl (fun K hK => ?_) AllReadyH.nil
  go_simp
  refine (hr _).mono ?_
  rintro ed w3 ⟨R3, rfl, ho3, hb3⟩
  have hb23 := hb2.trans (hb3.mono hb2.size)
  have hq3 := hS2 _ hb23
  clear hr
  refine hK.out _ _ hq3 (fun hHeld => ?_)
  clear hK K
  refine wpAnyH_take (i := 7) (v := ?_) rfl (by kernel_rfl) (by kernel_rfl) (by kernel_rfl) (fun _ _ _ h => h) (Or.inl ⟨by rfl, ?_⟩) (by assumption) ?_
  case refine_2 => (intro w hSw; (try dsimp only at hSw); go_simp; (try with_reducible rfl))
  (try simp only [Act.put, List.getElem_toArray, List.getElem_cons_succ, List.getElem_cons_zero, List.setIfInBounds_toArray, List.set_cons_zero, List.set_cons_succ])
  refine wpAnyH_take (i := 8) (v := ?_) rfl (by kernel_rfl) (by kernel_rfl) (by kernel_rfl) (fun _ _ _ h => h) (Or.inl ⟨by rfl, ?_⟩) (by assumption) ?_
  case refine_2 => (intro w hSw; (try dsimp only at hSw); go_simp; (try with_reducible rfl))
  (try simp only [Act.put, List.getElem_toArray, List.getElem_cons_succ, List.getElem_cons_zero, List.setIfInBounds_toArray, List.set_cons_zero, List.set_cons_succ])
  refine wpAnyH_done (by kernel_rfl) ?_ _
  have HR2 : Hid (IsSl w3 R2 LE ∧ IsSl w3 R3 E ∧ Below w.heap.size w w3 ∧ Where x w w3 R2) := ⟨(IsSl.of_own ho2 hll).below hb3, IsSl.of_own ho3 hlt, hbd.trans (hb23.mono hbd.size), Where.of_own ho2 hbd.size hb3.size⟩
  clear hS2 ho2 ho3 hb2 hb3 hb23 hq2 hq3 hc1 hHeld hb0 hbd
  go_wp2_with fail
  go_ret2
  rw [HE.out, hLE]
  exact ⟨R2, R3, rfl, HR2.out⟩

set_option maxHeartbeats 2000000 in
set_option maxRecDepth 100000 in
theorem written_bytes (n c m d N : Nat) (x y : Option Addr) (l k : List Nat) (M : Int) (w : World) (hl : Sl w x n c l) (hk : Sl w y m d k) (hN : N < 18446744073709551616) (hs : n + m ≤ 140737488340000) :
    Calls Try.prog 8 #[.slice x n c, .agg #[.int .i64 6, .int .u64 N, .slice y m d, .int .i64 M]] w fun ed w' => ∃ v1 v2, ed = .returned (.tuple #[v1, v2]) ∧ IsSl w' v1 (l ++ enI 6 N k) ∧ IsSl w' v2 (enI 6 N k) ∧ Below w.heap.size w w' ∧ Where x w w' v1 := by
  obtain ⟨w1, hw1⟩ : ∃ w1, w1 = w.alloc (.cells #[.int .i64 6, .int .u64 N, .slice y m d, .int .i64 M] 28) := ⟨_, rfl⟩
  have hb0 : Below w.heap.size w w1 := by rw [hw1]; exact (Below.refl _ _).alloc (Nat.le_refl _) _
  have hbd : Below w.heap.size w w1.drew := below_drew2 hb0
  have hc1 : w1.cell? ⟨w.heap.size, 2, none⟩ = some (.slice y m d) := by rw [hw1]; simp
  have hgw : w.heap.size < w1.heap.size := cell_lt' hc1
  have hS2 : ∀ v, Below w1.drew.heap.size w1.drew v → v.cell? ⟨w.heap.size, 2, none⟩ = some (.slice y m d) := fun v hv => (hv.cell (p := ⟨w.heap.size, 2, none⟩) hgw).trans hc1
  have HE : Hid (enI 6 N k = uv m ++ k) := by
    show enI 6 N k = _
    rw [← hk.len]
    rfl
  have hlt : ∀ u ∈ uv m ++ k, u < 256 := lt_append (uv_lt m) hk.lt
  obtain ⟨R1, wa, hrun, ho1, hba⟩ := push_list w1.drew w1.drew w1.drew.heap.size (.slice none 0 0) [] (OwnL.start _ _) (Nat.le_refl _) (Below.refl _ _) y m d k (hk.below hbd) (by simp; omega)
  rw [List.nil_append] at ho1
  obtain ⟨y1, d1, rfl, hy1, _⟩ := ho1.sl hk.lt
  rw [hk.len] at hrun hy1
  have hwa := hbd.trans (hba.mono hbd.size)
  have hp := bytes_any x n c l y1 m d1 k wa (hl.below hwa) hy1 (by omega)
  have hr : ∀ v, Below w.heap.size w v → _ := fun v hv => rbytes_any y m d k v (hk.below hv) (by omega)
  have hll := lt_append hl.lt hlt
  generalize uv m ++ k = E at *
  generalize hLE : l ++ E = LE at *
  clear hl hk ho1 hy1
  subst hw1
  go_enter Try.func8, Try.ntmps8
  go_wp2_with fail
  refine wp_region_held_drew (S := fun v => v.cell? ⟨w.heap.size, 2, none⟩ = some (.slice y m d)) (by kernel_rfl) hc1 (fun hHeld => ?_)
  refine wpAnyH_take (i := 0) (v := ?_) rfl (by kernel_rfl) (by kernel_rfl) (by kernel_rfl) (fun _ _ _ h => h) (Or.inl ⟨by rfl, ?_⟩) (by assumption) ?_
  case refine_2 => (intro w hSw; (try dsimp only at hSw); go_simp; (try with_reducible rfl))
  (try simp only [Act.put, List.getElem_toArray, List.getElem_cons_succ, List.getElem_cons_zero, List.setIfInBounds_toArray, List.set_cons_zero, List.set_cons_succ])
  refine wpAnyH_take (i := 1) (v := ?_) rfl (by kernel_rfl) (by kernel_rfl) (by kernel_rfl) (fun _ _ _ h => h) (Or.inl ⟨by rfl, ?_⟩) (by assumption) ?_
  case refine_2 => (intro w hSw; (try dsimp only at hSw); go_simp; (try with_reducible rfl))
  (try simp only [Act.put, List.getElem_toArray, List.getElem_cons_succ, List.getElem_cons_zero, List.setIfInBounds_toArray, List.set_cons_zero, List.set_cons_succ])
  refine wpAnyH_take (i := 2) (v := ?_) rfl (by kernel_rfl) (by kernel_rfl) (by kernel_rfl) (fun _ _ _ h => h) (Or.inl ⟨by rfl, ?_⟩) (by assumption) ?_
  case refine_2 => (intro w hSw; (try dsimp only at hSw); go_simp; (try with_reducible rfl))
  (try simp only [Act.put, List.getElem_toArray, List.getElem_cons_succ, List.getElem_cons_zero, List.setIfInBounds_toArray, List.set_cons_zero, List.set_cons_succ])
  refine wpAnyH_take (i := 3) (v := ?_) rfl (by kernel_rfl) (by kernel_rfl) (by kernel_rfl) (fun _ _ _ h => h) (Or.inl ⟨by rfl, ?_⟩) (by assumption) ?_
  case refine_2 => (intro w hSw; (try dsimp only at hSw); go_simp; (try with_reducible rfl))
  (try simp only [Act.put, List.getElem_toArray, List.getElem_cons_succ, List.getElem_cons_zero, List.setIfInBounds_toArray, List.set_cons_zero, List.set_cons_succ])
  refine wpAnyH_take (i := 6) (v := ?_) rfl (by kernel_rfl) (by kernel_rfl) (by kernel_rfl) (fun _ _ _ h => h) (Or.inl ⟨by rfl, ?_⟩) (by assumption) ?_
  case refine_2 => (intro w hSw; (try dsimp only at hSw); go_simp; (try with_reducible rfl))
  (try simp only [Act.put, List.getElem_toArray, List.getElem_cons_succ, List.getElem_cons_zero, List.setIfInBounds_toArray, List.set_cons_zero, List.set_cons_succ])
  refine wpAnyH_take (i := 7) (v := ?_) rfl (by kernel_rfl) (by kernel_rfl) (by kernel_rfl) (fun _ _ _ h => h) (Or.inl ⟨by rfl, ?_⟩) (by assumption) ?_
  case refine_2 => (intro w hSw; (try dsimp only at hSw); go_simp; (try with_reducible rfl))
  (try simp only [Act.put, List.getElem_toArray, List.getElem_cons_succ, List.getElem_cons_zero, List.setIfInBounds_toArray, List.set_cons_zero, List.set_cons_succ])
  refine wpAnyH_ready (rs := [4]) (by kernel_rfl) (by simp) ?_
  refine AllReadyH.cons rfl (fun K hK => ?_) AllReadyH.nil
  refine ready_append2 rfl _ _ 22 rfl _ _ rfl rfl hrun ?_
  (try simp only [Act.put, List.getElem_toArray, List.getElem_cons_succ, List.getElem_cons_zero, List.setIfInBounds_toArray, List.set_cons_zero, List.set_cons_succ])
  have hqa := hS2 _ hba
  refine hK.out _ _ hqa (fun hHeld => ?_)
  clear hK K
  clear hrun
  refine wpAnyH_ready (rs := [5]) (by kernel_rfl) (by simp) ?_
  refine AllReadyH.cons rfl (fun K hK => ?_) AllReadyH.nil
  go_simp
  refine hp.mono ?_
  rintro ed w2 ⟨R2, rfl, ho2, hb2⟩
  have hbb := hba.trans (hb2.mono hba.size)
  have hq2 := hS2 _ hbb
  have hr2 := hr w2 (hbd.trans (hbb.mono hbd.size))
  clear hp hr
  refine hK.out _ _ hq2 (fun hHeld => ?_)
  clear hK K
  refine wpAnyH_ready (rs := [8]) (by kernel_rfl) (by simp) ?_
  refine AllReadyH.cons rfl (fun K hK => ?_) AllReadyH.nil
  go_simp
  refine hr2.mono ?_
  rintro ed w3 ⟨R3, rfl, ho3, hb3⟩
  have hb23 := hbb.trans (hb3.mono hbb.size)
  have hq3 := hS2 _ hb23
  clear hr2
  refine hK.out _ _ hq3 (fun hHeld => ?_)
  clear hK K
  refine wpAnyH_take (i := 9) (v := ?_) rfl (by kernel_rfl) (by kernel_rfl) (by kernel_rfl) (fun _ _ _ h => h) (Or.inl ⟨by rfl, ?_⟩) (by assumption) ?_
  case refine_2 => (intro w hSw; (try dsimp only at hSw); go_simp; (try with_reducible rfl))
  (try simp only [Act.put, List.getElem_toArray, List.getElem_cons_succ, List.getElem_cons_zero, List.setIfInBounds_toArray, List.set_cons_zero, List.set_cons_succ])
  refine wpAnyH_take (i := 10) (v := ?_) rfl (by kernel_rfl) (by kernel_rfl) (by kernel_rfl) (fun _ _ _ h => h) (Or.inl ⟨by rfl, ?_⟩) (by assumption) ?_
  case refine_2 => (intro w hSw; (try dsimp only at hSw); go_simp; (try with_reducible rfl))
  (try simp only [Act.put, List.getElem_toArray, List.getElem_cons_succ, List.getElem_cons_zero, List.setIfInBounds_toArray, List.set_cons_zero, List.set_cons_succ])
  refine wpAnyH_done (by kernel_rfl) ?_ _
  have HR2 : Hid (IsSl w3 R2 LE ∧ IsSl w3 R3 E ∧ Below w.heap.size w w3 ∧ Where x w w3 R2) := ⟨(IsSl.of_own ho2 hll).below hb3, IsSl.of_own ho3 hlt, hbd.trans (hb23.mono hbd.size), Where.of_own ho2 hwa.size hb3.size⟩
  clear hS2 ho2 ho3 hb2 hb3 hb23 hq2 hq3 hqa hc1 hHeld hb0 hbd hba hbb hwa
  go_wp2_with fail
  go_ret2
  rw [HE.out, hLE]
  exact ⟨R2, R3, rfl, HR2.out⟩

set_option maxHeartbeats 2000000 in
set_option maxRecDepth 100000 in
theorem written_none (n c m d N : Nat) (x y : Option Addr) (l k : List Nat) (D M : Int) (w : World) (hl : Sl w x n c l) (hk : Sl w y m d k) (hN : N < 18446744073709551616) (hs : n + m ≤ 140737488340000) (h0 : D ≠ 0) (h1 : D ≠ 1) (h2 : D ≠ 2) (h3 : D ≠ 3) (h6 : D ≠ 6) :
    Calls Try.prog 8 #[.slice x n c, .agg #[.int .i64 D, .int .u64 N, .slice y m d, .int .i64 M]] w fun ed w' => ∃ v1 v2, ed = .returned (.tuple #[v1, v2]) ∧ IsSl w' v1 (l ++ enI D N k) ∧ IsSl w' v2 (enI D N k) ∧ Below w.heap.size w w' ∧ Where x w w' v1 := by
  have HE : Hid (enI D N k = []) := (by unfold enI; rw [if_neg h0, if_neg h1, if_neg h2, if_neg h3, if_neg h6] : enI D N k = [])
  have hb0 : Below w.heap.size w (w.alloc (.cells #[.int .i64 D, .int .u64 N, .slice y m d, .int .i64 M] 28)) := (Below.refl _ _).alloc (Nat.le_refl _) _
  have HB := And.intro hb0 (hl.below hb0)
  have hlen := hl.len
  have HB2 : Hid (Below w.heap.size w (w.alloc (.cells #[.int .i64 D, .int .u64 N, .slice y m d, .int .i64 M] 28)) ∧ Sl (w.alloc (.cells #[.int .i64 D, .int .u64 N, .slice y m d, .int .i64 M] 28)) x n c l) := HB
  have d0 : (D == 0) = false := by simpa using h0
  have d1 : (D == 1) = false := by simpa using h1
  have d2 : (D == 2) = false := by simpa using h2
  have d3 : (D == 3) = false := by simpa using h3
  have d6 : (D == 6) = false := by simpa using h6
  clear hl hk HB hb0 h0 h1 h2 h3 h6
  go_enter Try.func8, Try.ntmps8
  go_wp2_with fail
  go_ret2
  rw [HE.out, List.append_nil]
  exact ⟨_, _, rfl, ⟨x, c, by rw [hlen]; rfl, by rw [hlen]; exact HB2.out.2⟩, ⟨none, 0, rfl, Sl.empty _⟩, HB2.out.1, fun g hg => by
    cases x with
    | none => cases hg
    | some a => exact .inl ⟨a, rfl, by simpa [Value.ownBlock] using hg⟩⟩

theorem written_any (n c m d N : Nat) (x y : Option Addr) (l k : List Nat) (D M : Int) (w : World) (hl : Sl w x n c l) (hk : Sl w y m d k) (hN : N < 18446744073709551616) (hs : n + m ≤ 140737488340000) :
    Calls Try.prog 8 #[.slice x n c, .agg #[.int .i64 D, .int .u64 N, .slice y m d, .int .i64 M]] w fun ed w' => ∃ v1 v2, ed = .returned (.tuple #[v1, v2]) ∧ IsSl w' v1 (l ++ enI D N k) ∧ IsSl w' v2 (enI D N k) ∧ Below w.heap.size w w' ∧ Where x w w' v1 := by
  by_cases h0 : D = 0
  · subst h0; exact written_uv n c m d N x y l k M w hl hk hN hs
  by_cases h1 : D = 1
  · subst h1; exact written_var n c m d N x y l k M w hl hk hN hs
  by_cases h2 : D = 2
  · subst h2; exact written_f4 n c m d N x y l k M w hl hk hN hs
  by_cases h3 : D = 3
  · subst h3; exact written_f8 n c m d N x y l k M w hl hk hN hs
  by_cases h6 : D = 6
  · subst h6; exact written_bytes n c m d N x y l k M w hl hk hN hs
  exact written_none n c m d N x y l k D M w hl hk hN hs h0 h1 h2 h3 h6

theorem enI_len (D : Int) (N : Nat) (k : List Nat) (hN : N < 18446744073709551616) (hk : k.length < 18446744073709551616) : (enI D N k).length ≤ k.length + 10 := by
  unfold enI
  split
  · have := uv_ten hN; omega
  split
  · have := uv_ten (zz_lt (sg_bound hN).1 (sg_bound hN).2); omega
  split
  · rw [fx_len]; omega
  split
  · rw [fx_len]; omega
  split
  · rw [List.length_append]; have := uv_ten hk; omega
  · simp

theorem enI_lt (D : Int) (N : Nat) (k : List Nat) (hk : ∀ u ∈ k, u < 256) : ∀ u ∈ enI D N k, u < 256 := by
  unfold enI
  split
  · exact uv_lt _
  split
  · exact uv_lt _
  split
  · exact fx_lt _ _
  split
  · exact fx_lt _ _
  split
  · exact lt_append (uv_lt _) hk
  · intro u hu; cases hu

end Go.Proofs.Ytjodeceaogngfaa

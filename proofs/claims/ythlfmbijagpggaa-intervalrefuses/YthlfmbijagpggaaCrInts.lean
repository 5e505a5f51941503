/-
  Lists of int: read, and made by one's own; slices.Contains; a place's own descents.
  Conditions: the lists lie in memory; at most a thousand.
-/
import Derived.Test.YthlfmbijagpggaaCrDesc
namespace Go.Proofs.Ythlfmbijagpggaa.Cr
open Go.RowKit By Fl At
open Sr (Wd Ws enW cho DL choose_any)
set_option linter.unusedVariables false
set_option linter.unusedSimpArgs false
set_option maxRecDepth 100000

def enI (z : Int) : List Value := [.int .i64 z]
theorem irow : Row 23 3 1 8 enI := by
  have hi : (Try.prog.info? 3).map (fun i => (i.zero, i.size, i.bytes)) = some (some (.int .i64 0), 1, 8) := by kernel_rfl
  obtain ⟨i0, h1, h2, h3, h4⟩ := info_parts hi
  exact ⟨Try.underlying23, ⟨i0, _, h1, h2, h3, h4, rfl⟩, by decide, by decide, fun a => rfl, fun a v hv => by simp [enI] at hv; rw [hv]; rfl⟩

structure Nu (w : World) (x : Option Addr) (n c : Nat) (l : List Int) : Prop where
  len : l.length = n
  le : n ≤ c
  row : n = 0 ∨ ∃ b o, x = some ⟨b, o, none⟩ ∧ b < w.heap.size ∧ ∀ (k : Nat) (z : Int), l[k]? = some z → w.cell? ⟨b, o + k, none⟩ = some (.int .i64 z)

theorem Nu.below {w w' : World} {x : Option Addr} {n c : Nat} {l : List Int} (h : Nu w x n c l) (hb : Below w.heap.size w w') : Nu w' x n c l := by
  refine ⟨h.len, h.le, ?_⟩
  rcases h.row with h0 | ⟨b, o, h1, h2, h3⟩
  · exact .inl h0
  · exact .inr ⟨b, o, h1, Nat.lt_of_lt_of_le h2 hb.size, fun k z hk => keep hb (h3 k z hk)⟩

theorem own_nu {w : World} {B : Nat} {x : Option Addr} {n c : Nat} {l : List Int} (h : Own w B 3 1 enI (.slice x n c) l) : Nu w x n c l := by
  obtain ⟨x', c', e, h1, h2, h3⟩ := h.form
  injection e with e1 e2 e3
  subst e1 e2 e3
  refine ⟨rfl, h1, ?_⟩
  by_cases h0 : l.length = 0
  · exact .inl h0
  · cases x with
    | none => exact .inl (h2 rfl).1
    | some ad =>
      obtain ⟨g, rfl, hB, hg⟩ := h3 ad rfl
      exact .inr ⟨g, 0, rfl, hg, fun k z hk => by
        rw [Nat.zero_add]
        have := h.cell irow.len hk (j := 0) (v := .int .i64 z) rfl
        rwa [Nat.mul_one, Nat.add_zero] at this⟩

/- append(l, z). -/
theorem push_z {w : World} {B : Nat} {R : Value} {l : List Int} (h : Own w B 3 1 enI R l) (z : Int) (hl : l.length ≤ 1000) (hB : B ≤ w.heap.size) :
    ∃ x' c' w3, (Builtin.append_ #[23, 23] 23 #[R, .slice (some ⟨w.heap.size, 0, none⟩) 1 1]).run Try.prog (w.alloc (.cells #[.int .i64 z] 3)) = .ok (.slice x' (l.length + 1) c') w3 ∧
      Hid (Own w3 B 3 1 enI (.slice x' (l.length + 1) c') (l ++ [z]) ∧ Turns (fun j => R.ownBlock = some j) w w3 ∧ ∀ g, (Value.slice x' (l.length + 1) c').ownBlock = some g → R.ownBlock = some g ∨ w.heap.size ≤ g) := by
  have b1 := al w (.cells #[.int .i64 z] 3)
  obtain ⟨x', c', w3, hap, HO⟩ := (h.below b1).push irow (by simp; omega) ⟨w.heap.size, 0, none⟩ 1 1 [z] rfl (fun j u hj => by
    rw [add_at, Nat.zero_add]
    rw [flat_one] at hj
    match j, hj with
    | 0, hj => simpa [enI] using hj
    | j + 1, hj => simp [enI] at hj) (by omega)
  obtain ⟨o3, t3, n3⟩ := HO.out
  refine ⟨x', c', w3, hap, o3, (Turns.of_below b1).trans t3, fun g hg => ?_⟩
  rcases n3 g hg with e | e
  · exact .inl e
  · right
    rw [e]
    simp

set_option maxHeartbeats 1600000 in
theorem indexI_any {w : World} {x : Option Addr} {n c : Nat} {l : List Int} (h : Nu w x n c l) (hn : n ≤ 1000) (z : Int) :
    Calls Try.prog 67 #[.slice x n c, .int .i64 z] w fun e w' => (∃ r : Int, e = .returned (.int .i64 r) ∧ Hid (0 ≤ r ↔ z ∈ l)) ∧ w' = w := by
  have HO := hid h
  have HL := hid h.len
  clear h
  go_enter Try.func67, Try.ntmps67
  go_wp2_with fail
  go_loop [8] (fun i => ∃ k : Nat, k ≤ n ∧ i = .int .i64 k ∧ Hid (∀ (j : Nat) (y : Int), j < k → l[j]? = some y → y ≠ z)) (fun i => n - (intOf i).toNat)
  case atStart => exact ⟨0, by omega, rfl, fun j y hj => by omega⟩
  case round =>
    obtain ⟨k, hk, rfl, HR⟩ := hrel
    by_cases hlt : k < n
    · have hkn : (k : Int) < (n : Int) := by omega
      obtain ⟨y, hy⟩ : ∃ y, l[k]? = some y := ⟨l[k]'(by have := HL.out; omega), List.getElem?_eq_getElem (by have := HL.out; omega)⟩
      rcases HO.out.row with h0 | ⟨b, o, rfl, hbl, hcell⟩
      · omega
      have c0 := hcell k y hy
      have HY := hid hy
      clear hcell hy
      by_cases e : z = y
      · have e1 : (z == y) = true := by simpa using e
        have HE := hid e
        clear e
        go_wp2_with fail
        go_ret
        refine ⟨⟨_, rfl, ?_⟩, rfl⟩
        show 0 ≤ (k : Int) ↔ z ∈ l
        exact ⟨fun _ => by rw [HE.out]; exact List.mem_of_getElem? HY.out, fun _ => by omega⟩
      · have e1 : (z == y) = false := by simpa using e
        have HE := hid e
        clear e
        go_wp2_with fail
        go_round
        case rel =>
          refine ⟨k + 1, by omega, by go_num, fun j q hj hq => ?_⟩
          by_cases ej : j = k
          · subst ej
            have := Option.some.inj (HY.out.symm.trans hq)
            rw [← this]
            exact fun e => HE.out e.symm
          · exact HR.out j q (by omega) hq
        case measure => simp [intOf]; omega
    · have hk2 : k = n := by omega
      subst hk2
      go_wp2_with fail
      go_ret
      refine ⟨⟨_, rfl, ?_⟩, rfl⟩
      show 0 ≤ (-1 : Int) ↔ z ∈ l
      refine ⟨fun h => by omega, fun h => ?_⟩
      obtain ⟨j, hj⟩ := List.mem_iff_getElem?.1 h
      exact absurd rfl (HR.out j z (by rw [← HL.out]; exact (List.getElem?_eq_some_iff.1 hj).1) hj)

theorem containsI_any {w : World} {x : Option Addr} {n c : Nat} {l : List Int} (h : Nu w x n c l) (hn : n ≤ 1000) (z : Int) :
    Calls Try.prog 57 #[.slice x n c, .int .i64 z] w fun e w' => e = .returned (.bool (decide (z ∈ l))) ∧ w' = w := by
  have c1 := indexI_any h hn z
  clear h
  go_enter Try.func57, Try.ntmps57
  go_wp2_with (go_at_call 67; refine c1.mono ?_; rintro e w1 ⟨⟨r, rfl, HR⟩, rfl⟩)
  go_ret
  refine ⟨?_, rfl⟩
  have := HR.out
  rw [show decide (z ∈ l) = decide (0 ≤ r) from decide_eq_decide.2 this.symm]
  rfl

def vR (dom : Int) (want : Nat) : Value := .agg #[.int .i64 dom, .int .i64 (want : Nat)]

theorem fnd_step_no {f : Nat → Option Pa} {d : Nat} {T : List Int} {t : Nat} (h0 : fnd f d T t = none) (h : f t = none) : fnd f d T (t + 1) = none := by simp only [fnd, h0, h]
theorem fnd_step_in {f : Nat → Option Pa} {d : Nat} {T : List Int} {t : Nat} {p : Pa} (h0 : fnd f d T t = none) (h : f t = some p) (hp : kP d p ∈ T) : fnd f d T (t + 1) = none := by simp only [fnd, h0, h, hp, if_true]
theorem fnd_step_yes {f : Nat → Option Pa} {d : Nat} {T : List Int} {t : Nat} {p : Pa} (h0 : fnd f d T t = none) (h : f t = some p) (hp : kP d p ∉ T) : fnd f d T (t + 1) = some p := by simp only [fnd, h0, h, hp, if_false]
theorem fnd_keep {f : Nat → Option Pa} {d : Nat} {T : List Int} {p : Pa} {t : Nat} (h : fnd f d T t = some p) : ∀ m, fnd f d T (t + m) = some p
  | 0 => h
  | m + 1 => by
    show fnd f d T (t + m + 1) = some p
    simp only [fnd, fnd_keep h m]

structure Fs (w wr : World) (v : Bv) (dom : Int) (want : Nat) : Prop where
  bel : Below w.heap.size w wr
  bx : wr.heap[w.heap.size]? = some (.cells #[.slice v.x v.n v.c, .slice v.y v.m v.d] 80 (0, 0))
  ru : wr.heap[w.heap.size + 1]? = some (.cells #[.int .i64 dom, .int .i64 (want : Nat)] 71 (0, 0))
  res : wr.heap[w.heap.size + 1 + 1]? = some (.cells #[.int .i64 0, .int .i64 0, .int .i64 0] 83 (0, 0))

theorem Fs.below {w wr w' : World} {v : Bv} {dom : Int} {want : Nat} (h : Fs w wr v dom want) (hb : Below wr.heap.size wr w') : Fs w w' v dom want := by
  have l2 := (Array.getElem?_eq_some_iff.1 h.res).1
  exact ⟨on h.bel hb, (hb.block _ (by omega)).trans h.bx, (hb.block _ (by omega)).trans h.ru, (hb.block _ l2).trans h.res⟩

theorem Fs.start (w : World) (v : Bv) (dom : Int) (want : Nat) : Fs w (((w.alloc (.cells #[.slice v.x v.n v.c, .slice v.y v.m v.d] 80)).alloc (.cells #[.int .i64 dom, .int .i64 (want : Nat)] 71)).alloc (.cells #[.int .i64 0, .int .i64 0, .int .i64 0] 83)) v dom want := by
  obtain ⟨A, hA⟩ : ∃ A : Obj, A = .cells #[.slice v.x v.n v.c, .slice v.y v.m v.d] 80 := ⟨_, rfl⟩
  obtain ⟨B, hB⟩ : ∃ B : Obj, B = .cells #[.int .i64 dom, .int .i64 (want : Nat)] 71 := ⟨_, rfl⟩
  obtain ⟨C, hC⟩ : ∃ C : Obj, C = .cells #[.int .i64 0, .int .i64 0, .int .i64 0] 83 := ⟨_, rfl⟩
  rw [← hA, ← hB, ← hC]
  have s1 : (w.alloc A).heap.size = w.heap.size + 1 := by simp
  have s2 : ((w.alloc A).alloc B).heap.size = w.heap.size + 1 + 1 := by simp
  refine ⟨on (al _ _) (on (al _ _) (al _ _)), ?_, ?_, ?_⟩
  · rw [← hA]
    exact ((al ((w.alloc A).alloc B) C).block _ (by omega)).trans (((al (w.alloc A) B).block _ (by omega)).trans (heap_alloc_new w A))
  · have := heap_alloc_new (w.alloc A) B
    rw [s1] at this
    rw [← hB]
    exact ((al ((w.alloc A).alloc B) C).block _ (by omega)).trans this
  · have := heap_alloc_new ((w.alloc A).alloc B) C
    rw [s2] at this
    rw [hC] at this ⊢
    exact this

end Go.Proofs.Ythlfmbijagpggaa.Cr

/-
  The rows that the law picks, one after the other, each another one: what they are in memory.
  Conditions: none.
-/
import Derived.Test.YtkdjjmjfpembpaaMxRefCau
import Derived.Test.YtkdjjmjfpembpaaMxWant
namespace Go.Proofs.Ytkdjjmjfpembpaa
open Go.RowKit Gf
set_option linter.unusedVariables false

theorem info_bool : (Try.prog.info? 4).map (fun i => (i.zero, i.size, i.bytes)) = some (some (.bool false), 1, 1) := by kernel_rfl

def mt (g : Nat → Nat) (c j : Nat) : Bool := (List.range c).any fun i => g i == j

theorem mt_true {g : Nat → Nat} {c j : Nat} : mt g c j = true ↔ ∃ i, i < c ∧ g i = j := by
  unfold mt
  rw [List.any_eq_true]
  constructor
  · rintro ⟨i, hi, h⟩
    exact ⟨i, List.mem_range.1 hi, by simpa using h⟩
  · rintro ⟨i, hi, h⟩
    exact ⟨i, List.mem_range.2 hi, by simpa using h⟩

structure Pick (W0 wr : World) (lb lc M s c : Nat) (g : Nat → Nat) : Prop where
  below : Below W0.heap.size W0 wr
  own : wr.ownsRow W0.heap.size 3 1 (.slice (some ⟨lb, 0, none⟩) c lc) c (intsOf (fun i => (g i : Int)) c)
  met : wr.rowIs M 4 s (fun j => .bool (mt g c j))
  hM : W0.heap.size ≤ M
  lt : ∀ i, i < c → g i < s
  inj : ∀ i j, i < c → j < c → g i = g j → i = j

theorem pick_start {W0 x : World} (hb : Below W0.heap.size W0 x) (s : Nat) (g : Nat → Nat) :
    Pick W0 ((x.alloc (.cells #[] 3)).alloc (.cells (madeCells #[.bool false] s) 4)) x.heap.size 0 (x.heap.size + 1) s 0 g := by
  have h1 := World.rowIs_made (x.alloc (.cells #[] 3)) (.bool false) s 4
  rw [show (x.alloc (.cells #[] 3)).heap.size = x.heap.size + 1 by simp] at h1
  refine ⟨(hb.alloc hb.size _).alloc (by simp; have := hb.size; omega) _, ?_, h1.congr (fun j _ => by simp [mt]), by have := hb.size; omega, fun i hi => by omega, fun i j hi => by omega⟩
  have h2 : (x.alloc (.cells #[] 3)).ownsRow W0.heap.size 3 1 (.slice (some ⟨x.heap.size, 0, none⟩) 0 0) 0 [] :=
    ⟨rfl, .inr ⟨x.heap.size, 0, #[], rfl, hb.size, heap_alloc_new _ _, Nat.le_refl _, Nat.zero_le _, rfl, rfl⟩⟩
  exact h2.alloc _

theorem pick_step {W0 wr : World} {lb lc M s c a : Nat} {g : Nat → Nat} (h : Pick W0 wr lb lc M s c g) (hc : c ≤ 1000) (ha : a < s) (hu : mt g c a = false) :
    ∃ lb' lc' w2, (Builtin.append_ #[31, 31] 31 #[.slice (some ⟨lb, 0, none⟩) c lc, .slice (some ⟨wr.heap.size, 0, none⟩) 1 1]).run Try.prog ((wr.setCell ⟨M, a, none⟩ (.bool true)).alloc (.cells #[.int .i64 (a : Int)] 3)) = .ok (.slice (some ⟨lb', 0, none⟩) (c + 1) lc') w2 ∧
      ∃ g', Pick W0 w2 lb' lc' M s (c + 1) g' := by
  obtain ⟨i0, hi, hz0, hz1, hz2⟩ := info_parts info_int
  have hsz : (wr.setCell ⟨M, a, none⟩ (.bool true)).heap.size = wr.heap.size := by simp
  have hle := h.below.size
  have hMlt := h.met.lt
  have hne : lb ≠ M := fun e => by
    obtain ⟨cm, hm, _, _⟩ := h.met
    rcases h.own.2 with ⟨h', _⟩ | ⟨g1, c1, cur, h', _, hh, _⟩
    · cases h'
    · injection h' with h' _ _
      injection h' with h'
      injection h' with h' _ _
      subst h'
      rw [e, hm] at hh
      injection hh with hh
      injection hh with _ hh _
      exact absurd hh (by decide)
  have hown1 : (wr.setCell ⟨M, a, none⟩ (.bool true)).ownsRow W0.heap.size 3 1 (.slice (some ⟨lb, 0, none⟩) c lc) c (intsOf (fun i => (g i : Int)) c) := by
    refine h.own.kept (row := some M) ⟨rfl, rfl, rfl, by simp, fun k _ hk => Below.heap_setCell _ _ _ _ (fun e => hk (by rw [e]))⟩ (.inr (by simpa [Value.ownBlock] using hne))
  have hmet1 : (wr.setCell ⟨M, a, none⟩ (.bool true)).rowIs M 4 s (fun j => .bool (mt (fun i => if i = c then a else g i) (c + 1) j)) := (h.met.set a (.bool true)).congr (fun j hj => by
    by_cases e : j = a
    · subst e
      rw [if_pos rfl]
      rw [mt_true.2 ⟨c, by omega, by simp⟩]
    · rw [if_neg e]
      congr 1
      rw [Bool.eq_iff_iff, mt_true, mt_true]
      constructor
      · rintro ⟨i, hi, rfl⟩
        exact ⟨i, by omega, by rw [if_neg (by omega)]⟩
      · rintro ⟨i, hi, hh⟩
        by_cases ei : i = c
        · subst ei; rw [if_pos rfl] at hh; exact absurd hh.symm e
        · rw [if_neg ei] at hh; exact ⟨i, by omega, hh⟩)
  obtain ⟨v', w2, hr, h2, h3, h4⟩ := run_append_own (P := Try.prog) ((wr.setCell ⟨M, a, none⟩ (.bool true)).alloc (.cells #[.int .i64 (a : Int)] 3)) W0.heap.size 31 31 3 i0 (.int .i64 0) 1 8 Try.underlying31 hi hz0 hz1 hz2 rfl (by decide) _ c _ (hown1.alloc _)
    ⟨wr.heap.size, 0, none⟩ 1 1 [.int .i64 (a : Int)] rfl (by have := one_at (wr.setCell ⟨M, a, none⟩ (.bool true)) (.int .i64 (a : Int)) 3; rwa [hsz] at this) (by simp [Value.oneCell']) (by unfold maxLen; omega) (by omega) (by simp; omega)
  have hkeep : w2.heap[M]? = (wr.setCell ⟨M, a, none⟩ (.bool true)).heap[M]? := by
    rw [h3.block M (by simp; omega) (by simp [Value.ownBlock]; exact fun e => hne e.symm)]
    exact Below.heap_alloc _ _ _ (by rw [hsz]; exact hMlt)
  rcases h2.2 with ⟨_, h0⟩ | ⟨lb', lc', cur, rfl, _⟩
  · omega
  · refine ⟨lb', lc', w2, hr, fun i => if i = c then a else g i, ?_, ?_, hmet1.of_block hkeep, h.hM, fun i hi => ?_, fun i j hi hj => ?_⟩
    · exact (h.below.setCell h.hM _).trans (((Below.refl W0.heap.size _).alloc (by rw [hsz]; exact hle) _).grown h3 (by simp; omega) (fun k hk => (hown1.lt k hk).1))
    · rw [show intsOf (fun i => (((if i = c then a else g i : Nat)) : Int)) (c + 1) = intsOf (fun i => (g i : Int)) c ++ [.int .i64 (a : Int)] by
        simp only [intsOf, List.range_succ, List.map_append, List.map_cons, List.map_nil, if_true]
        congr 1
        refine List.map_congr_left fun r hr => ?_
        have : r ≠ c := by have := List.mem_range.1 hr; omega
        simp [this]]
      exact h2
    · by_cases e : i = c
      · simpa [e] using ha
      · simp only [e, if_false]; exact h.lt i (by omega)
    · have hnot : ∀ r, r < c → g r ≠ a := fun r hr e => by
        have := mt_true.2 ⟨r, hr, e⟩
        rw [hu] at this; cases this
      by_cases e : i = c
      · by_cases e2 : j = c
        · intro _; omega
        · simp only [e, e2, if_true, if_false]; intro hh; exact absurd hh.symm (hnot j (by omega))
      · by_cases e2 : j = c
        · simp only [e, e2, if_true, if_false]; intro hh; exact absurd hh (hnot i (by omega))
        · simp only [e, e2, if_false]; exact h.inj i j (by omega) (by omega)

theorem pick_cells {W0 wr : World} {lb lc M s c : Nat} {g : Nat → Nat} (h : Pick W0 wr lb lc M s c g) : lb < wr.heap.size ∧ ∀ i, i < c → wr.cell? ⟨lb, 0 + i, none⟩ = some (.int .i64 (g i : Int)) := by
  refine ⟨(h.own.lt lb rfl).2, fun i hi => ?_⟩
  rw [Nat.zero_add, h.own.cellAt i (by omega)]
  simp [intsOf, hi]

/- One place is not yet met. -/
theorem unmet (g : Nat → Nat) (c s : Nat) (h : c < s) : ∃ u, u < s ∧ mt g c u = false := by
  apply Classical.byContradiction
  intro hn
  have hall : ∀ u, u < s → ∃ i, i < c ∧ g i = u := fun u hu => by
    cases e : mt g c u with
    | true => exact mt_true.1 e
    | false => exact absurd ⟨u, hu, e⟩ hn
  have hpre : ∃ pre : Nat → Nat, ∀ u, u < s → pre u < c ∧ g (pre u) = u := ⟨fun u => if hu : u < s then Classical.choose (hall u hu) else 0, fun u hu => by
    simp only [hu, dif_pos]
    exact Classical.choose_spec (hall u hu)⟩
  obtain ⟨pre, hp⟩ := hpre
  have h1 := nodup_below c ((List.range s).map pre) (by
    unfold List.Nodup
    rw [List.pairwise_map]
    refine List.Pairwise.imp_of_mem ?_ (List.nodup_range (n := s))
    intro a b ha hb hne e
    have h1 := (hp a (List.mem_range.1 ha)).2
    have h2 := (hp b (List.mem_range.1 hb)).2
    rw [e, h2] at h1
    exact hne h1.symm) (fun x hx => by
    obtain ⟨u, hu, rfl⟩ := List.mem_map.1 hx
    exact (hp u (List.mem_range.1 hu)).1)
  simp at h1
  omega

def far (u s a : Nat) : Nat := if a ≤ u then u - a else u + s - a

theorem far_step {u s a : Nat} (hu : u < s) (ha : a < s) (hne : a ≠ u) : far u s ((a + 1) % s) < far u s a := by
  unfold far
  by_cases e : a + 1 = s
  · rw [e, Nat.mod_self, if_pos (Nat.zero_le _), if_neg (by omega)]; omega
  · rw [Nat.mod_eq_of_lt (by omega)]
    by_cases h1 : a ≤ u
    · rw [if_pos h1, if_pos (by omega)]; omega
    · rw [if_neg h1, if_neg (by omega)]; omega

end Go.Proofs.Ytkdjjmjfpembpaa

/-
  An append behind a list of one's own: what else lies in memory stays, and the list lies where it did or in new memory.
  Conditions: none.
-/
import Derived.Test.YtjodeceaogngfaaWiWritten
namespace Go.Proofs.Ytjodeceaogngfaa
open Go.RowKit Wi By
set_option linter.unusedVariables false
set_option linter.unusedSimpArgs false
set_option maxRecDepth 100000

theorem Sl.cells {w : World} {ad : Addr} {m c : Nat} {k : List Nat} (h : Sl w (some ad) m c k) : ∀ j u, (cellsL k)[j]? = some u → w.cell? (ad.add j) = some u := fun j u hj => by
  have hjn : j < m := by
    have := (List.getElem?_eq_some_iff.1 hj).1
    simpa [cellsL, h.len] using this
  have e : u = .int .u8 (gl k j : Int) := by simp [cellsL] at hj; obtain ⟨q, hq, rfl⟩ := hj; simp [gl, hq]
  rcases h.row with h0 | ⟨b, o, ha, _, hc⟩
  · omega
  · injection ha with ha
    subst ha
    rw [e, add_at]
    exact hc j hjn

theorem cellsL_one (k : List Nat) : ∀ u ∈ cellsL k, u.oneCell' = true := fun u hu => by
  simp [cellsL] at hu
  obtain ⟨j, _, rfl⟩ := hu
  rfl

theorem push_kept (w w0 : World) (base : Nat) (R : Value) (l : List Nat) (hown : OwnL w base R l) (hb : base ≤ w.heap.size) (h0 : Below base w0 w)
    (x : Option Addr) (m c : Nat) (k : List Nat) (hk : Sl w x m c k) (hs : l.length + m ≤ 140737488355328) :
    ∃ R' w', (Builtin.append_ #[22, 22] 22 #[R, .slice x m c]).run Try.prog w = .ok R' w' ∧ OwnL w' base R' (l ++ k) ∧ Below base w0 w' ∧
      (w.heap.size ≤ w'.heap.size ∧ ∀ i, i < w.heap.size → some i ≠ R.ownBlock → w'.heap[i]? = w.heap[i]?) ∧ (∀ g, R'.ownBlock = some g → R.ownBlock = some g ∨ w.heap.size ≤ g) := by
  obtain ⟨R', w', hr, ho, hb'⟩ := push_list w w0 base R l hown hb h0 x m c k hk hs
  refine ⟨R', w', hr, ho, hb', ?_⟩
  obtain ⟨i0, hi, hz0, hz1, hz2⟩ := info_parts info_byte
  cases x with
  | none =>
    obtain ⟨rfl, rfl⟩ := hk.nil' rfl
    have hr2 := run_append_owned_none (P := Try.prog) (w := w) base 22 22 5 i0 1 Try.underlying22 hi R l.length _ hown
    rw [hr2] at hr
    injection hr with e1 e2
    subst e1
    subst e2
    exact ⟨⟨Nat.le_refl _, fun _ _ _ => rfl⟩, fun g hg => .inl hg⟩
  | some ad =>
    have hcl : (cellsL k).length = m * 1 := by simp [cellsL, hk.len]
    have hcl0 : (cellsL k).length = m * i0.size := by rw [hz1]; exact hcl
    obtain ⟨v', w'', hr2, h2, h3, h4⟩ := run_append_own (P := Try.prog) w base 22 22 5 i0 (.int .u8 0) 1 1 Try.underlying22 hi hz0 hz1 hz2 rfl (by decide) R l.length (cellsL l) hown
      ad m c (cellsL k) hcl hk.cells (cellsL_one k) (by unfold maxLen; omega) (by omega) hb
    rw [hr2] at hr
    injection hr with e1 e2
    subst e1
    subst e2
    refine ⟨⟨h3.size, h3.block⟩, fun g hg => ?_⟩
    rcases hown.2 with ⟨rfl, hn0⟩ | ⟨g0, cap, cur, rfl, hbg, hgc, hnc, hcm, hcs, htake⟩
    · right
      have hm0 : m ≠ 0 := fun e => by
        have := h4.2 ⟨rfl, e⟩
        rw [this] at hg
        cases hg
      have hr3 := run_append_nil (P := Try.prog) w 22 22 5 i0 (.int .u8 0) Try.underlying22 hi hz0 ad m c (cellsL k) hcl0 hk.cells (by omega) (by omega) (by rw [hz2]; omega)
      rw [hr2] at hr3
      injection hr3 with e1 _
      rw [e1] at hg
      simp [Value.ownBlock] at hg
      omega
    · by_cases hroom : l.length + m ≤ cap
      · left
        have hr3 := run_append_room (P := Try.prog) w 22 22 5 i0 Try.underlying22 hi g0 l.length cap cur hgc ad m c (cellsL k) hcl0 hk.cells (cellsL_one k) hroom (by rw [hz1, hcs, hcl]; omega)
        rw [hr2] at hr3
        injection hr3 with e1 _
        rw [e1] at hg
        simp [Value.ownBlock] at hg
        simp [Value.ownBlock, hg]
      · right
        have holds : ∀ j u, (cellsL l)[j]? = some u → w.cell? ((⟨g0, 0, none⟩ : Addr).add j) = some u := fun j u hj => by
          have hjn : j < l.length := by
            have := (List.getElem?_eq_some_iff.1 hj).1
            simpa [cellsL] using this
          rw [add_at, Nat.zero_add, World.ownsRow.cellAt hown j (by omega)]
          exact hj
        have hr3 := run_append_grow (P := Try.prog) w 22 22 5 i0 (.int .u8 0) Try.underlying22 hi hz0 ⟨g0, 0, none⟩ l.length cap (cellsL l) (by rw [hz1]; simp [cellsL]) holds ad m c (cellsL k) hcl0 hk.cells (by omega) (by omega) (growslice_fits (by omega) (by rw [hz2]; omega))
        rw [hr2] at hr3
        injection hr3 with e1 _
        rw [e1] at hg
        simp [Value.ownBlock] at hg
        omega

theorem IsSl.kept {w w' : World} {v : Value} {l : List Nat} {r : Option Nat} (h : IsSl w v l) (hs : w.heap.size ≤ w'.heap.size) (hk : ∀ i, i < w.heap.size → some i ≠ r → w'.heap[i]? = w.heap[i]?) (hne : ∀ g, v.ownBlock = some g → some g ≠ r) : IsSl w' v l := by
  obtain ⟨x, c, rfl, h2⟩ := h
  refine ⟨x, c, rfl, h2.len, h2.le, h2.nil, ?_, h2.lt⟩
  rcases h2.row with h0 | ⟨b, o, rfl, hb, hc⟩
  · exact .inl h0
  · exact .inr ⟨b, o, rfl, Nat.lt_of_lt_of_le hb hs, fun i hi => (World.cell?_of_block (a := ⟨b, o + i, none⟩) (w := w) (hk b hb (hne b rfl))).trans (hc i hi)⟩

end Go.Proofs.Ytjodeceaogngfaa

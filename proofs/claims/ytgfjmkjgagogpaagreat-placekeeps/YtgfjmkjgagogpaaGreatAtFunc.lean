/-
  slices.IndexFunc and slices.ContainsFunc at OSDs, whatever is asked of each; seat, moved.
  Conditions: the list lies in memory.
-/
import Derived.Test.YtgfjmkjgagogpaaGreatAtMem
import Derived.Shelf.Abstract
namespace Go.Proofs.YtgfjmkjgagogpaaGreat.At
open Go.RowKit By Fl
set_option linter.unusedVariables false
set_option linter.unusedSimpArgs false
set_option maxRecDepth 100000

/- What is asked of each: it answers p, and turns nothing. -/
def Pr (g : Nat) (lb : Array Value) (p : Osd → Bool) (w : World) : Prop :=
  ∀ (W : World) (x : Osd), Below w.heap.size w W → Calls Tryz.prog g (#[vO x] ++ lb) W fun e w' => e = .returned (.bool (p x)) ∧ Below W.heap.size W w'

theorem Pr.below {g : Nat} {lb : Array Value} {p : Osd → Bool} {w w' : World} (h : Pr g lb p w) (hb : Below w.heap.size w w') : Pr g lb p w' := fun W x hW => h W x (on hb hW)

theorem index_any {w : World} {x : Option Addr} {n c : Nat} {L : List Osd} (p : Osd → Bool) (g : Nat) (lb : Array Value) (eg : ∀ args w, (callFunc g args).run Tryz.prog w = .ok (.enter g args) w) (h : Os w x n c L) (hp : Pr g lb p w) :
    Calls Tryz.prog 71 #[.slice x n c, .func (.func g) #[] lb] w fun e w' => e = .returned (.int .i64 (idx p L)) ∧ Below w.heap.size w w' := by
  have hm := h.small
  have HO : Hid (Os w x n c L) := h
  have HP : Hid (Pr g lb p w) := hp
  clear h hp
  go_enter Tryz.func71, Tryz.ntmps71
  go_wp2_with fail
  go_loopw [8, 5] (fun i _ wr => ∃ k : Nat, k ≤ n ∧ i = .int .i64 k ∧ Hid (Below w.heap.size w wr ∧ ∀ (j : Nat) (m : Osd), j < k → L[j]? = some m → p m = false)) (fun i _ _ => n - (intOf i).toNat)
  case atStart => exact ⟨0, by omega, rfl, Below.refl _ _, fun j m hj => by omega⟩
  case round =>
    obtain ⟨k, hk, rfl, HR⟩ := hrel
    by_cases hlt : k < n
    · have hkn : (k : Int) < (n : Int) := by omega
      have hlen := HO.out.len
      obtain ⟨m, hLm⟩ : ∃ m, L[k]? = some m := ⟨L[k]'(by omega), List.getElem?_eq_getElem (by omega)⟩
      have ho := HO.out.below HR.out.1
      rcases ho.row with h0 | ⟨b, o, rfl, hbl, hcell⟩
      · omega
      obtain ⟨k0, k1, k2, k3, k4, k5, k6, k7⟩ := Os.at (n := n) (c := c) hcell hLm
      have hc := HP.out wr m HR.out.1
      have HM : Hid (L[k]? = some m) := hLm
      clear hLm ho hcell hlen
      obtain ⟨t, ht⟩ : ∃ t, t = p m := ⟨_, rfl⟩
      rw [← ht] at hc
      have HT : Hid (t = p m) := ht
      clear ht
      obtain ⟨id, up, inn, wt, life, boot, host, rack⟩ := m
      unfold vO at hc
      dsimp only at k0 k1 k2 k3 k4 k5 k6 k7 hc
      cases t with
      | true =>
        go_wp2_with (go_at_fn g; refine hc.mono ?_; rintro e w2 ⟨rfl, hb2⟩; clear hc)
        go_ret
        exact ⟨by unfold idx; rw [idx_hit HM.out HT.out.symm HR.out.2]; rfl, on HR.out.1 hb2⟩
      | false =>
        go_wp2_with (go_at_fn g; refine hc.mono ?_; rintro e w2 ⟨rfl, hb2⟩; clear hc)
        go_roundw
        case rel =>
          refine ⟨k + 1, by omega, by go_num, on HR.out.1 hb2, fun j m' hj e => ?_⟩
          by_cases hjk : j = k
          · subst hjk
            have := Option.some.inj (HM.out.symm.trans e)
            rw [← this]
            exact HT.out.symm
          · exact HR.out.2 j m' (by omega) e
        case measure => simp [intOf]; omega
    · have hk2 : k = n := by omega
      subst hk2
      go_wp2_with fail
      go_ret
      refine ⟨?_, HR.out.1⟩
      unfold idx
      rw [idx_miss fun j m e => HR.out.2 j m (by
        have := (List.getElem?_eq_some_iff.1 e).1
        have := HO.out.len
        omega) e]
      rfl

theorem idx_any (p : Osd → Bool) (L : List Osd) : L.any p = decide (0 ≤ idx p L) := by
  unfold idx
  cases h : L.findIdx? p with
  | none =>
    rw [List.findIdx?_eq_none_iff] at h
    simp only [Bool.eq_false_iff] at *
    have : L.any p = false := by
      rw [List.any_eq_false]
      intro x hx e
      exact h x hx e
    rw [this]
    rfl
  | some k =>
    obtain ⟨a, ha, hp, _⟩ := idx_some h
    have : L.any p = true := List.any_eq_true.2 ⟨a, List.mem_of_getElem? ha, hp⟩
    rw [this]
    simp

theorem contains_any {w : World} {x : Option Addr} {n c : Nat} {L : List Osd} (p : Osd → Bool) (g : Nat) (lb : Array Value) (eg : ∀ args w, (callFunc g args).run Tryz.prog w = .ok (.enter g args) w) (h : Os w x n c L) (hp : Pr g lb p w) :
    Calls Tryz.prog 90 #[.slice x n c, .func (.func g) #[] lb] w fun e w' => e = .returned (.bool (L.any p)) ∧ Below w.heap.size w w' := by
  have hI := index_any p g lb eg h hp
  rw [idx_any]
  generalize idx p L = r at hI ⊢
  clear h hp
  go_enter Tryz.func90, Tryz.ntmps90
  go_wp2_with (go_at_call 71; refine hI.mono ?_; rintro e w2 ⟨rfl, hb2⟩)
  go_ret
  exact ⟨rfl, hb2⟩

theorem seat_clos (w : World) (bx : Nat) (id : Int) (hb : w.cell? ⟨bx, 0, none⟩ = some (.int .i64 id)) : Pr 72 #[.pointer (some ⟨bx, 0, none⟩)] (isId id) w := by
  intro W x hW
  obtain ⟨i, up, inn, wt, life, boot, host, rack⟩ := x
  have h1 := keep hW hb
  have hlt := cell_lt' h1
  have h2 := fun o => keep (al W o) h1
  clear hb hW
  unfold vO isId
  dsimp only
  show Calls Tryz.prog 72 #[.agg #[.int .i64 i, .bool up, .bool inn, .int .i64 wt, .int .i64 life, .int .i64 boot, .int .i64 host, .int .i64 rack], .pointer (some ⟨bx, 0, none⟩)] W _
  go_enter Tryz.func72, Tryz.ntmps72
  go_wp2_with fail
  go_ret
  exact ⟨rfl, al _ _⟩

theorem moved_clos (w : World) (bx : Nat) (h r : Int) (hb : w.cell? ⟨bx, 6, none⟩ = some (.int .i64 h)) (hr : w.cell? ⟨bx, 7, none⟩ = some (.int .i64 r)) (o : Osd) (eh : o.host = h) (er : o.rack = r) : Pr 91 #[.pointer (some ⟨bx, 0, none⟩)] (mvB o) w := by
  intro W x hW
  obtain ⟨i, up, inn, wt, life, boot, host, rack⟩ := x
  have h1 := keep hW hb
  have h3 := keep hW hr
  have hlt := cell_lt' h1
  have h2 := fun o => keep (al W o) h1
  have h4 := fun o => keep (al W o) h3
  unfold vO mvB
  rw [eh, er]
  clear hb hr hW eh er
  dsimp only
  show Calls Tryz.prog 91 #[.agg #[.int .i64 i, .bool up, .bool inn, .int .i64 wt, .int .i64 life, .int .i64 boot, .int .i64 host, .int .i64 rack], .pointer (some ⟨bx, 0, none⟩)] W _
  go_enter Tryz.func91, Tryz.ntmps91
  go_wp2_with fail
  all_goals (go_ret; exact ⟨by by_cases e : rack = r <;> simp_all, al _ _⟩)

theorem seat_any {w : World} {x : Option Addr} {n c : Nat} {L : List Osd} (id : Int) (h : Os w x n c L) :
    Calls Tryz.prog 47 #[.slice x n c, .int .i64 id] w fun e w' => e = .returned (.int .i64 (idx (isId id) L)) ∧ Below w.heap.size w w' := by
  have b0 := al w (.cells #[.int .i64 id] 3)
  have hI := index_any (isId id) 72 #[.pointer (some ⟨w.heap.size, 0, none⟩)] (enters_of Tryz.func72 (by kernel_rfl) rfl) (h.below b0) (seat_clos _ w.heap.size id (by go_simp))
  generalize idx (isId id) L = r at hI ⊢
  clear h
  go_enter Tryz.func47, Tryz.ntmps47
  go_wp2_with (go_at_call 71; refine hI.mono ?_; rintro e w2 ⟨rfl, hb2⟩)
  go_ret
  exact ⟨rfl, on b0 hb2⟩

theorem moved_any {w : World} {x : Option Addr} {n c : Nat} {L : List Osd} (o : Osd) (h : Os w x n c L) :
    Calls Tryz.prog 77 #[.slice x n c, vO o] w fun e w' => e = .returned (.bool (movedB L o)) ∧ Below w.heap.size w w' := by
  have b0 := al w (.cells #[.int .i64 o.id, .bool o.up, .bool o.inn, .int .i64 o.wt, .int .i64 o.life, .int .i64 o.boot, .int .i64 o.host, .int .i64 o.rack] 44)
  have hI := contains_any (mvB o) 91 #[.pointer (some ⟨w.heap.size, 0, none⟩)] (enters_of Tryz.func91 (by kernel_rfl) rfl) (h.below b0) (moved_clos _ w.heap.size o.host o.rack (by go_simp) (by go_simp) o rfl rfl)
  unfold movedB
  generalize L.any (mvB o) = r at hI ⊢
  clear h
  obtain ⟨i, up, inn, wt, life, boot, host, rack⟩ := o
  unfold vO
  dsimp only at b0 hI ⊢
  go_enter Tryz.func77, Tryz.ntmps77
  go_wp2_with (go_at_call 90; refine hI.mono ?_; rintro e w2 ⟨rfl, hb2⟩)
  go_ret
  exact ⟨rfl, on b0 hb2⟩

end Go.Proofs.YtgfjmkjgagogpaaGreat.At

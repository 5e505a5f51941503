/-
  slices.IndexFunc and slices.ContainsFunc at infos, whatever is asked of each; the two closures that ask.
  Conditions: the list lies in memory.
-/
import Derived.Test.YtgcjecmgjncclaaPeMem
import Derived.Shelf.Abstract
namespace Go.Proofs.Ytgcjecmgjncclaa.Pe
open Go.RowKit By Fl Pz
set_option linter.unusedVariables false
set_option linter.unusedSimpArgs false
set_option maxRecDepth 100000
attribute [local go_sem] Oper.semAt_some

/- The first that p holds of; -1: none. -/
def idx (p : FV → Bool) (L : List FV) : Int := match L.findIdx? p with | some k => (k : Int) | none => -1
theorem idx_hit {p : FV → Bool} {L : List FV} {k : Nat} {a : FV} (hk : L[k]? = some a) (ha : p a = true) (hj : ∀ (j : Nat) (b : FV), j < k → L[j]? = some b → p b = false) : L.findIdx? p = some k := by
  rw [List.findIdx?_eq_some_iff_getElem]
  obtain ⟨h1, e⟩ := List.getElem?_eq_some_iff.1 hk
  refine ⟨h1, by rw [e]; exact ha, fun j hlt => ?_⟩
  have := hj j _ hlt (List.getElem?_eq_getElem (by omega))
  simpa using this
theorem idx_miss {p : FV → Bool} {L : List FV} (h : ∀ (j : Nat) (b : FV), L[j]? = some b → p b = false) : L.findIdx? p = none := by
  rw [List.findIdx?_eq_none_iff]
  intro x hx
  obtain ⟨j, e⟩ := List.mem_iff_getElem?.1 hx
  exact h j x e
theorem idx_some {p : FV → Bool} {L : List FV} {k : Nat} (h : L.findIdx? p = some k) : ∃ a, L[k]? = some a ∧ p a = true := by
  rw [List.findIdx?_eq_some_iff_getElem] at h
  obtain ⟨h1, h2, _⟩ := h
  exact ⟨_, List.getElem?_eq_getElem h1, h2⟩

/- What is asked of each: it answers p, and turns nothing. -/
def Pr (g : Nat) (lb : Array Value) (p : FV → Bool) (w : World) : Prop :=
  ∀ (W : World) (F : Nat → Prop) (x : FV), Below w.heap.size w W → FAt W F x → Calls Try.prog g (#[vF x] ++ lb) W fun e w' => e = .returned (.bool (p x)) ∧ Below W.heap.size W w'

theorem Pr.below {g : Nat} {lb : Array Value} {p : FV → Bool} {w w' : World} (h : Pr g lb p w) (hb : Below w.heap.size w w') : Pr g lb p w' := fun W F x hW => h W F x (on hb hW)

set_option maxHeartbeats 3200000 in
theorem index_any {w : World} {G : Nat → Prop} {x : Option Addr} {n c : Nat} {L : List FV} (p : FV → Bool) (g : Nat) (lb : Array Value) (eg : ∀ args w, (callFunc g args).run Try.prog w = .ok (.enter g args) w) (h : Fs w G x n c L) (hp : Pr g lb p w) :
    Calls Try.prog 34 #[.slice x n c, .func (.func g) #[] lb] w fun e w' => e = .returned (.int .i64 (idx p L)) ∧ Below w.heap.size w w' := by
  have hm := h.small
  have HO : Hid (Fs w G x n c L) := h
  have HP : Hid (Pr g lb p w) := hp
  clear h hp
  go_enter Try.func34, Try.ntmps34
  go_wp2_with fail
  go_loopw [8, 5] (fun i _ wr => ∃ k : Nat, k ≤ n ∧ i = .int .i64 k ∧ Hid (Below w.heap.size w wr ∧ ∀ (j : Nat) (m : FV), j < k → L[j]? = some m → p m = false)) (fun i _ _ => n - (intOf i).toNat)
  case atStart => exact ⟨0, by omega, rfl, Below.refl _ _, fun j m hj => by omega⟩
  case round =>
    obtain ⟨k, hk, rfl, HR⟩ := hrel
    by_cases hlt : k < n
    · have hkn : (k : Int) < (n : Int) := by omega
      obtain ⟨m, hLm, hmem⟩ := Lis.some HO.out hlt
      rcases HO.out.row with h0 | ⟨b, o, rfl, hbl, _, hcell⟩
      · omega
      obtain ⟨k0, k1, k2, k3, k4⟩ := f_at hcell hLm
      have r0 := keep HR.out.1 k0
      have r1 := keep HR.out.1 k1
      have r2 := keep HR.out.1 k2
      have r3 := keep HR.out.1 k3
      have r4 := keep HR.out.1 k4
      have hc := HP.out wr G m HR.out.1 (FAt.below (HO.out.each m hmem) HR.out.1)
      have HM : Hid (L[k]? = some m) := hLm
      clear hLm hmem hcell hbl k0 k1 k2 k3 k4
      obtain ⟨t, ht⟩ : ∃ t, t = p m := ⟨_, rfl⟩
      rw [← ht] at hc
      have HT : Hid (t = p m) := ht
      clear ht
      obtain ⟨os, li, no, he, y, ny, cy, S⟩ := m
      unfold vF at hc
      dsimp only at r0 r1 r2 r3 r4 hc
      cases t with
      | true =>
        go_wp2_with (go_at_fn g; refine hc.mono ?_; rintro e w2 ⟨rfl, hb2⟩; clear hc)
        go_ret
        exact ⟨by unfold idx; rw [idx_hit HM.out HT.out.symm HR.out.2]; rfl, on HR.out.1 hb2⟩
      | false =>
        go_wp2_with (go_at_fn g; refine hc.mono ?_; rintro e w2 ⟨rfl, hb2⟩; clear hc)
        go_roundw
        case rel =>
          refine ⟨k + 1, by omega, by go_num, on HR.out.1 hb2, fun j m' hj e => ?_⟩
          by_cases hjk : j = k
          · subst hjk
            have := Option.some.inj (HM.out.symm.trans e)
            rw [← this]
            exact HT.out.symm
          · exact HR.out.2 j m' (by omega) e
        case measure => simp [intOf]; omega
    · have hk2 : k = n := by omega
      subst hk2
      go_wp2_with fail
      go_ret
      refine ⟨?_, HR.out.1⟩
      unfold idx
      rw [idx_miss fun j m e => HR.out.2 j m (by
        have := (List.getElem?_eq_some_iff.1 e).1
        have := HO.out.len
        omega) e]
      rfl

theorem idx_any (p : FV → Bool) (L : List FV) : L.any p = decide (0 ≤ idx p L) := by
  unfold idx
  cases h : L.findIdx? p with
  | none =>
    rw [List.findIdx?_eq_none_iff] at h
    simp only [Bool.eq_false_iff] at *
    have : L.any p = false := by
      rw [List.any_eq_false]
      intro x hx e
      exact h x hx e
    rw [this]
    rfl
  | some k =>
    obtain ⟨a, ha, hp⟩ := idx_some h
    have : L.any p = true := List.any_eq_true.2 ⟨a, List.mem_of_getElem? ha, hp⟩
    rw [this]
    simp

theorem contains_any {w : World} {G : Nat → Prop} {x : Option Addr} {n c : Nat} {L : List FV} (p : FV → Bool) (g : Nat) (lb : Array Value) (eg : ∀ args w, (callFunc g args).run Try.prog w = .ok (.enter g args) w) (h : Fs w G x n c L) (hp : Pr g lb p w) :
    Calls Try.prog 29 #[.slice x n c, .func (.func g) #[] lb] w fun e w' => e = .returned (.bool (L.any p)) ∧ Below w.heap.size w w' := by
  have hI := index_any p g lb eg h hp
  rw [idx_any]
  generalize idx p L = r at hI ⊢
  clear h hp
  go_enter Try.func29, Try.ntmps29
  go_wp2_with (go_at_call 34; refine hI.mono ?_; rintro e w2 ⟨rfl, hb2⟩)
  go_ret
  exact ⟨rfl, hb2⟩

/- Is it of the same OSD? -/
def isOs (id : Int) (x : FV) : Bool := x.os == id
theorem told_clos (w : World) (bx : Nat) (id : Int) (hb : w.cell? ⟨bx, 0, none⟩ = some (.int .i64 id)) : Pr 30 #[.pointer (some ⟨bx, 0, none⟩)] (isOs id) w := by
  intro W F x hW hF
  clear hF
  obtain ⟨os, li, no, he, y, ny, cy, S⟩ := x
  have h1 := keep hW hb
  have hlt := cell_lt' h1
  have h2 := fun o => keep (al W o) h1
  clear hb hW
  unfold vF isOs
  dsimp only
  show Calls Try.prog 30 #[.agg #[.int .i64 os, .int .i64 li, .int .i64 no, .int .i64 he, .slice y ny cy], .pointer (some ⟨bx, 0, none⟩)] W _
  go_enter Try.func30, Try.ntmps30
  go_wp2_with fail
  go_ret
  exact ⟨rfl, al _ _⟩

end Go.Proofs.Ytgcjecmgjncclaa.Pe

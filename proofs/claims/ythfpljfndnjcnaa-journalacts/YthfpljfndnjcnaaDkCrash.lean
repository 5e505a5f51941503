/-
  What Flush, Crash and Rot of a disk do: contracts over plain numbers ('DkPlain').
  Conditions: the disk is one that New gave ('PDk'), or it is known how many bytes there are.
-/
import Derived.Test.YthfpljfndnjcnaaDkKeep
import Derived.Laws.BitsAllLaws
namespace Go.Proofs.Ythfpljfndnjcnaa
open Go.RowKit By Dk
set_option linter.unusedVariables false
set_option linter.unusedSimpArgs false

set_option maxHeartbeats 1000000 in
theorem flush_any (p n m : Nat) (F : Nat → Prop) (f A : Nat → Nat) (D : Nat → Nat → Nat) (w : World) (h : Pd w F p n m f A D) :
    Calls Try.prog 33 #[.pointer (some ⟨p, 0, none⟩)] w fun e w' => e = .returned (.tuple #[]) ∧ Turns F w w' ∧ Pd w' F p n 0 (kept f A D (fun _ => true) m) A D := by
  obtain ⟨gs, gn, R, s, q, h⟩ := h
  obtain ⟨x, c, hR, hle, hnil, hrow0⟩ := ownsRow_form h.own
  subst hR
  have k1 := h.c1
  have hm2 := h.m2
  have H := hid h
  clear h hrow0
  go_enter Try.func33, Try.ntmps33
  go_wp2_with fail
  go_loopw [11] (fun i wr => ∃ k : Nat, k ≤ m ∧ i = .int .i64 k ∧ Hid (Turns F w wr ∧ PDk wr F p gs gn (.slice x m c) n s m (kept f A D (fun _ => true) k) A D q)) (fun i _ => m - (intOf i).toNat)
  case atStart => exact ⟨0, by omega, rfl, Turns.refl _ _, H.out⟩
  case round =>
    obtain ⟨k, hk, rfl, HR⟩ := hrel
    clear k1 H
    obtain ⟨T, h⟩ := HR.out
    by_cases hlt : k < m
    · have hkm : (k : Int) < (m : Int) := by omega
      obtain ⟨x', c', hR, _, _, hrow⟩ := ownsRow_form h.own
      injection hR with e1 _ e3
      subst e1
      subst e3
      rcases hrow with h0 | ⟨g, rfl, hcells⟩
      · omega
      have c1 := hcells k _ (rowOf_get _ m k hlt)
      rw [Nat.zero_add] at c1
      have hkp := keep_any p gs gn n s m k F _ _ A D q wr h hlt
      have HN : ∀ v, Turns F wr v ∧ PDk v F p gs gn (.slice (some ⟨g, 0, none⟩) m c) n s m (put (kept f A D (fun _ => true) k) (A k) (D k)) A D q → Hid (Turns F w v ∧ PDk v F p gs gn (.slice (some ⟨g, 0, none⟩) m c) n s m (kept f A D (fun _ => true) (k + 1)) A D q) := fun v hv => ⟨T.trans hv.1, hv.2⟩
      clear T h HR hcells
      generalize q k = b at *
      go_wp2_with ((go_at_call 34; refine hkp.mono ?_; rintro e v ⟨rfl, hv⟩; have HV := HN v hv; clear hkp HN hv))
      go_roundw
      case rel => exact ⟨k + 1, by omega, by go_num, HV⟩
      case measure => simp [intOf]; omega
    · have hk2 : k = m := by omega
      subst hk2
      have hfg := forget_any p n k F _ A D wr ⟨_, _, _, _, _, h⟩
      have HT := hid T
      clear T h HR
      go_wp2_with ((go_at_call 35; refine hfg.mono ?_; rintro e v ⟨rfl, hv⟩; have HV := hid hv; clear hfg hv))
      go_end0
      exact ⟨rfl, HT.out.trans HV.out.1, HV.out.2⟩

def BoolsAt (w : World) (x : Option Addr) (p : Nat) (h : Nat → Bool) : Prop :=
  p = 0 ∨ ∃ b o, x = some ⟨b, o, none⟩ ∧ b < w.heap.size ∧ ∀ i, i < p → w.cell? ⟨b, o + i, none⟩ = some (.bool (h i))

theorem BoolsAt.turns {w w' : World} {x : Option Addr} {p : Nat} {h : Nat → Bool} {F : Nat → Prop} (q : BoolsAt w x p h) (t : Turns F w w') (hx : p ≠ 0 → ∀ a, x = some a → ¬ F a.block) : BoolsAt w' x p h := by
  by_cases h0 : p = 0
  · exact .inl h0
  rcases q with q | ⟨b, o, rfl, h2, h3⟩
  · exact .inl q
  · exact .inr ⟨b, o, rfl, Nat.lt_of_lt_of_le h2 t.size, fun r hr => (World.cell?_of_block (a := ⟨b, o + r, none⟩) (t.block b h2 (hx h0 _ rfl))).trans (h3 r hr)⟩

theorem BoolsAt.far {w : World} {x : Option Addr} {p : Nat} {h : Nat → Bool} {F : Nat → Prop} (q : BoolsAt w x p h) (hF : ∀ k, F k → w.heap.size ≤ k) : p ≠ 0 → ∀ a, x = some a → ¬ F a.block := by
  intro h0 a ha hf
  rcases q with q | ⟨b, o, rfl, h2, h3⟩
  · exact h0 q
  · cases ha
    have := hF _ hf
    have e : (⟨b, o, none⟩ : Addr).block = b := rfl
    omega

theorem BoolsAt.below {w w' : World} {x : Option Addr} {p : Nat} {h : Nat → Bool} (q : BoolsAt w x p h) (k : Below w.heap.size w w') : BoolsAt w' x p h := by
  rcases q with q | ⟨b, o, h1, h2, h3⟩
  · exact .inl q
  · exact .inr ⟨b, o, h1, Nat.lt_of_lt_of_le h2 k.size, fun r hr => (k.cell h2).trans (h3 r hr)⟩

def cutB (l : Nat) (h : Nat → Bool) : Nat → Bool := fun i => decide (i < l) && h i

set_option maxHeartbeats 2000000 in
theorem crash_any (p n m l lc : Nat) (F : Nat → Prop) (f A : Nat → Nat) (D : Nat → Nat → Nat) (y : Option Addr) (b : Nat → Bool) (w : World) (h : Pd w F p n m f A D) (hy : BoolsAt w y l b) (hyF : l ≠ 0 → ∀ a, y = some a → ¬ F a.block) (hl : l ≤ 140737488355328) :
    Calls Try.prog 13 #[.pointer (some ⟨p, 0, none⟩), .slice y l lc] w fun e w' => e = .returned (.tuple #[]) ∧ Turns F w w' ∧ Pd w' F p n 0 (kept f A D (cutB l b) m) A D := by
  obtain ⟨gs, gn, R, s, q, h⟩ := h
  obtain ⟨x, c, hR, hle, hnil, hrow0⟩ := ownsRow_form h.own
  subst hR
  have k1 := h.c1
  have hm2 := h.m2
  have H := hid h
  have HY := hid hy
  have HYF := hid hyF
  clear h hrow0 hy hyF
  go_enter Try.func13, Try.ntmps13
  go_wp2_with fail
  go_loopw [13] (fun i wr => ∃ k : Nat, k ≤ m ∧ i = .int .i64 k ∧ Hid (Turns F w wr ∧ PDk wr F p gs gn (.slice x m c) n s m (kept f A D (cutB l b) k) A D q)) (fun i _ => m - (intOf i).toNat)
  case atStart => exact ⟨0, by omega, rfl, Turns.refl _ _, H.out⟩
  case round =>
    obtain ⟨k, hk, rfl, HR⟩ := hrel
    clear k1 H
    obtain ⟨T, h⟩ := HR.out
    by_cases hlt : k < m
    · have hkm : (k : Int) < (m : Int) := by omega
      obtain ⟨x', c', hR, _, _, hrow⟩ := ownsRow_form h.own
      injection hR with e1 _ e3
      subst e1
      subst e3
      rcases hrow with h0 | ⟨g, rfl, hcells⟩
      · omega
      have c1 := hcells k _ (rowOf_get _ m k hlt)
      rw [Nat.zero_add] at c1
      have hkp := keep_any p gs gn n s m k F _ _ A D q wr h hlt
      have HN : cutB l b k = true → ∀ v, Turns F wr v ∧ PDk v F p gs gn (.slice (some ⟨g, 0, none⟩) m c) n s m (put (kept f A D (cutB l b) k) (A k) (D k)) A D q → Hid (Turns F w v ∧ PDk v F p gs gn (.slice (some ⟨g, 0, none⟩) m c) n s m (kept f A D (cutB l b) (k + 1)) A D q) := fun ht v hv => ⟨T.trans hv.1, by rw [kept, if_pos ht]; exact hv.2⟩
      have HO : cutB l b k = false → Hid (Turns F w wr ∧ PDk wr F p gs gn (.slice (some ⟨g, 0, none⟩) m c) n s m (kept f A D (cutB l b) (k + 1)) A D q) := fun ht => ⟨T, by rw [kept, if_neg (by rw [ht]; decide)]; exact h⟩
      have hyr := HY.out.turns T HYF.out
      clear T h HR hcells HY
      generalize q k = qb at *
      by_cases hkl : k < l
      · rcases hyr with h0 | ⟨yb, yo, rfl, _, hyc⟩
        · omega
        have c2 := hyc k hkl
        have hkl' : (k : Int) < (l : Int) := by omega
        cases hbk : b k with
        | true =>
          rw [hbk] at c2
          have HN2 := HN (by simp [cutB, hkl, hbk])
          clear HN HO hyc hbk
          go_wp2_with ((go_at_call 34; refine hkp.mono ?_; rintro e v ⟨rfl, hv⟩; have HV := HN2 v hv; clear hkp HN2 hv))
          go_roundw
          case rel => exact ⟨k + 1, by omega, by go_num, HV⟩
          case measure => simp [intOf]; omega
        | false =>
          rw [hbk] at c2
          have HO2 := HO (by simp [cutB, hbk])
          clear HN HO hyc hbk hkp
          go_wp2_with fail
          go_roundw
          case rel => exact ⟨k + 1, by omega, by go_num, HO2⟩
          case measure => simp [intOf]; omega
      · have HO2 := HO (by simp [cutB, hkl])
        have hkl' : (l : Int) ≤ (k : Int) := by omega
        clear HN HO hkp hyr
        go_wp2_with fail
        go_roundw
        case rel => exact ⟨k + 1, by omega, by go_num, HO2⟩
        case measure => simp [intOf]; omega
    · have hk2 : k = m := by omega
      subst hk2
      have hfg := forget_any p n k F _ A D wr ⟨_, _, _, _, _, h⟩
      have HT := hid T
      clear T h HR
      go_wp2_with ((go_at_call 35; refine hfg.mono ?_; rintro e v ⟨rfl, hv⟩; have HV := hid hv; clear hfg hv))
      go_end0
      exact ⟨rfl, HT.out.trans HV.out.1, HV.out.2⟩

def rotF (f : Nat → Nat) (a y : Nat) : Nat → Nat := fun k => if k = a then f k ^^^ y else f k

theorem xor_lt8 {a b : Nat} (ha : a < 256) (hb : b < 256) : a ^^^ b < 256 := Nat.xor_lt_two_pow (n := 8) ha hb

end Go.Proofs.Ythfpljfndnjcnaa

/-
  2 texts of this proof, one behind the other: NaRef, NaRefWhy.
-/
import Derived.Test.YtnfflmndejbepaaNaRunes
import Derived.Test.YtnfflmndejbepaaJNaCheck
/-
  The document's Head and Check.
  Conditions: the text is at most 2^20 bytes long.
-/
namespace Go.Proofs.Ytnfflmndejbepaa.Na
open Go.RowKit
set_option linter.unusedVariables false
set_option linter.unusedSimpArgs false
set_option maxRecDepth 100000

theorem runes_yes (s : ByteArray) (rs : List Nat) (w : World) (h : Txt (nat s) rs []) (hs : s.size ≤ 1048576) :
    Calls Try.prog 77 #[.string s] w fun e w' => ∃ g c, e = .returned (.tuple #[.slice (some ⟨g, 0, none⟩) rs.length c, .bool true]) ∧ Below w.heap.size w w' ∧ IntsIn w' g rs := by
  refine (runes_all s rs [] w h hs).mono fun e w' hh => ?_
  obtain ⟨h1, h2⟩ := hh
  rcases h2 with ⟨_, V, h3, h4⟩ | ⟨h3, _⟩
  · obtain ⟨g, c, rfl, g1, g2, g3⟩ := h3.at
    exact ⟨g, c, h4, h1, g2, g3⟩
  · exact absurd rfl h3

theorem runes_no (s : ByteArray) (rs t : List Nat) (w : World) (h : Txt (nat s) rs t) (hs : s.size ≤ 1048576) (ht : t ≠ []) :
    Calls Try.prog 77 #[.string s] w fun e w' => e = .returned (.tuple #[.slice none 0 0, .bool false]) ∧ Below w.heap.size w w' := by
  refine (runes_all s rs t w h hs).mono fun e w' hh => ?_
  obtain ⟨h1, h2⟩ := hh
  rcases h2 with ⟨h3, _⟩ | ⟨_, h3⟩
  · exact absurd h3 ht
  · exact ⟨h3, h1⟩

theorem txt_len {s : ByteArray} {rs t : List Nat} (h : Txt (nat s) rs t) : rs.length ≤ s.size := by
  have h1 := h.len
  rw [nat_length] at h1
  have := pos_le rs rs.length (Nat.le_refl _)
  omega

end Go.Proofs.Ytnfflmndejbepaa.Na

/-
  The document's Check.
  Conditions: the text is at most 2^20 bytes long.
-/
namespace Go.Proofs.Ytnfflmndejbepaa.Na
open Go.RowKit
set_option linter.unusedVariables false
set_option linter.unusedSimpArgs false
set_option maxRecDepth 100000

set_option maxRecDepth 100000 in
theorem rcheck_any (s : ByteArray) (rs t : List Nat) (c : Nat) (w : World) (h : Txt (nat s) rs t) (hs : s.size ≤ 1048576) (hc : c = why rs t) :
    Calls Try.prog 49 #[.string s] w fun e w' => e = .returned (.int .i64 c) ∧ Below w.heap.size w w' := by
  by_cases ht : t = []
  · subst ht
    have c1 := runes_yes s rs w h hs
    have hlen := txt_len h
    by_cases h64 : 64 < rs.length
    · have hc2 : c = 3 := by rw [hc]; simp [why, h64]
      subst hc2
      generalize rs.length = N at c1 h64 hlen
      clear h hc
      go_enter Try.func49, Try.ntmps49
      go_wp2_with (go_at_call 77; refine c1.mono ?_; clear c1; rintro e w1 ⟨g, cc, rfl, hb1, hi⟩; have HI : Hid (IntsIn w1 g rs) := hi; clear hi)
      go_ret
      exact ⟨rfl, hb1⟩
    · by_cases h0 : rs.length = 0
      · have hc2 : c = 1 := by rw [hc]; simp [why, h0]
        subst hc2
        rw [h0] at c1
        clear h hc h64 hlen h0
        go_enter Try.func49, Try.ntmps49
        go_wp2_with (go_at_call 77; refine c1.mono ?_; clear c1; rintro e w1 ⟨g, cc, rfl, hb1, hi⟩; have HI : Hid (IntsIn w1 g rs) := hi; clear hi)
        go_ret
        exact ⟨rfl, hb1⟩
      · obtain ⟨M, hM1, hM2, hM3⟩ := first_no (fun k => fine (rs.getD k 0)) rs.length
        have HC : Hid (c = why rs []) := hc
        have HM2 : Hid (∀ k, k < M → fine (rs.getD k 0) = true) := hM2
        have HM3 : Hid (M = rs.length ∨ fine (rs.getD M 0) = false) := hM3
        have HML : Hid (M ≤ rs.length) := hM1
        obtain ⟨r0, hr0⟩ : ∃ r0, rs.getD 0 0 = r0 := ⟨_, rfl⟩
        obtain ⟨j, hj⟩ : ∃ j, j = rs.length - 1 := ⟨_, rfl⟩
        obtain ⟨rl, hrl⟩ : ∃ rl, rs.getD j 0 = rl := ⟨_, rfl⟩
        have HO : Hid (r0 = 32 ∨ rl = 32 → c = 1) := fun hh => by
          rw [hc, why, if_neg (by simp), if_neg h64, if_neg h0, if_pos (by rw [hr0, ← hj, hrl]; exact hh)]
        have HU : Hid (r0 ≠ 32 → rl ≠ 32 → c = if rs.all fine then 0 else 1) := fun h1 h2 => by
          rw [hc, why, if_neg (by simp), if_neg h64, if_neg h0, if_neg (by rw [hr0, ← hj, hrl]; omega)]
        have c1 : Calls Try.prog 77 #[.string s] w fun e w' => ∃ g c, e = .returned (.tuple #[.slice (some ⟨g, 0, none⟩) rs.length c, .bool true]) ∧ Below w.heap.size w w' ∧ w'.cell? ⟨g, 0, none⟩ = some (.int .i64 (r0 : Int)) ∧ w'.cell? ⟨g, j, none⟩ = some (.int .i64 (rl : Int)) ∧ Hid (IntsIn w' g rs) :=
          c1.mono fun e w' ⟨g, c, e1, e2, e3⟩ => ⟨g, c, e1, e2, by have := e3.2 0 (by omega); rw [hr0] at this; exact this, by have := e3.2 j (by omega); rw [hrl, Nat.zero_add] at this; exact this, e3⟩
        generalize hN : rs.length = N at c1 h64 hlen h0 hj HM3 HML
        have HN : Hid (rs.length = N) := hN
        have hz : (N : Int) - 1 = (j : Int) := by omega
        have hjn : j < N := by omega
        have i1 : ((N : Int) == 0) = false := by simp; omega
        have i2 : 0 < N := by omega
        have HJ : Hid (j = N - 1) := hj
        clear h hc hM1 hM2 hM3 hr0 hrl hN h0 hj
        by_cases q1 : r0 = 32
        · have hc2 := HO.out (.inl q1)
          subst hc2
          subst q1
          go_enter Try.func49, Try.ntmps49
          go_wp2_with (go_at_call 77; refine c1.mono ?_; clear c1; rintro e w1 ⟨g, cc, rfl, hb1, hc0, hcl, HI⟩)
          go_ret
          exact ⟨rfl, hb1⟩
        · have i3 : ((r0 : Int) == 32) = false := by simp; omega
          by_cases q2 : rl = 32
          · have hc2 := HO.out (.inr q2)
            subst hc2
            subst q2
            clear q1
            go_enter Try.func49, Try.ntmps49
            go_wp2_with (go_at_call 77; refine c1.mono ?_; clear c1; rintro e w1 ⟨g, cc, rfl, hb1, hc0, hcl, HI⟩)
            go_ret
            exact ⟨rfl, hb1⟩
          · have i4 : ((rl : Int) == 32) = false := by simp; omega
            have HU2 : Hid (c = if rs.all fine then 0 else 1) := HU.out q1 q2
            clear q1 q2 HU HO HC
            have HT : Hid (M = N → c = 0) := fun e => by
              rw [HU2.out, if_pos]
              rw [List.all_eq_true]
              intro r hr
              obtain ⟨i, hi, rfl⟩ := List.getElem_of_mem hr
              have := HM2.out i (by have := HN.out; omega)
              simpa [List.getD, List.getElem?_eq_getElem hi] using this
            have HF : Hid (M < N → fine (rs.getD M 0) = false → c = 1) := fun hm e => by
              rw [HU2.out, if_neg]
              intro hh
              have := List.all_eq_true.1 hh (rs.getD M 0) (getD_mem (by rw [HN.out]; exact hm))
              rw [e] at this
              cases this
            clear HU2
            go_enter Try.func49, Try.ntmps49
            go_wp2_with (go_at_call 77; refine c1.mono ?_; clear c1; rintro e w1 ⟨g, cc, rfl, hb1, hc0, hcl, HI⟩)
            go_loop [5] (fun i => ∃ k : Nat, i = .int .i64 k ∧ k ≤ M ∧ k ≤ N) (fun i => N - (intOf i).toNat)
            case atStart => exact ⟨0, rfl, Nat.zero_le _, Nat.zero_le _⟩
            case round =>
              clear hc0 hcl
              obtain ⟨k, rfl, hk, hkn⟩ := hrel
              by_cases hlt : k < N
              · have hcell := HI.out.2 k (by rw [HN.out]; exact hlt)
                rw [Nat.zero_add] at hcell
                obtain ⟨r, hr⟩ : ∃ r, rs.getD k 0 = r := ⟨_, rfl⟩
                rw [hr] at hcell
                have HR : Hid (rs.getD k 0 = r) := hr
                clear hr
                have i5 : (k : Int) < (N : Int) := by omega
                by_cases hkm : k < M
                · obtain ⟨f1, f2, f3, f4⟩ := fine_yes (HM2.out k hkm)
                  rw [HR.out] at f1 f2 f3 f4
                  have g1 : ¬ ((r : Int) < 32) := by omega
                  have g2 : ((r : Int) == 47) = false := by simp; omega
                  have g3 : ((r : Int) == 127) = false := by simp; omega
                  have g4 : ((r : Int) == 65533) = false := by simp; omega
                  clear f2 f3 f4
                  go_wp2_with fail
                  go_round
                  case rel => exact ⟨k + 1, rfl, by omega, by omega⟩
                  case measure => simp [intOf]; omega
                · obtain rfl : k = M := by omega
                  have hf : fine (rs.getD k 0) = false := HM3.out.resolve_left (by omega)
                  have hc2 := HF.out hlt hf
                  subst hc2
                  rw [HR.out] at hf
                  have hcc := fine_no hf
                  clear hf
                  rcases hcc with hcc | hcc | hcc | hcc
                  · have g1 : (r : Int) < 32 := by omega
                    go_wp2_with fail
                    go_ret
                    exact ⟨rfl, hb1⟩
                  all_goals
                    subst hcc
                    go_wp2_with fail
                    go_ret
                    exact ⟨rfl, hb1⟩
              · have hc2 := HT.out (by have := HML.out; omega)
                subst hc2
                have i5 : ¬ (k : Int) < (N : Int) := by omega
                go_wp2_with fail
                go_ret
                exact ⟨rfl, hb1⟩
  · have c1 := runes_no s rs t w h hs ht
    have hc2 : c = 5 := by rw [hc]; simp [why, ht]
    subst hc2
    clear h hc ht
    go_enter Try.func49, Try.ntmps49
    go_wp2_with (go_at_call 77; refine c1.mono ?_; clear c1; rintro e w' ⟨rfl, hb1⟩)
    go_ret
    exact ⟨rfl, hb1⟩

end Go.Proofs.Ytnfflmndejbepaa.Na

/-
  Check: why a name may not be.
  Conditions: the text is at most 2^47 bytes long.
-/
import Derived.Test.YtjhbfcfipfmnbaaNaCheck
namespace Go.Proofs.Ytjhbfcfipfmnbaa.Na
open Go.RowKit
set_option linter.unusedVariables false
set_option linter.unusedSimpArgs false

def why (rs t : List Nat) : Nat :=
  if t ≠ [] then 5
  else if 64 < rs.length then 3
  else if rs.length = 0 then 1
  else if rs.getD 0 0 = 32 ∨ rs.getD (rs.length - 1) 0 = 32 then 1
  else if rs.all fine then 0 else 1

theorem check_any (s : ByteArray) (rs t : List Nat) (c : Nat) (w : World) (h : Txt (nat s) rs t) (hs : s.size ≤ 140737488355328) (hc : c = why rs t) :
    Calls Try.prog 12 #[.string s] w fun e w' => e = .returned (.int .i64 c) ∧ Below w.heap.size w w' := by
  by_cases ht : t = []
  · subst ht
    have c1 := count_any s rs [] rs.length true w h hs (fun _ => ⟨rfl, rfl⟩) (fun hh => absurd rfl hh)
    have hle := h.len
    rw [nat_length, List.length_nil, Nat.add_zero] at hle
    have hpl := pos_le rs rs.length (Nat.le_refl _)
    have hlen : rs.length ≤ s.size := by omega
    have HX : Hid (Txt (nat s) rs []) := h
    by_cases h64 : 64 < rs.length
    · have hc2 : c = 3 := by rw [hc]; simp [why, h64]
      subst hc2
      generalize rs.length = N at c1 h64 hlen
      clear h hle hpl hc
      go_enter Try.func12, Try.ntmps12
      go_wp2_with (go_at_call 8; refine c1.mono ?_; clear c1; rintro e w' ⟨rfl, hb1⟩)
      go_ret
      exact ⟨rfl, hb1⟩
    · by_cases h0 : rs.length = 0
      · have hc2 : c = 1 := by rw [hc]; simp [why, h0]
        subst hc2
        rw [h0] at c1
        clear h hle hpl hc h64 hlen h0
        go_enter Try.func12, Try.ntmps12
        go_wp2_with (go_at_call 8; refine c1.mono ?_; clear c1; rintro e w' ⟨rfl, hb1⟩)
        go_ret
        exact ⟨rfl, hb1⟩
      · by_cases ho : rs.getD 0 0 = 32 ∨ rs.getD (rs.length - 1) 0 = 32
        · have hc2 : c = 1 := by
            rw [hc, why, if_neg (by simp), if_neg h64, if_neg h0, if_pos ho]
          subst hc2
          have c2 : ∀ v, Calls Try.prog 27 #[.string s] v fun e w' => e = .returned (.bool true) ∧ w' = v := fun v => outside_any s rs true v h (by omega) hs ⟨fun _ => rfl, fun _ => ho⟩
          generalize rs.length = N at c1 h64 hlen h0
          have h1 : ((N : Int) == 0) = false := by simp; omega
          clear h hle hpl hc ho h0
          go_enter Try.func12, Try.ntmps12
          go_wp2_with (first
            | (go_at_call 8; refine c1.mono ?_; clear c1; rintro e w' ⟨rfl, hb1⟩)
            | (go_at_call 27; refine (c2 _).mono ?_; clear c2; rintro e w' ⟨rfl, rfl⟩))
          go_ret
          exact ⟨rfl, hb1⟩
        · obtain ⟨b, hb⟩ : ∃ b, rs.all fine = b := ⟨_, rfl⟩
          have hc2 : c = if b = true then 0 else 1 := by
            rw [hc, why, if_neg (by simp), if_neg h64, if_neg h0, if_neg ho, hb]
          have c2 : ∀ v, Calls Try.prog 27 #[.string s] v fun e w' => e = .returned (.bool false) ∧ w' = v := fun v => outside_any s rs false v h (by omega) hs ⟨fun hh => absurd hh ho, fun hh => by cases hh⟩
          have c3 : ∀ v, Calls Try.prog 28 #[.string s] v fun e w' => e = .returned (.bool b) ∧ Below v.heap.size v w' := fun v => allmay_any s rs b v h hs hb
          generalize rs.length = N at c1 h64 hlen h0
          have h1 : ((N : Int) == 0) = false := by simp; omega
          have HC : Hid (c = if b = true then 0 else 1) := hc2
          clear h hle hpl hc ho h0 hb hc2
          cases b
          · go_enter Try.func12, Try.ntmps12
            go_wp2_with (first
              | (go_at_call 8; refine c1.mono ?_; clear c1; rintro e w' ⟨rfl, hb1⟩)
              | (go_at_call 27; refine (c2 _).mono ?_; clear c2; rintro e w' ⟨rfl, rfl⟩)
              | (go_at_call 28; refine (c3 _).mono ?_; clear c3; rintro e w' ⟨rfl, hb2⟩))
            go_ret
            rw [HC.out]
            exact ⟨rfl, hb1.trans (hb2.mono hb1.size)⟩
          · go_enter Try.func12, Try.ntmps12
            go_wp2_with (first
              | (go_at_call 8; refine c1.mono ?_; clear c1; rintro e w' ⟨rfl, hb1⟩)
              | (go_at_call 27; refine (c2 _).mono ?_; clear c2; rintro e w' ⟨rfl, rfl⟩)
              | (go_at_call 28; refine (c3 _).mono ?_; clear c3; rintro e w' ⟨rfl, hb2⟩))
            go_ret
            rw [HC.out]
            exact ⟨rfl, hb1.trans (hb2.mono hb1.size)⟩
  · have c1 := count_any s rs t 0 false w h hs (fun hh => absurd hh ht) (fun _ => ⟨rfl, rfl⟩)
    have hc2 : c = 5 := by rw [hc]; simp [why, ht]
    subst hc2
    clear h hc ht
    go_enter Try.func12, Try.ntmps12
    go_wp2_with (go_at_call 8; refine c1.mono ?_; clear c1; rintro e w' ⟨rfl, hb1⟩)
    go_ret
    exact ⟨rfl, hb1⟩

/- Awake. -/
theorem t_one : Txt (nat { data := #[195, 132, 97, 32, 98] }) [196, 97, 32, 98] [] := ⟨by decide, (by intro r hr; simp at hr; unfold ok; omega), .inl rfl, nat_lt _⟩
theorem t_two : Txt (nat { data := #[97, 47, 98] }) [97, 47, 98] [] := ⟨by decide, (by intro r hr; simp at hr; unfold ok; omega), .inl rfl, nat_lt _⟩
theorem t_three : Txt (nat { data := #[255] }) [] [255] := ⟨by decide, (by intro r hr; cases hr), .inr (by decide), nat_lt _⟩

theorem awake_any (w : World) : Calls Try.prog 14 #[] w fun e w' => e = .returned (.bool true) ∧ Below w.heap.size w w' := by
  have c1 := count_any _ _ _ 4 true w t_one (by decide) (fun _ => ⟨rfl, rfl⟩) (fun hh => absurd rfl hh)
  have c2 : ∀ v, Calls Try.prog 12 #[.string { data := #[195, 132, 97, 32, 98] }] v fun e w' => e = .returned (.int .i64 0) ∧ Below v.heap.size v w' := fun v => check_any _ _ _ 0 v t_one (by decide) (by decide)
  have c3 : ∀ v, Calls Try.prog 12 #[.string { data := #[97, 47, 98] }] v fun e w' => e = .returned (.int .i64 1) ∧ Below v.heap.size v w' := fun v => check_any _ _ _ 1 v t_two (by decide) (by decide)
  have c4 : ∀ v, Calls Try.prog 12 #[.string { data := #[255] }] v fun e w' => e = .returned (.int .i64 5) ∧ Below v.heap.size v w' := fun v => check_any _ _ _ 5 v t_three (by decide) (by decide)
  go_enter Try.func14, Try.ntmps14
  go_wp2_with (first
    | (go_at_call 8; refine c1.mono ?_; clear c1; rintro e w' ⟨rfl, hb1⟩)
    | (go_at_call 12; refine (c2 _).mono ?_; clear c2; rintro e w2 ⟨rfl, hb2⟩)
    | (go_at_call 12; refine (c3 _).mono ?_; clear c3; rintro e w3 ⟨rfl, hb3⟩)
    | (go_at_call 12; refine (c4 _).mono ?_; clear c4; rintro e w4 ⟨rfl, hb4⟩))
  go_ret
  have s1 := hb1.size
  have s2 := hb2.size
  have s3 := hb3.size
  exact ⟨rfl, ((hb1.trans (hb2.mono s1)).trans (hb3.mono (by omega))).trans (hb4.mono (by omega))⟩

end Go.Proofs.Ytjhbfcfipfmnbaa.Na

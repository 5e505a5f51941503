/-
  2 texts of this proof, one behind the other: NaCheck, NaWhy.
-/
import Derived.Test.YtnfflmndejbepaaJNaPlain
/-
  Where a text's first runes end; blanks at its ends; which runes a name may have; why a name may not be.
  Conditions: the text is at most 2^47 bytes long.
-/
namespace Go.Proofs.Ytnfflmndejbepaa.Na
open Go.RowKit
set_option linter.unusedVariables false
set_option linter.unusedSimpArgs false
set_option maxRecDepth 100000

/- Blanks. -/
theorem nat_blank : nat { data := #[32] } = [32] := by decide

theorem head_blank {s : ByteArray} {rs : List Nat} (h : Txt (nat s) rs []) (h0 : 0 < rs.length) : (nat s).take 1 = [32] ↔ rs.getD 0 0 = 32 := by
  have h1 := h.at h0
  rw [pos_zero, List.drop_zero] at h1
  rw [h1]
  generalize rs.getD 0 0 = r
  unfold encN
  repeat' split
  all_goals simp
  all_goals omega

theorem last_blank {s : ByteArray} {rs : List Nat} (h : Txt (nat s) rs []) (h0 : 0 < rs.length) : 1 ≤ s.size ∧ ((nat s).drop (s.size - 1) = [32] ↔ rs.getD (rs.length - 1) 0 = 32) := by
  have h1 := h.at (k := rs.length - 1) (by omega)
  have h2 := h.len
  have h3 := pos_succ (rs := rs) (k := rs.length - 1) (by omega)
  have h4 := width_pos (rs.getD (rs.length - 1) 0)
  rw [show rs.length - 1 + 1 = rs.length by omega] at h1 h3
  rw [List.drop_length] at h1
  rw [nat_length] at h2
  simp only [List.length_nil, Nat.add_zero] at h2
  have h5 : s.size - 1 = pos rs (rs.length - 1) + (width (rs.getD (rs.length - 1) 0) - 1) := by omega
  refine ⟨by omega, ?_⟩
  rw [h5, ← List.drop_drop, h1]
  generalize rs.getD (rs.length - 1) 0 = r
  unfold encN width
  repeat' split
  all_goals simp [flat]
  all_goals omega

theorem outside_any (s : ByteArray) (rs : List Nat) (b : Bool) (w : World) (h : Txt (nat s) rs []) (h0 : 0 < rs.length) (hs : s.size ≤ 140737488355328) (hb : (rs.getD 0 0 = 32 ∨ rs.getD (rs.length - 1) 0 = 32) ↔ b = true) :
    Calls Try.prog 84 #[.string s] w fun e w' => e = .returned (.bool b) ∧ w' = w := by
  have h1 := head_blank h h0
  have h2 := last_blank h h0
  by_cases e1 : rs.getD 0 0 = 32
  · have c := prefix_any s { data := #[32] } true w (by rw [nat_blank]; exact ⟨fun _ => rfl, fun _ => h1.2 e1⟩)
    have e2 : b = true := hb.1 (.inl e1)
    subst e2
    clear h h1 h2 hb
    go_enter Try.func84, Try.ntmps84
    go_wp2_with (go_at_call 94; refine c.mono ?_; clear c; rintro e w' ⟨rfl, rfl⟩)
    go_ret
    exact ⟨rfl, rfl⟩
  · have c := prefix_any s { data := #[32] } false w (by rw [nat_blank]; exact ⟨fun hh => absurd (h1.1 hh) e1, fun hh => by cases hh⟩)
    have c2 := suffix_any s { data := #[32] } b w (by omega) (fun _ => by
      rw [nat_blank]
      refine Iff.trans h2.2 (Iff.trans ?_ hb)
      exact ⟨.inr, fun hh => hh.resolve_left e1⟩) (fun hh => absurd h2.1 hh)
    clear h h1 h2 hb
    go_enter Try.func84, Try.ntmps84
    go_wp2_with (first
      | (go_at_call 94; refine c.mono ?_; clear c; rintro e w' ⟨rfl, rfl⟩)
      | (go_at_call 95; refine c2.mono ?_; clear c2; rintro e w' ⟨rfl, rfl⟩))
    go_ret
    exact ⟨rfl, rfl⟩

/- Which runes may be. -/
def fine (r : Nat) : Bool := !(decide (r < 32) || r == 47 || r == 127 || r == 65533)

theorem fine_yes {r : Nat} (h : fine r = true) : 32 ≤ r ∧ r ≠ 47 ∧ r ≠ 127 ∧ r ≠ 65533 := by
  simp [fine] at h
  omega

theorem fine_no {r : Nat} (h : fine r = false) : r < 32 ∨ r = 47 ∨ r = 127 ∨ r = 65533 := by
  simp [fine] at h
  omega

theorem first_no (f : Nat → Bool) (n : Nat) : ∃ m, m ≤ n ∧ (∀ k, k < m → f k = true) ∧ (m = n ∨ f m = false) := by
  induction n with
  | zero => exact ⟨0, Nat.le_refl _, fun k hk => by omega, .inl rfl⟩
  | succ n ih =>
    obtain ⟨m, h1, h2, h3⟩ := ih
    rcases h3 with rfl | h3
    · cases hf : f m with
      | true => exact ⟨m + 1, Nat.le_refl _, fun k hk => by
          by_cases e : k = m
          · subst e; exact hf
          · exact h2 k (by omega), .inl rfl⟩
      | false => exact ⟨m, by omega, h2, .inr hf⟩
    · exact ⟨m, by omega, h2, .inr h3⟩

theorem allmay_any (s : ByteArray) (rs : List Nat) (b : Bool) (w : World) (h : Txt (nat s) rs []) (hs : s.size ≤ 140737488355328) (hb : rs.all fine = b) :
    Calls Try.prog 85 #[.string s] w fun e w' => e = .returned (.bool b) ∧ Below w.heap.size w w' := by
  have hle := h.len
  rw [nat_length, List.length_nil, Nat.add_zero] at hle
  have hpl := pos_le rs rs.length (Nat.le_refl _)
  have hlen : rs.length ≤ s.size := by omega
  obtain ⟨M, hM1, hM2, hM3⟩ := first_no (fun k => fine (rs.getD k 0)) rs.length
  have HT : Hid (M = rs.length → b = true) := fun e => by
    rw [← hb, List.all_eq_true]
    intro r hr
    obtain ⟨i, hi, rfl⟩ := List.getElem_of_mem hr
    have := hM2 i (by omega)
    simpa [List.getD, List.getElem?_eq_getElem hi] using this
  have HF : Hid (M < rs.length → fine (rs.getD M 0) = false → b = false) := fun hm e => by
    rw [← hb, List.all_eq_false]
    exact ⟨rs.getD M 0, getD_mem hm, by rw [e]; simp⟩
  have HM2 : Hid (∀ k, k < M → fine (rs.getD k 0) = true) := hM2
  have HM3 : Hid (M = rs.length ∨ fine (rs.getD M 0) = false) := hM3
  have HML : Hid (M ≤ rs.length) := hM1
  have HX : Hid (Txt (nat s) rs []) := h
  have HS : Hid (rs.length ≤ s.size) := hlen
  clear h hle hpl hb hM1 hM2 hM3 hlen
  go_enter Try.func85, Try.ntmps85
  go_wp2_with fail
  go_loopw [] (fun wr => ∃ k : Nat, k ≤ M ∧ wr = w.iter s (pos rs k)) (fun wr => s.size + 1 - wr.iterPos w.heap.size)
  case atStart => exact ⟨0, Nat.zero_le _, rfl⟩
  case round =>
    obtain ⟨k, hk, rfl⟩ := hrel
    by_cases hend : k = rs.length
    · have hnx := next_none HX.out rfl w
      rw [← hend] at hnx
      have hb := HT.out (by have := HML.out; omega)
      subst hb
      clear hend
      go_wp2_with fail
      go_ret
      exact ⟨rfl, (Below.refl _ _).alloc (Nat.le_refl _) _⟩
    · have hlt : k < rs.length := by have := HML.out; omega
      obtain ⟨r, p, q, hr, hp, hq, hpq, hqs, hr2, hnx, hdr⟩ := next_rune HX.out hlt w
      have HP : Hid (p = pos rs k ∧ q = pos rs (k + 1) ∧ p < q) := ⟨hp, hq, hpq⟩
      have HR : Hid (r = rs.getD k 0) := hr
      rw [← hp]
      have HK : Hid (k ≠ rs.length) := hend
      clear hdr hr hp hq hpq hend hlt
      by_cases hkm : k < M
      · obtain ⟨f1, f2, f3, f4⟩ := fine_yes (HM2.out k hkm)
        rw [← HR.out] at f1 f2 f3 f4
        have g1 : ¬ ((r : Int) < 32) := by omega
        have g2 : ((r : Int) == 47) = false := by simp; omega
        have g3 : ((r : Int) == 127) = false := by simp; omega
        have g4 : ((r : Int) == 65533) = false := by simp; omega
        clear f2 f3 f4
        go_wp2_with fail
        go_roundw
        case rel => exact ⟨k + 1, by omega, by rw [← HP.out.2.1]⟩
        case measure =>
          have := HP.out.2.2
          simp
          omega
      · obtain rfl : k = M := by omega
        have hf : fine (rs.getD k 0) = false := HM3.out.resolve_left HK.out
        have hb := HF.out (by have := HK.out; have := HML.out; omega) hf
        subst hb
        rw [← HR.out] at hf
        have hc := fine_no hf
        clear hf
        rcases hc with hc | hc | hc | hc
        · have g1 : (r : Int) < 32 := by omega
          go_wp2_with fail
          go_ret
          exact ⟨rfl, (Below.refl _ _).alloc (Nat.le_refl _) _⟩
        all_goals
          subst hc
          go_wp2_with fail
          go_ret
          exact ⟨rfl, (Below.refl _ _).alloc (Nat.le_refl _) _⟩

end Go.Proofs.Ytnfflmndejbepaa.Na

/-
  Check: why a name may not be.
  Conditions: the text is at most 2^47 bytes long.
-/
namespace Go.Proofs.Ytnfflmndejbepaa.Na
open Go.RowKit
set_option linter.unusedVariables false
set_option linter.unusedSimpArgs false
set_option maxRecDepth 100000

def why (rs t : List Nat) : Nat :=
  if t ≠ [] then 5
  else if 64 < rs.length then 3
  else if rs.length = 0 then 1
  else if rs.getD 0 0 = 32 ∨ rs.getD (rs.length - 1) 0 = 32 then 1
  else if rs.all fine then 0 else 1

theorem check_any (s : ByteArray) (rs t : List Nat) (c : Nat) (w : World) (h : Txt (nat s) rs t) (hs : s.size ≤ 140737488355328) (hc : c = why rs t) :
    Calls Try.prog 75 #[.string s] w fun e w' => e = .returned (.int .i64 c) ∧ Below w.heap.size w w' := by
  by_cases ht : t = []
  · subst ht
    have c1 := count_any s rs [] rs.length true w h hs (fun _ => ⟨rfl, rfl⟩) (fun hh => absurd rfl hh)
    have hle := h.len
    rw [nat_length, List.length_nil, Nat.add_zero] at hle
    have hpl := pos_le rs rs.length (Nat.le_refl _)
    have hlen : rs.length ≤ s.size := by omega
    have HX : Hid (Txt (nat s) rs []) := h
    by_cases h64 : 64 < rs.length
    · have hc2 : c = 3 := by rw [hc]; simp [why, h64]
      subst hc2
      generalize rs.length = N at c1 h64 hlen
      clear h hle hpl hc
      go_enter Try.func75, Try.ntmps75
      go_wp2_with (go_at_call 83; refine c1.mono ?_; clear c1; rintro e w' ⟨rfl, hb1⟩)
      go_ret
      exact ⟨rfl, hb1⟩
    · by_cases h0 : rs.length = 0
      · have hc2 : c = 1 := by rw [hc]; simp [why, h0]
        subst hc2
        rw [h0] at c1
        clear h hle hpl hc h64 hlen h0
        go_enter Try.func75, Try.ntmps75
        go_wp2_with (go_at_call 83; refine c1.mono ?_; clear c1; rintro e w' ⟨rfl, hb1⟩)
        go_ret
        exact ⟨rfl, hb1⟩
      · by_cases ho : rs.getD 0 0 = 32 ∨ rs.getD (rs.length - 1) 0 = 32
        · have hc2 : c = 1 := by
            rw [hc, why, if_neg (by simp), if_neg h64, if_neg h0, if_pos ho]
          subst hc2
          have c2 : ∀ v, Calls Try.prog 84 #[.string s] v fun e w' => e = .returned (.bool true) ∧ w' = v := fun v => outside_any s rs true v h (by omega) hs ⟨fun _ => rfl, fun _ => ho⟩
          generalize rs.length = N at c1 h64 hlen h0
          have h1 : ((N : Int) == 0) = false := by simp; omega
          clear h hle hpl hc ho h0
          go_enter Try.func75, Try.ntmps75
          go_wp2_with (first
            | (go_at_call 83; refine c1.mono ?_; clear c1; rintro e w' ⟨rfl, hb1⟩)
            | (go_at_call 84; refine (c2 _).mono ?_; clear c2; rintro e w' ⟨rfl, rfl⟩))
          go_ret
          exact ⟨rfl, hb1⟩
        · obtain ⟨b, hb⟩ : ∃ b, rs.all fine = b := ⟨_, rfl⟩
          have hc2 : c = if b = true then 0 else 1 := by
            rw [hc, why, if_neg (by simp), if_neg h64, if_neg h0, if_neg ho, hb]
          have c2 : ∀ v, Calls Try.prog 84 #[.string s] v fun e w' => e = .returned (.bool false) ∧ w' = v := fun v => outside_any s rs false v h (by omega) hs ⟨fun hh => absurd hh ho, fun hh => by cases hh⟩
          have c3 : ∀ v, Calls Try.prog 85 #[.string s] v fun e w' => e = .returned (.bool b) ∧ Below v.heap.size v w' := fun v => allmay_any s rs b v h hs hb
          generalize rs.length = N at c1 h64 hlen h0
          have h1 : ((N : Int) == 0) = false := by simp; omega
          have HC : Hid (c = if b = true then 0 else 1) := hc2
          clear h hle hpl hc ho h0 hb hc2
          cases b
          · go_enter Try.func75, Try.ntmps75
            go_wp2_with (first
              | (go_at_call 83; refine c1.mono ?_; clear c1; rintro e w' ⟨rfl, hb1⟩)
              | (go_at_call 84; refine (c2 _).mono ?_; clear c2; rintro e w' ⟨rfl, rfl⟩)
              | (go_at_call 85; refine (c3 _).mono ?_; clear c3; rintro e w' ⟨rfl, hb2⟩))
            go_ret
            rw [HC.out]
            exact ⟨rfl, hb1.trans (hb2.mono hb1.size)⟩
          · go_enter Try.func75, Try.ntmps75
            go_wp2_with (first
              | (go_at_call 83; refine c1.mono ?_; clear c1; rintro e w' ⟨rfl, hb1⟩)
              | (go_at_call 84; refine (c2 _).mono ?_; clear c2; rintro e w' ⟨rfl, rfl⟩)
              | (go_at_call 85; refine (c3 _).mono ?_; clear c3; rintro e w' ⟨rfl, hb2⟩))
            go_ret
            rw [HC.out]
            exact ⟨rfl, hb1.trans (hb2.mono hb1.size)⟩
  · have c1 := count_any s rs t 0 false w h hs (fun hh => absurd hh ht) (fun _ => ⟨rfl, rfl⟩)
    have hc2 : c = 5 := by rw [hc]; simp [why, ht]
    subst hc2
    clear h hc ht
    go_enter Try.func75, Try.ntmps75
    go_wp2_with (go_at_call 83; refine c1.mono ?_; clear c1; rintro e w' ⟨rfl, hb1⟩)
    go_ret
    exact ⟨rfl, hb1⟩

/- Awake. -/
theorem t_one : Txt (nat { data := #[195, 132, 97, 32, 98] }) [196, 97, 32, 98] [] := ⟨by decide, (by intro r hr; simp at hr; unfold ok; omega), .inl rfl, nat_lt _⟩
theorem t_two : Txt (nat { data := #[97, 47, 98] }) [97, 47, 98] [] := ⟨by decide, (by intro r hr; simp at hr; unfold ok; omega), .inl rfl, nat_lt _⟩
theorem t_three : Txt (nat { data := #[255] }) [] [255] := ⟨by decide, (by intro r hr; cases hr), .inr (by decide), nat_lt _⟩

end Go.Proofs.Ytnfflmndejbepaa.Na

/-
  4 texts of this proof, one behind the other: NaHash, NaCheck, NaWhy, PlPg.
-/
import Derived.Test.YtgfjmkjgagogpaaGreatJNaPlain
import Derived.Laws.BitsAllLaws
/-
  A text's number, by the program and by the document.
  Conditions: the text is at most 2^47 bytes long.
-/
namespace Go.Proofs.YtgfjmkjgagogpaaGreat.Na
open Go.RowKit
set_option linter.unusedVariables false
set_option linter.unusedSimpArgs false
set_option maxRecDepth 100000

def hstep (x b : Nat) : Nat := (x ^^^ b) * 16777619 % 4294967296
def hfold (l : List Nat) : Nat := l.foldl hstep 2166136261
def mix1 (x : Nat) : Nat := (x ^^^ x / 65536) * 2146121005 % 4294967296
def mix2 (x : Nat) : Nat := (x ^^^ x / 32768) * 2221713035 % 4294967296
def mix3 (x : Nat) : Nat := x ^^^ x / 65536
def mixed (x : Nat) : Nat := mix3 (mix2 (mix1 x))

theorem xor_lt {a b : Nat} (ha : a < 4294967296) (hb : b < 4294967296) : a ^^^ b < 4294967296 := Nat.xor_lt_two_pow (n := 32) ha hb

theorem hfold_lt (l : List Nat) (x : Nat) (hx : x < 4294967296) : l.foldl hstep x < 4294967296 := by
  induction l generalizing x with
  | nil => exact hx
  | cons b l ih => exact ih _ (Nat.mod_lt _ (by omega))

/- As the walk meets them. -/
theorem xor_at (x b : Nat) (hx : x < 4294967296) (hb : b < 4294967296) : ∃ a : Nat, bits .xor .u32 (x : Int) (b : Int) = (a : Int) ∧ Hid (a = x ^^^ b) := ⟨_, u32_xor_nat x b hx hb, rfl⟩

theorem sh_at (x d : Nat) (z : Int) (hz : z = (d : Int)) (hx : x < 4294967296) : ∃ a : Nat, bits .xor .u32 (x : Int) ((x : Int) / z) = (a : Int) ∧ Hid (a = x ^^^ x / d) := by
  subst hz
  refine ⟨_, ?_, rfl⟩
  have h := u32_xor_nat x (x / d) hx (Nat.lt_of_le_of_lt (Nat.div_le_self _ _) hx)
  rw [← h]
  rfl

theorem mul_at (a c : Nat) (z : Int) (hz : z = (c : Int)) : ∃ y : Nat, (a : Int) * z % 4294967296 = (y : Int) ∧ y < 4294967296 ∧ Hid (y = a * c % 4294967296) := by
  subst hz
  exact ⟨a * c % 4294967296, by omega, Nat.mod_lt _ (by omega), rfl⟩

theorem mixed_any (x : Nat) (w : World) (hx : x < 4294967296) :
    Calls Tryz.prog 52 #[.int .u32 x] w fun e w' => e = .returned (.int .u32 (mixed x : Int)) ∧ w' = w := by
  obtain ⟨a, h1, H1⟩ := sh_at x 65536 65536 rfl hx
  obtain ⟨y, h2, hy, H2⟩ := mul_at a 2146121005 2146121005 rfl
  obtain ⟨b, h3, H3⟩ := sh_at y 32768 32768 rfl hy
  obtain ⟨z, h4, hz, H4⟩ := mul_at b 2221713035 2221713035 rfl
  obtain ⟨c, h5, H5⟩ := sh_at z 65536 65536 rfl hz
  have HC : Hid (mixed x = c) := by
    show mixed x = c
    rw [H5.out, H4.out, H3.out, H2.out, H1.out]
    rfl
  clear H1 H2 H3 H4 H5
  go_enter Tryz.func52, Tryz.ntmps52
  go_wp2_with fail
  go_ret
  rw [HC.out]
  exact ⟨rfl, rfl⟩

theorem fold_snoc (l : List Nat) (k : Nat) (hk : k < l.length) : (l.take (k + 1)).foldl hstep 2166136261 = hstep ((l.take k).foldl hstep 2166136261) (l.getD k 0) := by
  rw [take_snoc hk, List.foldl_append, List.foldl_cons, List.foldl_nil]

theorem getD_lt {l : List Nat} (h : ∀ x ∈ l, x < 256) (k : Nat) : l.getD k 0 < 256 := by
  by_cases hk : k < l.length
  · exact h _ (getD_mem hk)
  · simp [List.getD, List.getElem?_eq_none (Nat.le_of_not_lt hk)]

theorem hash_any (s : ByteArray) (w : World) (hs : s.size ≤ 140737488355328) :
    Calls Tryz.prog 34 #[.string s] w fun e w' => e = .returned (.int .u32 (mixed (hfold (nat s)) : Int)) ∧ w' = w := by
  go_enter Tryz.func34, Tryz.ntmps34
  go_wp2_with fail
  go_loop [3, 7] (fun x i => ∃ k X : Nat, k ≤ s.size ∧ X < 4294967296 ∧ x = .int .u32 X ∧ i = .int .i64 k ∧ Hid (X = ((nat s).take k).foldl hstep 2166136261)) (fun _ i => s.size - (intOf i).toNat)
  case atStart => exact ⟨0, 2166136261, by omega, by omega, rfl, rfl, rfl⟩
  case round =>
    obtain ⟨k, X, hk, hX, rfl, rfl, HX⟩ := hrel
    by_cases hlt : k < s.size
    · have hb := nat_get s k hlt
      have hbl := getD_lt (nat_lt s) k
      have HS := fold_snoc (nat s) k (by rw [nat_length]; exact hlt)
      rw [← HX.out] at HS
      generalize (nat s).getD k 0 = b at hb hbl HS
      obtain ⟨a, h1, H1⟩ := xor_at X b hX (by omega)
      obtain ⟨y, h2, hy, H2⟩ := mul_at a 16777619 16777619 rfl
      have HY : Hid (y = ((nat s).take (k + 1)).foldl hstep 2166136261) := by
        show y = _
        rw [HS, H2.out, H1.out]
        rfl
      clear HS H1 H2 HX
      go_wp2_with fail
      go_round
      case rel => exact ⟨k + 1, y, by omega, hy, by rw [h2], rfl, HY⟩
      case measure => simp [intOf]; omega
    · obtain rfl : k = s.size := by omega
      have HY : Hid (X = hfold (nat s)) := by
        show X = _
        rw [HX.out, List.take_of_length_le (by rw [nat_length]; exact Nat.le_refl _)]
        rfl
      have c := mixed_any X w hX
      clear HX
      go_wp2_with (go_at_call 52; refine c.mono ?_; clear c; rintro e w' ⟨rfl, rfl⟩)
      go_ret
      rw [← HY.out]
      exact ⟨rfl, rfl⟩

theorem rhash_any (s : ByteArray) (w : World) (hs : s.size ≤ 140737488355328) :
    Calls Tryz.prog 22 #[.string s] w fun e w' => e = .returned (.int .u32 (mixed (hfold (nat s)) : Int)) ∧ w' = w := by
  go_enter Tryz.func22, Tryz.ntmps22
  go_wp2_with fail
  go_loop [3, 4] (fun x i => ∃ k X : Nat, k ≤ s.size ∧ X < 4294967296 ∧ x = .int .u32 X ∧ i = .int .i64 k ∧ Hid (X = ((nat s).take k).foldl hstep 2166136261)) (fun _ i => s.size - (intOf i).toNat)
  case atStart => exact ⟨0, 2166136261, by omega, by omega, rfl, rfl, rfl⟩
  case round =>
    obtain ⟨k, X, hk, hX, rfl, rfl, HX⟩ := hrel
    by_cases hlt : k < s.size
    · have hb := nat_get s k hlt
      have hbl := getD_lt (nat_lt s) k
      have HS := fold_snoc (nat s) k (by rw [nat_length]; exact hlt)
      rw [← HX.out] at HS
      generalize (nat s).getD k 0 = b at hb hbl HS
      obtain ⟨a, h1, H1⟩ := xor_at X b hX (by omega)
      obtain ⟨y, h2, hy, H2⟩ := mul_at a 16777619 16777619 rfl
      have HY : Hid (y = ((nat s).take (k + 1)).foldl hstep 2166136261) := by
        show y = _
        rw [HS, H2.out, H1.out]
        rfl
      clear HS H1 H2 HX
      go_wp2_with fail
      go_round
      case rel => exact ⟨k + 1, y, by omega, hy, by rw [h2], rfl, HY⟩
      case measure => simp [intOf]; omega
    · obtain rfl : k = s.size := by omega
      have HY : Hid (X = hfold (nat s)) := by
        show X = _
        rw [HX.out, List.take_of_length_le (by rw [nat_length]; exact Nat.le_refl _)]
        rfl
      obtain ⟨a, h1, H1⟩ := sh_at X 65536 65536 rfl hX
      obtain ⟨y, h2, hy, H2⟩ := mul_at a 2146121005 2146121005 rfl
      obtain ⟨b, h3, H3⟩ := sh_at y 32768 32768 rfl hy
      obtain ⟨z, h4, hz, H4⟩ := mul_at b 2221713035 2221713035 rfl
      obtain ⟨c, h5, H5⟩ := sh_at z 65536 65536 rfl hz
      have HC : Hid (mixed (hfold (nat s)) = c) := by
        show mixed (hfold (nat s)) = c
        rw [H5.out, H4.out, H3.out, H2.out, H1.out, HY.out]
        rfl
      clear H1 H2 H3 H4 H5 HX HY
      go_wp2_with fail
      go_ret
      rw [HC.out]
      exact ⟨rfl, rfl⟩

end Go.Proofs.YtgfjmkjgagogpaaGreat.Na

/-
  Where a text's first runes end; blanks at its ends; which runes a name may have; why a name may not be.
  Conditions: the text is at most 2^47 bytes long.
-/
namespace Go.Proofs.YtgfjmkjgagogpaaGreat.Na
open Go.RowKit
set_option linter.unusedVariables false
set_option linter.unusedSimpArgs false
set_option maxRecDepth 100000

/- Blanks. -/
theorem nat_blank : nat { data := #[32] } = [32] := by decide

theorem head_blank {s : ByteArray} {rs : List Nat} (h : Txt (nat s) rs []) (h0 : 0 < rs.length) : (nat s).take 1 = [32] ↔ rs.getD 0 0 = 32 := by
  have h1 := h.at h0
  rw [pos_zero, List.drop_zero] at h1
  rw [h1]
  generalize rs.getD 0 0 = r
  unfold encN
  repeat' split
  all_goals simp
  all_goals omega

theorem last_blank {s : ByteArray} {rs : List Nat} (h : Txt (nat s) rs []) (h0 : 0 < rs.length) : 1 ≤ s.size ∧ ((nat s).drop (s.size - 1) = [32] ↔ rs.getD (rs.length - 1) 0 = 32) := by
  have h1 := h.at (k := rs.length - 1) (by omega)
  have h2 := h.len
  have h3 := pos_succ (rs := rs) (k := rs.length - 1) (by omega)
  have h4 := width_pos (rs.getD (rs.length - 1) 0)
  rw [show rs.length - 1 + 1 = rs.length by omega] at h1 h3
  rw [List.drop_length] at h1
  rw [nat_length] at h2
  simp only [List.length_nil, Nat.add_zero] at h2
  have h5 : s.size - 1 = pos rs (rs.length - 1) + (width (rs.getD (rs.length - 1) 0) - 1) := by omega
  refine ⟨by omega, ?_⟩
  rw [h5, ← List.drop_drop, h1]
  generalize rs.getD (rs.length - 1) 0 = r
  unfold encN width
  repeat' split
  all_goals simp [flat]
  all_goals omega

theorem outside_any (s : ByteArray) (rs : List Nat) (b : Bool) (w : World) (h : Txt (nat s) rs []) (h0 : 0 < rs.length) (hs : s.size ≤ 140737488355328) (hb : (rs.getD 0 0 = 32 ∨ rs.getD (rs.length - 1) 0 = 32) ↔ b = true) :
    Calls Tryz.prog 50 #[.string s] w fun e w' => e = .returned (.bool b) ∧ w' = w := by
  have h1 := head_blank h h0
  have h2 := last_blank h h0
  by_cases e1 : rs.getD 0 0 = 32
  · have c := prefix_any s { data := #[32] } true w (by rw [nat_blank]; exact ⟨fun _ => rfl, fun _ => h1.2 e1⟩)
    have e2 : b = true := hb.1 (.inl e1)
    subst e2
    clear h h1 h2 hb
    go_enter Tryz.func50, Tryz.ntmps50
    go_wp2_with (go_at_call 74; refine c.mono ?_; clear c; rintro e w' ⟨rfl, rfl⟩)
    go_ret
    exact ⟨rfl, rfl⟩
  · have c := prefix_any s { data := #[32] } false w (by rw [nat_blank]; exact ⟨fun hh => absurd (h1.1 hh) e1, fun hh => by cases hh⟩)
    have c2 := suffix_any s { data := #[32] } b w (by omega) (fun _ => by
      rw [nat_blank]
      refine Iff.trans h2.2 (Iff.trans ?_ hb)
      exact ⟨.inr, fun hh => hh.resolve_left e1⟩) (fun hh => absurd h2.1 hh)
    clear h h1 h2 hb
    go_enter Tryz.func50, Tryz.ntmps50
    go_wp2_with (first
      | (go_at_call 74; refine c.mono ?_; clear c; rintro e w' ⟨rfl, rfl⟩)
      | (go_at_call 75; refine c2.mono ?_; clear c2; rintro e w' ⟨rfl, rfl⟩))
    go_ret
    exact ⟨rfl, rfl⟩

/- Which runes may be. -/
def fine (r : Nat) : Bool := !(decide (r < 32) || r == 47 || r == 127 || r == 65533)

theorem fine_yes {r : Nat} (h : fine r = true) : 32 ≤ r ∧ r ≠ 47 ∧ r ≠ 127 ∧ r ≠ 65533 := by
  simp [fine] at h
  omega

theorem fine_no {r : Nat} (h : fine r = false) : r < 32 ∨ r = 47 ∨ r = 127 ∨ r = 65533 := by
  simp [fine] at h
  omega

theorem first_no (f : Nat → Bool) (n : Nat) : ∃ m, m ≤ n ∧ (∀ k, k < m → f k = true) ∧ (m = n ∨ f m = false) := by
  induction n with
  | zero => exact ⟨0, Nat.le_refl _, fun k hk => by omega, .inl rfl⟩
  | succ n ih =>
    obtain ⟨m, h1, h2, h3⟩ := ih
    rcases h3 with rfl | h3
    · cases hf : f m with
      | true => exact ⟨m + 1, Nat.le_refl _, fun k hk => by
          by_cases e : k = m
          · subst e; exact hf
          · exact h2 k (by omega), .inl rfl⟩
      | false => exact ⟨m, by omega, h2, .inr hf⟩
    · exact ⟨m, by omega, h2, .inr h3⟩

theorem allmay_any (s : ByteArray) (rs : List Nat) (b : Bool) (w : World) (h : Txt (nat s) rs []) (hs : s.size ≤ 140737488355328) (hb : rs.all fine = b) :
    Calls Tryz.prog 51 #[.string s] w fun e w' => e = .returned (.bool b) ∧ Below w.heap.size w w' := by
  have hle := h.len
  rw [nat_length, List.length_nil, Nat.add_zero] at hle
  have hpl := pos_le rs rs.length (Nat.le_refl _)
  have hlen : rs.length ≤ s.size := by omega
  obtain ⟨M, hM1, hM2, hM3⟩ := first_no (fun k => fine (rs.getD k 0)) rs.length
  have HT : Hid (M = rs.length → b = true) := fun e => by
    rw [← hb, List.all_eq_true]
    intro r hr
    obtain ⟨i, hi, rfl⟩ := List.getElem_of_mem hr
    have := hM2 i (by omega)
    simpa [List.getD, List.getElem?_eq_getElem hi] using this
  have HF : Hid (M < rs.length → fine (rs.getD M 0) = false → b = false) := fun hm e => by
    rw [← hb, List.all_eq_false]
    exact ⟨rs.getD M 0, getD_mem hm, by rw [e]; simp⟩
  have HM2 : Hid (∀ k, k < M → fine (rs.getD k 0) = true) := hM2
  have HM3 : Hid (M = rs.length ∨ fine (rs.getD M 0) = false) := hM3
  have HML : Hid (M ≤ rs.length) := hM1
  have HX : Hid (Txt (nat s) rs []) := h
  have HS : Hid (rs.length ≤ s.size) := hlen
  clear h hle hpl hb hM1 hM2 hM3 hlen
  go_enter Tryz.func51, Tryz.ntmps51
  go_wp2_with fail
  go_loopw [] (fun wr => ∃ k : Nat, k ≤ M ∧ wr = w.iter s (pos rs k)) (fun wr => s.size + 1 - wr.iterPos w.heap.size)
  case atStart => exact ⟨0, Nat.zero_le _, rfl⟩
  case round =>
    obtain ⟨k, hk, rfl⟩ := hrel
    by_cases hend : k = rs.length
    · have hnx := next_none HX.out rfl w
      rw [← hend] at hnx
      have hb := HT.out (by have := HML.out; omega)
      subst hb
      clear hend
      go_wp2_with fail
      go_ret
      exact ⟨rfl, (Below.refl _ _).alloc (Nat.le_refl _) _⟩
    · have hlt : k < rs.length := by have := HML.out; omega
      obtain ⟨r, p, q, hr, hp, hq, hpq, hqs, hr2, hnx, hdr⟩ := next_rune HX.out hlt w
      have HP : Hid (p = pos rs k ∧ q = pos rs (k + 1) ∧ p < q) := ⟨hp, hq, hpq⟩
      have HR : Hid (r = rs.getD k 0) := hr
      rw [← hp]
      have HK : Hid (k ≠ rs.length) := hend
      clear hdr hr hp hq hpq hend hlt
      by_cases hkm : k < M
      · obtain ⟨f1, f2, f3, f4⟩ := fine_yes (HM2.out k hkm)
        rw [← HR.out] at f1 f2 f3 f4
        have g1 : ¬ ((r : Int) < 32) := by omega
        have g2 : ((r : Int) == 47) = false := by simp; omega
        have g3 : ((r : Int) == 127) = false := by simp; omega
        have g4 : ((r : Int) == 65533) = false := by simp; omega
        clear f2 f3 f4
        go_wp2_with fail
        go_roundw
        case rel => exact ⟨k + 1, by omega, by rw [← HP.out.2.1]⟩
        case measure =>
          have := HP.out.2.2
          simp
          omega
      · obtain rfl : k = M := by omega
        have hf : fine (rs.getD k 0) = false := HM3.out.resolve_left HK.out
        have hb := HF.out (by have := HK.out; have := HML.out; omega) hf
        subst hb
        rw [← HR.out] at hf
        have hc := fine_no hf
        clear hf
        rcases hc with hc | hc | hc | hc
        · have g1 : (r : Int) < 32 := by omega
          go_wp2_with fail
          go_ret
          exact ⟨rfl, (Below.refl _ _).alloc (Nat.le_refl _) _⟩
        all_goals
          subst hc
          go_wp2_with fail
          go_ret
          exact ⟨rfl, (Below.refl _ _).alloc (Nat.le_refl _) _⟩

end Go.Proofs.YtgfjmkjgagogpaaGreat.Na

/-
  Check: why a name may not be.
  Conditions: the text is at most 2^47 bytes long.
-/
namespace Go.Proofs.YtgfjmkjgagogpaaGreat.Na
open Go.RowKit
set_option linter.unusedVariables false
set_option linter.unusedSimpArgs false
set_option maxRecDepth 100000

def why (rs t : List Nat) : Nat :=
  if t ≠ [] then 5
  else if 64 < rs.length then 3
  else if rs.length = 0 then 1
  else if rs.getD 0 0 = 32 ∨ rs.getD (rs.length - 1) 0 = 32 then 1
  else if rs.all fine then 0 else 1

theorem check_any (s : ByteArray) (rs t : List Nat) (c : Nat) (w : World) (h : Txt (nat s) rs t) (hs : s.size ≤ 140737488355328) (hc : c = why rs t) :
    Calls Tryz.prog 33 #[.string s] w fun e w' => e = .returned (.int .i64 c) ∧ Below w.heap.size w w' := by
  by_cases ht : t = []
  · subst ht
    have c1 := count_any s rs [] rs.length true w h hs (fun _ => ⟨rfl, rfl⟩) (fun hh => absurd rfl hh)
    have hle := h.len
    rw [nat_length, List.length_nil, Nat.add_zero] at hle
    have hpl := pos_le rs rs.length (Nat.le_refl _)
    have hlen : rs.length ≤ s.size := by omega
    have HX : Hid (Txt (nat s) rs []) := h
    by_cases h64 : 64 < rs.length
    · have hc2 : c = 3 := by rw [hc]; simp [why, h64]
      subst hc2
      generalize rs.length = N at c1 h64 hlen
      clear h hle hpl hc
      go_enter Tryz.func33, Tryz.ntmps33
      go_wp2_with (go_at_call 49; refine c1.mono ?_; clear c1; rintro e w' ⟨rfl, hb1⟩)
      go_ret
      exact ⟨rfl, hb1⟩
    · by_cases h0 : rs.length = 0
      · have hc2 : c = 1 := by rw [hc]; simp [why, h0]
        subst hc2
        rw [h0] at c1
        clear h hle hpl hc h64 hlen h0
        go_enter Tryz.func33, Tryz.ntmps33
        go_wp2_with (go_at_call 49; refine c1.mono ?_; clear c1; rintro e w' ⟨rfl, hb1⟩)
        go_ret
        exact ⟨rfl, hb1⟩
      · by_cases ho : rs.getD 0 0 = 32 ∨ rs.getD (rs.length - 1) 0 = 32
        · have hc2 : c = 1 := by
            rw [hc, why, if_neg (by simp), if_neg h64, if_neg h0, if_pos ho]
          subst hc2
          have c2 : ∀ v, Calls Tryz.prog 50 #[.string s] v fun e w' => e = .returned (.bool true) ∧ w' = v := fun v => outside_any s rs true v h (by omega) hs ⟨fun _ => rfl, fun _ => ho⟩
          generalize rs.length = N at c1 h64 hlen h0
          have h1 : ((N : Int) == 0) = false := by simp; omega
          clear h hle hpl hc ho h0
          go_enter Tryz.func33, Tryz.ntmps33
          go_wp2_with (first
            | (go_at_call 49; refine c1.mono ?_; clear c1; rintro e w' ⟨rfl, hb1⟩)
            | (go_at_call 50; refine (c2 _).mono ?_; clear c2; rintro e w' ⟨rfl, rfl⟩))
          go_ret
          exact ⟨rfl, hb1⟩
        · obtain ⟨b, hb⟩ : ∃ b, rs.all fine = b := ⟨_, rfl⟩
          have hc2 : c = if b = true then 0 else 1 := by
            rw [hc, why, if_neg (by simp), if_neg h64, if_neg h0, if_neg ho, hb]
          have c2 : ∀ v, Calls Tryz.prog 50 #[.string s] v fun e w' => e = .returned (.bool false) ∧ w' = v := fun v => outside_any s rs false v h (by omega) hs ⟨fun hh => absurd hh ho, fun hh => by cases hh⟩
          have c3 : ∀ v, Calls Tryz.prog 51 #[.string s] v fun e w' => e = .returned (.bool b) ∧ Below v.heap.size v w' := fun v => allmay_any s rs b v h hs hb
          generalize rs.length = N at c1 h64 hlen h0
          have h1 : ((N : Int) == 0) = false := by simp; omega
          have HC : Hid (c = if b = true then 0 else 1) := hc2
          clear h hle hpl hc ho h0 hb hc2
          cases b
          · go_enter Tryz.func33, Tryz.ntmps33
            go_wp2_with (first
              | (go_at_call 49; refine c1.mono ?_; clear c1; rintro e w' ⟨rfl, hb1⟩)
              | (go_at_call 50; refine (c2 _).mono ?_; clear c2; rintro e w' ⟨rfl, rfl⟩)
              | (go_at_call 51; refine (c3 _).mono ?_; clear c3; rintro e w' ⟨rfl, hb2⟩))
            go_ret
            rw [HC.out]
            exact ⟨rfl, hb1.trans (hb2.mono hb1.size)⟩
          · go_enter Tryz.func33, Tryz.ntmps33
            go_wp2_with (first
              | (go_at_call 49; refine c1.mono ?_; clear c1; rintro e w' ⟨rfl, hb1⟩)
              | (go_at_call 50; refine (c2 _).mono ?_; clear c2; rintro e w' ⟨rfl, rfl⟩)
              | (go_at_call 51; refine (c3 _).mono ?_; clear c3; rintro e w' ⟨rfl, hb2⟩))
            go_ret
            rw [HC.out]
            exact ⟨rfl, hb1.trans (hb2.mono hb1.size)⟩
  · have c1 := count_any s rs t 0 false w h hs (fun hh => absurd hh ht) (fun _ => ⟨rfl, rfl⟩)
    have hc2 : c = 5 := by rw [hc]; simp [why, ht]
    subst hc2
    clear h hc ht
    go_enter Tryz.func33, Tryz.ntmps33
    go_wp2_with (go_at_call 49; refine c1.mono ?_; clear c1; rintro e w' ⟨rfl, hb1⟩)
    go_ret
    exact ⟨rfl, hb1⟩

/- Awake. -/
theorem t_one : Txt (nat { data := #[195, 132, 97, 32, 98] }) [196, 97, 32, 98] [] := ⟨by decide, (by intro r hr; simp at hr; unfold ok; omega), .inl rfl, nat_lt _⟩
theorem t_two : Txt (nat { data := #[97, 47, 98] }) [97, 47, 98] [] := ⟨by decide, (by intro r hr; simp at hr; unfold ok; omega), .inl rfl, nat_lt _⟩
theorem t_three : Txt (nat { data := #[255] }) [] [255] := ⟨by decide, (by intro r hr; cases hr), .inr (by decide), nat_lt _⟩

end Go.Proofs.YtgfjmkjgagogpaaGreat.Na

/-
  Package place: an object's placement group.
  Conditions: the text is at most 2^47 bytes long.
-/
namespace Go.Proofs.YtgfjmkjgagogpaaGreat.Na
open Go.RowKit
set_option linter.unusedVariables false
set_option linter.unusedSimpArgs false
set_option maxRecDepth 100000

/- X modulo the number of placement groups; what is told, and the error. -/
def gN (X : Nat) (pgs : Int) : Nat := X % pgs.toNat
def pgV (c X : Nat) (pgs : Int) : Int := if c ≠ 0 then 0 else if 1 ≤ pgs ∧ pgs ≤ 32 then (gN X pgs : Nat) else 0
def pgE (c : Nat) (pgs : Int) : Int := if c ≠ 0 then (c : Nat) else if 1 ≤ pgs ∧ pgs ≤ 32 then 0 else 1
theorem gN_eq (X : Nat) {pgs : Int} (h : 1 ≤ pgs) : (X : Int).tmod pgs = (gN X pgs : Nat) := by
  obtain ⟨p, rfl⟩ := Int.eq_ofNat_of_zero_le (show 0 ≤ pgs by omega)
  rw [Int.tmod_eq_emod_of_nonneg (by omega)]
  unfold gN
  simp
theorem gN_lt (X : Nat) {pgs : Int} (h : 1 ≤ pgs) (h2 : pgs ≤ 32) : gN X pgs < 32 := by
  unfold gN
  have := Nat.mod_lt X (show pgs.toNat > 0 by omega)
  omega

theorem mixed_lt (x : Nat) : mixed x < 4294967296 := by
  unfold mixed mix3
  have h : mix2 (mix1 x) < 4294967296 := by unfold mix2; exact Nat.mod_lt _ (by decide)
  exact xor_lt h (by omega)

set_option maxHeartbeats 1600000 in
theorem grp_bad (s : ByteArray) (pgs : Int) (c X : Nat) (w : World) (hX : X < 4294967296) (cC : Calls Tryz.prog 33 #[.string s] w fun e w' => e = .returned (.int .i64 (c : Nat)) ∧ Below w.heap.size w w') (cH : ∀ W, Calls Tryz.prog 34 #[.string s] W fun e w' => e = .returned (.int .u32 (X : Nat)) ∧ w' = W) (hc : c ≠ 0) :
    Calls Tryz.prog 20 #[.string s, .int .i64 pgs] w fun e w' => e = .returned (.tuple #[.int .i64 0, .int .i64 (c : Nat)]) ∧ Below w.heap.size w w' := by
  have e1 : ((c : Int) != 0) = true := by simp; omega
  go_enter Tryz.func20, Tryz.ntmps20
  go_wp2_with (first
    | (go_at_call 33; refine cC.mono ?_; rintro e w1 ⟨rfl, hb1⟩; clear cC)
    | (go_at_call 34; refine (cH _).mono ?_; rintro e w2 ⟨rfl, hw2⟩; subst w2; clear cH))
  go_ret2
  exact ⟨rfl, hb1⟩

set_option maxHeartbeats 1600000 in
theorem grp_low (s : ByteArray) (pgs : Int) (c X : Nat) (w : World) (hX : X < 4294967296) (cC : Calls Tryz.prog 33 #[.string s] w fun e w' => e = .returned (.int .i64 (c : Nat)) ∧ Below w.heap.size w w') (cH : ∀ W, Calls Tryz.prog 34 #[.string s] W fun e w' => e = .returned (.int .u32 (X : Nat)) ∧ w' = W) (hc : c = 0) (h1 : pgs < 1) :
    Calls Tryz.prog 20 #[.string s, .int .i64 pgs] w fun e w' => e = .returned (.tuple #[.int .i64 0, .int .i64 1]) ∧ Below w.heap.size w w' := by
  subst hc
  go_enter Tryz.func20, Tryz.ntmps20
  go_wp2_with (first
    | (go_at_call 33; refine cC.mono ?_; rintro e w1 ⟨rfl, hb1⟩; clear cC)
    | (go_at_call 34; refine (cH _).mono ?_; rintro e w2 ⟨rfl, hw2⟩; subst w2; clear cH))
  go_ret2
  exact ⟨rfl, hb1⟩

set_option maxHeartbeats 1600000 in
theorem grp_high (s : ByteArray) (pgs : Int) (c X : Nat) (w : World) (hX : X < 4294967296) (cC : Calls Tryz.prog 33 #[.string s] w fun e w' => e = .returned (.int .i64 (c : Nat)) ∧ Below w.heap.size w w') (cH : ∀ W, Calls Tryz.prog 34 #[.string s] W fun e w' => e = .returned (.int .u32 (X : Nat)) ∧ w' = W) (hc : c = 0) (h1 : ¬ pgs < 1) (h2 : 32 < pgs) :
    Calls Tryz.prog 20 #[.string s, .int .i64 pgs] w fun e w' => e = .returned (.tuple #[.int .i64 0, .int .i64 1]) ∧ Below w.heap.size w w' := by
  subst hc
  go_enter Tryz.func20, Tryz.ntmps20
  go_wp2_with (first
    | (go_at_call 33; refine cC.mono ?_; rintro e w1 ⟨rfl, hb1⟩; clear cC)
    | (go_at_call 34; refine (cH _).mono ?_; rintro e w2 ⟨rfl, hw2⟩; subst w2; clear cH))
  go_ret2
  exact ⟨rfl, hb1⟩

set_option maxHeartbeats 1600000 in
theorem grp_yes (s : ByteArray) (pgs : Int) (c X : Nat) (w : World) (hX : X < 4294967296) (cC : Calls Tryz.prog 33 #[.string s] w fun e w' => e = .returned (.int .i64 (c : Nat)) ∧ Below w.heap.size w w') (cH : ∀ W, Calls Tryz.prog 34 #[.string s] W fun e w' => e = .returned (.int .u32 (X : Nat)) ∧ w' = W) (hc : c = 0) (h1 : ¬ pgs < 1) (h2 : ¬ 32 < pgs) :
    Calls Tryz.prog 20 #[.string s, .int .i64 pgs] w fun e w' => e = .returned (.tuple #[.int .i64 (gN X pgs : Nat), .int .i64 0]) ∧ Below w.heap.size w w' := by
  subst hc
  have e1 : IntKind.u32.wrap pgs = pgs := by rw [IntKind.wrap_u32]; omega
  have e2 : ¬ pgs = 0 := by omega
  have e3 : (X : Int).tmod pgs = (gN X pgs : Nat) := gN_eq X (by omega)
  have e4 : gN X pgs < 32 := gN_lt X (by omega) (by omega)
  have e5 : IntKind.i64.wrap (gN X pgs : Nat) = (gN X pgs : Nat) := by rw [IntKind.wrap_i64]; omega
  have e6 : IntKind.u32.wrap (gN X pgs : Nat) = (gN X pgs : Nat) := by rw [IntKind.wrap_u32]; omega
  go_enter Tryz.func20, Tryz.ntmps20
  go_wp2_with (first
    | (go_at_call 33; refine cC.mono ?_; rintro e w1 ⟨rfl, hb1⟩; clear cC)
    | (go_at_call 34; refine (cH _).mono ?_; rintro e w2 ⟨rfl, hw2⟩; subst w2; clear cH))
  go_ret2
  exact ⟨rfl, hb1⟩

theorem grp_any (s : ByteArray) (pgs : Int) (c X : Nat) (w : World) (hX : X < 4294967296) (cC : Calls Tryz.prog 33 #[.string s] w fun e w' => e = .returned (.int .i64 (c : Nat)) ∧ Below w.heap.size w w') (cH : ∀ W, Calls Tryz.prog 34 #[.string s] W fun e w' => e = .returned (.int .u32 (X : Nat)) ∧ w' = W) :
    Calls Tryz.prog 20 #[.string s, .int .i64 pgs] w fun e w' => e = .returned (.tuple #[.int .i64 (pgV c X pgs), .int .i64 (pgE c pgs)]) ∧ Below w.heap.size w w' := by
  unfold pgV pgE
  by_cases hc : c = 0
  · rw [if_neg (show ¬ c ≠ 0 by omega), if_neg (show ¬ c ≠ 0 by omega)]
    by_cases h1 : pgs < 1
    · rw [if_neg (by omega), if_neg (by omega)]
      exact grp_low s pgs c X w hX cC cH hc h1
    · by_cases h2 : 32 < pgs
      · rw [if_neg (by omega), if_neg (by omega)]
        exact grp_high s pgs c X w hX cC cH hc h1 h2
      · rw [if_pos (by omega), if_pos (by omega)]
        exact grp_yes s pgs c X w hX cC cH hc h1 h2
  · rw [if_pos hc, if_pos hc]
    exact grp_bad s pgs c X w hX cC cH hc

set_option maxHeartbeats 1600000 in
theorem pg_any (s : ByteArray) (rs t : List Nat) (pgs : Int) (w : World) (h : Txt (nat s) rs t) (hs : s.size ≤ 140737488355328) :
    Calls Tryz.prog 7 #[.string s, .int .i64 pgs] w fun e w' => e = .returned (.tuple #[.int .i64 (pgV (why rs t) (mixed (hfold (nat s))) pgs), .int .i64 (pgE (why rs t) pgs)]) ∧ Below w.heap.size w w' := by
  have c1 := grp_any s pgs (why rs t) (mixed (hfold (nat s))) w (mixed_lt _) (check_any s rs t _ w h hs rfl) (fun W => hash_any s W hs)
  generalize pgV (why rs t) (mixed (hfold (nat s))) pgs = V at *
  generalize pgE (why rs t) pgs = E at *
  clear h
  go_enter Tryz.func7, Tryz.ntmps7
  go_wp2_with (go_at_call 20; refine c1.mono ?_; rintro e w1 ⟨rfl, hb1⟩; clear c1)
  go_ret2
  exact ⟨rfl, hb1⟩

end Go.Proofs.YtgfjmkjgagogpaaGreat.Na

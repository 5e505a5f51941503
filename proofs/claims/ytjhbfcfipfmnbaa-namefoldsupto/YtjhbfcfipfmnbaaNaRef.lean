/-
  The document's Head and Check.
  Conditions: the text is at most 2^20 bytes long.
-/
import Derived.Test.YtjhbfcfipfmnbaaNaRunes
import Derived.Test.YtjhbfcfipfmnbaaNaHead
import Derived.Test.YtjhbfcfipfmnbaaNaWhy
namespace Go.Proofs.Ytjhbfcfipfmnbaa.Na
open Go.RowKit
set_option linter.unusedVariables false
set_option linter.unusedSimpArgs false

theorem runes_yes (s : ByteArray) (rs : List Nat) (w : World) (h : Txt (nat s) rs []) (hs : s.size ≤ 1048576) :
    Calls Try.prog 9 #[.string s] w fun e w' => ∃ g c, e = .returned (.tuple #[.slice (some ⟨g, 0, none⟩) rs.length c, .bool true]) ∧ Below w.heap.size w w' ∧ IntsIn w' g rs := by
  refine (runes_all s rs [] w h hs).mono fun e w' hh => ?_
  obtain ⟨h1, h2⟩ := hh
  rcases h2 with ⟨_, V, h3, h4⟩ | ⟨h3, _⟩
  · obtain ⟨g, c, rfl, g1, g2, g3⟩ := h3.at
    exact ⟨g, c, h4, h1, g2, g3⟩
  · exact absurd rfl h3

theorem runes_no (s : ByteArray) (rs t : List Nat) (w : World) (h : Txt (nat s) rs t) (hs : s.size ≤ 1048576) (ht : t ≠ []) :
    Calls Try.prog 9 #[.string s] w fun e w' => e = .returned (.tuple #[.slice none 0 0, .bool false]) ∧ Below w.heap.size w w' := by
  refine (runes_all s rs t w h hs).mono fun e w' hh => ?_
  obtain ⟨h1, h2⟩ := hh
  rcases h2 with ⟨h3, _⟩ | ⟨_, h3⟩
  · exact absurd h3 ht
  · exact ⟨h3, h1⟩

theorem txt_len {s : ByteArray} {rs t : List Nat} (h : Txt (nat s) rs t) : rs.length ≤ s.size := by
  have h1 := h.len
  rw [nat_length] at h1
  have := pos_le rs rs.length (Nat.le_refl _)
  omega

theorem size_any (r : Nat) (w : World) : Calls Try.prog 26 #[.int .i64 r] w fun e w' => e = .returned (.int .i64 (width r : Nat)) ∧ w' = w := by
  by_cases h1 : r < 128
  · have e : width r = 1 := by simp [width, h1]
    rw [e]
    have g1 : (r : Int) < 128 := by omega
    clear h1 e
    go_enter Try.func26, Try.ntmps26
    go_wp2_with fail
    go_ret
    exact ⟨rfl, rfl⟩
  · have g1 : ¬ (r : Int) < 128 := by omega
    by_cases h2 : r < 2048
    · have e : width r = 2 := by simp [width, h1, h2]
      rw [e]
      have g2 : (r : Int) < 2048 := by omega
      clear h1 h2 e
      go_enter Try.func26, Try.ntmps26
      go_wp2_with fail
      go_ret
      exact ⟨rfl, rfl⟩
    · have g2 : ¬ (r : Int) < 2048 := by omega
      by_cases h3 : r < 65536
      · have e : width r = 3 := by simp [width, h1, h2, h3]
        rw [e]
        have g3 : (r : Int) < 65536 := by omega
        clear h1 h2 h3 e
        go_enter Try.func26, Try.ntmps26
        go_wp2_with fail
        go_ret
        exact ⟨rfl, rfl⟩
      · have g3 : ¬ (r : Int) < 65536 := by omega
        have e : width r = 4 := by simp [width, h1, h2, h3]
        rw [e]
        clear h1 h2 h3 e
        go_enter Try.func26, Try.ntmps26
        go_wp2_with fail
        go_ret
        exact ⟨rfl, rfl⟩

/- Head. -/
theorem rhead_no (s : ByteArray) (rs t : List Nat) (n : Int) (w : World) (h : Txt (nat s) rs t) (hs : s.size ≤ 1048576) (ht : t ≠ []) :
    Calls Try.prog 11 #[.string s, .int .i64 n] w fun e w' => e = .returned (.tuple #[.string ⟨#[]⟩, .int .i64 5]) ∧ Below w.heap.size w w' := by
  have c1 := runes_no s rs t w h hs ht
  clear h ht
  go_enter Try.func11, Try.ntmps11
  go_wp2_with (go_at_call 9; refine c1.mono ?_; clear c1; rintro e w' ⟨rfl, hb1⟩)
  go_ret2
  exact ⟨rfl, hb1⟩

theorem rhead_neg (s : ByteArray) (rs : List Nat) (n : Int) (w : World) (h : Txt (nat s) rs []) (hs : s.size ≤ 1048576) (hn : n < 0) :
    Calls Try.prog 11 #[.string s, .int .i64 n] w fun e w' => e = .returned (.tuple #[.string ⟨#[]⟩, .int .i64 1]) ∧ Below w.heap.size w w' := by
  have c1 := runes_yes s rs w h hs
  generalize rs.length = N at c1
  clear h
  go_enter Try.func11, Try.ntmps11
  go_wp2_with (go_at_call 9; refine c1.mono ?_; clear c1; rintro e w' ⟨g, c, rfl, hb1, HI⟩; have HI : Hid (IntsIn w' g rs) := HI)
  go_ret2
  exact ⟨rfl, hb1⟩

theorem rhead_yes (s : ByteArray) (rs : List Nat) (n : Nat) (w : World) (h : Txt (nat s) rs []) (hs : s.size ≤ 1048576) (hn : n ≤ 9223372036854775807) :
    Calls Try.prog 11 #[.string s, .int .i64 n] w fun e w' => e = .returned (.tuple #[.string (str (flat (rs.take n))), .int .i64 0]) ∧ Below w.heap.size w w' := by
  have c1 := runes_yes s rs w h hs
  have hle := h.len
  rw [nat_length, List.length_nil, Nat.add_zero] at hle
  have HE : Hid (∀ m, m = pos rs (min n rs.length) → s.extract 0 m = str (flat (rs.take n))) := fun m hm => by rw [hm]; exact ext_take h n
  have HM : Hid (∀ k, k ≤ rs.length → pos rs k ≤ s.size) := fun k hk => by rw [hle]; exact pos_mono hk (Nat.le_refl _)
  have hlen := txt_len h
  generalize hN : rs.length = N at c1 hlen HE HM
  have HN : Hid (rs.length = N) := hN
  generalize str (flat (rs.take n)) = S at HE
  clear h hle hN
  go_enter Try.func11, Try.ntmps11
  go_wp2_with (go_at_call 9; refine c1.mono ?_; clear c1; rintro e w1 ⟨g, c, rfl, hb1, hi⟩; have HI : Hid (IntsIn w1 g rs) := hi; clear hi)
  go_loop [8, 9] (fun a i => ∃ k p : Nat, i = .int .i64 k ∧ a = .int .i64 p ∧ k ≤ N ∧ k ≤ n ∧ p ≤ s.size ∧ Hid (p = pos rs k)) (fun _ i => N - (intOf i).toNat)
  case atStart => exact ⟨0, 0, rfl, rfl, Nat.zero_le _, Nat.zero_le _, Nat.zero_le _, rfl⟩
  case round =>
    obtain ⟨k, p, rfl, rfl, hk, hkn, hp, HP⟩ := hrel
    by_cases h1 : k < N
    · by_cases h2 : k < n
      · have hcell := HI.out.2 k (by rw [HN.out]; exact h1)
        rw [Nat.zero_add] at hcell
        have hps := pos_succ (rs := rs) (k := k) (by rw [HN.out]; exact h1)
        rw [← HP.out] at hps
        have hq := HM.out (k + 1) (by omega)
        generalize rs.getD k 0 = r at hcell hps
        have c2 := size_any r w1
        have hwl := width_le r
        generalize width r = d at c2 hps hwl
        obtain ⟨q, hq1⟩ : ∃ q, q = pos rs (k + 1) := ⟨_, rfl⟩
        rw [← hq1] at hps hq
        have HQ : Hid (q = pos rs (k + 1)) := hq1
        have hz : (p : Int) + (d : Int) = (q : Int) := by omega
        have i1 : (k : Int) < (N : Int) := by omega
        have i2 : (k : Int) < (n : Int) := by omega
        clear hq1 hps
        go_wp2_with (go_at_call 26; refine c2.mono ?_; clear c2; rintro e w' ⟨rfl, rfl⟩)
        go_round
        case rel => exact ⟨k + 1, q, rfl, rfl, by omega, by omega, hq, HQ⟩
        case measure => simp [intOf]; omega
      · have i1 : (k : Int) < (N : Int) := by omega
        have i2 : ¬ (k : Int) < (n : Int) := by omega
        have he := HE.out p (by rw [HP.out]; congr 1; omega)
        go_wp2_with fail
        go_ret2
        exact ⟨rfl, hb1⟩
    · have i1 : ¬ (k : Int) < (N : Int) := by omega
      have he := HE.out p (by rw [HP.out]; congr 1; omega)
      go_wp2_with fail
      go_ret2
      exact ⟨rfl, hb1⟩

end Go.Proofs.Ytjhbfcfipfmnbaa.Na

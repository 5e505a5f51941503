/-
  Head: a text's first runes.
  Conditions: the text is at most 2^47 bytes long.
-/
import Derived.Test.YtjhbfcfipfmnbaaNaCheck
import Derived.Test.YtjhbfcfipfmnbaaNaClone
import Derived.Laws.DeepStrings4
namespace Go.Proofs.Ytjhbfcfipfmnbaa.Na
open Go.RowKit
set_option linter.unusedVariables false
set_option linter.unusedSimpArgs false

theorem head_no (s : ByteArray) (rs t : List Nat) (n : Int) (w : World) (h : Txt (nat s) rs t) (hs : s.size ≤ 140737488355328) (ht : t ≠ []) :
    Calls Try.prog 10 #[.string s, .int .i64 n] w fun e w' => e = .returned (.tuple #[.string ⟨#[]⟩, .int .i64 5]) ∧ Below w.heap.size w w' := by
  have c1 := count_any s rs t 0 false w h hs (fun hh => absurd hh ht) (fun _ => ⟨rfl, rfl⟩)
  clear h ht
  go_enter Try.func10, Try.ntmps10
  go_wp2_with (go_at_call 8; refine c1.mono ?_; clear c1; rintro e w' ⟨rfl, hb1⟩)
  go_ret2
  exact ⟨rfl, hb1⟩

theorem head_neg (s : ByteArray) (rs : List Nat) (n : Int) (w : World) (h : Txt (nat s) rs []) (hs : s.size ≤ 140737488355328) (hn : n < 0) :
    Calls Try.prog 10 #[.string s, .int .i64 n] w fun e w' => e = .returned (.tuple #[.string ⟨#[]⟩, .int .i64 1]) ∧ Below w.heap.size w w' := by
  have c1 := count_any s rs [] rs.length true w h hs (fun _ => ⟨rfl, rfl⟩) (fun hh => absurd rfl hh)
  generalize rs.length = N at c1
  clear h
  go_enter Try.func10, Try.ntmps10
  go_wp2_with (go_at_call 8; refine c1.mono ?_; clear c1; rintro e w' ⟨rfl, hb1⟩)
  go_ret2
  exact ⟨rfl, hb1⟩

theorem ext_take {s : ByteArray} {rs t : List Nat} (h : Txt (nat s) rs t) (n : Nat) : s.extract 0 (pos rs (min n rs.length)) = str (flat (rs.take n)) := by
  apply nat_inj
  have e : (nat s).take (pos rs (min n rs.length)) = flat (rs.take n) := by
    rw [h.take (Nat.min_le_right _ _)]
    congr 1
    by_cases hn : n ≤ rs.length
    · rw [Nat.min_eq_left hn]
    · rw [Nat.min_eq_right (by omega), List.take_length, List.take_of_length_le (by omega)]
  rw [nat_extract, List.drop_zero, e, nat_str]
  intro x hx
  rw [← e] at hx
  exact h.lt x (List.mem_of_mem_take hx)

theorem head_yes (s : ByteArray) (rs : List Nat) (n : Nat) (w : World) (h : Txt (nat s) rs []) (hs : s.size ≤ 140737488355328) (hn : n ≤ 9223372036854775807) :
    Calls Try.prog 10 #[.string s, .int .i64 n] w fun e w' => e = .returned (.tuple #[.string (str (flat (rs.take n))), .int .i64 0]) ∧ Below w.heap.size w w' := by
  have c1 := count_any s rs [] rs.length true w h hs (fun _ => ⟨rfl, rfl⟩) (fun hh => absurd rfl hh)
  obtain ⟨m, hm⟩ : ∃ m, m = pos rs (min n rs.length) := ⟨_, rfl⟩
  have c2 : ∀ v, Calls Try.prog 25 #[.string s, .int .i64 n] v fun e w' => e = .returned (.int .i64 m) ∧ Below v.heap.size v w' := fun v => ahead_any s rs n m v h hs hn hm
  have hle := h.len
  rw [nat_length, List.length_nil, Nat.add_zero] at hle
  have hml : m ≤ s.size := by rw [hm, hle]; exact pos_mono (Nat.min_le_right _ _) (Nat.le_refl _)
  have he : s.extract 0 m = str (flat (rs.take n)) := by rw [hm]; exact ext_take h n
  have hsz : (s.extract 0 m).size ≤ 281474976710656 := by
    rw [← nat_length, nat_extract, List.drop_zero, List.length_take]
    omega
  generalize hS : str (flat (rs.take n)) = S at he
  rw [he] at hsz
  have c3 : ∀ v, Calls Try.prog 24 #[.string S] v fun e w' => e = .returned (.string S) ∧ Below v.heap.size v w' := fun v => clone_any S v hsz
  generalize rs.length = N at c1
  clear h hsz hm hle hS
  go_enter Try.func10, Try.ntmps10
  go_wp2_with (first
    | (go_at_call 8; refine c1.mono ?_; clear c1; rintro e w1 ⟨rfl, hb1⟩)
    | (go_at_call 25; refine (c2 _).mono ?_; clear c2; rintro e w2 ⟨rfl, hb2⟩)
    | (go_at_call 24; refine (c3 _).mono ?_; clear c3; rintro e w3 ⟨rfl, hb3⟩))
  go_ret2
  have s1 := hb1.size
  have s2 := hb2.size
  exact ⟨rfl, (hb1.trans (hb2.mono s1)).trans (hb3.mono (by omega))⟩

/- What is made of runes is a text of them. -/
theorem flat_lt {rs : List Nat} (h : ∀ r ∈ rs, ok r) : ∀ x ∈ flat rs, x < 256 := by
  intro x hx
  obtain ⟨r, hr, hx⟩ := List.mem_flatMap.1 hx
  exact enc_lt (h r hr) x hx

theorem txt_str {rs : List Nat} (h : ∀ r ∈ rs, ok r) : Txt (nat (str (flat rs))) rs [] :=
  ⟨by rw [nat_str (flat_lt h), List.append_nil], h, .inl rfl, nat_lt _⟩

theorem txt_head {s : ByteArray} {rs : List Nat} (h : Txt (nat s) rs []) (n : Nat) : Txt (nat (str (flat (rs.take n)))) (rs.take n) [] ∧ (str (flat (rs.take n))).size ≤ s.size := by
  refine ⟨txt_str fun r hr => h.ok r (List.mem_of_mem_take hr), ?_⟩
  rw [← ext_take h n, ← nat_length, ← nat_length, nat_extract, List.drop_zero, List.length_take]
  omega

end Go.Proofs.Ytjhbfcfipfmnbaa.Na

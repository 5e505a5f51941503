/-
  Count: how many runes a text has.
  Conditions: the text is at most 2^47 bytes long.
-/
import Derived.Test.YtjhbfcfipfmnbaaNaCalls
namespace Go.Proofs.Ytjhbfcfipfmnbaa.Na
open Go.RowKit
set_option linter.unusedVariables false
set_option linter.unusedSimpArgs false

theorem unread_any (s : ByteArray) (r : Nat) (t : Bool) (w : World) (h : (r = 65533 ∧ (nat s).take 3 ≠ [239, 191, 189]) ↔ t = true) :
    Calls Try.prog 22 #[.string s, .int .i32 r] w fun e w' => e = .returned (.bool t) ∧ w' = w := by
  by_cases hr : r = 65533
  · subst hr
    refine (unread_at s (!t) w ?_).mono fun e w' h => ⟨by rw [h.1]; simp, h.2⟩
    cases t
    · simp at h ⊢; exact h
    · simp at h ⊢; exact h
  · have : t = false := by cases t with
      | false => rfl
      | true => exact absurd (h.2 rfl).1 hr
    subst this
    exact unread_no s r w hr

/- What the next rune is, and where it lies. -/
theorem next_rune {s : ByteArray} {rs t : List Nat} (h : Txt (nat s) rs t) {k : Nat} (hk : k < rs.length) (w : World) :
    ∃ r p q, r = rs.getD k 0 ∧ p = pos rs k ∧ q = pos rs (k + 1) ∧ p < q ∧ q ≤ s.size ∧ r < 1114112 ∧ (∀ ty, (Instr.next (.pointer (some ⟨w.heap.size, 0, none⟩)) true ty).run Try.prog (w.iter s p) = .ok (.tuple #[.bool true, .int .i64 p, .int .i32 r]) (w.iter s q)) ∧
      (nat s).drop p = encN r ++ (flat (rs.drop (k + 1)) ++ t) := by
  have h1 := h.pos_lt hk
  have h2 := width_pos (rs.getD k 0)
  have h3 : ok (rs.getD k 0) := h.ok _ (getD_mem hk)
  unfold ok at h3
  rw [nat_length] at h1
  refine ⟨_, _, _, rfl, rfl, rfl, ?_, ?_, by omega, fun ty => ?_, h.at hk⟩
  · rw [pos_succ hk]; omega
  · rw [pos_succ hk]; omega
  · rw [run_next_any w s (pos rs k) ty (by omega), decode_nat, h.dec hk, pos_succ hk]

theorem next_none {s : ByteArray} {rs t : List Nat} (h : Txt (nat s) rs t) (ht : t = []) (w : World) :
    ∀ ty, (Instr.next (.pointer (some ⟨w.heap.size, 0, none⟩)) true ty).run Try.prog (w.iter s (pos rs rs.length)) = .ok (.tuple #[.bool false]) (w.iter s (pos rs rs.length)) := by
  have h1 := h.len
  subst ht
  rw [nat_length, List.length_nil, Nat.add_zero] at h1
  exact fun ty => run_next_end w s _ ty (by omega)

theorem next_bad {s : ByteArray} {rs t : List Nat} (h : Txt (nat s) rs t) (ht : t ≠ []) (w : World) :
    ∃ p, p < s.size ∧ p = pos rs rs.length ∧ (∀ ty, (Instr.next (.pointer (some ⟨w.heap.size, 0, none⟩)) true ty).run Try.prog (w.iter s p) = .ok (.tuple #[.bool true, .int .i64 p, .int .i32 (65533 : Int)]) (w.iter s (p + 1))) ∧
      (nat s).drop p = t ∧ t.take 3 ≠ [239, 191, 189] := by
  have h1 := h.len
  have h2 : 0 < t.length := List.length_pos_iff.2 ht
  have h3 : dec t = (65533, 1) := h.rest.resolve_left ht
  rw [nat_length] at h1
  have h4 : (nat s).drop (pos rs rs.length) = t := by
    rw [h.drop (Nat.le_refl _), List.drop_length]
    rfl
  refine ⟨_, by omega, rfl, fun ty => ?_, h4, fun h5 => ?_⟩
  · rw [run_next_any w s (pos rs rs.length) ty (by omega), decode_nat, h4, h3]
    rfl
  · have h6 : t = 239 :: 191 :: 189 :: t.drop 3 := by
      conv => lhs; rw [← List.take_append_drop 3 t, h5]
      rfl
    rw [h6, enc_head_repl] at h3
    cases h3

theorem ext_drop (s : ByteArray) (p : Nat) : nat (s.extract p s.size) = (nat s).drop p := by
  rw [nat_extract, List.take_of_length_le (by rw [nat_length]; exact Nat.le_refl _)]

theorem count_any (s : ByteArray) (rs t : List Nat) (n : Nat) (b : Bool) (w : World) (h : Txt (nat s) rs t) (hs : s.size ≤ 140737488355328) (hy : t = [] → n = rs.length ∧ b = true) (hx : t ≠ [] → n = 0 ∧ b = false) :
    Calls Try.prog 8 #[.string s] w fun e w' => e = .returned (.tuple #[.int .i64 n, .bool b]) ∧ Below w.heap.size w w' := by
  have hle := h.len
  rw [nat_length] at hle
  have hpl := pos_le rs rs.length (Nat.le_refl _)
  have hlen : rs.length ≤ s.size := by omega
  generalize hN : rs.length = N at hlen hpl hle
  have HN : Hid (rs.length = N) := hN
  have HX : Hid (Txt (nat s) rs t) := h
  have HY : Hid (t = [] → n = rs.length ∧ b = true) := hy
  have HZ : Hid (t ≠ [] → n = 0 ∧ b = false) := hx
  clear hN h hy hx hle hpl
  go_enter Try.func8, Try.ntmps8
  go_wp2_with fail
  go_loopw [4] (fun v wr => ∃ k : Nat, v = .int .i64 k ∧ k ≤ N ∧ wr = w.iter s (pos rs k)) (fun _ wr => s.size + 1 - wr.iterPos w.heap.size)
  case atStart => exact ⟨0, rfl, Nat.zero_le _, rfl⟩
  case round =>
    obtain ⟨k, rfl, hk, rfl⟩ := hrel
    by_cases hlt : k < N
    · obtain ⟨r, p, q, hr, hp, hq, hpq, hqs, hr2, hnx, hdr⟩ := next_rune HX.out (by rw [HN.out]; exact hlt) w
      have c := unread_any (s.extract p s.size) r false (w.iter s q) (by
        rw [ext_drop, hdr]
        refine ⟨fun hh => ?_, fun hh => by cases hh⟩
        obtain ⟨rfl, hh⟩ := hh
        exact absurd rfl hh)
      rw [← hp]
      have HQ : Hid (q = pos rs (k + 1)) := hq
      have HP : Hid (p < q) := hpq
      have hps : p ≤ s.size := by omega
      clear hdr hr hp hq hpq
      generalize hS1 : s.extract p s.size = S1 at c
      go_wp2_with (go_at_call 22; refine c.mono ?_; clear c; rintro e w' ⟨rfl, rfl⟩)
      go_roundw
      case rel => exact ⟨k + 1, rfl, by omega, by rw [← HQ.out]⟩
      case measure =>
        have := HP.out
        simp
        omega
    · obtain rfl : k = N := by omega
      by_cases ht : t = []
      · have hnx := next_none HX.out ht w
        rw [HN.out] at hnx
        go_wp2_with fail
        go_ret2
        obtain ⟨h1, h2⟩ := HY.out ht
        rw [h1, h2, HN.out]
        exact ⟨rfl, (Below.refl _ _).alloc (Nat.le_refl _) _⟩
      · obtain ⟨p, hps, hp, hnx, hdr, htk⟩ := next_bad HX.out ht w
        rw [HN.out] at hp
        have c := unread_any (s.extract p s.size) 65533 true (w.iter s (p + 1)) (by
          rw [ext_drop, hdr]
          exact ⟨fun _ => rfl, fun _ => ⟨rfl, htk⟩⟩)
        rw [← hp]
        clear hdr htk hp
        generalize hS1 : s.extract p s.size = S1 at c
        go_wp2_with (go_at_call 22; refine c.mono ?_; clear c; rintro e w' ⟨rfl, rfl⟩)
        go_ret2
        obtain ⟨h1, h2⟩ := HZ.out ht
        rw [h1, h2]
        exact ⟨rfl, (Below.refl _ _).alloc (Nat.le_refl _) _⟩

end Go.Proofs.Ytjhbfcfipfmnbaa.Na

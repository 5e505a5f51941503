/-
  What the reader's fixed, Fixed4, Fixed8, Byte, Number and Bytes of package wire do: contracts over plain lists ('WiPlain').
  Conditions: bytes that are looked at lie in memory.
-/
import Derived.Test.YtjodeceaogngfaaWiRead
namespace Go.Proofs.Ytjodeceaogngfaa
open Go.RowKit Wi By
set_option linter.unusedVariables false
set_option linter.unusedSimpArgs false
set_option maxRecDepth 100000

theorem pow8 (k : Nat) : 256 ^ k = 2 ^ (8 * k) := by rw [Nat.pow_mul]

theorem le_digit {l : List Nat} {k N N2 : Nat} (hl : ∀ v ∈ l, v < 256) (hk : k < l.length) (hk7 : k ≤ 7) (hN : N = le (l.take k))
    (h : N < 2 ^ (8 * k) → gl l k * 2 ^ (8 * k) < 18446744073709551616 → N2 = N + gl l k * 2 ^ (8 * k)) : N2 = le (l.take (k + 1)) := by
  have h1 : le (l.take k) < 256 ^ (l.take k).length := le_lt _ (fun v hv => hl v (List.mem_of_mem_take hv))
  rw [List.length_take, Nat.min_eq_left (by omega)] at h1
  have hv := gl_lt hl k
  have hp : 256 ^ k ≤ 256 ^ 7 := Nat.pow_le_pow_right (by omega) hk7
  have hm : gl l k * 256 ^ k ≤ 255 * 256 ^ k := Nat.mul_le_mul_right _ (by omega)
  have e := h (by rw [← pow8, hN]; exact h1) (by rw [← pow8]; omega)
  rw [e, ← pow8, hN, le_take_succ l k hk]
  rfl

theorem rFx_bad {s : Nat} {l : List Nat} {e : Nat} (h : e ≠ 0) : rFx s l e = (0, l, e) := by unfold rFx; rw [if_pos h]
theorem rFx_no {s : Nat} {l : List Nat} (h : l.length < s) : rFx s l 0 = (0, l, 5) := by unfold rFx; rw [if_neg (by omega), if_pos h]
theorem rFx_yes {s : Nat} {l : List Nat} (h : s ≤ l.length) : rFx s l 0 = (le (l.take s), l.drop s, 0) := by unfold rFx; rw [if_neg (by omega), if_neg (by omega)]

theorem rFx_lt (s : Nat) (l : List Nat) (e : Nat) (hl : ∀ v ∈ l, v < 256) (hs : 0 < s) : (rFx s l e).1 < 256 ^ s := by
  by_cases h : e = 0
  · subst h
    by_cases h2 : l.length < s
    · rw [rFx_no h2]; exact Nat.pow_pos (by omega)
    · rw [rFx_yes (by omega)]
      have := le_lt (l.take s) (fun v hv => hl v (List.mem_of_mem_take hv))
      rw [List.length_take, Nat.min_eq_left (by omega)] at this
      exact this
  · rw [rFx_bad h]; exact Nat.pow_pos (by omega)

/- fixed(size). -/
set_option maxHeartbeats 1000000 in
set_option maxRecDepth 100000 in
theorem pfix_yes (p b o n c s : Nat) (l : List Nat) (w : World) (h : PRd w p (some ⟨b, o, none⟩) n c l 0) (hs : 0 < s) (hs8 : s ≤ 8) (hsn : s ≤ n) :
    Calls Try.prog 41 #[.pointer (some ⟨p, 0, none⟩), .int .i64 s] w fun ed w' => ed = .returned (.int .u64 (le (l.take s) : Int)) ∧ PGo w w' p (some ⟨b, o, none⟩) (l.drop s) 0 := by
  have h1 := perr_any p 0 w h.wrong
  have hsm := h.small
  have hc0 := h.rest
  have hf0 := h.fr 0
  have hcut := fun v => wcut_from (some ⟨b, o, none⟩) n c s v hsn
  have hhead := fun v => cut_head (some ⟨b, o, none⟩) n c s v (by have := h.sl.le; omega)
  have hlen := h.sl.len
  have HD : Hid (PGo w (w.setCell ⟨p, 0, none⟩ (.slice (cutTo (some ⟨b, o, none⟩) c s) (n - s) (c - s))) p (some ⟨b, o, none⟩) (l.drop s) 0) :=
    ⟨(Turn.refl p w).setCell rfl _, _, _, _, h.setRest (h.sl.from s hsn) ((From.cut _ c s).ap h.ap) (by omega), From.cut _ c s⟩
  have HL : Hid (Sl w (some ⟨b, o, none⟩) n c l) := h.sl
  clear h
  generalize cutTo (some ⟨b, o, none⟩) c s = y at *
  go_enter Try.func41, Try.ntmps41
  go_wp2_with (go_at_call 20; refine h1.mono ?_; rintro e w' ⟨rfl, rfl⟩; clear h1)
  clear hhead
  go_loop [5, 28] (fun a i => ∃ k N : Nat, k ≤ s ∧ N < 18446744073709551616 ∧ a = .int .u64 N ∧ i = .int .i64 k ∧ Hid (N = le (l.take k))) (fun _ i => s - (intOf i).toNat)
  case atStart => exact ⟨0, 0, by omega, by omega, rfl, rfl, rfl⟩
  case round =>
    obtain ⟨k, N, hk, hN, rfl, rfl, HR⟩ := hrel
    by_cases hlt : k < s
    · have hx1 : w'.cell? ⟨b, o + k, none⟩ = some (.int .u8 (gl l k : Int)) := by
        rcases HL.out.row with h0 | ⟨b', o', ha, _, hc⟩
        · omega
        · cases ha
          exact hc k (by omega)
      have hv := gl_lt HL.out.lt k
      obtain ⟨t, ht⟩ : ∃ t : Nat, t = 8 * k := ⟨_, rfl⟩
      have ht8 : (8 : Int) * (k : Int) = (t : Int) := by omega
      have ht64 : t < 64 := by omega
      obtain ⟨N2, hor, hN2, he⟩ := digit_or N (gl l k) t hN
      have HS : Hid (N2 = le (l.take (k + 1))) := le_digit HL.out.lt (by omega) (by omega) HR.out (by rw [← ht]; exact he)
      clear he HR HL ht hlen hcut HD
      generalize gl l k = v at *
      go_wp2_with fail
      go_round
      case rel => exact ⟨k + 1, N2, by omega, hN2, rfl, by go_num, HS⟩
      case measure => simp [intOf]; omega
    · have hk2 : k = s := by omega
      subst hk2
      have hf : (w'.setCell ⟨p, 0, none⟩ (.slice y (n - k) (c - k))).heap.size = w'.heap.size := by simp [World.setCell]
      clear HL hf
      go_wp2_with fail
      go_ret
      exact ⟨by rw [← HR.out]; rfl, HD.out⟩

theorem pfix_any (p n c e s : Nat) (x : Option Addr) (l : List Nat) (w : World) (h : PRd w p x n c l e) (hs : 0 < s) (hs8 : s ≤ 8) :
    Calls Try.prog 41 #[.pointer (some ⟨p, 0, none⟩), .int .i64 s] w fun ed w' => ed = .returned (.int .u64 ((rFx s l e).1 : Int)) ∧ PGo w w' p x (rFx s l e).2.1 (rFx s l e).2.2 := by
  have h1 := perr_any p e w h.wrong
  have hsm := h.small
  by_cases he : e = 0
  · subst he
    have hlen := h.sl.len
    by_cases hn : n < s
    · have hc0 := h.rest
      have hc1 := h.wrong
      have hf1 := h.fr 1
      have HD : Hid (rFx s l 0 = (0, l, 5) ∧ PGo w (w.setCell ⟨p, 1, none⟩ (.int .i64 5)) p x l 5) := ⟨rFx_no (by omega), (Turn.refl p w).setCell rfl _, x, n, c, h.setWrong 5, From.refl x⟩
      clear h hlen
      go_enter Try.func41, Try.ntmps41
      go_wp2_with (go_at_call 20; refine h1.mono ?_; rintro e w' ⟨rfl, rfl⟩; clear h1)
      go_ret
      rw [HD.out.1]
      exact ⟨rfl, HD.out.2⟩
    · rcases h.sl.row with h0 | ⟨b, o, rfl, _, _⟩
      · omega
      · rw [rFx_yes (by omega)]
        exact pfix_yes p b o n c s l w h hs hs8 (by omega)
  · have HD : Hid (rFx s l e = (0, l, e) ∧ PGo w w p x l e) := ⟨rFx_bad he, Turn.refl p w, x, n, c, h, From.refl x⟩
    have hne : ((e : Int) != 0) = true := by simp; omega
    clear h
    go_enter Try.func41, Try.ntmps41
    go_wp2_with (go_at_call 20; refine h1.mono ?_; rintro e w' ⟨rfl, rfl⟩; clear h1)
    go_ret
    rw [HD.out.1]
    exact ⟨rfl, HD.out.2⟩

theorem pfix4_any (p n c e : Nat) (x : Option Addr) (l : List Nat) (w : World) (h : PRd w p x n c l e) :
    Calls Try.prog 15 #[.pointer (some ⟨p, 0, none⟩)] w fun ed w' => ed = .returned (.int .u32 ((rFx 4 l e).1 : Int)) ∧ PGo w w' p x (rFx 4 l e).2.1 (rFx 4 l e).2.2 := by
  have h1 := pfix_any p n c e 4 x l w h (by omega) (by omega)
  have h2 : (rFx 4 l e).1 < 4294967296 := rFx_lt 4 l e h.sl.lt (by omega)
  generalize (rFx 4 l e).1 = N at *
  generalize (rFx 4 l e).2.1 = l2 at *
  generalize (rFx 4 l e).2.2 = e2 at *
  clear h
  go_enter Try.func15, Try.ntmps15
  go_wp2_with (go_at_call 41; refine h1.mono ?_; rintro e w2 ⟨rfl, hg⟩; clear h1)
  go_ret
  exact ⟨rfl, hg⟩

theorem pfix8_any (p n c e : Nat) (x : Option Addr) (l : List Nat) (w : World) (h : PRd w p x n c l e) :
    Calls Try.prog 16 #[.pointer (some ⟨p, 0, none⟩)] w fun ed w' => ed = .returned (.int .u64 ((rFx 8 l e).1 : Int)) ∧ PGo w w' p x (rFx 8 l e).2.1 (rFx 8 l e).2.2 := by
  have h1 := pfix_any p n c e 8 x l w h (by omega) (by omega)
  generalize (rFx 8 l e).1 = N at *
  generalize (rFx 8 l e).2.1 = l2 at *
  generalize (rFx 8 l e).2.2 = e2 at *
  clear h
  go_enter Try.func16, Try.ntmps16
  go_wp2_with (go_at_call 41; refine h1.mono ?_; rintro e w2 ⟨rfl, hg⟩; clear h1)
  go_ret
  exact ⟨rfl, hg⟩

theorem pbyte_any (p n c e : Nat) (x : Option Addr) (l : List Nat) (w : World) (h : PRd w p x n c l e) :
    Calls Try.prog 23 #[.pointer (some ⟨p, 0, none⟩)] w fun ed w' => ed = .returned (.int .u8 ((rFx 1 l e).1 : Int)) ∧ PGo w w' p x (rFx 1 l e).2.1 (rFx 1 l e).2.2 := by
  have h1 := pfix_any p n c e 1 x l w h (by omega) (by omega)
  have h2 : (rFx 1 l e).1 < 256 := rFx_lt 1 l e h.sl.lt (by omega)
  generalize (rFx 1 l e).1 = N at *
  generalize (rFx 1 l e).2.1 = l2 at *
  generalize (rFx 1 l e).2.2 = e2 at *
  clear h
  go_enter Try.func23, Try.ntmps23
  go_wp2_with (go_at_call 41; refine h1.mono ?_; rintro e w2 ⟨rfl, hg⟩; clear h1)
  go_ret
  exact ⟨rfl, hg⟩

/- Number(most). -/
theorem rNum_bad {t : Int} {l : List Nat} {e : Nat} (h : e ≠ 0) : rNum t l e = (0, l, e) := by unfold rNum; rw [if_pos h]
theorem rNum_no {t : Int} {l : List Nat} (h : (rUv l 0).2.2 ≠ 0) : rNum t l 0 = (0, (rUv l 0).2.1, (rUv l 0).2.2) := by unfold rNum; rw [if_neg (by omega), if_pos h]
theorem rNum_long {t : Int} {l : List Nat} (h : (rUv l 0).2.2 = 0) (ht : t < 0 ∨ t < ((rUv l 0).1 : Int)) : rNum t l 0 = (0, l, 3) := by unfold rNum; rw [if_neg (by omega), if_neg (by omega), if_pos ht]
theorem rNum_yes {t : Int} {l : List Nat} (h : (rUv l 0).2.2 = 0) (ht : ¬ (t < 0 ∨ t < ((rUv l 0).1 : Int))) : rNum t l 0 = rUv l 0 := by unfold rNum; rw [if_neg (by omega), if_neg (by omega), if_neg ht]

theorem rNum_lt (t : Int) (l : List Nat) (e : Nat) (ht : t ≤ 9223372036854775807) : (rNum t l e).1 < 9223372036854775808 := by
  by_cases h : e = 0
  · subst h
    by_cases h2 : (rUv l 0).2.2 = 0
    · by_cases h3 : t < 0 ∨ t < ((rUv l 0).1 : Int)
      · rw [rNum_long h2 h3]; show 0 < _; omega
      · rw [rNum_yes h2 h3]; omega
    · rw [rNum_no h2]; show 0 < _; omega
  · rw [rNum_bad h]; show 0 < _; omega

theorem pnum_any (p n c e : Nat) (t : Int) (x : Option Addr) (l : List Nat) (w : World) (h : PRd w p x n c l e) (ht1 : -9223372036854775808 ≤ t) (ht2 : t ≤ 9223372036854775807) :
    Calls Try.prog 24 #[.pointer (some ⟨p, 0, none⟩), .int .i64 t] w fun ed w' => ed = .returned (.int .i64 ((rNum t l e).1 : Int)) ∧ PGo w w' p x (rNum t l e).2.1 (rNum t l e).2.2 := by
  have h1 := perr_any p e w h.wrong
  have hsm := h.small
  by_cases he : e = 0
  · subst he
    have hc0 := h.rest
    have hu : Calls Try.prog 13 #[.pointer (some ⟨p, 0, none⟩)] w fun ed w' => ed = .returned (.int .u64 ((rUv l 0).1 : Int)) ∧ w'.cell? ⟨p, 1, none⟩ = some (.int .i64 ((rUv l 0).2.2 : Int)) ∧ PGo w w' p x (rUv l 0).2.1 (rUv l 0).2.2 :=
      (puv_any p n c 0 x l w h).mono fun ed w' ⟨h1, h2⟩ => ⟨h1, by obtain ⟨_, x', n', c', h3, _⟩ := h2; exact h3.wrong, h2⟩
    have hN := rUv_lt l 0 h.sl.lt
    by_cases he2 : (rUv l 0).2.2 = 0
    · by_cases hlong : t < 0 ∨ t < ((rUv l 0).1 : Int)
      · have HD : Hid (rNum t l 0 = (0, l, 3)) := rNum_long he2 hlong
        have hr : ∀ v, PGo w v p x (rUv l 0).2.1 (rUv l 0).2.2 → Calls Try.prog 42 #[.pointer (some ⟨p, 0, none⟩), .slice x n c, .int .i64 3] v fun ed w' => ed = .returned (.tuple #[]) ∧ PGo w w' p x l 3 := fun v hv => by
          obtain ⟨t1, x', n', c', h3, h4⟩ := hv
          exact (prefuse_any p n' c' _ 3 n c x' x _ l v h3 (h.sl.turn t1 h.ap) h.ap hsm).mono fun ed w' ⟨h5, h6⟩ => ⟨h5, t1.trans h6.1, h6.2⟩
        rw [he2] at hu hr
        generalize (rUv l 0).1 = N at *
        generalize (rUv l 0).2.1 = l2 at *
        clear h he2
        by_cases hneg : t < 0
        · clear hlong
          go_enter Try.func24, Try.ntmps24
          go_wp2_with (first
            | (go_at_call 20; refine h1.mono ?_; rintro e w' ⟨rfl, rfl⟩; clear h1)
            | (go_at_call 13; refine hu.mono ?_; rintro e w2 ⟨rfl, hc2, hg⟩; clear hu)
            | (go_at_call 42; refine (hr _ hg).mono ?_; rintro e w3 ⟨rfl, hg3⟩; clear hr))
          go_ret
          rw [HD.out]
          exact ⟨rfl, hg3⟩
        · have hl2 : t < (N : Int) := by omega
          have hneg' : (0 : Int) ≤ t := by omega
          clear hlong hneg
          go_enter Try.func24, Try.ntmps24
          go_wp2_with (first
            | (go_at_call 20; refine h1.mono ?_; rintro e w' ⟨rfl, rfl⟩; clear h1)
            | (go_at_call 13; refine hu.mono ?_; rintro e w2 ⟨rfl, hc2, hg⟩; clear hu)
            | (go_at_call 42; refine (hr _ hg).mono ?_; rintro e w3 ⟨rfl, hg3⟩; clear hr))
          go_ret
          rw [HD.out]
          exact ⟨rfl, hg3⟩
      · have HD : Hid (rNum t l 0 = ((rUv l 0).1, (rUv l 0).2.1, 0)) := by
          show rNum t l 0 = _
          rw [rNum_yes he2 hlong]
          exact Prod.ext rfl (Prod.ext rfl he2)
        rw [he2] at hu
        generalize (rUv l 0).1 = N at *
        generalize (rUv l 0).2.1 = l2 at *
        have hl2 : (N : Int) ≤ t := by omega
        have hneg' : (0 : Int) ≤ t := by omega
        clear h hlong he2
        go_enter Try.func24, Try.ntmps24
        go_wp2_with (first
          | (go_at_call 20; refine h1.mono ?_; rintro e w' ⟨rfl, rfl⟩; clear h1)
          | (go_at_call 13; refine hu.mono ?_; rintro e w2 ⟨rfl, hc2, hg⟩; clear hu))
        go_ret
        rw [HD.out]
        exact ⟨rfl, hg⟩
    · have HD : Hid (rNum t l 0 = (0, (rUv l 0).2.1, (rUv l 0).2.2)) := rNum_no he2
      generalize (rUv l 0).1 = N at *
      generalize (rUv l 0).2.1 = l2 at *
      generalize (rUv l 0).2.2 = e2 at *
      have hne : ((e2 : Int) != 0) = true := by simp; omega
      clear h
      go_enter Try.func24, Try.ntmps24
      go_wp2_with (first
        | (go_at_call 20; refine h1.mono ?_; rintro e w' ⟨rfl, rfl⟩; clear h1)
        | (go_at_call 13; refine hu.mono ?_; rintro e w2 ⟨rfl, hc2, hg⟩; clear hu))
      go_ret
      rw [HD.out]
      exact ⟨rfl, hg⟩
  · have HD : Hid (rNum t l e = (0, l, e) ∧ PGo w w p x l e) := ⟨rNum_bad he, Turn.refl p w, x, n, c, h, From.refl x⟩
    have hne : ((e : Int) != 0) = true := by simp; omega
    clear h
    go_enter Try.func24, Try.ntmps24
    go_wp2_with (go_at_call 20; refine h1.mono ?_; rintro e w' ⟨rfl, rfl⟩; clear h1)
    go_ret
    rw [HD.out.1]
    exact ⟨rfl, HD.out.2⟩

/- Bytes(most). -/
theorem rBy_bad {t : Int} {l : List Nat} {e : Nat} (h : e ≠ 0) : rBy t l e = ([], l, e) := by unfold rBy; rw [if_pos h]
theorem rBy_no {t : Int} {l : List Nat} (h : (rNum t l 0).2.2 ≠ 0) : rBy t l 0 = ([], (rNum t l 0).2.1, (rNum t l 0).2.2) := by unfold rBy; rw [if_neg (by omega), if_pos h]
theorem rBy_few {t : Int} {l : List Nat} (h : (rNum t l 0).2.2 = 0) (h2 : (rNum t l 0).2.1.length < (rNum t l 0).1) : rBy t l 0 = ([], l, 5) := by unfold rBy; rw [if_neg (by omega), if_neg (by omega), if_pos h2]
theorem rBy_yes {t : Int} {l : List Nat} (h : (rNum t l 0).2.2 = 0) (h2 : (rNum t l 0).1 ≤ (rNum t l 0).2.1.length) : rBy t l 0 = ((rNum t l 0).2.1.take (rNum t l 0).1, (rNum t l 0).2.1.drop (rNum t l 0).1, 0) := by unfold rBy; rw [if_neg (by omega), if_neg (by omega), if_neg (by omega)]

def PTold (w w' : World) (p : Nat) (x : Option Addr) (v : Value) (k l' : List Nat) (e' : Nat) : Prop := PGo w w' p x l' e' ∧ ∃ y cy, v = .slice y k.length cy ∧ Sl w' y k.length cy k ∧ ∀ a, y = some a → w.heap.size ≤ a.block

theorem pbytes_any (p n c e : Nat) (t : Int) (x : Option Addr) (l : List Nat) (w : World) (h : PRd w p x n c l e) (ht1 : -9223372036854775808 ≤ t) (ht2 : t ≤ 9223372036854775807) :
    Calls Try.prog 17 #[.pointer (some ⟨p, 0, none⟩), .int .i64 t] w fun ed w' => ∃ v, ed = .returned v ∧ PTold w w' p x v (rBy t l e).1 (rBy t l e).2.1 (rBy t l e).2.2 := by
  have h1 := perr_any p e w h.wrong
  have hsm := h.small
  by_cases he : e = 0
  · subst he
    have hc0 := h.rest
    have hu : Calls Try.prog 24 #[.pointer (some ⟨p, 0, none⟩), .int .i64 t] w fun ed w' => ed = .returned (.int .i64 ((rNum t l 0).1 : Int)) ∧ Turn p w w' ∧ ∃ x' c', PRd w' p x' (rNum t l 0).2.1.length c' (rNum t l 0).2.1 (rNum t l 0).2.2 ∧ From x x' :=
      (pnum_any p n c 0 t x l w h ht1 ht2).mono fun ed w' ⟨h1, h2, x', n', c', h3, h4⟩ => ⟨h1, h2, x', c', by rw [h3.sl.len]; exact h3, h4⟩
    have hN := rNum_lt t l 0 ht2
    by_cases he2 : (rNum t l 0).2.2 = 0
    · by_cases hfew : (rNum t l 0).2.1.length < (rNum t l 0).1
      · have HD : Hid (rBy t l 0 = ([], l, 5)) := rBy_few he2 hfew
        have hr : ∀ v x' n' c' l' e', Turn p w v → PRd v p x' n' c' l' e' → Calls Try.prog 42 #[.pointer (some ⟨p, 0, none⟩), .slice x n c, .int .i64 5] v fun ed w' => ed = .returned (.tuple #[]) ∧ PGo w w' p x l 5 := fun v x' n' c' l' e' t1 h3 =>
          (prefuse_any p n' c' _ 5 n c x' x _ l v h3 (h.sl.turn t1 h.ap) h.ap hsm).mono fun ed w' ⟨h5, h6⟩ => ⟨h5, t1.trans h6.1, h6.2⟩
        rw [he2] at hu
        generalize (rNum t l 0).1 = N at *
        generalize (rNum t l 0).2.1 = l2 at *
        clear h he2
        go_enter Try.func17, Try.ntmps17
        go_wp2_with (first
          | (go_at_call 20; refine h1.mono ?_; rintro e w' ⟨rfl, rfl⟩; clear h1)
          | (go_at_call 24; refine hu.mono ?_; rintro e w2 ⟨rfl, t2, x2, c2, hg, _⟩; have hd0 := hg.rest; have hd1 := hg.wrong; have hr2 := hr _ _ _ _ _ _ t2 hg; clear hu hr hg)
          | (go_at_call 42; refine hr2.mono ?_; rintro e w3 ⟨rfl, hg3⟩; clear hr2))
        go_ret
        rw [HD.out]
        exact ⟨_, rfl, hg3, none, 0, rfl, Sl.empty _, fun a ha => by cases ha⟩
      · have hle : (rNum t l 0).1 ≤ (rNum t l 0).2.1.length := by omega
        have HD : Hid (rBy t l 0 = ((rNum t l 0).2.1.take (rNum t l 0).1, (rNum t l 0).2.1.drop (rNum t l 0).1, 0)) := rBy_yes he2 hle
        rw [he2] at hu
        generalize (rNum t l 0).1 = N at *
        generalize (rNum t l 0).2.1 = l2 at *
        obtain ⟨m, hm⟩ : ∃ m, m = l2.length := ⟨_, rfl⟩
        rw [← hm] at hu hle
        have Hm : Hid (m = l2.length) := hm
        clear h he2 hfew hm
        go_enter Try.func17, Try.ntmps17
        go_wp2_with (first
          | (go_at_call 20; refine h1.mono ?_; rintro e w' ⟨rfl, rfl⟩; clear h1)
          | (go_at_call 24; refine hu.mono ?_; rintro e w2 ⟨rfl, t2, x2, c2, hg, hfr⟩; have hd0 := hg.rest; have hd1 := hg.wrong; have HG : Hid (PRd w2 p x2 m c2 l2 0 ∧ Turn p w' w2 ∧ From x x2) := ⟨hg, t2, hfr⟩; have hhead := fun v => cut_head x2 m c2 N v (Nat.le_trans hle hg.sl.le); have hcut := fun v => wcut_from x2 m c2 N v hle; have hcl := clone_sl x2 N c2 (l2.take N) w2 (hg.sl.head N hle) (Nat.le_trans hle hg.small); clear hu hg t2 hfr)
          | (go_at_call 32; refine hcl.mono ?_; rintro e w3 ⟨y, cy, rfl, hb3, hy3, hyb⟩; have hk3 := HG.out.1.below hb3; have he0 := hk3.rest; have hf0 := hk3.fr 0; have H3 : Hid (Below w2.heap.size w2 w3 ∧ Sl w3 y N cy (l2.take N) ∧ PRd w3 p x2 m c2 l2 0 ∧ ∀ a, y = some a → w2.heap.size ≤ a.block) := ⟨hb3, hy3, hk3, fun a ha => (hyb a ha).1⟩; clear hcl hhead hb3 hy3 hk3 hyb))
        go_ret
        rw [HD.out]
        obtain ⟨g1, g2, g3⟩ := HG.out
        obtain ⟨k1, k2, k3, k4⟩ := H3.out
        have t3 : Turn p w' w3 := g2.trans (Turn.of_below k1)
        have hlen : (l2.take N).length = N := by rw [List.length_take]; have := Hm.out; omega
        have hyp : ∀ a, y = some a → a.block ≠ p := fun a ha => by
          have h1 := k4 a ha
          have h2 := g1.lt
          omega
        refine ⟨_, rfl, ⟨t3.setCell rfl _, _, _, _, k3.setRest (k3.sl.from N hle) ((From.cut x2 c2 N).ap k3.ap) (by have := k3.small; omega), g3.trans (From.cut x2 c2 N)⟩, y, cy, by rw [hlen]; rfl, ?_, fun a ha => Nat.le_trans g2.size (k4 a ha)⟩
        rw [hlen]
        exact k2.turn ((Turn.refl p w3).setCell rfl _) hyp
    · have HD : Hid (rBy t l 0 = ([], (rNum t l 0).2.1, (rNum t l 0).2.2)) := rBy_no he2
      generalize (rNum t l 0).1 = N at *
      generalize (rNum t l 0).2.1 = l2 at *
      generalize (rNum t l 0).2.2 = e2 at *
      have hne : ((e2 : Int) != 0) = true := by simp; omega
      clear h
      go_enter Try.func17, Try.ntmps17
      go_wp2_with (first
        | (go_at_call 20; refine h1.mono ?_; rintro e w' ⟨rfl, rfl⟩; clear h1)
        | (go_at_call 24; refine hu.mono ?_; rintro e w2 ⟨rfl, t2, x2, c2, hg, hfr⟩; have hd1 := hg.wrong; clear hu))
      go_ret
      rw [HD.out]
      exact ⟨_, rfl, ⟨t2, x2, _, c2, hg, hfr⟩, none, 0, rfl, Sl.empty _, fun a ha => by cases ha⟩
  · have HD : Hid (rBy t l e = ([], l, e) ∧ PGo w w p x l e) := ⟨rBy_bad he, Turn.refl p w, x, n, c, h, From.refl x⟩
    have hne : ((e : Int) != 0) = true := by simp; omega
    clear h
    go_enter Try.func17, Try.ntmps17
    go_wp2_with (go_at_call 20; refine h1.mono ?_; rintro e w' ⟨rfl, rfl⟩; clear h1)
    go_ret
    rw [HD.out.1]
    exact ⟨_, rfl, HD.out.2, none, 0, rfl, Sl.empty _, fun a ha => by cases ha⟩

end Go.Proofs.Ytjodeceaogngfaa

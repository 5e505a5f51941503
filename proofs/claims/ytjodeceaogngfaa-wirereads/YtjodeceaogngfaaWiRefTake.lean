/-
  What the document's ReadFixed, ReadNumber and ReadBytes do: contracts over plain lists ('WiPlain').
  Conditions: bytes that are looked at lie in memory.
-/
import Derived.Test.YtjodeceaogngfaaWiRefUv
import Derived.Deep.RegionHeld3
namespace Go.Proofs.Ytjodeceaogngfaa
open Go.RowKit Wi By
set_option linter.unusedVariables false
set_option linter.unusedSimpArgs false
set_option maxRecDepth 100000

/- ReadFixed(r, many). -/
theorem rfix_bad (q n c t e m : Nat) (x : Option Addr) (L : List Nat) (w : World) (h : RRd w q x n c L t e) (he : e ≠ 0) (hm : 0 < m) :
    Calls Try.prog 35 #[.pointer (some ⟨q, 0, none⟩), .int .i64 m] w fun ed w' => ed = .returned (.int .u64 0) ∧ RGo w w' q x n c L (L.drop t) e := by
  have h1 := h.place
  have hnx := next_no q n c t e x L w h (.inl he)
  have hW : ∀ v, RRd v q x n c L t e → Turn q w v → Calls Try.prog 46 #[.pointer (some ⟨q, 0, none⟩), .int .i64 5, .int .i64 (t : Int)] v fun ed w' => ed = .returned (.tuple #[]) ∧ RGo w w' q x n c L (L.drop t) e := fun v hv tv =>
    (wrong_any q n c t e 5 t x L v hv h.le).mono fun ed w' ⟨a1, a2, a3⟩ => by
      rw [if_neg he, if_neg he] at a3
      exact ⟨a1, tv.trans a2, t, a3, rfl⟩
  clear h
  go_enter Try.func35, Try.ntmps35
  go_wp2_with fail
  refine wp_loop_rounds 1 ?_
  rw [rounds_succ]
  go_wp2_with (first
    | (go_at_call 45; refine hnx.mono ?_; rintro e w2 ⟨rfl, t2, hr2⟩; have hW2 := hW _ hr2 t2; clear hnx hW hr2 t2)
    | (go_at_call 46; refine hW2.mono ?_; rintro e w3 ⟨rfl, hg3⟩; clear hW2))
  go_ret
  exact ⟨rfl, hg3⟩

set_option maxHeartbeats 2000000 in
set_option maxRecDepth 100000 in
theorem rfix_go (q n c t m : Nat) (x : Option Addr) (L : List Nat) (w : World) (h : RRd w q x n c L t 0) (hm : 0 < m) (hm8 : m ≤ 8) :
    Calls Try.prog 35 #[.pointer (some ⟨q, 0, none⟩), .int .i64 m] w fun ed w' => ed = .returned (.int .u64 ((rFx m (L.drop t) 0).1 : Int)) ∧ RGo w w' q x n c L (rFx m (L.drop t) 0).2.1 (rFx m (L.drop t) 0).2.2 := by
  have h1 := h.place
  have hsm := h.small
  have hle := h.le
  have hb := h.rest_lt
  have hlen : (L.drop t).length = n - t := by rw [List.length_drop, h.sl.len]
  have HL : Hid (∀ k, gl (L.drop t) k = gl L (t + k)) := fun k => gl_drop L t k
  obtain ⟨l, hl⟩ : ∃ l, l = L.drop t := ⟨_, rfl⟩
  have HLl : Hid (l = L.drop t) := hl
  rw [← hl] at hb hlen HL
  have H : Hid (RRd w q x n c L t 0) := h
  clear h hl
  go_enter Try.func35, Try.ntmps35
  go_wp2_with fail
  go_loopw [6, 7] (fun a i wr => ∃ k N : Nat, k ≤ m ∧ N < 18446744073709551616 ∧ a = .int .u64 N ∧ i = .int .i64 k ∧ Hid (N = le (l.take k) ∧ RRd wr q x n c L (t + k) 0 ∧ Turn q w wr)) (fun _ i _ => m - (intOf i).toNat)
  case atStart => exact ⟨0, 0, by omega, by omega, rfl, rfl, rfl, H.out, Turn.refl q w⟩
  case round =>
    obtain ⟨k, N, hk, hN, rfl, rfl, HR⟩ := hrel
    clear H
    obtain ⟨hLd, hRR, hTT⟩ := HR.out
    clear HR
    have htk := hRR.le
    by_cases hlt : k < m
    · by_cases hmore : t + k < n
      · have hnx := next_yes q n c (t + k) x L wr hRR hmore
        rw [← HL.out k] at hnx
        have hv := gl_lt hb k
        obtain ⟨s, hs⟩ : ∃ s : Nat, s = 8 * k := ⟨_, rfl⟩
        have hs7 : (8 : Int) * (k : Int) = (s : Int) := by omega
        have hs64 : s < 64 := by omega
        have HT : Hid (Turn q w wr) := hTT
        obtain ⟨k1, hk1⟩ : ∃ k1 : Nat, k1 = t + k + 1 := ⟨_, rfl⟩
        rw [← hk1] at hnx
        have Hk1 : Hid (k1 = t + k + 1) := hk1
        obtain ⟨N2, hor, hN2, he⟩ := digit_or N (gl l k) s hN
        have HS : Hid (N2 = le (l.take (k + 1))) := le_digit hb (by omega) (by omega) hLd (by rw [← hs]; exact he)
        clear hRR hTT hk1 he hLd hs hb hlen HL
        generalize gl l k = v at *
        go_wp2_with (go_at_call 45; refine hnx.mono ?_; rintro e w2 ⟨rfl, t2, hr2⟩; have HR2 : Hid (RRd w2 q x n c L k1 0 ∧ Turn q wr w2) := ⟨hr2, t2⟩; clear hnx hr2 t2)
        go_roundw
        case rel => exact ⟨k + 1, N2, by omega, hN2, rfl, by go_num, HS.out, by rw [← Nat.add_assoc, ← Hk1.out]; exact HR2.out.1, HT.out.trans HR2.out.2⟩
        case measure => simp [intOf]; omega
      · have hnx := next_no q n c (t + k) 0 x L wr hRR (.inr (by omega))
        have hW : ∀ v s, RRd v q x n c L s 0 → Turn q wr v → Calls Try.prog 46 #[.pointer (some ⟨q, 0, none⟩), .int .i64 5, .int .i64 (t : Int)] v fun ed w' => ed = .returned (.tuple #[]) ∧ RGo w w' q x n c L l 5 := fun v s hv tv =>
          (wrong_any q n c s 0 5 t x L v hv hle).mono fun ed w' ⟨a1, a2, a3⟩ => ⟨a1, hTT.trans (tv.trans a2), t, a3, HLl.out.symm⟩
        have HD : Hid (rFx m l 0 = (0, l, 5)) := rFx_no (by omega)
        clear hLd hRR hTT hb hlen HL hmore
        go_wp2_with (first
          | (go_at_call 45; refine hnx.mono ?_; rintro e w2 ⟨rfl, t2, hr2⟩; have hW2 := hW _ _ hr2 t2; clear hnx hW hr2 t2)
          | (go_at_call 46; refine hW2.mono ?_; rintro e w3 ⟨rfl, hg3⟩; clear hW2))
        go_ret
        rw [← HLl.out, HD.out]
        exact ⟨rfl, hg3⟩
    · have hk2 : k = m := by omega
      subst hk2
      have HD : Hid (rFx k l 0 = (N, l.drop k, 0)) := by
        show rFx k l 0 = _
        rw [rFx_yes (by omega), ← hLd]
      have HG : Hid (RGo w wr q x n c L (l.drop k) 0) := ⟨hTT, t + k, hRR, by rw [HLl.out, List.drop_drop]⟩
      clear hLd hRR hTT hb hlen HL
      go_wp2_with fail
      go_ret
      rw [← HLl.out, HD.out]
      exact ⟨rfl, HG.out⟩

theorem rfix_any (q n c t e m : Nat) (x : Option Addr) (L : List Nat) (w : World) (h : RRd w q x n c L t e) (hm : 0 < m) (hm8 : m ≤ 8) :
    Calls Try.prog 35 #[.pointer (some ⟨q, 0, none⟩), .int .i64 m] w fun ed w' => ed = .returned (.int .u64 ((rFx m (L.drop t) e).1 : Int)) ∧ RGo w w' q x n c L (rFx m (L.drop t) e).2.1 (rFx m (L.drop t) e).2.2 := by
  by_cases he : e = 0
  · subst he
    exact rfix_go q n c t m x L w h hm hm8
  · rw [rFx_bad he]
    exact rfix_bad q n c t e m x L w h he hm

/- ReadNumber(r, most). -/
theorem rnum_any (q n c t e : Nat) (b : Int) (x : Option Addr) (L : List Nat) (w : World) (h : RRd w q x n c L t e) (hb1 : -9223372036854775808 ≤ b) (hb2 : b ≤ 9223372036854775807) :
    Calls Try.prog 36 #[.pointer (some ⟨q, 0, none⟩), .int .i64 b] w fun ed w' => ed = .returned (.int .i64 ((rNum b (L.drop t) e).1 : Int)) ∧ RGo w w' q x n c L (rNum b (L.drop t) e).2.1 (rNum b (L.drop t) e).2.2 := by
  have h1 := h.place
  have hu : Calls Try.prog 33 #[.pointer (some ⟨q, 0, none⟩)] w fun ed w' => ed = .returned (.int .u64 ((rUv (L.drop t) e).1 : Int)) ∧ w'.cell? ⟨q, 2, none⟩ = some (.int .i64 ((rUv (L.drop t) e).2.2 : Int)) ∧ RGo w w' q x n c L (rUv (L.drop t) e).2.1 (rUv (L.drop t) e).2.2 :=
    (ruv_any q n c t e x L w h).mono fun ed w' ⟨a1, a2⟩ => ⟨a1, by obtain ⟨_, t', a3, _⟩ := a2; exact a3.bad, a2⟩
  have hN := rUv_lt (L.drop t) e h.rest_lt
  by_cases he2 : (rUv (L.drop t) e).2.2 = 0
  · have he : e = 0 := by
      by_cases he : e = 0
      · exact he
      · rw [rUv_bad he] at he2
        exact he2
    subst he
    by_cases hlong : b < 0 ∨ b < ((rUv (L.drop t) 0).1 : Int)
    · have HD : Hid (rNum b (L.drop t) 0 = (0, L.drop t, 3)) := rNum_long he2 hlong
      have hr : ∀ v, RGo w v q x n c L (rUv (L.drop t) 0).2.1 0 → Calls Try.prog 46 #[.pointer (some ⟨q, 0, none⟩), .int .i64 3, .int .i64 (t : Int)] v fun ed w' => ed = .returned (.tuple #[]) ∧ RGo w w' q x n c L (L.drop t) 3 := fun v hv => by
        obtain ⟨t1, t', h3, _⟩ := hv
        exact (wrong_any q n c t' 0 3 t x L v h3 h.le).mono fun ed w' ⟨a1, a2, a3⟩ => ⟨a1, t1.trans a2, t, a3, rfl⟩
      rw [he2] at hu
      generalize (rUv (L.drop t) 0).1 = N at *
      generalize (rUv (L.drop t) 0).2.1 = l2 at *
      clear h he2
      by_cases hneg : b < 0
      · clear hlong
        go_enter Try.func36, Try.ntmps36
        go_wp2_with (first
          | (go_at_call 33; refine hu.mono ?_; rintro e w2 ⟨rfl, hc2, hg⟩; have hr2 := hr _ hg; clear hu hr hg)
          | (go_at_call 46; refine hr2.mono ?_; rintro e w3 ⟨rfl, hg3⟩; clear hr2))
        go_ret
        rw [HD.out]
        exact ⟨rfl, hg3⟩
      · have hl2 : b < (N : Int) := by omega
        have hneg' : (0 : Int) ≤ b := by omega
        clear hlong hneg
        go_enter Try.func36, Try.ntmps36
        go_wp2_with (first
          | (go_at_call 33; refine hu.mono ?_; rintro e w2 ⟨rfl, hc2, hg⟩; have hr2 := hr _ hg; clear hu hr hg)
          | (go_at_call 46; refine hr2.mono ?_; rintro e w3 ⟨rfl, hg3⟩; clear hr2))
        go_ret
        rw [HD.out]
        exact ⟨rfl, hg3⟩
    · have HD : Hid (rNum b (L.drop t) 0 = ((rUv (L.drop t) 0).1, (rUv (L.drop t) 0).2.1, 0)) := by
        show rNum b (L.drop t) 0 = _
        rw [rNum_yes he2 hlong]
        exact Prod.ext rfl (Prod.ext rfl he2)
      rw [he2] at hu
      generalize (rUv (L.drop t) 0).1 = N at *
      generalize (rUv (L.drop t) 0).2.1 = l2 at *
      have hl2 : (N : Int) ≤ b := by omega
      have hneg' : (0 : Int) ≤ b := by omega
      clear h hlong he2
      go_enter Try.func36, Try.ntmps36
      go_wp2_with (go_at_call 33; refine hu.mono ?_; rintro e w2 ⟨rfl, hc2, hg⟩; clear hu)
      go_ret
      rw [HD.out]
      exact ⟨rfl, hg⟩
  · have HD : Hid (rNum b (L.drop t) e = (0, (rUv (L.drop t) e).2.1, (rUv (L.drop t) e).2.2)) := by
      show rNum b (L.drop t) e = _
      by_cases he : e = 0
      · subst he; exact rNum_no he2
      · rw [rNum_bad he, rUv_bad he]
    generalize (rUv (L.drop t) e).1 = N at *
    generalize (rUv (L.drop t) e).2.1 = l2 at *
    generalize (rUv (L.drop t) e).2.2 = e2 at *
    have hne : ((e2 : Int) != 0) = true := by simp; omega
    clear h
    go_enter Try.func36, Try.ntmps36
    go_wp2_with (go_at_call 33; refine hu.mono ?_; rintro e w2 ⟨rfl, hc2, hg⟩; clear hu)
    go_ret
    rw [HD.out]
    exact ⟨rfl, hg⟩

end Go.Proofs.Ytjodeceaogngfaa

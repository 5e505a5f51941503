/-
  What the document's ReadUvarint and ReadVarint do: contracts over plain lists ('WiPlain').
  Conditions: bytes that are looked at lie in memory.
-/
import Derived.Test.YtjodeceaogngfaaWiRef
namespace Go.Proofs.Ytjodeceaogngfaa
open Go.RowKit Wi By
set_option linter.unusedVariables false
set_option linter.unusedSimpArgs false
set_option maxRecDepth 100000

theorem lead_of_ld {l : List Nat} (hl : ∀ v ∈ l, v < 256) (h : ld l = (0, 0)) : lead l = none := by
  cases hq : lead l with
  | none => rfl
  | some p =>
    obtain ⟨n, k⟩ := p
    have := lead_pos hl hq
    rw [ld_some hq] at h
    injection h with _ h
    omega

theorem lead_of_ld_some {l : List Nat} {N k : Nat} (h : ld l = (N, k + 1)) : lead l = some (N, k + 1) := by
  cases hq : lead l with
  | none =>
    rw [ld_none hq] at h
    injection h with _ h
    omega
  | some p => rw [← h, ld_some hq]

theorem RRd.rest_lt {w : World} {q : Nat} {x : Option Addr} {n c : Nat} {L : List Nat} {t e : Nat} (h : RRd w q x n c L t e) : ∀ v ∈ L.drop t, v < 256 := fun v hv => h.sl.lt v (List.mem_of_mem_drop hv)

theorem ruv_bad (q n c t e : Nat) (x : Option Addr) (L : List Nat) (w : World) (h : RRd w q x n c L t e) (he : e ≠ 0) :
    Calls Try.prog 33 #[.pointer (some ⟨q, 0, none⟩)] w fun ed w' => ed = .returned (.int .u64 0) ∧ RGo w w' q x n c L (L.drop t) e := by
  have h1 := h.place
  have hnx := next_no q n c t e x L w h (.inl he)
  have hW : ∀ v, RRd v q x n c L t e → Turn q w v → Calls Try.prog 46 #[.pointer (some ⟨q, 0, none⟩), .int .i64 5, .int .i64 (t : Int)] v fun ed w' => ed = .returned (.tuple #[]) ∧ RGo w w' q x n c L (L.drop t) e := fun v hv tv =>
    (wrong_any q n c t e 5 t x L v hv h.le).mono fun ed w' ⟨a1, a2, a3⟩ => by
      rw [if_neg he, if_neg he] at a3
      exact ⟨a1, tv.trans a2, t, a3, rfl⟩
  clear h
  go_enter Try.func33, Try.ntmps33
  go_wp2_with fail
  refine wp_loop_rounds 1 ?_
  rw [rounds_succ]
  go_wp2_with (first
    | (go_at_call 45; refine hnx.mono ?_; rintro e w2 ⟨rfl, t2, hr2⟩; have hW2 := hW _ hr2 t2; clear hnx hW hr2 t2)
    | (go_at_call 46; refine hW2.mono ?_; rintro e w3 ⟨rfl, hg3⟩; clear hW2))
  go_ret
  exact ⟨rfl, hg3⟩

set_option maxHeartbeats 2000000 in
set_option maxRecDepth 100000 in
theorem ruv_go (q n c t : Nat) (x : Option Addr) (L : List Nat) (w : World) (h : RRd w q x n c L t 0) :
    Calls Try.prog 33 #[.pointer (some ⟨q, 0, none⟩)] w fun ed w' => ed = .returned (.int .u64 ((rUv (L.drop t) 0).1 : Int)) ∧ RGo w w' q x n c L (rUv (L.drop t) 0).2.1 (rUv (L.drop t) 0).2.2 := by
  have h1 := h.place
  have hsm := h.small
  have hle := h.le
  have hb := h.rest_lt
  have hlen : (L.drop t).length = n - t := by rw [List.length_drop, h.sl.len]
  have HL : Hid (∀ k, gl (L.drop t) k = gl L (t + k)) := fun k => gl_drop L t k
  obtain ⟨l, hl⟩ : ∃ l, l = L.drop t := ⟨_, rfl⟩
  have HLl : Hid (l = L.drop t) := hl
  rw [← hl] at hb hlen HL
  have H : Hid (RRd w q x n c L t 0) := h
  clear h hl
  go_enter Try.func33, Try.ntmps33
  go_wp2_with fail
  go_loopw [4, 5] (fun a i wr => ∃ k N : Nat, k ≤ 10 ∧ N < 18446744073709551616 ∧ a = .int .u64 N ∧ i = .int .i64 k ∧ Hid (Lead l k N ∧ RRd wr q x n c L (t + k) 0 ∧ Turn q w wr)) (fun _ i _ => 10 - (intOf i).toNat)
  case atStart => exact ⟨0, 0, by omega, by omega, rfl, rfl, .inl ⟨by omega, rfl, by simp⟩, H.out, Turn.refl q w⟩
  case round =>
    obtain ⟨k, N, hk, hN, rfl, rfl, HR⟩ := hrel
    clear H
    obtain ⟨hLd, hRR, hTT⟩ := HR.out
    have hW : ∀ v s, RRd v q x n c L s 0 → Turn q wr v → Calls Try.prog 46 #[.pointer (some ⟨q, 0, none⟩), .int .i64 5, .int .i64 (t : Int)] v fun ed w' => ed = .returned (.tuple #[]) ∧ RGo w w' q x n c L l 5 := fun v s hv tv =>
      (wrong_any q n c s 0 5 t x L v hv hle).mono fun ed w' ⟨a1, a2, a3⟩ => ⟨a1, hTT.trans (tv.trans a2), t, a3, HLl.out.symm⟩
    clear HR
    by_cases hlt : k < 10
    · by_cases hmore : t + k < n
      · have hkl : k < l.length := by omega
        have hnx := next_yes q n c (t + k) x L wr hRR hmore
        rw [← HL.out k] at hnx
        have hv := gl_lt hb k
        obtain ⟨s, hs⟩ : ∃ s : Nat, s = 7 * k := ⟨_, rfl⟩
        have hs7 : (7 : Int) * (k : Int) = (s : Int) := by omega
        have hs64 : s < 64 := by omega
        have HT : Hid (Turn q w wr) := hTT
        obtain ⟨k1, hk1⟩ : ∃ k1 : Nat, k1 = t + k + 1 := ⟨_, rfl⟩
        rw [← hk1] at hnx
        have Hk1 : Hid (k1 = t + k + 1) := hk1
        clear hRR hTT hk1
        by_cases h128 : 128 ≤ gl l k
        · obtain ⟨u, hu⟩ : ∃ u : Nat, u = gl l k - 128 := ⟨_, rfl⟩
          have hu1 : (gl l k : Int) % 128 = (u : Int) := by omega
          have hu2 : u < 128 := by omega
          by_cases hover : k = 9 ∧ 1 < u
          · have HD : Hid (rUv l 0 = (0, l, 5)) := by
              refine rUv_no ?_
              rcases lead_more hLd hkl (by omega) h128 hv (N2 := N + (gl l k - 128) * 2 ^ (7 * k)) (fun _ _ => rfl) with ⟨a, _⟩ | ⟨_, b⟩
              · omega
              · exact b
            obtain ⟨hk9, hu3⟩ := hover
            have hz9 : ((k : Int) == 9) = true := by simp; omega
            clear hLd hs hu hkl hb hlen hk9 HL
            generalize gl l k = v at *
            go_wp2_with (first
              | (go_at_call 45; refine hnx.mono ?_; rintro e w2 ⟨rfl, t2, hr2⟩; have hW2 := hW _ _ hr2 t2; clear hnx hW hr2 t2)
              | (go_at_call 46; refine hW2.mono ?_; rintro e w3 ⟨rfl, hg3⟩; clear hW2))
            go_ret
            rw [← HLl.out, HD.out]
            exact ⟨rfl, hg3⟩
          · obtain ⟨N2, hor, hN2, he⟩ := digit_or N u s hN
            have HS : Hid (Lead l (k + 1) N2) := lead_more hLd hkl (by omega) h128 hv (by rw [← hs, ← hu]; exact he)
            clear he hLd hs hu hkl hb hlen hW HL
            generalize gl l k = v at *
            by_cases hk9 : k = 9
            · have hz9 : ((k : Int) == 9) = true := by simp; omega
              have hu4 : u < 2 := by omega
              have hu5 : decide ((1 : Int) < (u : Int)) = false := by simp; omega
              clear hover hk9
              go_wp2_with (go_at_call 45; refine hnx.mono ?_; rintro e w2 ⟨rfl, t2, hr2⟩; have HR2 : Hid (RRd w2 q x n c L k1 0 ∧ Turn q wr w2) := ⟨hr2, t2⟩; clear hnx hr2 t2)
              go_roundw
              case rel => exact ⟨k + 1, N2, by omega, hN2, rfl, by go_num, HS.out, by rw [← Nat.add_assoc, ← Hk1.out]; exact HR2.out.1, HT.out.trans HR2.out.2⟩
              case measure => simp [intOf]; omega
            · have hz9 : ((k : Int) == 9) = false := by simp; omega
              clear hover hk9
              go_wp2_with (go_at_call 45; refine hnx.mono ?_; rintro e w2 ⟨rfl, t2, hr2⟩; have HR2 : Hid (RRd w2 q x n c L k1 0 ∧ Turn q wr w2) := ⟨hr2, t2⟩; clear hnx hr2 t2)
              go_roundw
              case rel => exact ⟨k + 1, N2, by omega, hN2, rfl, by go_num, HS.out, by rw [← Nat.add_assoc, ← Hk1.out]; exact HR2.out.1, HT.out.trans HR2.out.2⟩
              case measure => simp [intOf]; omega
        · have hu1 : (gl l k : Int) % 128 = (gl l k : Int) := by omega
          by_cases hbad : (0 < k ∧ gl l k = 0) ∨ (k = 9 ∧ 1 < gl l k)
          · have HD : Hid (rUv l 0 = (0, l, 5)) := rUv_no (lead_of_ld hb (lead_bad hLd hkl (by omega) (by omega) hbad))
            obtain ⟨N2, hor, hN2, _⟩ := digit_or N (gl l k) s hN
            clear hLd hs hkl hb hlen HL
            generalize gl l k = v at *
            by_cases hk9 : k = 9 ∧ 1 < v
            · obtain ⟨hk9, hv1⟩ := hk9
              have hz9 : ((k : Int) == 9) = true := by simp; omega
              clear hbad hk9
              go_wp2_with (first
                | (go_at_call 45; refine hnx.mono ?_; rintro e w2 ⟨rfl, t2, hr2⟩; have hW2 := hW _ _ hr2 t2; clear hnx hW hr2 t2)
                | (go_at_call 46; refine hW2.mono ?_; rintro e w3 ⟨rfl, hg3⟩; clear hW2))
              go_ret
              rw [← HLl.out, HD.out]
              exact ⟨rfl, hg3⟩
            · have hk0 : 0 < k := by omega
              have hv0 : v = 0 := by omega
              subst hv0
              by_cases hk9 : k = 9
              · have hz9 : ((k : Int) == 9) = true := by simp; omega
                clear hbad hk9
                go_wp2_with (first
                  | (go_at_call 45; refine hnx.mono ?_; rintro e w2 ⟨rfl, t2, hr2⟩; have hW2 := hW _ _ hr2 t2; clear hnx hW hr2 t2)
                  | (go_at_call 46; refine hW2.mono ?_; rintro e w3 ⟨rfl, hg3⟩; clear hW2))
                go_ret
                rw [← HLl.out, HD.out]
                exact ⟨rfl, hg3⟩
              · have hz9 : ((k : Int) == 9) = false := by simp; omega
                clear hbad hk9
                go_wp2_with (first
                  | (go_at_call 45; refine hnx.mono ?_; rintro e w2 ⟨rfl, t2, hr2⟩; have hW2 := hW _ _ hr2 t2; clear hnx hW hr2 t2)
                  | (go_at_call 46; refine hW2.mono ?_; rintro e w3 ⟨rfl, hg3⟩; clear hW2))
                go_ret
                rw [← HLl.out, HD.out]
                exact ⟨rfl, hg3⟩
          · obtain ⟨N2, hor, hN2, he⟩ := digit_or N (gl l k) s hN
            have HD : Hid (rUv l 0 = (N2, l.drop (k + 1), 0)) := rUv_yes (lead_of_ld_some (lead_good hLd hkl (by omega) (by omega) hbad (N2 := N2) (by rw [← hs]; exact he)))
            clear he hLd hs hkl hb hlen hW HL
            generalize gl l k = v at *
            by_cases hk0 : k = 0
            · have hz : (k : Int) < 1 := by omega
              have hz9 : ((k : Int) == 9) = false := by simp; omega
              clear hbad hk0
              by_cases hv0 : v = 0
              · have hvb : ((v : Int) == 0) = true := by simp; omega
                clear hv0
                go_wp2_with (go_at_call 45; refine hnx.mono ?_; rintro e w2 ⟨rfl, t2, hr2⟩; have HR2 : Hid (RRd w2 q x n c L k1 0 ∧ Turn q wr w2) := ⟨hr2, t2⟩; clear hnx hr2 t2)
                go_ret
                rw [← HLl.out, HD.out]
                exact ⟨rfl, HT.out.trans HR2.out.2, k1, HR2.out.1, by rw [Hk1.out, HLl.out, List.drop_drop, Nat.add_assoc]⟩
              · have hvb : ((v : Int) == 0) = false := by simp; omega
                clear hv0
                go_wp2_with (go_at_call 45; refine hnx.mono ?_; rintro e w2 ⟨rfl, t2, hr2⟩; have HR2 : Hid (RRd w2 q x n c L k1 0 ∧ Turn q wr w2) := ⟨hr2, t2⟩; clear hnx hr2 t2)
                go_ret
                rw [← HLl.out, HD.out]
                exact ⟨rfl, HT.out.trans HR2.out.2, k1, HR2.out.1, by rw [Hk1.out, HLl.out, List.drop_drop, Nat.add_assoc]⟩
            · have hv0 : 0 < v := by omega
              have hvb : ((v : Int) == 0) = false := by simp; omega
              have hk0' : 0 < k := by omega
              by_cases hk9 : k = 9
              · have hv1 : v < 2 := by omega
                have hvc : decide ((1 : Int) < (v : Int)) = false := by simp; omega
                have hz9 : ((k : Int) == 9) = true := by simp; omega
                clear hbad hk0 hk9
                go_wp2_with (go_at_call 45; refine hnx.mono ?_; rintro e w2 ⟨rfl, t2, hr2⟩; have HR2 : Hid (RRd w2 q x n c L k1 0 ∧ Turn q wr w2) := ⟨hr2, t2⟩; clear hnx hr2 t2)
                go_ret
                rw [← HLl.out, HD.out]
                exact ⟨rfl, HT.out.trans HR2.out.2, k1, HR2.out.1, by rw [Hk1.out, HLl.out, List.drop_drop, Nat.add_assoc]⟩
              · have hz9 : ((k : Int) == 9) = false := by simp; omega
                clear hbad hk0 hk9
                go_wp2_with (go_at_call 45; refine hnx.mono ?_; rintro e w2 ⟨rfl, t2, hr2⟩; have HR2 : Hid (RRd w2 q x n c L k1 0 ∧ Turn q wr w2) := ⟨hr2, t2⟩; clear hnx hr2 t2)
                go_ret
                rw [← HLl.out, HD.out]
                exact ⟨rfl, HT.out.trans HR2.out.2, k1, HR2.out.1, by rw [Hk1.out, HLl.out, List.drop_drop, Nat.add_assoc]⟩
      · have hnx := next_no q n c (t + k) 0 x L wr hRR (.inr (by omega))
        have HD : Hid (rUv l 0 = (0, l, 5)) := rUv_no (lead_of_ld hb (lead_over hLd (.inl (by omega))))
        clear hLd hRR hTT hb hlen HL hmore
        go_wp2_with (first
          | (go_at_call 45; refine hnx.mono ?_; rintro e w2 ⟨rfl, t2, hr2⟩; have hW2 := hW _ _ hr2 t2; clear hnx hW hr2 t2)
          | (go_at_call 46; refine hW2.mono ?_; rintro e w3 ⟨rfl, hg3⟩; clear hW2))
        go_ret
        rw [← HLl.out, HD.out]
        exact ⟨rfl, hg3⟩
    · have hk2 : k = 10 := by omega
      have HD : Hid (rUv l 0 = (0, l, 5)) := rUv_no (lead_of_ld hb (lead_over hLd (.inr hk2)))
      have hW2 := hW wr _ hRR (Turn.refl q wr)
      subst hk2
      clear hLd hRR hTT hb hlen HL hW
      go_wp2_with (go_at_call 46; refine hW2.mono ?_; rintro e w3 ⟨rfl, hg3⟩; clear hW2)
      go_ret
      rw [← HLl.out, HD.out]
      exact ⟨rfl, hg3⟩

theorem ruv_any (q n c t e : Nat) (x : Option Addr) (L : List Nat) (w : World) (h : RRd w q x n c L t e) :
    Calls Try.prog 33 #[.pointer (some ⟨q, 0, none⟩)] w fun ed w' => ed = .returned (.int .u64 ((rUv (L.drop t) e).1 : Int)) ∧ RGo w w' q x n c L (rUv (L.drop t) e).2.1 (rUv (L.drop t) e).2.2 := by
  by_cases he : e = 0
  · subst he
    exact ruv_go q n c t x L w h
  · rw [rUv_bad he]
    exact ruv_bad q n c t e x L w h he

/- ReadVarint(r). -/
theorem rvar_any (q n c t e : Nat) (x : Option Addr) (L : List Nat) (w : World) (h : RRd w q x n c L t e) :
    Calls Try.prog 34 #[.pointer (some ⟨q, 0, none⟩)] w fun ed w' => ed = .returned (.int .i64 (unzz (rUv (L.drop t) e).1)) ∧ RGo w w' q x n c L (rUv (L.drop t) e).2.1 (rUv (L.drop t) e).2.2 := by
  have hu := ruv_any q n c t e x L w h
  have hN := rUv_lt (L.drop t) e h.rest_lt
  generalize (rUv (L.drop t) e).1 = N at *
  generalize (rUv (L.drop t) e).2.1 = l2 at *
  generalize (rUv (L.drop t) e).2.2 = e2 at *
  clear h
  by_cases hodd : N % 2 = 1
  · have hz : -((N : Int) / 2) - 1 = unzz N := by unfold unzz; rw [if_pos hodd]; omega
    have hm : ((N : Int) % 2) = 1 := by omega
    generalize unzz N = Z at hz
    clear hodd
    go_enter Try.func34, Try.ntmps34
    go_wp2_with (go_at_call 33; refine hu.mono ?_; rintro e w2 ⟨rfl, hg⟩; clear hu)
    go_ret
    exact ⟨rfl, hg⟩
  · have hz : unzz N = (N : Int) / 2 := by unfold unzz; rw [if_neg hodd]; omega
    have hm : ((N : Int) % 2) = 0 := by omega
    clear hodd
    go_enter Try.func34, Try.ntmps34
    go_wp2_with (go_at_call 33; refine hu.mono ?_; rintro e w2 ⟨rfl, hg⟩; clear hu)
    go_ret
    exact ⟨by first | rfl | (rw [hz]; rfl), hg⟩

end Go.Proofs.Ytjodeceaogngfaa

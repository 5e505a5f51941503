/-
  4 texts of this proof, one behind the other: WiRef, WiRefUv, WiRefTake, WiRefBytes.
-/
import Derived.Test.YtbbjklenpgkooaaGreatJ10
import Derived.Deep.QuietTactic
import Derived.BigQuiet
import Derived.Deep.RegionHeld3
/-
  What the document's reader does: next, wrong, ReadUvarint, ReadVarint, Done: contracts over plain lists ('WiPlain').
  Conditions: bytes that are looked at lie in memory.
-/
namespace Go.Proofs.YtbbjklenpgkooaaGreat
open Go.RowKit Wi By
set_option linter.unusedVariables false
set_option linter.unusedSimpArgs false
set_option maxRecDepth 100000

def RGo (w w' : World) (q : Nat) (x : Option Addr) (n c : Nat) (L l' : List Nat) (e' : Nat) : Prop := Turn q w w' ∧ ∃ t', RRd w' q x n c L t' e' ∧ L.drop t' = l'

theorem RRd.drewN {w : World} {q : Nat} {x : Option Addr} {n c : Nat} {L : List Nat} {t e : Nat} (h : RRd w q x n c L t e) (m : Nat) : RRd (w.drewN m) q x n c L t e :=
  ⟨h.bytes, h.place, h.bad, h.fr, h.sl.heap rfl, h.ap, h.le, h.small⟩

/- next(r). -/
theorem next_no (q n c t e : Nat) (x : Option Addr) (L : List Nat) (w : World) (h : RRd w q x n c L t e) (hd : e ≠ 0 ∨ n ≤ t) :
    Calls Tryz.prog 78 #[.pointer (some ⟨q, 0, none⟩)] w fun ed w' => ed = .returned (.tuple #[.int .u8 0, .bool false]) ∧ Turn q w w' ∧ RRd w' q x n c L t e := by
  have h0 := h.bytes
  have h1 := h.place
  have h2 := h.bad
  have H : Hid (RRd w q x n c L t e) := h
  clear h
  by_cases he : e = 0
  · subst he
    have hg : (((0 : Nat) : Int) != 0) = false := rfl
    have hg2 : n ≤ t := by omega
    clear hd
    go_enter Tryz.func78, Tryz.ntmps78
    go_wp2_with fail
    go_quiet (fail)
    go_wp2_with fail
    go_ret2
    exact ⟨rfl, (Turn.refl q w).drewN _, H.out.drewN _⟩
  · have hg : ((e : Int) != 0) = true := by simp; omega
    clear hd he
    go_enter Tryz.func78, Tryz.ntmps78
    go_wp2_with fail
    go_quiet (fail)
    go_wp2_with fail
    go_ret2
    exact ⟨rfl, (Turn.refl q w).drewN _, H.out.drewN _⟩

theorem next_yes (q n c t : Nat) (x : Option Addr) (L : List Nat) (w : World) (h : RRd w q x n c L t 0) (ht : t < n) :
    Calls Tryz.prog 78 #[.pointer (some ⟨q, 0, none⟩)] w fun ed w' => ed = .returned (.tuple #[.int .u8 (gl L t : Int), .bool true]) ∧ Turn q w w' ∧ RRd w' q x n c L (t + 1) 0 := by
  rcases h.sl.row with h0 | ⟨b, o, rfl, hb, hcell⟩
  · omega
  have h0 := h.bytes
  have h1 := h.place
  have h2 := h.bad
  have hsm := h.small
  have H : Hid (RRd w q (some ⟨b, o, none⟩) n c L t 0) := h
  have hf1 := h.fr 1
  obtain ⟨t1, ht1⟩ : ∃ t1, t1 = t + 1 := ⟨_, rfl⟩
  have ht1i : (t : Int) + 1 = (t1 : Int) := by omega
  have ht1s : (t1 : Int) - 1 = (t : Int) := by omega
  have Ht1 : Hid (t1 = t + 1) := ht1
  have hg : (((0 : Nat) : Int) != 0) = false := rfl
  have hg2 : decide ((n : Int) ≤ (t : Int)) = false := by simp; omega
  clear h hcell ht1
  go_enter Tryz.func78, Tryz.ntmps78
  go_wp2_with fail
  go_quiet (fail)
  go_wp2_with fail
  have hw2 : RRd ((w.drewN nq).setCell ⟨q, 1, none⟩ (.int .i64 (t1 : Int))) q (some ⟨b, o, none⟩) n c L t1 0 := (H.out.drewN nq).setPlace t1 (by have := Ht1.out; omega)
  have tw2 : Turn q w ((w.drewN nq).setCell ⟨q, 1, none⟩ (.int .i64 (t1 : Int))) := ((Turn.refl q w).drewN nq).setCell rfl _
  clear h0 h1 h2 H hf1 hb
  generalize (w.drewN nq).setCell ⟨q, 1, none⟩ (.int .i64 (t1 : Int)) = w2 at *
  have g0 := hw2.bytes
  have g1 := hw2.place
  have g2 : w2.cell? ⟨b, o + t, none⟩ = some (.int .u8 (gl L t : Int)) := by
    rcases hw2.sl.row with h0 | ⟨b', o', ha, _, hc⟩
    · omega
    · cases ha
      exact hc t ht
  have H2 : Hid (RRd w2 q (some ⟨b, o, none⟩) n c L t1 0 ∧ Turn q w w2) := ⟨hw2, tw2⟩
  clear hw2 tw2
  go_quiet (fail)
  go_wp2_with fail
  go_ret2
  rw [← Ht1.out]
  exact ⟨rfl, H2.out.2.drewN _, H2.out.1.drewN _⟩

/- wrong(r, e, at). -/
theorem wrong_any (q n c t e e' t' : Nat) (x : Option Addr) (L : List Nat) (w : World) (h : RRd w q x n c L t e) (ht : t' ≤ n) :
    Calls Tryz.prog 57 #[.pointer (some ⟨q, 0, none⟩), .int .i64 (e' : Int), .int .i64 (t' : Int)] w fun ed w' => ed = .returned (.tuple #[]) ∧ Turn q w w' ∧ RRd w' q x n c L (if e = 0 then t' else t) (if e = 0 then e' else e) := by
  have h2 := h.bad
  by_cases he : e = 0
  · subst he
    have hf2 := h.fr 2
    have hs := h.setBad e'
    have h1 := hs.place
    have hf1 := hs.fr 1
    have HD : Hid (Turn q w ((w.setCell ⟨q, 2, none⟩ (.int .i64 (e' : Int))).setCell ⟨q, 1, none⟩ (.int .i64 (t' : Int))) ∧ RRd ((w.setCell ⟨q, 2, none⟩ (.int .i64 (e' : Int))).setCell ⟨q, 1, none⟩ (.int .i64 (t' : Int))) q x n c L t' e') :=
      ⟨((Turn.refl q w).setCell rfl _).setCell rfl _, hs.setPlace t' ht⟩
    clear h hs ht
    go_enter Tryz.func57, Tryz.ntmps57
    go_wp2_with fail
    go_end0
    exact ⟨rfl, HD.out.1, HD.out.2⟩
  · have hne : ((e : Int) == 0) = false := by simp; omega
    have HD : Hid (RRd w q x n c L t e) := h
    clear h ht
    go_enter Tryz.func57, Tryz.ntmps57
    go_wp2_with fail
    go_end0
    exact ⟨rfl, Turn.refl q w, HD.out⟩

end Go.Proofs.YtbbjklenpgkooaaGreat

/-
  What the document's ReadUvarint and ReadVarint do: contracts over plain lists ('WiPlain').
  Conditions: bytes that are looked at lie in memory.
-/
namespace Go.Proofs.YtbbjklenpgkooaaGreat
open Go.RowKit Wi By
set_option linter.unusedVariables false
set_option linter.unusedSimpArgs false
set_option maxRecDepth 100000

theorem lead_of_ld {l : List Nat} (hl : ∀ v ∈ l, v < 256) (h : ld l = (0, 0)) : lead l = none := by
  cases hq : lead l with
  | none => rfl
  | some p =>
    obtain ⟨n, k⟩ := p
    have := lead_pos hl hq
    rw [ld_some hq] at h
    injection h with _ h
    omega

theorem lead_of_ld_some {l : List Nat} {N k : Nat} (h : ld l = (N, k + 1)) : lead l = some (N, k + 1) := by
  cases hq : lead l with
  | none =>
    rw [ld_none hq] at h
    injection h with _ h
    omega
  | some p => rw [← h, ld_some hq]

theorem RRd.rest_lt {w : World} {q : Nat} {x : Option Addr} {n c : Nat} {L : List Nat} {t e : Nat} (h : RRd w q x n c L t e) : ∀ v ∈ L.drop t, v < 256 := fun v hv => h.sl.lt v (List.mem_of_mem_drop hv)

theorem ruv_bad (q n c t e : Nat) (x : Option Addr) (L : List Nat) (w : World) (h : RRd w q x n c L t e) (he : e ≠ 0) :
    Calls Tryz.prog 56 #[.pointer (some ⟨q, 0, none⟩)] w fun ed w' => ed = .returned (.int .u64 0) ∧ RGo w w' q x n c L (L.drop t) e := by
  have h1 := h.place
  have hnx := next_no q n c t e x L w h (.inl he)
  have hW : ∀ v, RRd v q x n c L t e → Turn q w v → Calls Tryz.prog 57 #[.pointer (some ⟨q, 0, none⟩), .int .i64 5, .int .i64 (t : Int)] v fun ed w' => ed = .returned (.tuple #[]) ∧ RGo w w' q x n c L (L.drop t) e := fun v hv tv =>
    (wrong_any q n c t e 5 t x L v hv h.le).mono fun ed w' ⟨a1, a2, a3⟩ => by
      rw [if_neg he, if_neg he] at a3
      exact ⟨a1, tv.trans a2, t, a3, rfl⟩
  clear h
  go_enter Tryz.func56, Tryz.ntmps56
  go_wp2_with fail
  refine wp_loop_rounds 1 ?_
  rw [rounds_succ]
  go_wp2_with (first
    | (go_at_call 78; refine hnx.mono ?_; rintro e w2 ⟨rfl, t2, hr2⟩; have hW2 := hW _ hr2 t2; clear hnx hW hr2 t2)
    | (go_at_call 57; refine hW2.mono ?_; rintro e w3 ⟨rfl, hg3⟩; clear hW2))
  go_ret
  exact ⟨rfl, hg3⟩

set_option maxHeartbeats 2000000 in
set_option maxRecDepth 100000 in
theorem ruv_go (q n c t : Nat) (x : Option Addr) (L : List Nat) (w : World) (h : RRd w q x n c L t 0) :
    Calls Tryz.prog 56 #[.pointer (some ⟨q, 0, none⟩)] w fun ed w' => ed = .returned (.int .u64 ((rUv (L.drop t) 0).1 : Int)) ∧ RGo w w' q x n c L (rUv (L.drop t) 0).2.1 (rUv (L.drop t) 0).2.2 := by
  have h1 := h.place
  have hsm := h.small
  have hle := h.le
  have hb := h.rest_lt
  have hlen : (L.drop t).length = n - t := by rw [List.length_drop, h.sl.len]
  have HL : Hid (∀ k, gl (L.drop t) k = gl L (t + k)) := fun k => gl_drop L t k
  obtain ⟨l, hl⟩ : ∃ l, l = L.drop t := ⟨_, rfl⟩
  have HLl : Hid (l = L.drop t) := hl
  rw [← hl] at hb hlen HL
  have H : Hid (RRd w q x n c L t 0) := h
  clear h hl
  go_enter Tryz.func56, Tryz.ntmps56
  go_wp2_with fail
  go_loopw [4, 5] (fun a i wr => ∃ k N : Nat, k ≤ 10 ∧ N < 18446744073709551616 ∧ a = .int .u64 N ∧ i = .int .i64 k ∧ Hid (Lead l k N ∧ RRd wr q x n c L (t + k) 0 ∧ Turn q w wr)) (fun _ i _ => 10 - (intOf i).toNat)
  case atStart => exact ⟨0, 0, by omega, by omega, rfl, rfl, .inl ⟨by omega, rfl, by simp⟩, H.out, Turn.refl q w⟩
  case round =>
    obtain ⟨k, N, hk, hN, rfl, rfl, HR⟩ := hrel
    clear H
    obtain ⟨hLd, hRR, hTT⟩ := HR.out
    have hW : ∀ v s, RRd v q x n c L s 0 → Turn q wr v → Calls Tryz.prog 57 #[.pointer (some ⟨q, 0, none⟩), .int .i64 5, .int .i64 (t : Int)] v fun ed w' => ed = .returned (.tuple #[]) ∧ RGo w w' q x n c L l 5 := fun v s hv tv =>
      (wrong_any q n c s 0 5 t x L v hv hle).mono fun ed w' ⟨a1, a2, a3⟩ => ⟨a1, hTT.trans (tv.trans a2), t, a3, HLl.out.symm⟩
    clear HR
    by_cases hlt : k < 10
    · by_cases hmore : t + k < n
      · have hkl : k < l.length := by omega
        have hnx := next_yes q n c (t + k) x L wr hRR hmore
        rw [← HL.out k] at hnx
        have hv := gl_lt hb k
        obtain ⟨s, hs⟩ : ∃ s : Nat, s = 7 * k := ⟨_, rfl⟩
        have hs7 : (7 : Int) * (k : Int) = (s : Int) := by omega
        have hs64 : s < 64 := by omega
        have HT : Hid (Turn q w wr) := hTT
        obtain ⟨k1, hk1⟩ : ∃ k1 : Nat, k1 = t + k + 1 := ⟨_, rfl⟩
        rw [← hk1] at hnx
        have Hk1 : Hid (k1 = t + k + 1) := hk1
        clear hRR hTT hk1
        by_cases h128 : 128 ≤ gl l k
        · obtain ⟨u, hu⟩ : ∃ u : Nat, u = gl l k - 128 := ⟨_, rfl⟩
          have hu1 : (gl l k : Int) % 128 = (u : Int) := by omega
          have hu2 : u < 128 := by omega
          by_cases hover : k = 9 ∧ 1 < u
          · have HD : Hid (rUv l 0 = (0, l, 5)) := by
              refine rUv_no ?_
              rcases lead_more hLd hkl (by omega) h128 hv (N2 := N + (gl l k - 128) * 2 ^ (7 * k)) (fun _ _ => rfl) with ⟨a, _⟩ | ⟨_, b⟩
              · omega
              · exact b
            obtain ⟨hk9, hu3⟩ := hover
            have hz9 : ((k : Int) == 9) = true := by simp; omega
            clear hLd hs hu hkl hb hlen hk9 HL
            generalize gl l k = v at *
            go_wp2_with (first
              | (go_at_call 78; refine hnx.mono ?_; rintro e w2 ⟨rfl, t2, hr2⟩; have hW2 := hW _ _ hr2 t2; clear hnx hW hr2 t2)
              | (go_at_call 57; refine hW2.mono ?_; rintro e w3 ⟨rfl, hg3⟩; clear hW2))
            go_ret
            rw [← HLl.out, HD.out]
            exact ⟨rfl, hg3⟩
          · obtain ⟨N2, hor, hN2, he⟩ := digit_or N u s hN
            have HS : Hid (Lead l (k + 1) N2) := lead_more hLd hkl (by omega) h128 hv (by rw [← hs, ← hu]; exact he)
            clear he hLd hs hu hkl hb hlen hW HL
            generalize gl l k = v at *
            by_cases hk9 : k = 9
            · have hz9 : ((k : Int) == 9) = true := by simp; omega
              have hu4 : u < 2 := by omega
              have hu5 : decide ((1 : Int) < (u : Int)) = false := by simp; omega
              clear hover hk9
              go_wp2_with (go_at_call 78; refine hnx.mono ?_; rintro e w2 ⟨rfl, t2, hr2⟩; have HR2 : Hid (RRd w2 q x n c L k1 0 ∧ Turn q wr w2) := ⟨hr2, t2⟩; clear hnx hr2 t2)
              go_roundw
              case rel => exact ⟨k + 1, N2, by omega, hN2, rfl, by go_num, HS.out, by rw [← Nat.add_assoc, ← Hk1.out]; exact HR2.out.1, HT.out.trans HR2.out.2⟩
              case measure => simp [intOf]; omega
            · have hz9 : ((k : Int) == 9) = false := by simp; omega
              clear hover hk9
              go_wp2_with (go_at_call 78; refine hnx.mono ?_; rintro e w2 ⟨rfl, t2, hr2⟩; have HR2 : Hid (RRd w2 q x n c L k1 0 ∧ Turn q wr w2) := ⟨hr2, t2⟩; clear hnx hr2 t2)
              go_roundw
              case rel => exact ⟨k + 1, N2, by omega, hN2, rfl, by go_num, HS.out, by rw [← Nat.add_assoc, ← Hk1.out]; exact HR2.out.1, HT.out.trans HR2.out.2⟩
              case measure => simp [intOf]; omega
        · have hu1 : (gl l k : Int) % 128 = (gl l k : Int) := by omega
          by_cases hbad : (0 < k ∧ gl l k = 0) ∨ (k = 9 ∧ 1 < gl l k)
          · have HD : Hid (rUv l 0 = (0, l, 5)) := rUv_no (lead_of_ld hb (lead_bad hLd hkl (by omega) (by omega) hbad))
            obtain ⟨N2, hor, hN2, _⟩ := digit_or N (gl l k) s hN
            clear hLd hs hkl hb hlen HL
            generalize gl l k = v at *
            by_cases hk9 : k = 9 ∧ 1 < v
            · obtain ⟨hk9, hv1⟩ := hk9
              have hz9 : ((k : Int) == 9) = true := by simp; omega
              clear hbad hk9
              go_wp2_with (first
                | (go_at_call 78; refine hnx.mono ?_; rintro e w2 ⟨rfl, t2, hr2⟩; have hW2 := hW _ _ hr2 t2; clear hnx hW hr2 t2)
                | (go_at_call 57; refine hW2.mono ?_; rintro e w3 ⟨rfl, hg3⟩; clear hW2))
              go_ret
              rw [← HLl.out, HD.out]
              exact ⟨rfl, hg3⟩
            · have hk0 : 0 < k := by omega
              have hv0 : v = 0 := by omega
              subst hv0
              by_cases hk9 : k = 9
              · have hz9 : ((k : Int) == 9) = true := by simp; omega
                clear hbad hk9
                go_wp2_with (first
                  | (go_at_call 78; refine hnx.mono ?_; rintro e w2 ⟨rfl, t2, hr2⟩; have hW2 := hW _ _ hr2 t2; clear hnx hW hr2 t2)
                  | (go_at_call 57; refine hW2.mono ?_; rintro e w3 ⟨rfl, hg3⟩; clear hW2))
                go_ret
                rw [← HLl.out, HD.out]
                exact ⟨rfl, hg3⟩
              · have hz9 : ((k : Int) == 9) = false := by simp; omega
                clear hbad hk9
                go_wp2_with (first
                  | (go_at_call 78; refine hnx.mono ?_; rintro e w2 ⟨rfl, t2, hr2⟩; have hW2 := hW _ _ hr2 t2; clear hnx hW hr2 t2)
                  | (go_at_call 57; refine hW2.mono ?_; rintro e w3 ⟨rfl, hg3⟩; clear hW2))
                go_ret
                rw [← HLl.out, HD.out]
                exact ⟨rfl, hg3⟩
          · obtain ⟨N2, hor, hN2, he⟩ := digit_or N (gl l k) s hN
            have HD : Hid (rUv l 0 = (N2, l.drop (k + 1), 0)) := rUv_yes (lead_of_ld_some (lead_good hLd hkl (by omega) (by omega) hbad (N2 := N2) (by rw [← hs]; exact he)))
            clear he hLd hs hkl hb hlen hW HL
            generalize gl l k = v at *
            by_cases hk0 : k = 0
            · have hz : (k : Int) < 1 := by omega
              have hz9 : ((k : Int) == 9) = false := by simp; omega
              clear hbad hk0
              by_cases hv0 : v = 0
              · have hvb : ((v : Int) == 0) = true := by simp; omega
                clear hv0
                go_wp2_with (go_at_call 78; refine hnx.mono ?_; rintro e w2 ⟨rfl, t2, hr2⟩; have HR2 : Hid (RRd w2 q x n c L k1 0 ∧ Turn q wr w2) := ⟨hr2, t2⟩; clear hnx hr2 t2)
                go_ret
                rw [← HLl.out, HD.out]
                exact ⟨rfl, HT.out.trans HR2.out.2, k1, HR2.out.1, by rw [Hk1.out, HLl.out, List.drop_drop, Nat.add_assoc]⟩
              · have hvb : ((v : Int) == 0) = false := by simp; omega
                clear hv0
                go_wp2_with (go_at_call 78; refine hnx.mono ?_; rintro e w2 ⟨rfl, t2, hr2⟩; have HR2 : Hid (RRd w2 q x n c L k1 0 ∧ Turn q wr w2) := ⟨hr2, t2⟩; clear hnx hr2 t2)
                go_ret
                rw [← HLl.out, HD.out]
                exact ⟨rfl, HT.out.trans HR2.out.2, k1, HR2.out.1, by rw [Hk1.out, HLl.out, List.drop_drop, Nat.add_assoc]⟩
            · have hv0 : 0 < v := by omega
              have hvb : ((v : Int) == 0) = false := by simp; omega
              have hk0' : 0 < k := by omega
              by_cases hk9 : k = 9
              · have hv1 : v < 2 := by omega
                have hvc : decide ((1 : Int) < (v : Int)) = false := by simp; omega
                have hz9 : ((k : Int) == 9) = true := by simp; omega
                clear hbad hk0 hk9
                go_wp2_with (go_at_call 78; refine hnx.mono ?_; rintro e w2 ⟨rfl, t2, hr2⟩; have HR2 : Hid (RRd w2 q x n c L k1 0 ∧ Turn q wr w2) := ⟨hr2, t2⟩; clear hnx hr2 t2)
                go_ret
                rw [← HLl.out, HD.out]
                exact ⟨rfl, HT.out.trans HR2.out.2, k1, HR2.out.1, by rw [Hk1.out, HLl.out, List.drop_drop, Nat.add_assoc]⟩
              · have hz9 : ((k : Int) == 9) = false := by simp; omega
                clear hbad hk0 hk9
                go_wp2_with (go_at_call 78; refine hnx.mono ?_; rintro e w2 ⟨rfl, t2, hr2⟩; have HR2 : Hid (RRd w2 q x n c L k1 0 ∧ Turn q wr w2) := ⟨hr2, t2⟩; clear hnx hr2 t2)
                go_ret
                rw [← HLl.out, HD.out]
                exact ⟨rfl, HT.out.trans HR2.out.2, k1, HR2.out.1, by rw [Hk1.out, HLl.out, List.drop_drop, Nat.add_assoc]⟩
      · have hnx := next_no q n c (t + k) 0 x L wr hRR (.inr (by omega))
        have HD : Hid (rUv l 0 = (0, l, 5)) := rUv_no (lead_of_ld hb (lead_over hLd (.inl (by omega))))
        clear hLd hRR hTT hb hlen HL hmore
        go_wp2_with (first
          | (go_at_call 78; refine hnx.mono ?_; rintro e w2 ⟨rfl, t2, hr2⟩; have hW2 := hW _ _ hr2 t2; clear hnx hW hr2 t2)
          | (go_at_call 57; refine hW2.mono ?_; rintro e w3 ⟨rfl, hg3⟩; clear hW2))
        go_ret
        rw [← HLl.out, HD.out]
        exact ⟨rfl, hg3⟩
    · have hk2 : k = 10 := by omega
      have HD : Hid (rUv l 0 = (0, l, 5)) := rUv_no (lead_of_ld hb (lead_over hLd (.inr hk2)))
      have hW2 := hW wr _ hRR (Turn.refl q wr)
      subst hk2
      clear hLd hRR hTT hb hlen HL hW
      go_wp2_with (go_at_call 57; refine hW2.mono ?_; rintro e w3 ⟨rfl, hg3⟩; clear hW2)
      go_ret
      rw [← HLl.out, HD.out]
      exact ⟨rfl, hg3⟩

theorem ruv_any (q n c t e : Nat) (x : Option Addr) (L : List Nat) (w : World) (h : RRd w q x n c L t e) :
    Calls Tryz.prog 56 #[.pointer (some ⟨q, 0, none⟩)] w fun ed w' => ed = .returned (.int .u64 ((rUv (L.drop t) e).1 : Int)) ∧ RGo w w' q x n c L (rUv (L.drop t) e).2.1 (rUv (L.drop t) e).2.2 := by
  by_cases he : e = 0
  · subst he
    exact ruv_go q n c t x L w h
  · rw [rUv_bad he]
    exact ruv_bad q n c t e x L w h he

end Go.Proofs.YtbbjklenpgkooaaGreat

/-
  What the document's ReadFixed, ReadNumber and ReadBytes do: contracts over plain lists ('WiPlain').
  Conditions: bytes that are looked at lie in memory.
-/
namespace Go.Proofs.YtbbjklenpgkooaaGreat
open Go.RowKit Wi By
set_option linter.unusedVariables false
set_option linter.unusedSimpArgs false
set_option maxRecDepth 100000

/- ReadNumber(r, most). -/
theorem rnum_any (q n c t e : Nat) (b : Int) (x : Option Addr) (L : List Nat) (w : World) (h : RRd w q x n c L t e) (hb1 : -9223372036854775808 ≤ b) (hb2 : b ≤ 9223372036854775807) :
    Calls Tryz.prog 28 #[.pointer (some ⟨q, 0, none⟩), .int .i64 b] w fun ed w' => ed = .returned (.int .i64 ((rNum b (L.drop t) e).1 : Int)) ∧ RGo w w' q x n c L (rNum b (L.drop t) e).2.1 (rNum b (L.drop t) e).2.2 := by
  have h1 := h.place
  have hu : Calls Tryz.prog 56 #[.pointer (some ⟨q, 0, none⟩)] w fun ed w' => ed = .returned (.int .u64 ((rUv (L.drop t) e).1 : Int)) ∧ w'.cell? ⟨q, 2, none⟩ = some (.int .i64 ((rUv (L.drop t) e).2.2 : Int)) ∧ RGo w w' q x n c L (rUv (L.drop t) e).2.1 (rUv (L.drop t) e).2.2 :=
    (ruv_any q n c t e x L w h).mono fun ed w' ⟨a1, a2⟩ => ⟨a1, by obtain ⟨_, t', a3, _⟩ := a2; exact a3.bad, a2⟩
  have hN := rUv_lt (L.drop t) e h.rest_lt
  by_cases he2 : (rUv (L.drop t) e).2.2 = 0
  · have he : e = 0 := by
      by_cases he : e = 0
      · exact he
      · rw [rUv_bad he] at he2
        exact he2
    subst he
    by_cases hlong : b < 0 ∨ b < ((rUv (L.drop t) 0).1 : Int)
    · have HD : Hid (rNum b (L.drop t) 0 = (0, L.drop t, 3)) := rNum_long he2 hlong
      have hr : ∀ v, RGo w v q x n c L (rUv (L.drop t) 0).2.1 0 → Calls Tryz.prog 57 #[.pointer (some ⟨q, 0, none⟩), .int .i64 3, .int .i64 (t : Int)] v fun ed w' => ed = .returned (.tuple #[]) ∧ RGo w w' q x n c L (L.drop t) 3 := fun v hv => by
        obtain ⟨t1, t', h3, _⟩ := hv
        exact (wrong_any q n c t' 0 3 t x L v h3 h.le).mono fun ed w' ⟨a1, a2, a3⟩ => ⟨a1, t1.trans a2, t, a3, rfl⟩
      rw [he2] at hu
      generalize (rUv (L.drop t) 0).1 = N at *
      generalize (rUv (L.drop t) 0).2.1 = l2 at *
      clear h he2
      by_cases hneg : b < 0
      · clear hlong
        go_enter Tryz.func28, Tryz.ntmps28
        go_wp2_with (first
          | (go_at_call 56; refine hu.mono ?_; rintro e w2 ⟨rfl, hc2, hg⟩; have hr2 := hr _ hg; clear hu hr hg)
          | (go_at_call 57; refine hr2.mono ?_; rintro e w3 ⟨rfl, hg3⟩; clear hr2))
        go_ret
        rw [HD.out]
        exact ⟨rfl, hg3⟩
      · have hl2 : b < (N : Int) := by omega
        have hneg' : (0 : Int) ≤ b := by omega
        clear hlong hneg
        go_enter Tryz.func28, Tryz.ntmps28
        go_wp2_with (first
          | (go_at_call 56; refine hu.mono ?_; rintro e w2 ⟨rfl, hc2, hg⟩; have hr2 := hr _ hg; clear hu hr hg)
          | (go_at_call 57; refine hr2.mono ?_; rintro e w3 ⟨rfl, hg3⟩; clear hr2))
        go_ret
        rw [HD.out]
        exact ⟨rfl, hg3⟩
    · have HD : Hid (rNum b (L.drop t) 0 = ((rUv (L.drop t) 0).1, (rUv (L.drop t) 0).2.1, 0)) := by
        show rNum b (L.drop t) 0 = _
        rw [rNum_yes he2 hlong]
        exact Prod.ext rfl (Prod.ext rfl he2)
      rw [he2] at hu
      generalize (rUv (L.drop t) 0).1 = N at *
      generalize (rUv (L.drop t) 0).2.1 = l2 at *
      have hl2 : (N : Int) ≤ b := by omega
      have hneg' : (0 : Int) ≤ b := by omega
      clear h hlong he2
      go_enter Tryz.func28, Tryz.ntmps28
      go_wp2_with (go_at_call 56; refine hu.mono ?_; rintro e w2 ⟨rfl, hc2, hg⟩; clear hu)
      go_ret
      rw [HD.out]
      exact ⟨rfl, hg⟩
  · have HD : Hid (rNum b (L.drop t) e = (0, (rUv (L.drop t) e).2.1, (rUv (L.drop t) e).2.2)) := by
      show rNum b (L.drop t) e = _
      by_cases he : e = 0
      · subst he; exact rNum_no he2
      · rw [rNum_bad he, rUv_bad he]
    generalize (rUv (L.drop t) e).1 = N at *
    generalize (rUv (L.drop t) e).2.1 = l2 at *
    generalize (rUv (L.drop t) e).2.2 = e2 at *
    have hne : ((e2 : Int) != 0) = true := by simp; omega
    clear h
    go_enter Tryz.func28, Tryz.ntmps28
    go_wp2_with (go_at_call 56; refine hu.mono ?_; rintro e w2 ⟨rfl, hc2, hg⟩; clear hu)
    go_ret
    rw [HD.out]
    exact ⟨rfl, hg⟩

end Go.Proofs.YtbbjklenpgkooaaGreat

/-
  What the document's ReadBytes does: a contract over plain lists ('WiPlain').
  Conditions: bytes that are looked at lie in memory.
-/
namespace Go.Proofs.YtbbjklenpgkooaaGreat
open Go.RowKit Wi By
set_option linter.unusedVariables false
set_option linter.unusedSimpArgs false
set_option maxRecDepth 100000

def RTold (w w' : World) (q : Nat) (x : Option Addr) (n c : Nat) (L : List Nat) (v : Value) (k l' : List Nat) (e' : Nat) : Prop := RGo w w' q x n c L l' e' ∧ ∃ y cy, v = .slice y k.length cy ∧ Sl w' y k.length cy k

theorem cut_mid (x : Option Addr) (n c a h : Nat) (w : World) (h1 : a ≤ h) (h2 : h ≤ c) :
    (Instr.slice 22 (.slice x n c) (some (.int .i64 (a : Int))) (some (.int .i64 (h : Int))) none).run Tryz.prog w = .ok (.slice (cutTo x c a) (h - a) (c - a)) w := by
  rw [run_slice_lh w 22 _ _ _ welem_row .i64 .i64 (a : Int) (h : Int) (by omega) (by omega) (by omega), welem_is, wsize_byte]
  simp only [Result.andThen, sliced, Int.toNat_natCast, Nat.mul_one]
  rfl

/- An append that comes up alone in a region that draws its order. -/
theorem wready_append {P : Program} {w w' : World} {ops : Array Oper} {o : Oper} {a : Act} {K : Act → World → Prop} {Q : Exit → Act → World → Prop} {v' : Value} (hg : Region.wanted o (yielded ops a.tmps) = true) (s x : Operand) (t : TypeId)
    (ho : o.op = .call { callee := .builtin .append, args := #[s, x], argTypes := #[t, t] }) (v1 v2 : Value) (hs : a.eval s = v1) (hx : a.eval x = v2) (hr : (Builtin.append_ #[t, t] o.type #[v1, v2]).run P w = .ok v' w')
    (h : K (a.put o.dst v') w') : if Region.wanted o (yielded ops a.tmps) = true then Oper.wp P o a w K Q else K (a.put o.dst undef) w := by
  rw [if_pos hg]
  unfold Oper.wp execOp
  simp only [ho, resolve, invoke, builtin, Sem.run_bind, Sem.run_pure, Result.andThen_ok, List.map_toArray, List.map_cons, List.map_nil, hs, hx, hr]
  exact h

theorem below_drew' {B : Nat} {a w : World} (h : Below B a w) : Below B a w.drew := ⟨h.os, h.tape, h.output, h.size, h.block⟩

set_option maxHeartbeats 2000000 in
set_option maxRecDepth 100000 in
theorem rby_new (q n c t e : Nat) (b : Int) (x : Option Addr) (L : List Nat) (w : World) (h : RRd w q x n c L t e) (hb1 : -9223372036854775808 ≤ b) (hb2 : b ≤ 9223372036854775807) :
    Calls Tryz.prog 29 #[.pointer (some ⟨q, 0, none⟩), .int .i64 b] w fun ed w' => ∃ v, ed = .returned v ∧ RTold w w' q x n c L v (rBy b (L.drop t) e).1 (rBy b (L.drop t) e).2.1 (rBy b (L.drop t) e).2.2 ∧ ∀ a k d, v = .slice (some a) k d → w.heap.size ≤ a.block := by
  have h1 := h.place
  have hu : Calls Tryz.prog 28 #[.pointer (some ⟨q, 0, none⟩), .int .i64 b] w fun ed w' => ed = .returned (.int .i64 ((rNum b (L.drop t) e).1 : Int)) ∧ Turn q w w' ∧ ∃ t', RRd w' q x n c L t' (rNum b (L.drop t) e).2.2 ∧ L.drop t' = (rNum b (L.drop t) e).2.1 :=
    rnum_any q n c t e b x L w h hb1 hb2
  have hN := rNum_lt b (L.drop t) e hb2
  have hsm := h.small
  have hle := h.le
  have hlen := h.sl.len
  by_cases he2 : (rNum b (L.drop t) e).2.2 = 0
  · have he : e = 0 := by
      by_cases he : e = 0
      · exact he
      · rw [rNum_bad he] at he2
        exact he2
    subst he
    by_cases hfew : (rNum b (L.drop t) 0).2.1.length < (rNum b (L.drop t) 0).1
    · have HD : Hid (rBy b (L.drop t) 0 = ([], L.drop t, 5)) := rBy_few he2 hfew
      have hr : ∀ v s, Turn q w v → RRd v q x n c L s 0 → Calls Tryz.prog 57 #[.pointer (some ⟨q, 0, none⟩), .int .i64 5, .int .i64 (t : Int)] v fun ed w' => ed = .returned (.tuple #[]) ∧ RGo w w' q x n c L (L.drop t) 5 := fun v s t1 h3 =>
        (wrong_any q n c s 0 5 t x L v h3 hle).mono fun ed w' ⟨a1, a2, a3⟩ => ⟨a1, t1.trans a2, t, a3, rfl⟩
      rw [he2] at hu
      generalize (rNum b (L.drop t) 0).1 = N at *
      generalize (rNum b (L.drop t) 0).2.1 = l2 at *
      clear h he2
      go_enter Tryz.func29, Tryz.ntmps29
      go_wp2_with (go_at_call 28; refine hu.mono ?_; rintro e w2 ⟨rfl, t2, s, hg, hd⟩; have g0 := hg.bytes; have g1 := hg.place; have g2 := hg.bad; clear hu)
      have hs := hg.le
      obtain ⟨r, hr'⟩ : ∃ r, r = n - s := ⟨_, rfl⟩
      have hri : (n : Int) - (s : Int) = (r : Int) := by omega
      have hrN : r < N := by
        have := congrArg List.length hd
        rw [List.length_drop, hlen] at this
        omega
      have hr2 := fun m => hr (w2.drewN m) s (t2.drewN m) (hg.drewN m)
      clear hr hg hd hr' hlen hfew t2
      go_quiet (fail)
      go_wp2_with (go_at_call 57; refine (hr2 _).mono ?_; rintro e w3 ⟨rfl, hg3⟩; clear hr2)
      go_ret
      rw [HD.out]
      exact ⟨_, rfl, ⟨hg3, none, 0, rfl, Sl.empty _⟩, fun a k d he => by cases he⟩
    · have hge : (rNum b (L.drop t) 0).1 ≤ (rNum b (L.drop t) 0).2.1.length := by omega
      have HD : Hid (rBy b (L.drop t) 0 = ((rNum b (L.drop t) 0).2.1.take (rNum b (L.drop t) 0).1, (rNum b (L.drop t) 0).2.1.drop (rNum b (L.drop t) 0).1, 0)) := rBy_yes he2 hge
      rw [he2] at hu
      generalize (rNum b (L.drop t) 0).1 = N at *
      generalize (rNum b (L.drop t) 0).2.1 = l2 at *
      clear h he2 hfew
      go_enter Tryz.func29, Tryz.ntmps29
      go_wp2_with (go_at_call 28; refine hu.mono ?_; rintro e w2 ⟨rfl, t2, s, hg, hd⟩; have g0 := hg.bytes; have g1 := hg.place; have g2 := hg.bad; clear hu)
      have hs := hg.le
      have hdl : l2.length = n - s := by
        rw [← hd, List.length_drop, hlen]
      obtain ⟨r, hr'⟩ : ∃ r, r = n - s := ⟨_, rfl⟩
      have hri : (n : Int) - (s : Int) = (r : Int) := by omega
      have hrN : N ≤ r := by omega
      obtain ⟨z, hz⟩ : ∃ z, z = s + N := ⟨_, rfl⟩
      have hzi : (s : Int) + (N : Int) = (z : Int) := by omega
      have hzn : z ≤ n := by omega
      have hwz : IntKind.i64.wrap (z : Int) = (z : Int) := by rw [IntKind.wrap_i64]; omega
      have hcap := hg.sl.le
      have hcut : ∀ v : World, (Instr.slice 22 (.slice x n c) (some (.int .i64 (s : Int))) (some (.int .i64 (z : Int))) none).run Tryz.prog v = .ok (.slice (cutTo x c s) N (c - s)) v := fun v => by
        have := cut_mid x n c s z v (by omega) (by omega)
        rw [show z - s = N by omega] at this
        exact this
      have hsl : ∀ v, Below w2.heap.size w2 v → Sl v (cutTo x c s) N (c - s) (l2.take N) := fun v hv => by
        have := ((hg.below hv).sl.from s hs).head N (by omega)
        rw [hd] at this
        exact this
      have HG : Hid (RRd w2 q x n c L s 0 ∧ Turn q w w2 ∧ L.drop s = l2 ∧ z = s + N ∧ l2.length = n - s ∧ N ≤ n - s) := ⟨hg, t2, hd, hz, hdl, by omega⟩
      clear hg hd hr' hlen t2 hz hdl hge
      go_quiet (fail)
      go_wp2_with fail
      have hbd : Below w2.heap.size w2 (w2.drewN nq).drew := ⟨rfl, rfl, rfl, Nat.le_refl _, fun _ _ => rfl⟩
      obtain ⟨R3, w3, hrun, ho3, hb3⟩ := push_list (w2.drewN nq).drew w2 w2.heap.size (.slice none 0 0) [] (OwnL.start _ _) (Nat.le_refl _) hbd _ N (c - s) (l2.take N) (hsl _ hbd) (by simp; omega)
      rw [List.nil_append] at ho3
      have hS3 : w3.cell? ⟨q, 0, none⟩ = some (.slice x n c) ∧ w3.cell? ⟨q, 1, none⟩ = some (.int .i64 (s : Int)) := by
        have := HG.out.1.below hb3
        exact ⟨this.bytes, this.place⟩
      have hlt2 : ∀ u ∈ l2.take N, u < 256 := (hsl _ hbd).lt
      have hlenN : (l2.take N).length = N := (hsl _ hbd).len
      obtain ⟨y3, c3, rfl, hy3, hyb⟩ := ho3.sl hlt2
      rw [hlenN] at hrun hy3
      have hf1 := (HG.out.1.below hb3).fr 1
      have H3 : Hid (Below w2.heap.size w2 w3 ∧ Sl w3 y3 N c3 (l2.take N) ∧ ∀ a, y3 = some a → w2.heap.size ≤ a.block) := ⟨hb3, hy3, fun a ha => (hyb a ha).1⟩
      have HlN : Hid ((l2.take N).length = N) := hlenN
      clear hsl ho3 hb3 hy3 hyb hlt2 hlenN hbd
      generalize cutTo x c s = y at hcut hrun
      refine wp_region_held_drew (S := fun v => v.cell? ⟨q, 0, none⟩ = some (.slice x n c) ∧ v.cell? ⟨q, 1, none⟩ = some (.int .i64 (s : Int))) (by kernel_rfl) ⟨g0, g1⟩ (fun hHeld => ?_)
      refine wpAnyH_take (i := 0) (v := ?_) rfl (by kernel_rfl) (by kernel_rfl) (by kernel_rfl) (fun _ _ _ h => h) (Or.inl ⟨by rfl, ?_⟩) (by assumption) ?_
      case refine_2 => (intro w hSw; (try dsimp only at hSw); go_simp; (try with_reducible rfl))
      (try simp only [Act.put, List.getElem_toArray, List.getElem_cons_succ, List.getElem_cons_zero, List.setIfInBounds_toArray, List.set_cons_zero, List.set_cons_succ])
      refine wpAnyH_take (i := 1) (v := ?_) rfl (by kernel_rfl) (by kernel_rfl) (by kernel_rfl) (fun _ _ _ h => h) (Or.inl ⟨by rfl, ?_⟩) (by assumption) ?_
      case refine_2 => (intro w hSw; (try dsimp only at hSw); go_simp; (try with_reducible rfl))
      (try simp only [Act.put, List.getElem_toArray, List.getElem_cons_succ, List.getElem_cons_zero, List.setIfInBounds_toArray, List.set_cons_zero, List.set_cons_succ])
      refine wpAnyH_take (i := 2) (v := ?_) rfl (by kernel_rfl) (by kernel_rfl) (by kernel_rfl) (fun _ _ _ h => h) (Or.inl ⟨by rfl, ?_⟩) (by assumption) ?_
      case refine_2 => (intro w hSw; (try dsimp only at hSw); go_simp; (try with_reducible rfl))
      (try simp only [Act.put, List.getElem_toArray, List.getElem_cons_succ, List.getElem_cons_zero, List.setIfInBounds_toArray, List.set_cons_zero, List.set_cons_succ])
      refine wpAnyH_take (i := 3) (v := ?_) rfl (by kernel_rfl) (by kernel_rfl) (by kernel_rfl) (fun _ _ _ h => h) (Or.inl ⟨by rfl, ?_⟩) (by assumption) ?_
      case refine_2 => (intro w hSw; (try dsimp only at hSw); go_simp; (try with_reducible rfl))
      (try simp only [Act.put, List.getElem_toArray, List.getElem_cons_succ, List.getElem_cons_zero, List.setIfInBounds_toArray, List.set_cons_zero, List.set_cons_succ])
      refine wpAnyH_take (i := 4) (v := ?_) rfl (by kernel_rfl) (by kernel_rfl) (by kernel_rfl) (fun _ _ _ h => h) (Or.inl ⟨by rfl, ?_⟩) (by assumption) ?_
      case refine_2 => (intro w hSw; (try dsimp only at hSw); go_simp; (try with_reducible rfl))
      (try simp only [Act.put, List.getElem_toArray, List.getElem_cons_succ, List.getElem_cons_zero, List.setIfInBounds_toArray, List.set_cons_zero, List.set_cons_succ])
      refine wpAnyH_take (i := 5) (v := ?_) rfl (by kernel_rfl) (by kernel_rfl) (by kernel_rfl) (fun _ _ _ h => h) (Or.inl ⟨by rfl, ?_⟩) (by assumption) ?_
      case refine_2 => (intro w hSw; (try dsimp only at hSw); go_simp; (try with_reducible rfl))
      (try simp only [Act.put, List.getElem_toArray, List.getElem_cons_succ, List.getElem_cons_zero, List.setIfInBounds_toArray, List.set_cons_zero, List.set_cons_succ])
      refine wpAnyH_take (i := 6) (v := ?_) rfl (by kernel_rfl) (by kernel_rfl) (by kernel_rfl) (fun _ _ _ h => h) (Or.inl ⟨by rfl, ?_⟩) (by assumption) ?_
      case refine_2 => (intro w hSw; (try dsimp only at hSw); go_simp; (try with_reducible rfl))
      (try simp only [Act.put, List.getElem_toArray, List.getElem_cons_succ, List.getElem_cons_zero, List.setIfInBounds_toArray, List.set_cons_zero, List.set_cons_succ])
      refine wpAnyH_take (i := 7) (v := ?_) rfl (by kernel_rfl) (by kernel_rfl) (by kernel_rfl) (fun _ _ _ h => h) (Or.inl ⟨by rfl, ?_⟩) (by assumption) ?_
      case refine_2 => (intro w hSw; (try dsimp only at hSw); go_simp; (try with_reducible rfl))
      (try simp only [Act.put, List.getElem_toArray, List.getElem_cons_succ, List.getElem_cons_zero, List.setIfInBounds_toArray, List.set_cons_zero, List.set_cons_succ])
      refine wpAnyH_take (i := 8) (v := ?_) rfl (by kernel_rfl) (by kernel_rfl) (by kernel_rfl) (fun _ _ _ h => h) (Or.inl ⟨by rfl, ?_⟩) (by assumption) ?_
      case refine_2 => (intro w hSw; (try dsimp only at hSw); go_simp; (try with_reducible rfl))
      (try simp only [Act.put, List.getElem_toArray, List.getElem_cons_succ, List.getElem_cons_zero, List.setIfInBounds_toArray, List.set_cons_zero, List.set_cons_succ])
      refine wpAnyH_take (i := 9) (v := ?_) rfl (by kernel_rfl) (by kernel_rfl) (by kernel_rfl) (fun _ _ _ h => h) (Or.inl ⟨by rfl, ?_⟩) (by assumption) ?_
      case refine_2 => (intro w hSw; (try dsimp only at hSw); go_simp; (try with_reducible rfl))
      (try simp only [Act.put, List.getElem_toArray, List.getElem_cons_succ, List.getElem_cons_zero, List.setIfInBounds_toArray, List.set_cons_zero, List.set_cons_succ])
      refine wpAnyH_take (i := 10) (v := ?_) rfl (by kernel_rfl) (by kernel_rfl) (by kernel_rfl) (fun _ _ _ h => h) (Or.inl ⟨by rfl, ?_⟩) (by assumption) ?_
      case refine_2 => (intro w hSw; (try dsimp only at hSw); go_simp; (try with_reducible rfl))
      (try simp only [Act.put, List.getElem_toArray, List.getElem_cons_succ, List.getElem_cons_zero, List.setIfInBounds_toArray, List.set_cons_zero, List.set_cons_succ])
      refine wpAnyH_take (i := 11) (v := ?_) rfl (by kernel_rfl) (by kernel_rfl) (by kernel_rfl) (fun _ _ _ h => h) (Or.inl ⟨by rfl, ?_⟩) (by assumption) ?_
      case refine_2 => (intro w hSw; (try dsimp only at hSw); go_simp; (try with_reducible rfl))
      (try simp only [Act.put, List.getElem_toArray, List.getElem_cons_succ, List.getElem_cons_zero, List.setIfInBounds_toArray, List.set_cons_zero, List.set_cons_succ])
      refine wpAnyH_take (i := 12) (v := ?_) rfl (by kernel_rfl) (by kernel_rfl) (by kernel_rfl) (fun _ _ _ h => h) (Or.inl ⟨by rfl, ?_⟩) (by assumption) ?_
      case refine_2 => (intro w hSw; (try dsimp only at hSw); go_simp; (try with_reducible rfl))
      (try simp only [Act.put, List.getElem_toArray, List.getElem_cons_succ, List.getElem_cons_zero, List.setIfInBounds_toArray, List.set_cons_zero, List.set_cons_succ])
      refine wpAnyH_take (i := 13) (v := ?_) rfl (by kernel_rfl) (by kernel_rfl) (by kernel_rfl) (fun _ _ _ h => h) (Or.inl ⟨by rfl, ?_⟩) (by assumption) ?_
      case refine_2 => (intro w hSw; (try dsimp only at hSw); go_simp; (try with_reducible rfl))
      (try simp only [Act.put, List.getElem_toArray, List.getElem_cons_succ, List.getElem_cons_zero, List.setIfInBounds_toArray, List.set_cons_zero, List.set_cons_succ])
      refine wpAnyH_take (i := 14) (v := ?_) rfl (by kernel_rfl) (by kernel_rfl) (by kernel_rfl) (fun _ _ _ h => h) (Or.inl ⟨by rfl, ?_⟩) (by assumption) ?_
      case refine_2 => (intro w hSw; (try dsimp only at hSw); go_simp; (try with_reducible rfl))
      (try simp only [Act.put, List.getElem_toArray, List.getElem_cons_succ, List.getElem_cons_zero, List.setIfInBounds_toArray, List.set_cons_zero, List.set_cons_succ])
      refine wpAnyH_take (i := 15) (v := ?_) rfl (by kernel_rfl) (by kernel_rfl) (by kernel_rfl) (fun _ _ _ h => h) (Or.inl ⟨by rfl, ?_⟩) (by assumption) ?_
      case refine_2 => (intro w hSw; (try dsimp only at hSw); go_simp; (try with_reducible rfl))
      (try simp only [Act.put, List.getElem_toArray, List.getElem_cons_succ, List.getElem_cons_zero, List.setIfInBounds_toArray, List.set_cons_zero, List.set_cons_succ])
      refine wpAnyH_ready (rs := [16]) (by kernel_rfl) (by simp) ?_
      refine AllReadyH.cons rfl (fun K hK => ?_) AllReadyH.nil
      refine wready_append rfl _ _ 22 rfl _ _ rfl rfl hrun ?_
      (try simp only [Act.put, List.getElem_toArray, List.getElem_cons_succ, List.getElem_cons_zero, List.setIfInBounds_toArray, List.set_cons_zero, List.set_cons_succ])
      refine hK.out _ _ hS3 (fun hHeld => ?_)
      clear hK K
      refine wpAnyH_take (i := 17) (v := ?_) rfl (by kernel_rfl) (by kernel_rfl) (by kernel_rfl) (fun _ _ _ h => h) (Or.inl ⟨by rfl, ?_⟩) (by assumption) ?_
      case refine_2 => (intro w hSw; (try dsimp only at hSw); go_simp; (try with_reducible rfl))
      (try simp only [Act.put, List.getElem_toArray, List.getElem_cons_succ, List.getElem_cons_zero, List.setIfInBounds_toArray, List.set_cons_zero, List.set_cons_succ])
      refine wpAnyH_done (by kernel_rfl) ?_ _
      obtain ⟨k0, k1⟩ := hS3
      clear g0 g1 g2 hrun hcut
      go_wp2_with fail
      go_ret
      rw [HD.out]
      obtain ⟨a1, a2, a3, a4, a5, a6⟩ := HG.out
      obtain ⟨b1, b2, b3⟩ := H3.out
      have hyq : ∀ a, y3 = some a → a.block ≠ q := fun a ha => by
        have h1 := b3 a ha
        have h2 := a1.lt
        omega
      refine ⟨_, rfl, ⟨⟨(a2.trans (Turn.of_below b1)).setCell rfl _, z, (a1.below b1).setPlace z hzn, by rw [a4, ← List.drop_drop, a3]⟩, y3, c3, by rw [HlN.out]; rfl, ?_⟩, fun a k d he => ?_⟩
      · rw [HlN.out]
        exact b2.turn ((Turn.refl q w3).setCell rfl _) hyq
      · injection he with e1 e2 e3
        have h1 := b3 a e1
        have h2 := a2.size
        omega
  · have HD : Hid (rBy b (L.drop t) e = ([], (rNum b (L.drop t) e).2.1, (rNum b (L.drop t) e).2.2)) := by
      show rBy b (L.drop t) e = _
      by_cases he : e = 0
      · subst he; exact rBy_no he2
      · rw [rBy_bad he, rNum_bad he]
    generalize (rNum b (L.drop t) e).1 = N at *
    generalize (rNum b (L.drop t) e).2.1 = l2 at *
    generalize (rNum b (L.drop t) e).2.2 = e2 at *
    have hne : ((e2 : Int) != 0) = true := by simp; omega
    clear h
    go_enter Tryz.func29, Tryz.ntmps29
    go_wp2_with (go_at_call 28; refine hu.mono ?_; rintro e w2 ⟨rfl, t2, s, hg, hd⟩; have g2 := hg.bad; clear hu)
    go_ret
    rw [HD.out]
    exact ⟨_, rfl, ⟨⟨t2, s, hg, hd⟩, none, 0, rfl, Sl.empty _⟩, fun a k d he => by cases he⟩

theorem rby_any (q n c t e : Nat) (b : Int) (x : Option Addr) (L : List Nat) (w : World) (h : RRd w q x n c L t e) (hb1 : -9223372036854775808 ≤ b) (hb2 : b ≤ 9223372036854775807) :
    Calls Tryz.prog 29 #[.pointer (some ⟨q, 0, none⟩), .int .i64 b] w fun ed w' => ∃ v, ed = .returned v ∧ RTold w w' q x n c L v (rBy b (L.drop t) e).1 (rBy b (L.drop t) e).2.1 (rBy b (L.drop t) e).2.2 :=
  (rby_new q n c t e b x L w h hb1 hb2).mono fun ed w' ⟨v, h1, h2, _⟩ => ⟨v, h1, h2⟩

end Go.Proofs.YtbbjklenpgkooaaGreat

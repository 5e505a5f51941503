/-
  Package atlas: which lists of OSDs and which maps may be.
  Conditions: the list lies in memory.
-/
import Derived.Test.YthlfmbijagpggaaJAtPlain
import Derived.Test.YthlfmbijagpggaaJAtSmall
namespace Go.Proofs.Ythlfmbijagpggaa.At
open Go.RowKit By Fl
set_option linter.unusedVariables false
set_option linter.unusedSimpArgs false
set_option maxRecDepth 100000

/- All ahead of k are as they should be. -/
def GoodTo (L : List Osd) (k : Nat) : Prop := ∀ (i : Nat) (a : Osd), i < k → L[i]? = some a → osdB a = true ∧ ∀ (j : Nat) (b : Osd), j < i → L[j]? = some b → lowB a b = true

theorem GoodTo.all {L : List Osd} (h : GoodTo L L.length) : goodB L = true := (goodB_iff L).2 fun i a ha => h i a (List.getElem?_eq_some_iff.1 ha).1 ha

theorem GoodTo.step {L : List Osd} {k : Nat} {a : Osd} (h : GoodTo L k) (ha : L[k]? = some a) (h1 : osdB a = true) (h2 : ∀ b, 0 < k → L[k - 1]? = some b → b.id < a.id) (h3 : movedB (L.take k) a = false) : GoodTo L (k + 1) := fun i c hi hc => by
  by_cases e : i = k
  · subst e
    have := Option.some.inj (ha.symm.trans hc)
    subst this
    refine ⟨h1, fun j b hj hb => (lowB_iff _ _).2 ⟨?_, ?_⟩⟩
    · have hlt := (List.getElem?_eq_some_iff.1 ha).1
      have hl : L[i - 1]? = some (L[i - 1]'(by omega)) := List.getElem?_eq_getElem _
      have hx := h2 _ (by omega) hl
      by_cases ej : j = i - 1
      · subst ej
        rw [hl] at hb
        injection hb with hb
        rw [← hb]
        exact hx
      · have := ((lowB_iff _ _).1 ((h (i - 1) _ (by omega) hl).2 j b (by omega) hb)).1
        omega
    · exact (moved_no _ _).1 h3 b (by
        rw [List.mem_iff_getElem?]
        exact ⟨j, by rw [List.getElem?_take, if_pos hj]; exact hb⟩)
  · exact h i c (by omega) hc

theorem bad_low {L : List Osd} {k : Nat} {a b : Osd} (ha : L[k + 1]? = some a) (hb : L[k]? = some b) (h : a.id ≤ b.id) : goodB L = false :=
  goodB_false ha (.inr ⟨k, b, by omega, hb, by
    cases hl : lowB a b with
    | false => rfl
    | true => have := ((lowB_iff _ _).1 hl).1; omega⟩)

theorem bad_moved {L : List Osd} {k : Nat} {a : Osd} (ha : L[k]? = some a) (h : movedB (L.take k) a = true) : goodB L = false := by
  obtain ⟨x, hx, h1, h2⟩ := (moved_iff _ _).1 h
  obtain ⟨j, hj⟩ := List.mem_iff_getElem?.1 hx
  rw [List.getElem?_take] at hj
  split at hj
  · rename_i hjk
    exact goodB_false ha (.inr ⟨j, x, hjk, hj, by
      cases hl : lowB a x with
      | false => rfl
      | true => exact absurd (((lowB_iff _ _).1 hl).2 h1) h2⟩)
  · cases hj

set_option maxHeartbeats 1600000 in
theorem osdsMay_any {w : World} {x : Option Addr} {n c : Nat} {L : List Osd} (h : Os w x n c L) :
    Calls Try.prog 24 #[.slice x n c] w fun e w' => e = .returned (.bool (osdsB L)) ∧ Below w.heap.size w w' := by
  have hm := h.small
  have hlen := h.len
  unfold osdsB
  rw [hlen]
  by_cases h64 : 64 < n
  · have i64 : (64 : Int) < (n : Int) := by omega
    go_enter Try.func24, Try.ntmps24
    go_wp2_with fail
    go_ret
    exact ⟨by rw [decide_eq_false (by omega)]; rfl, Below.refl _ _⟩
  have i64 : (n : Int) ≤ 64 := by omega
  rw [decide_eq_true (by omega), Bool.true_and]
  have HO : Hid (Os w x n c L) := h
  have HL : Hid (L.length = n) := hlen
  clear h hlen hm h64
  go_enter Try.func24, Try.ntmps24
  go_wp2_with fail
  go_loopw [10, 3, 4] (fun i _ _ wr => ∃ k : Nat, k ≤ n ∧ i = .int .i64 k ∧ Hid (Below w.heap.size w wr ∧ GoodTo L k)) (fun i _ _ _ => n - (intOf i).toNat)
  case atStart => exact ⟨0, by omega, rfl, Below.refl _ _, fun i a hi => by omega⟩
  case round =>
    obtain ⟨k, hk, rfl, HR⟩ := hrel
    by_cases hlt : k < n
    · have hkn : (k : Int) < (n : Int) := by omega
      obtain ⟨m, hLm⟩ : ∃ m, L[k]? = some m := ⟨L[k]'(by have := HL.out; omega), List.getElem?_eq_getElem (by have := HL.out; omega)⟩
      have ho := HO.out.below HR.out.1
      have hO := osdMay_any m
      have hM := fun (p : After (wr.alloc (.cells #[.int .i64 m.id, .bool m.up, .bool m.inn, .int .i64 m.wt, .int .i64 m.life, .int .i64 m.boot, .int .i64 m.host, .int .i64 m.rack] 45))) => moved_any m ((ho.take hk).below (on (al _ _) p.h))
      obtain ⟨tm, htm⟩ : ∃ t, t = movedB (L.take k) m := ⟨_, rfl⟩
      obtain ⟨tq, hto⟩ : ∃ t, t = osdB m := ⟨_, rfl⟩
      rw [← htm] at hM
      rw [← hto] at hO
      have HM : Hid (L[k]? = some m ∧ tm = movedB (L.take k) m ∧ tq = osdB m) := ⟨hLm, htm, hto⟩
      rcases ho.row with h0 | ⟨b, o, rfl, hbl, hcell⟩
      · omega
      obtain ⟨k0, k1, k2, k3, k4, k5, k6, k7⟩ := Os.at (n := n) (c := c) hcell hLm
      have HC := hid hcell
      clear ho hLm hcell htm hto
      have HB : Hid (∀ b, 0 < k → L[k - 1]? = some b → True) := fun _ _ _ => trivial
      obtain ⟨id, up, inn, wt, life, boot, host, rack⟩ := m
      unfold vO at hO hM
      dsimp only at k0 k1 k2 k3 k4 k5 k6 k7 hO hM
      have b0 := al wr (.cells #[.int .i64 id, .bool up, .bool inn, .int .i64 wt, .int .i64 life, .int .i64 boot, .int .i64 host, .int .i64 rack] 45)
      obtain ⟨w0, hw0⟩ : ∃ w0, w0 = wr.alloc (.cells #[.int .i64 id, .bool up, .bool inn, .int .i64 wt, .int .i64 life, .int .i64 boot, .int .i64 host, .int .i64 rack] 45) := ⟨_, rfl⟩
      have c0 : w0.cell? ⟨wr.heap.size, 0, none⟩ = some (.int .i64 id) := by rw [hw0]; go_simp
      have c1 : w0.cell? ⟨wr.heap.size, 1, none⟩ = some (.bool up) := by rw [hw0]; go_simp
      have c2 : w0.cell? ⟨wr.heap.size, 2, none⟩ = some (.bool inn) := by rw [hw0]; go_simp
      have c3 : w0.cell? ⟨wr.heap.size, 3, none⟩ = some (.int .i64 wt) := by rw [hw0]; go_simp
      have c4 : w0.cell? ⟨wr.heap.size, 4, none⟩ = some (.int .i64 life) := by rw [hw0]; go_simp
      have c5 : w0.cell? ⟨wr.heap.size, 5, none⟩ = some (.int .i64 boot) := by rw [hw0]; go_simp
      have c6 : w0.cell? ⟨wr.heap.size, 6, none⟩ = some (.int .i64 host) := by rw [hw0]; go_simp
      have c7 : w0.cell? ⟨wr.heap.size, 7, none⟩ = some (.int .i64 rack) := by rw [hw0]; go_simp
      have HW := hid hw0
      rw [← hw0] at hM b0
      have B0 : Hid (Below w.heap.size w w0) := on HR.out.1 b0
      have q0 := After.cell c0
      have q1 := After.cell c1
      have q2 := After.cell c2
      have q3 := After.cell c3
      have q4 := After.cell c4
      have q5 := After.cell c5
      have q6 := After.cell c6
      have q7 := After.cell c7
      have HP : Hid (∀ (q : Nat) (a : Osd), L[q]? = some a → w0.cell? ⟨b, o + q * 8, none⟩ = some (.int .i64 a.id)) := fun q a ha => keep b0 (HC.out q a ha 0 _ rfl)
      clear hw0 c0 c1 c2 c3 c4 c5 c6 c7 b0 HC HB
      haveI := After.ne w0
      go_wp2_with fail
      rw [← HW.out]
      clear k0 k1 k2 k3 k4 k5 k6 k7
      cases tq with
      | false =>
        clear hM
        refine wp_region_after (by kernel_rfl) (by kernel_rfl) ?_
        repeat (go_big_quiet_step ((first | (go_at_call 29; refine Calls.after_of (hO _)) | (go_at_call 30; refine Calls.after_of (hM _)))))
        refine wpQuiet_nil ?_
        rintro _ ⟨p, rfl⟩
        go_wp2_with fail
        go_ret
        exact ⟨by rw [goodB_false HM.out.1 (.inl HM.out.2.2.symm)]; rfl, on B0.out p.h⟩
      | true =>
        by_cases hk0 : k = 0
        · have hn0 : decide (0 < k) = false := by simp; omega
          have htm : tm = false := by rw [HM.out.2.1, hk0]; rfl
          subst htm
          have HK := hid hk0
          have hkc : (k : Int) ≤ (c : Int) := by have := HO.out.le; omega
          clear hk0
          refine wp_region_after (by kernel_rfl) (by kernel_rfl) ?_
          repeat (go_big_quiet_step ((first | (go_at_call 29; refine Calls.after_of (hO _)) | (go_at_call 30; refine Calls.after_of (hM _)))))
          refine wpQuiet_nil ?_
          rintro _ ⟨p, rfl⟩
          go_wp2_with fail
          go_roundw
          case rel =>
            exact ⟨k + 1, by omega, by go_num, on B0.out p.h, HR.out.2.step HM.out.1 HM.out.2.2.symm (fun b hb => by have := HK.out; omega) HM.out.2.1.symm⟩
          case measure => simp [intOf]; omega
        · obtain ⟨q, rfl⟩ : ∃ q, k = q + 1 := ⟨k - 1, by omega⟩
          obtain ⟨m2, hm2⟩ : ∃ m, L[q]? = some m := ⟨L[q]'(by have := HL.out; omega), List.getElem?_eq_getElem (by have := HL.out; omega)⟩
          have r0 := After.cell (HP.out q m2 hm2)
          have HM2 := hid hm2
          have hkc : ((q + 1 : Nat) : Int) ≤ (c : Int) := by have := HO.out.le; omega
          have sub1 : ((q + 1 : Nat) : Int) - 1 = (q : Int) := by omega
          have hq0 : (0 : Int) < ((q + 1 : Nat) : Int) := by omega
          have hqn : (q : Int) < (n : Int) := by omega
          obtain ⟨id2, hid2⟩ : ∃ i, i = m2.id := ⟨_, rfl⟩
          rw [← hid2] at r0
          have HI := hid hid2
          clear hid2 hm2 hk0
          by_cases hle : id ≤ id2
          · clear hM
            refine wp_region_after (by kernel_rfl) (by kernel_rfl) ?_
            repeat (go_big_quiet_step ((first | (go_at_call 29; refine Calls.after_of (hO _)) | (go_at_call 30; refine Calls.after_of (hM _)))))
            refine wpQuiet_nil ?_
            rintro _ ⟨p, rfl⟩
            go_wp2_with fail
            go_ret
            exact ⟨by rw [bad_low HM.out.1 HM2.out (by rw [← HI.out]; exact hle)]; rfl, on B0.out p.h⟩
          · cases tm with
            | true =>
              refine wp_region_after (by kernel_rfl) (by kernel_rfl) ?_
              repeat (go_big_quiet_step ((first | (go_at_call 29; refine Calls.after_of (hO _)) | (go_at_call 30; refine Calls.after_of (hM _)))))
              refine wpQuiet_nil ?_
              rintro _ ⟨p, rfl⟩
              go_wp2_with fail
              go_ret
              exact ⟨by rw [bad_moved HM.out.1 HM.out.2.1.symm]; rfl, on B0.out p.h⟩
            | false =>
              refine wp_region_after (by kernel_rfl) (by kernel_rfl) ?_
              repeat (go_big_quiet_step ((first | (go_at_call 29; refine Calls.after_of (hO _)) | (go_at_call 30; refine Calls.after_of (hM _)))))
              refine wpQuiet_nil ?_
              rintro _ ⟨p, rfl⟩
              go_wp2_with fail
              go_roundw
              case rel =>
                refine ⟨q + 1 + 1, by omega, by go_num, on B0.out p.h, HR.out.2.step HM.out.1 HM.out.2.2.symm (fun b hb hbb => ?_) HM.out.2.1.symm⟩
                have := Option.some.inj (HM2.out.symm.trans hbb)
                have h3 := HI.out
                rw [this] at h3
                show b.id < id
                omega
              case measure => simp [intOf]; omega
    · have hk2 : k = n := by omega
      subst hk2
      go_wp2_with fail
      go_ret
      exact ⟨by rw [GoodTo.all (by rw [HL.out]; exact HR.out.2)]; rfl, HR.out.1⟩

theorem check_any {w : World} {x : Option Addr} {n c : Nat} (m : Mp) (h : Os w x n c m.osds) (hk : m.pool.k ≤ 9223372036854775807) :
    Calls Try.prog 16 #[vM m.ep m.pool x n c] w fun e w' => e = .returned (.int .i64 (errB (mayM m))) ∧ Below w.heap.size w w' := by
  obtain ⟨ep, p, L⟩ := m
  have hW := fun n a b W => within_any n a b W
  have hP := fun W => poolMay_any p W hk
  have HO := hid h
  have hM := fun W (hb : Below w.heap.size w W) => osdsMay_any (HO.out.below hb)
  unfold mayM
  dsimp only at hM ⊢
  generalize poolB p = tp at *
  generalize osdsB L = tl at *
  clear h hk
  obtain ⟨k, m, g, d⟩ := p
  unfold vM
  unfold vP at hP
  dsimp only at hP ⊢
  have b0 := al w (.cells #[.int .i64 ep, .int .i64 k, .int .i64 m, .int .i64 g, .int .i64 d, .slice x n c] 32)
  have k5 : (w.alloc (.cells #[.int .i64 ep, .int .i64 k, .int .i64 m, .int .i64 g, .int .i64 d, .slice x n c] 32)).cell? ⟨w.heap.size, 5, none⟩ = some (.slice x n c) := by go_simp
  cases hwi : wi ep 0 1048576 with
  | false =>
    go_enter Try.func16, Try.ntmps16
    go_wp2_with (go_at_call 22; refine (hW _ _ _ _).mono ?_; rintro e w1 ⟨rfl, rfl⟩)
    go_ret
    exact ⟨by simp [errB], b0⟩
  | true =>
    cases tp with
    | false =>
      go_enter Try.func16, Try.ntmps16
      go_wp2_with (first
        | (go_at_call 22; refine (hW _ _ _ _).mono ?_; rintro e w1 ⟨rfl, rfl⟩)
        | (go_at_call 23; refine (hP _).mono ?_; rintro e w2 ⟨rfl, hb2⟩; clear hP))
      go_ret
      exact ⟨by simp [errB], on b0 hb2⟩
    | true =>
      cases tl with
      | false =>
        go_enter Try.func16, Try.ntmps16
        go_wp2_with (first
          | (go_at_call 22; refine (hW _ _ _ _).mono ?_; rintro e w1 ⟨rfl, rfl⟩)
          | (go_at_call 23; refine (hP _).mono ?_; rintro e w2 ⟨rfl, hb2⟩; clear hP; have q5 := keep hb2 k5; have hM2 := hM _ (on b0 hb2))
          | (go_at_call 24; refine hM2.mono ?_; rintro e w3 ⟨rfl, hb3⟩; clear hM2))
        go_ret
        exact ⟨by simp [errB], on (on b0 hb2) hb3⟩
      | true =>
        go_enter Try.func16, Try.ntmps16
        go_wp2_with (first
          | (go_at_call 22; refine (hW _ _ _ _).mono ?_; rintro e w1 ⟨rfl, rfl⟩)
          | (go_at_call 23; refine (hP _).mono ?_; rintro e w2 ⟨rfl, hb2⟩; clear hP; have q5 := keep hb2 k5; have hM2 := hM _ (on b0 hb2))
          | (go_at_call 24; refine hM2.mono ?_; rintro e w3 ⟨rfl, hb3⟩; clear hM2))
        go_ret
        exact ⟨by simp [errB], on (on b0 hb2) hb3⟩

end Go.Proofs.Ythlfmbijagpggaa.At

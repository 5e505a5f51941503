/-
  2 texts of this proof, one behind the other: ShSeat, ShActP.
-/
import Derived.Test.YtnfflmndejbepaaShMem
import Derived.Test.YtnfflmndejbepaaShAsk
import Derived.Test.YtnfflmndejbepaaShDel
/-
  seat: where the first of some shards of an interval is.
  Conditions: they lie in memory.
-/
namespace Go.Proofs.Ytnfflmndejbepaa.Sh
set_option linter.unusedSectionVars false
variable [Inhabited DZ]
open Go.RowKit By Fl
set_option linter.unusedVariables false
set_option linter.unusedSimpArgs false
set_option maxRecDepth 100000

theorem seat1_any {w : World} {bx : Nat} {since : Int} (v : SV) (h : w.cell? ⟨bx, 0, none⟩ = some (.int .i64 since)) :
    Calls Try.prog 68 #[vS v, .pointer (some ⟨bx, 0, none⟩)] w fun e w' => e = .returned (.bool (v.si == since)) ∧ Below w.heap.size w w' := by
  have h2 := fun o => keep (al w o) h
  obtain ⟨pl, si, x1, n1, c1, I, x2, n2, c2, E, x3, n3, c3, U⟩ := v
  unfold vS
  dsimp only
  go_enter Try.func68, Try.ntmps68
  go_wp2_with fail
  go_ret
  exact ⟨rfl, al _ _⟩

/- Where the first one is; below 0: nowhere. -/
def Seat (since : Int) (L : List SV) (r : Int) : Prop := (r = -1 ∧ ∀ s ∈ L, s.si ≠ since) ∨ ∃ (k : Nat) (s : SV), r = (k : Int) ∧ L[k]? = some s ∧ s.si = since ∧ ∀ (j : Nat) (t : SV), j < k → L[j]? = some t → t.si ≠ since

set_option maxHeartbeats 1600000 in
theorem sindex_any {w : World} {F : Nat → Prop} {x : Option Addr} {n c bx : Nat} {L : List SV} {since : Int} (h : Ss w F x n c L) (hb : w.cell? ⟨bx, 0, none⟩ = some (.int .i64 since)) :
    Calls Try.prog 67 #[.slice x n c, .func (.func 68) #[] #[.pointer (some ⟨bx, 0, none⟩)]] w fun e w' => ∃ r, e = .returned (.int .i64 r) ∧ Hid (Seat since L r ∧ Below w.heap.size w w') := by
  have hm := h.small
  have HO := hid h
  have HBx := hid hb
  have HL := hid h.len
  clear h hb
  go_enter Try.func67, Try.ntmps67
  go_wp2_with fail
  go_loopw [8, 5] (fun i _ wr => ∃ k : Nat, k ≤ n ∧ i = .int .i64 k ∧ Hid (Below w.heap.size w wr ∧ ∀ (j : Nat) (m : SV), j < k → L[j]? = some m → m.si ≠ since)) (fun i _ _ => n - (intOf i).toNat)
  case atStart => exact ⟨0, by omega, rfl, Below.refl _ _, fun j m hj => by omega⟩
  case round =>
    obtain ⟨k, hk, rfl, HR⟩ := hrel
    by_cases hlt : k < n
    · have hkn : (k : Int) < (n : Int) := by omega
      obtain ⟨m, hLm, hmm⟩ := Lis.some HO.out hlt
      rcases HO.out.row with h0 | ⟨b, o, rfl, hbl, _, hcell⟩
      · omega
      obtain ⟨k0, k1, k2, k3, k4⟩ := s_at hcell hLm
      have hbw := HR.out.1
      replace k0 := keep hbw k0
      replace k1 := keep hbw k1
      replace k2 := keep hbw k2
      replace k3 := keep hbw k3
      replace k4 := keep hbw k4
      have hc := seat1_any m (keep hbw HBx.out)
      have HM := hid hLm
      obtain ⟨t, ht⟩ : ∃ t, (m.si == since) = t := ⟨_, rfl⟩
      rw [ht] at hc
      have HT : Hid (t = true ↔ m.si = since) := hid (by rw [← ht]; simp)
      clear hLm hcell hmm hbw ht
      obtain ⟨pl, si, x1, n1, c1, I, x2, n2, c2, E, x3, n3, c3, U⟩ := m
      unfold vS at hc
      dsimp only at k0 k1 k2 k3 k4 hc
      cases t with
      | true =>
        go_wp2_with (go_at_call 68; refine hc.mono ?_; rintro e w2 ⟨rfl, hb2⟩; clear hc)
        go_ret
        exact ⟨_, rfl, .inr ⟨k, _, rfl, HM.out, HT.out.1 (by trivial), HR.out.2⟩, on HR.out.1 hb2⟩
      | false =>
        go_wp2_with (go_at_call 68; refine hc.mono ?_; rintro e w2 ⟨rfl, hb2⟩; clear hc)
        go_roundw
        case rel =>
          refine ⟨k + 1, by omega, by go_num, on HR.out.1 hb2, fun j m' hj e => ?_⟩
          by_cases hjk : j = k
          · subst hjk
            have := Option.some.inj (HM.out.symm.trans e)
            rw [← this]
            exact fun q => by have := HT.out.2 q; cases this
          · exact HR.out.2 j m' (by omega) e
        case measure => simp [intOf]; omega
    · have hk2 : n = k := by omega
      subst hk2
      go_wp2_with fail
      go_ret
      refine ⟨_, rfl, .inl ⟨rfl, fun s hs => ?_⟩, HR.out.1⟩
      obtain ⟨j, hj⟩ := List.mem_iff_getElem?.1 hs
      have := (List.getElem?_eq_some_iff.1 hj).1
      exact HR.out.2 j s (by have := HL.out; omega) hj

theorem seat_any {w : World} {F : Nat → Prop} {x : Option Addr} {n c : Nat} {L : List SV} (since : Int) (h : Ss w F x n c L) :
    Calls Try.prog 40 #[.slice x n c, .int .i64 since] w fun e w' => ∃ r, e = .returned (.int .i64 r) ∧ Hid (Seat since L r ∧ Below w.heap.size w w') := by
  have b := al w (.cells #[.int .i64 since] 3)
  have hC := sindex_any (since := since) (bx := w.heap.size) (Ss.below h b) (by go_simp)
  have HB := hid b
  clear h b
  go_enter Try.func40, Try.ntmps40
  go_wp2_with (go_at_call 67; refine hC.mono ?_; rintro e w2 ⟨r, rfl, H2⟩; clear hC)
  go_ret
  exact ⟨r, rfl, H2.out.1, on HB.out H2.out.2⟩

end Go.Proofs.Ytnfflmndejbepaa.Sh

/-
  Activate, plainly.
  Conditions: none.
-/
namespace Go.Proofs.Ytnfflmndejbepaa.Sh
set_option linter.unusedSectionVars false
variable [Inhabited DZ]
set_option linter.unusedVariables false
set_option linter.unusedSimpArgs false
set_option maxRecDepth 100000

def actP (H : Hld) (since : Int) : Hld × Int := if (askP H since).2 ≠ 0 then askP H since else match atH H since with
  | none => (H, 4)
  | some s => (⟨since, s, aboveL since H.nx⟩, 0)

theorem ask_yes {H : Hld} {since : Int} (h : (askP H since).2 = 0) : okH H ∧ (1 ≤ since ∧ since ≤ 1048576) ∧ H.fe ≤ since ∧ askP H since = (⟨since, H.now, H.nx⟩, 0) := by
  unfold askP at h ⊢
  by_cases h1 : bz (okH H) = true
  · rw [if_pos h1] at h ⊢
    by_cases h2 : decide (1 ≤ since ∧ since ≤ 1048576) = true
    · rw [if_pos h2] at h ⊢
      by_cases h3 : since < H.fe
      · rw [if_pos h3] at h
        cases h
      · rw [if_neg h3]
        exact ⟨bz_of h1, by simpa using h2, by omega, rfl⟩
    · rw [if_neg h2] at h
      cases h
  · rw [if_neg h1] at h
    cases h

theorem above_all {since : Int} : ∀ {L : List Shd}, (∀ x ∈ L, since < x.si) → aboveL since L = L := fun {L} h => List.filter_eq_self.2 fun x hx => by simpa using h x hx

theorem act_no {H : Hld} {since : Int} (h : (askP H since).2 ≠ 0) : actP H since = askP H since := by unfold actP; rw [if_pos h]

theorem act_now {H : Hld} {since : Int} (h : (askP H since).2 = 0) (hs : H.now.si = since) : actP H since = (⟨since, H.now, H.nx⟩, 0) := by
  obtain ⟨hH, hw, hf, _⟩ := ask_yes h
  have ha : atH H since = some H.now := by
    unfold atH
    rw [if_neg (by omega)]
    unfold atL
    rw [if_pos hs]
  unfold actP
  rw [if_neg (by simp [h]), ha]
  rw [above_all fun x hx => by have := (nexts_mem hH.2.2.2.2 x hx).2.2; omega]

theorem atL_none {since : Int} : ∀ {L : List Shd}, (∀ s ∈ L, s.si ≠ since) → atL since L = none
  | [], _ => rfl
  | x :: L, h => by
    unfold atL
    rw [if_neg (h x (List.mem_cons_self ..))]
    exact atL_none fun s hs => h s (List.mem_cons_of_mem _ hs)

theorem atL_some {since : Int} : ∀ {L : List Shd} {k : Nat} {s : Shd}, L[k]? = some s → s.si = since → (∀ (j : Nat) (t : Shd), j < k → L[j]? = some t → t.si ≠ since) → atL since L = some s
  | [], k, s, h, _, _ => by simp at h
  | x :: L, 0, s, h, hs, _ => by
    simp at h
    subst h
    unfold atL
    rw [if_pos hs]
  | x :: L, k + 1, s, h, hs, hn => by
    simp at h
    unfold atL
    rw [if_neg (hn 0 x (by omega) rfl)]
    exact atL_some h hs fun j t hj ht => hn (j + 1) t (by omega) (by simpa using ht)

theorem act_none {H : Hld} {since : Int} (h : (askP H since).2 = 0) (hs : H.now.si ≠ since) (hn : ∀ s ∈ H.nx, s.si ≠ since) : actP H since = (H, 4) := by
  have ha : atH H since = none := by
    unfold atH
    split
    · rfl
    · exact atL_none fun s hq => by
        rcases List.mem_cons.1 hq with e | e
        · rw [e]; exact hs
        · exact hn s e
  unfold actP
  rw [if_neg (by simp [h]), ha]

theorem nexts_above_drop {fe : Int} : ∀ {L : List Shd} {s0 : Int} {k : Nat} {s : Shd}, Nexts s0 L fe → L[k]? = some s → aboveL s.si L = L.drop (k + 1)
  | [], _, k, s, _, h => by simp at h
  | x :: L, s0, 0, s, hN, h => by
    simp at h
    subst h
    unfold aboveL
    rw [List.filter_cons_of_neg (by simp)]
    exact above_all fun y hy => (nexts_mem hN.2.2.2 y hy).2.2
  | x :: L, s0, k + 1, s, hN, h => by
    simp at h
    have hm := List.mem_of_getElem? h
    have := (nexts_mem hN.2.2.2 s hm).2.2
    unfold aboveL
    rw [List.filter_cons_of_neg (by simp; omega)]
    exact nexts_above_drop hN.2.2.2 h

theorem act_next {H : Hld} {since : Int} {k : Nat} {s : Shd} (h : (askP H since).2 = 0) (hs : H.now.si ≠ since) (hk : H.nx[k]? = some s) (hsi : s.si = since) (hn : ∀ (j : Nat) (t : Shd), j < k → H.nx[j]? = some t → t.si ≠ since) : actP H since = (⟨since, s, H.nx.drop (k + 1)⟩, 0) := by
  obtain ⟨hH, hw, hf, _⟩ := ask_yes h
  have ha : atH H since = some s := by
    unfold atH
    rw [if_neg (by omega)]
    unfold atL
    rw [if_neg hs]
    exact atL_some hk hsi hn
  unfold actP
  rw [if_neg (by simp [h]), ha]
  have := nexts_above_drop hH.2.2.2.2 hk
  rw [hsi] at this
  rw [this]

theorem drop_ok {N : List SV} {k : Nat} {s : SV} (h : N[k]? = some s) : (N.map pS)[k]? = some (pS s) := by simp [h]

end Go.Proofs.Ytnfflmndejbepaa.Sh

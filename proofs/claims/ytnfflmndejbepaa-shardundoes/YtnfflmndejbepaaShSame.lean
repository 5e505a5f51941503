/-
  Alike: chunks, items, Undos, entries, shards, holders.
  Conditions: they lie in memory.
-/
import Derived.Test.YtnfflmndejbepaaShMem
namespace Go.Proofs.Ytnfflmndejbepaa.Sh
set_option linter.unusedSectionVars false
variable [Inhabited DZ]
open Go.RowKit By Fl
set_option linter.unusedVariables false
set_option linter.unusedSimpArgs false
set_option maxRecDepth 100000

theorem map_at {α β : Type} {f : α → β} {L M : List α} {k : Nat} {a b : α} (ha : L[k]? = some a) (hb : M[k]? = some b) (h : L.map f = M.map f) : f a = f b := by
  have := congrArg (fun l => l[k]?) h
  simpa [ha, hb] using this

theorem str_eq (s t : ByteArray) : (s.toList == t.toList) = decide (s = t) := by
  by_cases h : s = t
  · subst h; simp
  · have : s.toList ≠ t.toList := fun e => h (toList_inj e)
    simp [h, this]

theorem bequal_sl {w : World} {F G : Nat → Prop} {x y : Option Addr} {n m c d : Nat} {l k : List Nat} (h1 : SlF w F x n c l) (h2 : SlF w G y m d k) :
    Calls Try.prog 86 #[.slice x n c, .slice y m d] w fun e w' => e = .returned (.bool (decide (l = k))) ∧ w' = w :=
  bequal_any x y n m c d (decide (l = k)) (gl l) (gl k) w (gl_lt h1.s.lt) (gl_lt h2.s.lt) h1.s.row h2.s.row
    (fun e h => by
      have e1 := h1.s.len
      have e2 := h2.s.len
      rw [decide_eq_true_eq]
      apply List.ext_getElem (by omega)
      intro i hi hj
      have := h i (by omega)
      unfold gl at this
      simpa [hi, hj] using this)
    (fun h => by
      rw [decide_eq_false_iff_not]
      intro e
      subst e
      exact h ⟨h1.s.len.symm.trans h2.s.len, fun _ _ => rfl⟩)

theorem pC_eq {a b : CV} {t1 t2 t3 : Bool} (h1 : (a.sz == b.sz) = t1) (h2 : (a.sum == b.sum) = t2) (h3 : decide (a.dat = b.dat) = t3) : bz (pC a = pC b) = (t1 && t2 && t3) := by
  refine bz_eq ?_
  unfold pC
  rw [← h1, ← h2, ← h3]
  simp
  constructor
  · rintro ⟨⟨h1, h2⟩, h3⟩; exact ⟨h1, h3, h2⟩
  · rintro ⟨h1, h2, h3⟩; exact ⟨⟨h1, h3⟩, h2⟩

set_option maxHeartbeats 1600000 in
theorem sameChunk_any {w : World} {F G : Nat → Prop} {a b : CV} (ha : CAt w F a) (hb : CAt w G b) : Calls Try.prog 76 #[vC a, vC b] w fun e w' => e = .returned (.bool (bz (pC a = pC b))) ∧ Below w.heap.size w w' := by
  obtain ⟨t1, h1⟩ : ∃ t, (a.sz == b.sz) = t := ⟨_, rfl⟩
  obtain ⟨t2, h2⟩ : ∃ t, (a.sum == b.sum) = t := ⟨_, rfl⟩
  obtain ⟨t3, h3⟩ : ∃ t, decide (a.dat = b.dat) = t := ⟨_, rfl⟩
  rw [pC_eq h1 h2 h3]
  obtain ⟨s, x, n, c, l, u⟩ := a
  obtain ⟨s', x', n', c', l', u'⟩ := b
  have bb := on (al w (.cells #[.int .i64 s, .slice x n c, .int .u32 u] 36)) (al (w.alloc (.cells #[.int .i64 s, .slice x n c, .int .u32 u] 36)) (.cells #[.int .i64 s', .slice x' n' c', .int .u32 u'] 36))
  have hC := bequal_sl (ha.keeps (.below bb)) (hb.keeps (.below bb))
  unfold vC
  dsimp only at *
  rw [h3] at hC
  have HB := hid bb
  clear ha hb h3 bb
  cases t1 <;> cases t2
  all_goals
    go_enter Try.func76, Try.ntmps76
    go_wp2_with (go_at_call 86; refine hC.mono ?_; rintro e w1 ⟨rfl, hw⟩; subst w1)
    go_ret
    exact ⟨by simp, HB.out⟩

set_option maxHeartbeats 1600000 in
theorem rsameChunk_any {w : World} {F G : Nat → Prop} {a b : CV} (ha : CAt w F a) (hb : CAt w G b) : Calls Try.prog 19 #[vC a, vC b] w fun e w' => e = .returned (.bool (bz (pC a = pC b))) ∧ Below w.heap.size w w' := by
  obtain ⟨t1, h1⟩ : ∃ t, (a.sz == b.sz) = t := ⟨_, rfl⟩
  obtain ⟨t2, h2⟩ : ∃ t, (a.sum == b.sum) = t := ⟨_, rfl⟩
  obtain ⟨t3, h3⟩ : ∃ t, decide (a.dat = b.dat) = t := ⟨_, rfl⟩
  rw [pC_eq h1 h2 h3]
  obtain ⟨s, x, n, c, l, u⟩ := a
  obtain ⟨s', x', n', c', l', u'⟩ := b
  have bb := on (al w (.cells #[.int .i64 s, .slice x n c, .int .u32 u] 36)) (al (w.alloc (.cells #[.int .i64 s, .slice x n c, .int .u32 u] 36)) (.cells #[.int .i64 s', .slice x' n' c', .int .u32 u'] 36))
  have hC1 := conv_sl (ha.keeps (.below bb)).s
  have hC2 := conv_sl (hb.keeps (.below bb)).s
  have hq : ((str l).toList == (str l').toList) = t3 := by
    rw [str_eq, ← h3]
    congr 1
    refine propext ⟨fun h => ?_, fun h => by dsimp only at h ⊢; rw [h]⟩
    have := congrArg nat h
    rwa [nat_str ha.s.lt, nat_str hb.s.lt] at this
  unfold vC
  dsimp only at *
  generalize str l = S at *
  generalize str l' = S' at *
  have HB := hid bb
  clear ha hb h3 bb
  cases t1 <;> cases t2
  all_goals
    go_enter Try.func19, Try.ntmps19
    go_wp2_with (simp only [hC1, hC2])
    go_ret
    exact ⟨by simp [hq], HB.out⟩

theorem sameItem_any {w : World} {F G : Nat → Prop} {a b : IV} (ha : IAt w F a) (hb : IAt w G b) : Calls Try.prog 71 #[vI a, vI b] w fun e w' => e = .returned (.bool (bz (pI a = pI b))) ∧ Below w.heap.size w w' := by
  obtain ⟨t1, h1⟩ : ∃ t, (a.nm.toList == b.nm.toList) = t := ⟨_, rfl⟩
  have hR : bz (pI a = pI b) = (t1 && bz (pC a.ch = pC b.ch)) := by
    refine bz_eq ?_
    unfold pI
    rw [← h1, str_eq]
    simp
    intro _
    exact ⟨bz_of, bz_true⟩
  rw [hR]
  have bb := on (al w (.cells #[.string a.nm, .int .i64 a.ch.sz, .slice a.ch.x a.ch.n a.ch.c, .int .u32 a.ch.sum] 79)) (al (w.alloc (.cells #[.string a.nm, .int .i64 a.ch.sz, .slice a.ch.x a.ch.n a.ch.c, .int .u32 a.ch.sum] 79)) (.cells #[.string b.nm, .int .i64 b.ch.sz, .slice b.ch.x b.ch.n b.ch.c, .int .u32 b.ch.sum] 79))
  have hC := sameChunk_any (ha.2.keeps (.below bb)) (hb.2.keeps (.below bb))
  generalize bz (pC a.ch = pC b.ch) = t2 at *
  obtain ⟨nm, s, x, n, c, l, u⟩ := a
  obtain ⟨nm', s', x', n', c', l', u'⟩ := b
  have HB := hid bb
  unfold vI
  unfold vC at hC
  dsimp only at *
  clear ha hb bb hR
  cases t1
  all_goals
    go_enter Try.func71, Try.ntmps71
    go_wp2_with (go_at_call 76; refine hC.mono ?_; rintro e w1 ⟨rfl, hw⟩)
    go_ret
    first
    | exact ⟨by simp, HB.out⟩
    | exact ⟨by simp, on HB.out hw⟩

set_option maxHeartbeats 1600000 in
theorem sameUndo_any {w : World} {F G : Nat → Prop} {a b : UV} (ha : UAt w F a) (hb : UAt w G b) : Calls Try.prog 74 #[vU a, vU b] w fun e w' => e = .returned (.bool (bz (pU a = pU b))) ∧ Below w.heap.size w w' := by
  obtain ⟨t0, h0⟩ : ∃ t, (a.seq == b.seq) = t := ⟨_, rfl⟩
  obtain ⟨t1, h1⟩ : ∃ t, (a.nm.toList == b.nm.toList) = t := ⟨_, rfl⟩
  obtain ⟨t3, h3⟩ : ∃ t, (a.has == b.has) = t := ⟨_, rfl⟩
  have hR : bz (pU a = pU b) = (t0 && t1 && t3 && bz (pC a.was = pC b.was)) := by
    refine bz_eq ?_
    unfold pU
    rw [← h1, str_eq, ← h0, ← h3]
    simp [and_assoc]
    intro _ _ _
    exact ⟨bz_of, bz_true⟩
  rw [hR]
  have bb := on (al w (.cells #[.int .i64 a.seq, .string a.nm, .bool a.has, .int .i64 a.was.sz, .slice a.was.x a.was.n a.was.c, .int .u32 a.was.sum] 89)) (al (w.alloc (.cells #[.int .i64 a.seq, .string a.nm, .bool a.has, .int .i64 a.was.sz, .slice a.was.x a.was.n a.was.c, .int .u32 a.was.sum] 89)) (.cells #[.int .i64 b.seq, .string b.nm, .bool b.has, .int .i64 b.was.sz, .slice b.was.x b.was.n b.was.c, .int .u32 b.was.sum] 89))
  have hC := sameChunk_any (ha.2.keeps (.below bb)) (hb.2.keeps (.below bb))
  generalize bz (pC a.was = pC b.was) = t2 at *
  obtain ⟨sq, nm, hs, s, x, n, c, l, u⟩ := a
  obtain ⟨sq', nm', hs', s', x', n', c', l', u'⟩ := b
  have HB := hid bb
  unfold vU
  unfold vC at hC
  dsimp only at *
  clear ha hb bb hR
  cases t0 <;> cases t1 <;> cases t3
  all_goals
    go_enter Try.func74, Try.ntmps74
    go_wp2_with (go_at_call 76; refine hC.mono ?_; rintro e w1 ⟨rfl, hw⟩)
    go_ret
    first
    | exact ⟨by simp, HB.out⟩
    | exact ⟨by simp, on HB.out hw⟩

set_option maxHeartbeats 1600000 in
theorem equalf_I {w : World} {F G : Nat → Prop} {x y : Option Addr} {n c m d : Nat} {L M : List IV} (ha : Is w F x n c L) (hb : Is w G y m d M) :
    Calls Try.prog 70 #[.slice x n c, .slice y m d, .func (.func 71) #[] #[]] w fun e w' => e = .returned (.bool (bz (L.map pI = M.map pI))) ∧ Below w.heap.size w w' := by
  have hla := ha.len
  have hlb := hb.len
  have hn := ha.small
  by_cases hnm : n = m
  · subst hnm
    have HA := hid ha
    have HB := hid hb
    have HL := hid (And.intro hla hlb)
    clear ha hb hla hlb
    go_enter Try.func70, Try.ntmps70
    go_wp2_with fail
    go_loopw [17] (fun i wr => ∃ k : Nat, k ≤ n ∧ i = .int .i64 k ∧ Hid (Below w.heap.size w wr ∧ (L.take k).map pI = (M.take k).map pI)) (fun i _ => n - (intOf i).toNat)
    case atStart => exact ⟨0, by omega, rfl, Below.refl _ _, by simp⟩
    case round =>
      obtain ⟨k, hk, rfl, HR⟩ := hrel
      by_cases hlt : k < n
      · have hkn : (k : Int) < (n : Int) := by omega
        obtain ⟨a1, ha1, hm1⟩ := Lis.some HA.out hlt
        obtain ⟨a2, ha2, hm2⟩ := Lis.some HB.out hlt
        have A1 := hid (HA.out.each a1 hm1)
        have A2 := hid (HB.out.each a2 hm2)
        rcases HA.out.row with h0 | ⟨b1, o1, rfl, hb1, _, hc1⟩
        · omega
        rcases HB.out.row with h0 | ⟨b2, o2, rfl, hb2, _, hc2⟩
        · omega
        obtain ⟨k0, k1, k2, k3⟩ := i_at hc1 ha1
        obtain ⟨l0, l1, l2, l3⟩ := i_at hc2 ha2
        have HY := hid (And.intro ha1 ha2)
        clear hc1 hc2 ha1 ha2 hm1 hm2 hb1 hb2
        obtain ⟨nm, s, x, m, d, dat, sum⟩ := a1
        obtain ⟨nm2, s2, x2, m2, d2, dat2, sum2⟩ := a2
        dsimp only at k0 k1 k2 k3 l0 l1 l2 l3
        have hb := HR.out.1
        replace k0 := keep hb k0
        replace k1 := keep hb k1
        replace k2 := keep hb k2
        replace k3 := keep hb k3
        replace l0 := keep hb l0
        replace l1 := keep hb l1
        replace l2 := keep hb l2
        replace l3 := keep hb l3
        have b1 := al wr (.cells #[.string nm, .int .i64 s, .slice x m d, .int .u32 sum] 79)
        have b2 := al (wr.alloc (.cells #[.string nm, .int .i64 s, .slice x m d, .int .u32 sum] 79)) (.cells #[.string nm2, .int .i64 s2, .slice x2 m2 d2, .int .u32 sum2] 79)
        have hC := sameItem_any (IAt.below (IAt.below A1.out HR.out.1) (on b1 b2)) (IAt.below (IAt.below A2.out HR.out.1) (on b1 b2))
        have HB2 := hid (on b1 b2)
        have l0' := keep b1 l0
        have l1' := keep b1 l1
        have l2' := keep b1 l2
        have l3' := keep b1 l3
        obtain ⟨t, ht⟩ : ∃ t, t = bz (pI ⟨nm, s, x, m, d, dat, sum⟩ = pI ⟨nm2, s2, x2, m2, d2, dat2, sum2⟩) := ⟨_, rfl⟩
        rw [← ht] at hC
        have HT := hid ht
        unfold vI at hC
        dsimp only at hC
        clear b1 b2 hb ht l0 l1 l2 l3
        cases t with
        | true =>
          go_wp2_with (go_at_call 71; refine hC.mono ?_; rintro e w2 ⟨rfl, hb2⟩; clear hC)
          go_roundw
          case rel =>
            refine ⟨k + 1, by omega, by go_num, on HR.out.1 (on HB2.out hb2), ?_⟩
            rw [List.take_add_one, List.take_add_one, HY.out.1, HY.out.2]
            simp only [Option.toList_some, List.map_append, List.map_cons, List.map_nil, HR.out.2, bz_of HT.out.symm]
          case measure => simp [intOf]; omega
        | false =>
          go_wp2_with (go_at_call 71; refine hC.mono ?_; rintro e w2 ⟨rfl, hb2⟩; clear hC)
          go_ret
          refine ⟨?_, on HR.out.1 (on HB2.out hb2)⟩
          rw [bz_false fun h => bz_not HT.out.symm (map_at HY.out.1 HY.out.2 h)]
          rfl
      · have hk2 : k = n := by omega
        subst hk2
        go_wp2_with fail
        go_ret
        refine ⟨?_, HR.out.1⟩
        have h2 := HR.out.2
        rw [List.take_of_length_le (by have := HL.out.1; omega), List.take_of_length_le (by have := HL.out.2; omega)] at h2
        rw [bz_true h2]
        rfl
  · have hq : ((n : Int) != (m : Int)) = true := by simp; omega
    have HL := hid (And.intro hnm (And.intro hla hlb))
    clear ha hb hla hlb hnm
    go_enter Try.func70, Try.ntmps70
    go_wp2_with fail
    go_ret
    refine ⟨?_, Below.refl _ _⟩
    rw [bz_false fun h => by
      obtain ⟨h1, h2, h3⟩ := HL.out
      have := congrArg List.length h
      simp at this
      omega]
    rfl

set_option maxHeartbeats 1600000 in
theorem equalf_U {w : World} {F G : Nat → Prop} {x y : Option Addr} {n c m d : Nat} {L M : List UV} (ha : Us w F x n c L) (hb : Us w G y m d M) :
    Calls Try.prog 73 #[.slice x n c, .slice y m d, .func (.func 74) #[] #[]] w fun e w' => e = .returned (.bool (bz (L.map pU = M.map pU))) ∧ Below w.heap.size w w' := by
  have hla := ha.len
  have hlb := hb.len
  have hn := ha.small
  by_cases hnm : n = m
  · subst hnm
    have HA := hid ha
    have HB := hid hb
    have HL := hid (And.intro hla hlb)
    clear ha hb hla hlb
    go_enter Try.func73, Try.ntmps73
    go_wp2_with fail
    go_loopw [17] (fun i wr => ∃ k : Nat, k ≤ n ∧ i = .int .i64 k ∧ Hid (Below w.heap.size w wr ∧ (L.take k).map pU = (M.take k).map pU)) (fun i _ => n - (intOf i).toNat)
    case atStart => exact ⟨0, by omega, rfl, Below.refl _ _, by simp⟩
    case round =>
      obtain ⟨k, hk, rfl, HR⟩ := hrel
      by_cases hlt : k < n
      · have hkn : (k : Int) < (n : Int) := by omega
        obtain ⟨a1, ha1, hm1⟩ := Lis.some HA.out hlt
        obtain ⟨a2, ha2, hm2⟩ := Lis.some HB.out hlt
        have A1 := hid (HA.out.each a1 hm1)
        have A2 := hid (HB.out.each a2 hm2)
        rcases HA.out.row with h0 | ⟨b1, o1, rfl, hb1, _, hc1⟩
        · omega
        rcases HB.out.row with h0 | ⟨b2, o2, rfl, hb2, _, hc2⟩
        · omega
        obtain ⟨k0, k1, k2, k3, k4, k5⟩ := u_at hc1 ha1
        obtain ⟨l0, l1, l2, l3, l4, l5⟩ := u_at hc2 ha2
        have HY := hid (And.intro ha1 ha2)
        clear hc1 hc2 ha1 ha2 hm1 hm2 hb1 hb2
        obtain ⟨sq, nm, ha, s, x, m, d, dat, sum⟩ := a1
        obtain ⟨sq2, nm2, ha2, s2, x2, m2, d2, dat2, sum2⟩ := a2
        dsimp only at k0 k1 k2 k3 k4 k5 l0 l1 l2 l3 l4 l5
        have hb := HR.out.1
        replace k0 := keep hb k0
        replace k1 := keep hb k1
        replace k2 := keep hb k2
        replace k3 := keep hb k3
        replace k4 := keep hb k4
        replace k5 := keep hb k5
        replace l0 := keep hb l0
        replace l1 := keep hb l1
        replace l2 := keep hb l2
        replace l3 := keep hb l3
        replace l4 := keep hb l4
        replace l5 := keep hb l5
        have b1 := al wr (.cells #[.int .i64 sq, .string nm, .bool ha, .int .i64 s, .slice x m d, .int .u32 sum] 89)
        have b2 := al (wr.alloc (.cells #[.int .i64 sq, .string nm, .bool ha, .int .i64 s, .slice x m d, .int .u32 sum] 89)) (.cells #[.int .i64 sq2, .string nm2, .bool ha2, .int .i64 s2, .slice x2 m2 d2, .int .u32 sum2] 89)
        have hC := sameUndo_any (UAt.below (UAt.below A1.out HR.out.1) (on b1 b2)) (UAt.below (UAt.below A2.out HR.out.1) (on b1 b2))
        have HB2 := hid (on b1 b2)
        have l0' := keep b1 l0
        have l1' := keep b1 l1
        have l2' := keep b1 l2
        have l3' := keep b1 l3
        have l4' := keep b1 l4
        have l5' := keep b1 l5
        obtain ⟨t, ht⟩ : ∃ t, t = bz (pU ⟨sq, nm, ha, s, x, m, d, dat, sum⟩ = pU ⟨sq2, nm2, ha2, s2, x2, m2, d2, dat2, sum2⟩) := ⟨_, rfl⟩
        rw [← ht] at hC
        have HT := hid ht
        unfold vU at hC
        dsimp only at hC
        clear b1 b2 hb ht l0 l1 l2 l3 l4 l5
        cases t with
        | true =>
          go_wp2_with (go_at_call 74; refine hC.mono ?_; rintro e w2 ⟨rfl, hb2⟩; clear hC)
          go_roundw
          case rel =>
            refine ⟨k + 1, by omega, by go_num, on HR.out.1 (on HB2.out hb2), ?_⟩
            rw [List.take_add_one, List.take_add_one, HY.out.1, HY.out.2]
            simp only [Option.toList_some, List.map_append, List.map_cons, List.map_nil, HR.out.2, bz_of HT.out.symm]
          case measure => simp [intOf]; omega
        | false =>
          go_wp2_with (go_at_call 74; refine hC.mono ?_; rintro e w2 ⟨rfl, hb2⟩; clear hC)
          go_ret
          refine ⟨?_, on HR.out.1 (on HB2.out hb2)⟩
          rw [bz_false fun h => bz_not HT.out.symm (map_at HY.out.1 HY.out.2 h)]
          rfl
      · have hk2 : k = n := by omega
        subst hk2
        go_wp2_with fail
        go_ret
        refine ⟨?_, HR.out.1⟩
        have h2 := HR.out.2
        rw [List.take_of_length_le (by have := HL.out.1; omega), List.take_of_length_le (by have := HL.out.2; omega)] at h2
        rw [bz_true h2]
        rfl
  · have hq : ((n : Int) != (m : Int)) = true := by simp; omega
    have HL := hid (And.intro hnm (And.intro hla hlb))
    clear ha hb hla hlb hnm
    go_enter Try.func73, Try.ntmps73
    go_wp2_with fail
    go_ret
    refine ⟨?_, Below.refl _ _⟩
    rw [bz_false fun h => by
      obtain ⟨h1, h2, h3⟩ := HL.out
      have := congrArg List.length h
      simp at this
      omega]
    rfl

def eqE (a b : Ent) : Bool := a.seq == b.seq && a.cl == b.cl && a.ks == b.ks && a.nm.toList == b.nm.toList && a.code == b.code && a.gone == b.gone && a.sz == b.sz

theorem eqE_is (a b : Ent) : eqE a b = true ↔ a = b := by
  obtain ⟨a0, a1, a2, a3, a4, a5, a6⟩ := a
  obtain ⟨b0, b1, b2, b3, b4, b5, b6⟩ := b
  unfold eqE
  simp [str_eq, and_assoc]

theorem eq_ent (a b : Ent) (w : World) : (binOp .eql 67 (vE a) (vE b)).run Try.prog w = .ok (.bool (eqE a b)) w := by
  obtain ⟨a0, a1, a2, a3, a4, a5, a6⟩ := a
  obtain ⟨b0, b1, b2, b3, b4, b5, b6⟩ := b
  unfold vE eqE
  dsimp only
  go_simp
  repeat' split
  all_goals simp_all

theorem neq_ent (a b : Ent) (w : World) : (binOp .neq 67 (vE a) (vE b)).run Try.prog w = .ok (.bool (!eqE a b)) w := by
  obtain ⟨a0, a1, a2, a3, a4, a5, a6⟩ := a
  obtain ⟨b0, b1, b2, b3, b4, b5, b6⟩ := b
  unfold vE eqE
  dsimp only
  go_simp
  repeat' split
  all_goals simp_all

set_option maxHeartbeats 1600000 in
theorem equalE_any {w : World} {F G : Nat → Prop} {x y : Option Addr} {n c m d : Nat} {L M : List Ent} (ha : Es w F x n c L) (hb : Es w G y m d M) :
    Calls Try.prog 72 #[.slice x n c, .slice y m d] w fun e w' => e = .returned (.bool (bz (L = M))) ∧ Below w.heap.size w w' := by
  have hla := ha.len
  have hlb := hb.len
  have hn := ha.small
  by_cases hnm : n = m
  · subst hnm
    have HA := hid ha
    have HB := hid hb
    have HL := hid (And.intro hla hlb)
    clear ha hb hla hlb
    go_enter Try.func72, Try.ntmps72
    go_wp2_with fail
    go_loopw [13] (fun i wr => ∃ k : Nat, k ≤ n ∧ i = .int .i64 k ∧ Hid (Below w.heap.size w wr ∧ L.take k = M.take k)) (fun i _ => n - (intOf i).toNat)
    case atStart => exact ⟨0, by omega, rfl, Below.refl _ _, by simp⟩
    case round =>
      obtain ⟨k, hk, rfl, HR⟩ := hrel
      by_cases hlt : k < n
      · have hkn : (k : Int) < (n : Int) := by omega
        obtain ⟨ea, ha1, hm1⟩ := Lis.some HA.out hlt
        obtain ⟨eb, ha2, hm2⟩ := Lis.some HB.out hlt
        rcases HA.out.row with h0 | ⟨b1, o1, rfl, hb1, _, hc1⟩
        · omega
        rcases HB.out.row with h0 | ⟨b2, o2, rfl, hb2, _, hc2⟩
        · omega
        obtain ⟨k0, k1, k2, k3, k4, k5, k6⟩ := e_at hc1 ha1
        obtain ⟨l0, l1, l2, l3, l4, l5, l6⟩ := e_at hc2 ha2
        have HY := hid (And.intro ha1 ha2)
        clear hc1 hc2 ha1 ha2 hm1 hm2 hb1 hb2
        have hb := HR.out.1
        have r0 := After.cell (keep hb k0)
        have r1 := After.cell (keep hb k1)
        have r2 := After.cell (keep hb k2)
        have r3 := After.cell (keep hb k3)
        have r4 := After.cell (keep hb k4)
        have r5 := After.cell (keep hb k5)
        have r6 := After.cell (keep hb k6)
        have s0 := After.cell (keep hb l0)
        have s1 := After.cell (keep hb l1)
        have s2 := After.cell (keep hb l2)
        have s3 := After.cell (keep hb l3)
        have s4 := After.cell (keep hb l4)
        have s5 := After.cell (keep hb l5)
        have s6 := After.cell (keep hb l6)
        have hq := neq_ent ea eb
        obtain ⟨t, ht⟩ : ∃ t, eqE ea eb = t := ⟨_, rfl⟩
        rw [ht] at hq
        have HT : Hid (t = true ↔ ea = eb) := hid (by rw [← ht]; exact eqE_is ea eb)
        obtain ⟨a0, a1, a2, a3, a4, a5, a6⟩ := ea
        obtain ⟨b0, b1, b2, b3, b4, b5, b6⟩ := eb
        unfold vE at hq
        dsimp only at r0 r1 r2 r3 r4 r5 r6 s0 s1 s2 s3 s4 s5 s6 hq
        clear k0 k1 k2 k3 k4 k5 k6 l0 l1 l2 l3 l4 l5 l6 hb ht
        haveI := After.ne wr
        cases t with
        | true =>
          go_wp2_with fail
          refine wp_region_after (by kernel_rfl) (by kernel_rfl) ?_
          repeat (go_big_quiet_step (simp only [hq]))
          refine wpQuiet_nil ?_
          rintro _ ⟨q, rfl⟩
          go_wp2_with fail
          go_roundw
          case rel =>
            refine ⟨k + 1, by omega, by go_num, on HR.out.1 q.h, ?_⟩
            rw [List.take_add_one, List.take_add_one, HY.out.1, HY.out.2, HR.out.2, HT.out.1 (by trivial)]
          case measure => simp [intOf]; omega
        | false =>
          go_wp2_with fail
          refine wp_region_after (by kernel_rfl) (by kernel_rfl) ?_
          repeat (go_big_quiet_step (simp only [hq]))
          refine wpQuiet_nil ?_
          rintro _ ⟨q, rfl⟩
          go_wp2_with fail
          go_ret
          refine ⟨?_, on HR.out.1 q.h⟩
          rw [bz_false fun h => by
            have h1 := HY.out.1
            rw [h, HY.out.2] at h1
            have := HT.out.2 (Option.some.inj h1).symm
            cases this]
          rfl
      · have hk2 : k = n := by omega
        subst hk2
        go_wp2_with fail
        go_ret
        refine ⟨?_, HR.out.1⟩
        have h2 := HR.out.2
        rw [List.take_of_length_le (by have := HL.out.1; omega), List.take_of_length_le (by have := HL.out.2; omega)] at h2
        rw [bz_true h2]
        rfl
  · have hq : ((n : Int) != (m : Int)) = true := by simp; omega
    have HL := hid (And.intro hnm (And.intro hla hlb))
    clear ha hb hla hlb hnm
    go_enter Try.func72, Try.ntmps72
    go_wp2_with fail
    go_ret
    refine ⟨?_, Below.refl _ _⟩
    rw [bz_false fun h => by
      obtain ⟨h1, h2, h3⟩ := HL.out
      rw [h] at h2
      omega]
    rfl

def SCells (v : SV) : Array Value := #[.int .i64 v.pl, .int .i64 v.si, .slice v.x1 v.n1 v.c1, .slice v.x2 v.n2 v.c2, .slice v.x3 v.n3 v.c3]

theorem pS_eq {a b : SV} {t1 t2 : Bool} (h1 : (a.pl == b.pl) = t1) (h2 : (a.si == b.si) = t2) : bz (pS a = pS b) = (t1 && t2 && bz (a.I.map pI = b.I.map pI) && bz (a.E = b.E) && bz (a.U.map pU = b.U.map pU)) := by
  refine bz_eq ?_
  unfold pS
  rw [← h1, ← h2]
  simp only [Bool.and_eq_true, beq_iff_eq, Shd.mk.injEq, and_assoc]
  exact ⟨fun ⟨a, b, c, d, e⟩ => ⟨a, b, bz_of c, bz_of d, bz_of e⟩, fun ⟨a, b, c, d, e⟩ => ⟨a, b, bz_true c, bz_true d, bz_true e⟩⟩

set_option maxHeartbeats 3200000 in
theorem sameShard_any {w : World} {F G : Nat → Prop} {a b : SV} (ha : SAt w F a) (hb : SAt w G b) : Calls Try.prog 45 #[vS a, vS b] w fun e w' => e = .returned (.bool (bz (pS a = pS b))) ∧ Below w.heap.size w w' := by
  obtain ⟨t1, h1⟩ : ∃ t, (a.pl == b.pl) = t := ⟨_, rfl⟩
  obtain ⟨t2, h2⟩ : ∃ t, (a.si == b.si) = t := ⟨_, rfl⟩
  rw [pS_eq h1 h2]
  obtain ⟨w0, hw0⟩ : ∃ w0, w0 = (w.alloc (.cells (SCells a) 26)).alloc (.cells (SCells b) 26) := ⟨_, rfl⟩
  have bb : Below w.heap.size w w0 := by rw [hw0]; exact on (al _ _) (al _ _)
  have HC1 : Hid (∀ W, Below w0.heap.size w0 W → Calls Try.prog 70 #[.slice a.x1 a.n1 a.c1, .slice b.x1 b.n1 b.c1, .func (.func 71) #[] #[]] W fun e w' => e = .returned (.bool (bz (a.I.map pI = b.I.map pI))) ∧ Below W.heap.size W w') := fun W hW => equalf_I (Is.below ha.i (on bb hW)) (Is.below hb.i (on bb hW))
  have HC2 : Hid (∀ W, Below w0.heap.size w0 W → Calls Try.prog 72 #[.slice a.x2 a.n2 a.c2, .slice b.x2 b.n2 b.c2] W fun e w' => e = .returned (.bool (bz (a.E = b.E))) ∧ Below W.heap.size W w') := fun W hW => equalE_any (Es.below ha.e (on bb hW)) (Es.below hb.e (on bb hW))
  have HC3 : Hid (∀ W, Below w0.heap.size w0 W → Calls Try.prog 73 #[.slice a.x3 a.n3 a.c3, .slice b.x3 b.n3 b.c3, .func (.func 74) #[] #[]] W fun e w' => e = .returned (.bool (bz (a.U.map pU = b.U.map pU))) ∧ Below W.heap.size W w') := fun W hW => equalf_U (Us.below ha.u (on bb hW)) (Us.below hb.u (on bb hW))
  have HP : Hid (∀ W, Below w0.heap.size w0 W → W.cell? ⟨w.heap.size, 3, none⟩ = some (.slice a.x2 a.n2 a.c2) ∧ W.cell? ⟨w.heap.size + 1, 3, none⟩ = some (.slice b.x2 b.n2 b.c2) ∧ W.cell? ⟨w.heap.size, 4, none⟩ = some (.slice a.x3 a.n3 a.c3) ∧ W.cell? ⟨w.heap.size + 1, 4, none⟩ = some (.slice b.x3 b.n3 b.c3)) := fun W hW =>
    ⟨keep hW (by rw [hw0]; unfold SCells; go_simp), keep hW (by rw [hw0]; unfold SCells; go_simp), keep hW (by rw [hw0]; unfold SCells; go_simp), keep hW (by rw [hw0]; unfold SCells; go_simp)⟩
  generalize bz (a.I.map pI = b.I.map pI) = t3 at *
  generalize bz (a.E = b.E) = t4 at *
  generalize bz (a.U.map pU = b.U.map pU) = t5 at *
  have HB := hid bb
  clear ha hb bb
  obtain ⟨pl, si, x1, n1, c1, I, x2, n2, c2, E, x3, n3, c3, U⟩ := a
  obtain ⟨pl', si', y1, m1, d1, I', y2, m2, d2, E', y3, m3, d3, U'⟩ := b
  unfold SCells at hw0
  unfold vS
  dsimp only at *
  have hC1 := HC1.out _ (Below.refl _ w0)
  rw [hw0] at hC1
  have HW := hid hw0
  clear hw0
  cases t1
  · go_enter Try.func45, Try.ntmps45
    go_wp2_with fail
    go_ret
    exact ⟨by simp, by have := HB.out; rw [HW.out] at this; exact this⟩
  cases t2
  · go_enter Try.func45, Try.ntmps45
    go_wp2_with fail
    go_ret
    exact ⟨by simp, by have := HB.out; rw [HW.out] at this; exact this⟩
  cases t3
  · go_enter Try.func45, Try.ntmps45
    go_wp2_with (go_at_call 70; refine hC1.mono ?_; rintro e w1 ⟨rfl, hb1⟩; rw [← HW.out] at hb1)
    go_ret
    exact ⟨by simp, on HB.out hb1⟩
  cases t4
  · go_enter Try.func45, Try.ntmps45
    go_wp2_with (first
      | (go_at_call 70; refine hC1.mono ?_; rintro e w1 ⟨rfl, hb1⟩; rw [← HW.out] at hb1; clear hC1; obtain ⟨p1, p2, p3, p4⟩ := HP.out w1 hb1; have hC2 := HC2.out w1 hb1)
      | (go_at_call 72; refine hC2.mono ?_; rintro e w2 ⟨rfl, hb2⟩))
    go_ret
    exact ⟨by simp, on HB.out (on hb1 hb2)⟩
  · go_enter Try.func45, Try.ntmps45
    go_wp2_with (first
      | (go_at_call 70; refine hC1.mono ?_; rintro e w1 ⟨rfl, hb1⟩; rw [← HW.out] at hb1; clear hC1; obtain ⟨p1, p2, p3, p4⟩ := HP.out w1 hb1; have hC2 := HC2.out w1 hb1)
      | (go_at_call 72; refine hC2.mono ?_; rintro e w2 ⟨rfl, hb2⟩; clear hC2; have hb12 := on hb1 hb2; obtain ⟨p1', p2', p3', p4'⟩ := HP.out w2 hb12; have hC3 := HC3.out w2 hb12)
      | (go_at_call 73; refine hC3.mono ?_; rintro e w3 ⟨rfl, hb3⟩))
    go_ret
    exact ⟨by simp, on HB.out (on hb12 hb3)⟩

set_option maxHeartbeats 1600000 in
theorem equalf_S {w : World} {F G : Nat → Prop} {x y : Option Addr} {n c m d : Nat} {L M : List SV} (ha : Ss w F x n c L) (hb : Ss w G y m d M) :
    Calls Try.prog 52 #[.slice x n c, .slice y m d, .func (.func 45) #[] #[]] w fun e w' => e = .returned (.bool (bz (L.map pS = M.map pS))) ∧ Below w.heap.size w w' := by
  have hla := ha.len
  have hlb := hb.len
  have hn := ha.small
  by_cases hnm : n = m
  · subst hnm
    have HA := hid ha
    have HB := hid hb
    have HL := hid (And.intro hla hlb)
    clear ha hb hla hlb
    go_enter Try.func52, Try.ntmps52
    go_wp2_with fail
    go_loopw [17] (fun i wr => ∃ k : Nat, k ≤ n ∧ i = .int .i64 k ∧ Hid (Below w.heap.size w wr ∧ (L.take k).map pS = (M.take k).map pS)) (fun i _ => n - (intOf i).toNat)
    case atStart => exact ⟨0, by omega, rfl, Below.refl _ _, by simp⟩
    case round =>
      obtain ⟨k, hk, rfl, HR⟩ := hrel
      by_cases hlt : k < n
      · have hkn : (k : Int) < (n : Int) := by omega
        obtain ⟨a1, ha1, hm1⟩ := Lis.some HA.out hlt
        obtain ⟨a2, ha2, hm2⟩ := Lis.some HB.out hlt
        have A1 := hid (HA.out.each a1 hm1)
        have A2 := hid (HB.out.each a2 hm2)
        rcases HA.out.row with h0 | ⟨b1, o1, rfl, hb1, _, hc1⟩
        · omega
        rcases HB.out.row with h0 | ⟨b2, o2, rfl, hb2, _, hc2⟩
        · omega
        obtain ⟨k0, k1, k2, k3, k4⟩ := s_at hc1 ha1
        obtain ⟨l0, l1, l2, l3, l4⟩ := s_at hc2 ha2
        have HY := hid (And.intro ha1 ha2)
        clear hc1 hc2 ha1 ha2 hm1 hm2 hb1 hb2
        obtain ⟨pl, si, x1, n1, c1, I, x2, n2, c2, E, x3, n3, c3, U⟩ := a1
        obtain ⟨pl2, si2, y1, m1, d1, I2, y2, m2, d2, E2, y3, m3, d3, U2⟩ := a2
        dsimp only at k0 k1 k2 k3 k4 l0 l1 l2 l3 l4
        have hb := HR.out.1
        replace k0 := keep hb k0
        replace k1 := keep hb k1
        replace k2 := keep hb k2
        replace k3 := keep hb k3
        replace k4 := keep hb k4
        replace l0 := keep hb l0
        replace l1 := keep hb l1
        replace l2 := keep hb l2
        replace l3 := keep hb l3
        replace l4 := keep hb l4
        have b1 := al wr (.cells #[.int .i64 pl, .int .i64 si, .slice x1 n1 c1, .slice x2 n2 c2, .slice x3 n3 c3] 26)
        have b2 := al (wr.alloc (.cells #[.int .i64 pl, .int .i64 si, .slice x1 n1 c1, .slice x2 n2 c2, .slice x3 n3 c3] 26)) (.cells #[.int .i64 pl2, .int .i64 si2, .slice y1 m1 d1, .slice y2 m2 d2, .slice y3 m3 d3] 26)
        have hC := sameShard_any (SAt.below (SAt.below A1.out HR.out.1) (on b1 b2)) (SAt.below (SAt.below A2.out HR.out.1) (on b1 b2))
        have HB2 := hid (on b1 b2)
        have l0' := keep b1 l0
        have l1' := keep b1 l1
        have l2' := keep b1 l2
        have l3' := keep b1 l3
        have l4' := keep b1 l4
        obtain ⟨t, ht⟩ : ∃ t, t = bz (pS ⟨pl, si, x1, n1, c1, I, x2, n2, c2, E, x3, n3, c3, U⟩ = pS ⟨pl2, si2, y1, m1, d1, I2, y2, m2, d2, E2, y3, m3, d3, U2⟩) := ⟨_, rfl⟩
        rw [← ht] at hC
        have HT := hid ht
        unfold vS at hC
        dsimp only at hC
        clear b1 b2 hb ht l0 l1 l2 l3 l4
        cases t with
        | true =>
          go_wp2_with (go_at_call 45; refine hC.mono ?_; rintro e w2 ⟨rfl, hb2⟩; clear hC)
          go_roundw
          case rel =>
            refine ⟨k + 1, by omega, by go_num, on HR.out.1 (on HB2.out hb2), ?_⟩
            rw [List.take_add_one, List.take_add_one, HY.out.1, HY.out.2]
            simp only [Option.toList_some, List.map_append, List.map_cons, List.map_nil, HR.out.2, bz_of HT.out.symm]
          case measure => simp [intOf]; omega
        | false =>
          go_wp2_with (go_at_call 45; refine hC.mono ?_; rintro e w2 ⟨rfl, hb2⟩; clear hC)
          go_ret
          refine ⟨?_, on HR.out.1 (on HB2.out hb2)⟩
          rw [bz_false fun h => bz_not HT.out.symm (map_at HY.out.1 HY.out.2 h)]
          rfl
      · have hk2 : k = n := by omega
        subst hk2
        go_wp2_with fail
        go_ret
        refine ⟨?_, HR.out.1⟩
        have h2 := HR.out.2
        rw [List.take_of_length_le (by have := HL.out.1; omega), List.take_of_length_le (by have := HL.out.2; omega)] at h2
        rw [bz_true h2]
        rfl
  · have hq : ((n : Int) != (m : Int)) = true := by simp; omega
    have HL := hid (And.intro hnm (And.intro hla hlb))
    clear ha hb hla hlb hnm
    go_enter Try.func52, Try.ntmps52
    go_wp2_with fail
    go_ret
    refine ⟨?_, Below.refl _ _⟩
    rw [bz_false fun h => by
      obtain ⟨h1, h2, h3⟩ := HL.out
      have := congrArg List.length h
      simp at this
      omega]
    rfl

theorem pH_eq {a b : HV} {t1 : Bool} (h1 : (a.fe == b.fe) = t1) : bz (pH a = pH b) = (t1 && bz (pS a.now = pS b.now) && bz (a.N.map pS = b.N.map pS)) := by
  refine bz_eq ?_
  unfold pH
  rw [← h1]
  simp only [Bool.and_eq_true, beq_iff_eq, Hld.mk.injEq, and_assoc]
  exact ⟨fun ⟨a, b, c⟩ => ⟨a, bz_of b, bz_of c⟩, fun ⟨a, b, c⟩ => ⟨a, bz_true b, bz_true c⟩⟩

def HCells (v : HV) : Array Value := #[.int .i64 v.fe, .int .i64 v.now.pl, .int .i64 v.now.si, .slice v.now.x1 v.now.n1 v.now.c1, .slice v.now.x2 v.now.n2 v.now.c2, .slice v.now.x3 v.now.n3 v.now.c3, .slice v.x v.n v.c]

set_option maxHeartbeats 1600000 in
theorem same_any {w : World} {F G : Nat → Prop} {a b : HV} (ha : HAt w F a) (hb : HAt w G b) : Calls Try.prog 24 #[vH a, vH b] w fun e w' => e = .returned (.bool (bz (pH a = pH b))) ∧ Below w.heap.size w w' := by
  obtain ⟨t1, h1⟩ : ∃ t, (a.fe == b.fe) = t := ⟨_, rfl⟩
  rw [pH_eq h1]
  obtain ⟨w0, hw0⟩ : ∃ w0, w0 = (w.alloc (.cells (HCells a) 29)).alloc (.cells (HCells b) 29) := ⟨_, rfl⟩
  have bb : Below w.heap.size w w0 := by rw [hw0]; exact on (al _ _) (al _ _)
  have hC1 := sameShard_any (ha.s.below bb) (hb.s.below bb)
  have HC2 : Hid (∀ W, Below w0.heap.size w0 W → Calls Try.prog 52 #[.slice a.x a.n a.c, .slice b.x b.n b.c, .func (.func 45) #[] #[]] W fun e w' => e = .returned (.bool (bz (a.N.map pS = b.N.map pS))) ∧ Below W.heap.size W w') := fun W hW => equalf_S (Ss.below ha.n (on bb hW)) (Ss.below hb.n (on bb hW))
  have HP : Hid (∀ W, Below w0.heap.size w0 W → W.cell? ⟨w.heap.size, 6, none⟩ = some (.slice a.x a.n a.c) ∧ W.cell? ⟨w.heap.size + 1, 6, none⟩ = some (.slice b.x b.n b.c)) := fun W hW =>
    ⟨keep hW (by rw [hw0]; unfold HCells; go_simp), keep hW (by rw [hw0]; unfold HCells; go_simp)⟩
  generalize bz (pS a.now = pS b.now) = t2 at *
  generalize bz (a.N.map pS = b.N.map pS) = t3 at *
  have HB := hid bb
  clear ha hb bb
  obtain ⟨fe, ⟨pl, si, x1, n1, c1, I, x2, n2, c2, E, x3, n3, c3, U⟩, x, n, c, N⟩ := a
  obtain ⟨fe', ⟨pl', si', y1, m1, d1, I', y2, m2, d2, E', y3, m3, d3, U'⟩, y, m, d, N'⟩ := b
  unfold HCells at hw0
  unfold vH
  unfold vS at hC1
  dsimp only at *
  rw [hw0] at hC1
  have HW := hid hw0
  clear hw0
  cases t1
  · go_enter Try.func24, Try.ntmps24
    go_wp2_with fail
    go_ret
    exact ⟨by simp, by have := HB.out; rw [HW.out] at this; exact this⟩
  cases t2
  · go_enter Try.func24, Try.ntmps24
    go_wp2_with (go_at_call 45; refine hC1.mono ?_; rintro e w1 ⟨rfl, hb1⟩; rw [← HW.out] at hb1)
    go_ret
    exact ⟨by simp, on HB.out hb1⟩
  · go_enter Try.func24, Try.ntmps24
    go_wp2_with (first
      | (go_at_call 45; refine hC1.mono ?_; rintro e w1 ⟨rfl, hb1⟩; rw [← HW.out] at hb1; clear hC1; obtain ⟨p1, p2⟩ := HP.out w1 hb1; have hC2 := HC2.out w1 hb1)
      | (go_at_call 52; refine hC2.mono ?_; rintro e w2 ⟨rfl, hb2⟩))
    go_ret
    exact ⟨by simp, on HB.out (on hb1 hb2)⟩

end Go.Proofs.Ytnfflmndejbepaa.Sh

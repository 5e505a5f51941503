/-
  2 texts of this proof, one behind the other: ShMayP, ShMay1.
-/
import Derived.Test.YtnfflmndejbepaaJShPlain
import Derived.Test.YtnfflmndejbepaaShSmall
import Derived.Test.YtnfflmndejbepaaShSame
/-
  Which items, entries, Undos, shards and holders may be, plainly, piece by piece.
  Conditions: none.
-/
namespace Go.Proofs.Ytnfflmndejbepaa.Sh
set_option linter.unusedVariables false
set_option linter.unusedSimpArgs false
set_option maxRecDepth 100000

def IOk (L : List Itm) : Prop := (∀ x ∈ L, NameOk x.nm ∧ okC x.ch) ∧ Rise L
def LOk (L : List Ent) : Prop := ∀ (i : Nat) (e : Ent), L[i]? = some e → okE e ∧ e.seq = ((i + 1 : Nat) : Int)
def UOk (U : List Und) (L : List Ent) : Prop := ∀ (i : Nat) (u : Und) (e : Ent), U[i]? = some u → L[L.length - U.length + i]? = some e → okU u e

theorem okS_is (s : Shd) : okS s ↔ (s.si = 0 ∧ s = zS) ∨ (s.si ≠ 0 ∧ (1 ≤ s.si ∧ s.si ≤ 1048576) ∧ (0 ≤ s.pl ∧ s.pl ≤ 31) ∧ s.und.length ≤ s.log.length ∧ IOk s.its ∧ LOk s.log ∧ UOk s.und s.log) := by
  unfold okS IOk LOk UOk
  constructor
  · rintro (h | ⟨h0, h1, h2, h3, h4, h5, h6, h7⟩)
    · exact .inl h
    · exact .inr ⟨h0, h1, h2, h3, ⟨h4, h5⟩, h6, h7⟩
  · rintro (h | ⟨h0, h1, h2, h3, ⟨h4, h5⟩, h6, h7⟩)
    · exact .inl h
    · exact .inr ⟨h0, h1, h2, h3, h4, h5, h6, h7⟩

theorem iok_nil : IOk [] := ⟨fun x hx => (by cases hx), List.Pairwise.nil⟩
theorem lok_nil : LOk [] := fun i e h => by simp at h
theorem uok_nil (L : List Ent) : UOk [] L := fun i u e h => by simp at h

theorem rise_at {L : List Itm} (h : Rise L) {i j : Nat} {x y : Itm} (hij : i < j) (hx : L[i]? = some x) (hy : L[j]? = some y) : lt x.nm y.nm := by
  obtain ⟨h1, rfl⟩ := List.getElem?_eq_some_iff.1 hx
  obtain ⟨h2, rfl⟩ := List.getElem?_eq_some_iff.1 hy
  exact List.pairwise_iff_getElem.1 h i j h1 h2 hij

theorem iok_step {L : List Itm} {k : Nat} {y : Itm} (hy : L[k]? = some y) (h : IOk (L.take k)) (h1 : NameOk y.nm) (h2 : okC y.ch) (h3 : ∀ z, 0 < k → L[k - 1]? = some z → lt z.nm y.nm) : IOk (L.take (k + 1)) := by
  rw [List.take_add_one, hy]
  simp only [Option.toList_some]
  refine ⟨fun x hx => ?_, ?_⟩
  · rcases List.mem_append.1 hx with hx | hx
    · exact h.1 x hx
    · rw [List.mem_singleton.1 hx]; exact ⟨h1, h2⟩
  · unfold Rise
    rw [List.pairwise_append]
    refine ⟨h.2, List.pairwise_singleton .., fun a ha b hb => ?_⟩
    rw [List.mem_singleton.1 hb]
    have hk : k < L.length := (List.getElem?_eq_some_iff.1 hy).1
    obtain ⟨i, hi⟩ := List.mem_iff_getElem?.1 ha
    have hil : i < (L.take k).length := (List.getElem?_eq_some_iff.1 hi).1
    rw [List.length_take] at hil
    have hi' : L[i]? = some a := by
      rw [List.getElem?_take] at hi
      split at hi
      · exact hi
      · cases hi
    obtain ⟨z, hz⟩ : ∃ z, L[k - 1]? = some z := ⟨_, List.getElem?_eq_getElem (by omega)⟩
    have hzy := h3 z (by omega) hz
    by_cases e : i = k - 1
    · rw [e, hz] at hi'
      injection hi' with hi'
      rw [← hi']; exact hzy
    · have hz' : (L.take k)[k - 1]? = some z := by
        rw [List.getElem?_take, if_pos (by omega)]; exact hz
      exact lt_tr (rise_at h.2 (by omega) hi hz') hzy

theorem iok_not {L : List Itm} {k : Nat} {y : Itm} (hy : L[k]? = some y) (h : ¬ NameOk y.nm ∨ ¬ okC y.ch ∨ ∃ z, 0 < k ∧ L[k - 1]? = some z ∧ ¬ lt z.nm y.nm) : ¬ IOk L := fun hI => by
  have hm := List.mem_of_getElem? hy
  rcases h with h | h | ⟨z, h0, hz, h⟩
  · exact h (hI.1 y hm).1
  · exact h (hI.1 y hm).2
  · exact h (rise_at hI.2 (by omega) hz hy)

theorem iok_all {L : List Itm} {n : Nat} (hn : L.length = n) (h : IOk (L.take n)) : IOk L := by rwa [List.take_of_length_le (by omega)] at h

theorem okS_si0 {s : Shd} (h : s.si = 0) : okS s ↔ s = zS := by
  rw [okS_is]
  exact ⟨fun k => by rcases k with k | k; exact k.2; exact absurd h k.1, fun k => .inl ⟨h, k⟩⟩

theorem okS_si {s : Shd} (h : s.si ≠ 0) : okS s ↔ (1 ≤ s.si ∧ s.si ≤ 1048576) ∧ (0 ≤ s.pl ∧ s.pl ≤ 31) ∧ s.und.length ≤ s.log.length ∧ IOk s.its ∧ LOk s.log ∧ UOk s.und s.log := by
  rw [okS_is]
  exact ⟨fun k => by rcases k with k | k; exact absurd k.1 h; exact k.2, fun k => .inr ⟨h, k⟩⟩

def nxt (L : List Shd) (s0 : Int) (k : Nat) : Int := match k with | 0 => s0 | k + 1 => (L[k]?.map (·.si)).getD 0

/- Those that stand by, one by one. -/
theorem nexts_take : ∀ {L : List Shd} {s0 fe : Int} {k : Nat} {s : Shd}, L[k]? = some s → (Nexts s0 (L.take (k + 1)) fe ↔ Nexts s0 (L.take k) fe ∧ nxt L s0 k < s.si ∧ s.si ≤ fe ∧ okS s)
  | [], _, _, _, _, h => by simp at h
  | x :: L, s0, fe, 0, s, h => by
    simp at h
    subst h
    simp [Nexts, nxt]
  | x :: L, s0, fe, k + 1, s, h => by
    simp at h
    have ih := nexts_take (s0 := x.si) (fe := fe) h
    rw [List.take_succ_cons, List.take_succ_cons]
    show (_ ∧ _ ∧ _ ∧ Nexts x.si (L.take (k + 1)) fe) ↔ (_ ∧ _ ∧ _ ∧ Nexts x.si (L.take k) fe) ∧ _
    rw [ih]
    have e : nxt (x :: L) s0 (k + 1) = nxt L x.si k := by
      cases k with
      | zero => simp [nxt]
      | succ k => simp [nxt]
    rw [e]
    constructor
    · rintro ⟨a, b, c, d, e⟩; exact ⟨⟨a, b, c, d⟩, e⟩
    · rintro ⟨⟨a, b, c, d⟩, e⟩; exact ⟨a, b, c, d, e⟩

theorem nexts_pre : ∀ {L : List Shd} {s0 fe : Int} (k : Nat), Nexts s0 L fe → Nexts s0 (L.take k) fe
  | _, _, _, 0, _ => by simp [Nexts]
  | [], _, _, k + 1, _ => by simp [Nexts]
  | x :: L, s0, fe, k + 1, h => ⟨h.1, h.2.1, h.2.2.1, nexts_pre k h.2.2.2⟩

theorem nexts_no {L : List Shd} {s0 fe : Int} {k : Nat} {s : Shd} (hs : L[k]? = some s) (h : ¬ (nxt L s0 k < s.si ∧ s.si ≤ fe ∧ okS s)) : ¬ Nexts s0 L fe := fun hN => h ((nexts_take hs).1 (nexts_pre (k + 1) hN)).2

def er (t : Bool) : Int := if t then 0 else 1

end Go.Proofs.Ytnfflmndejbepaa.Sh

/-
  itemsMay and logMay.
  Conditions: the lists lie in memory.
-/
namespace Go.Proofs.Ytnfflmndejbepaa.Sh
set_option linter.unusedSectionVars false
variable [Inhabited DZ]
open Go.RowKit By Fl
set_option linter.unusedVariables false
set_option linter.unusedSimpArgs false
set_option maxRecDepth 100000

/- How two names compare. -/
theorem cmp_is (a b : ByteArray) : ((Op.bytesLess a.toList b.toList || a.toList == b.toList) = false) ↔ lt b a := by
  rw [Na.less_nat, str_eq]
  unfold lt
  by_cases e : a = b
  · subst e
    rw [Na.less_irrefl]
    simp
  · have h := Na.less_total (Na.nat a) (Na.nat b) (fun h => e (Na.nat_inj h))
    cases h1 : Na.lessN (Na.nat a) (Na.nat b) <;> cases h2 : Na.lessN (Na.nat b) (Na.nat a) <;> simp_all

theorem map_get {α β : Type} {f : α → β} {L : List α} {k : Nat} {a : α} (h : L[k]? = some a) : (L.map f)[k]? = some (f a) := by simp [h]

set_option maxHeartbeats 3200000 in
theorem itemsMay_any {w : World} {F : Nat → Prop} {x : Option Addr} {n c : Nat} {L : List IV} (h : Is w F x n c L) :
    Calls Try.prog 46 #[.slice x n c] w fun e w' => e = .returned (.bool (bz (IOk (L.map pI)))) ∧ Below w.heap.size w w' := by
  have HA := hid h
  have hl := h.len
  have hn := h.small
  have HL := hid hl
  have HT : Hid (IOk (L.map pI) → bz (IOk (L.map pI)) = true) := hid bz_true
  have HF : Hid (¬ IOk (L.map pI) → bz (IOk (L.map pI)) = false) := hid bz_false
  generalize bz (IOk (L.map pI)) = R at *
  clear h hl
  go_enter Try.func46, Try.ntmps46
  go_wp2_with fail
  go_loopw [7] (fun i wr => ∃ k : Nat, k ≤ n ∧ i = .int .i64 k ∧ Hid (Below w.heap.size w wr ∧ IOk ((L.map pI).take k))) (fun i _ => n - (intOf i).toNat)
  case atStart => exact ⟨0, by omega, rfl, Below.refl _ _, by simp; exact iok_nil⟩
  case round =>
    obtain ⟨k, hk, rfl, HR⟩ := hrel
    by_cases hlt : k < n
    · have hkn : (k : Int) < (n : Int) := by omega
      obtain ⟨ea, ha1, hm1⟩ := Lis.some HA.out hlt
      have A1 := hid (HA.out.each ea hm1)
      rcases HA.out.row with h0 | ⟨b1, o1, rfl, hb1, _, hc1⟩
      · omega
      obtain ⟨k0, k1, k2, k3⟩ := i_at hc1 ha1
      have hbw := HR.out.1
      have HY : Hid ((L.map pI)[k]? = some (pI ea)) := hid (map_get ha1)
      obtain ⟨w1, hw1⟩ : ∃ w1, w1 = wr.alloc (.cells #[.string ea.nm, .int .i64 ea.ch.sz, .slice ea.ch.x ea.ch.n ea.ch.c, .int .u32 ea.ch.sum] 79) := ⟨_, rfl⟩
      have b1 : Below wr.heap.size wr w1 := by rw [hw1]; exact al _ _
      have hw := on hbw b1
      have HW := hid hw
      replace k0 := keep hbw k0
      replace k1 := keep hbw k1
      replace k2 := keep hbw k2
      replace k3 := keep hbw k3
      have r0 := After.cell (w := w1) (b := wr.heap.size) (o := 0) (v := .string ea.nm) (by rw [hw1]; go_simp)
      have r1 := After.cell (w := w1) (b := wr.heap.size) (o := 1) (v := .int .i64 ea.ch.sz) (by rw [hw1]; go_simp)
      have r2 := After.cell (w := w1) (b := wr.heap.size) (o := 2) (v := .slice ea.ch.x ea.ch.n ea.ch.c) (by rw [hw1]; go_simp)
      have r3 := After.cell (w := w1) (b := wr.heap.size) (o := 3) (v := .int .u32 ea.ch.sum) (by rw [hw1]; go_simp)
      obtain ⟨z, hz, hN0⟩ := ncheck_any ea.nm A1.out.1
      have hN := fun (p : After w1) => hN0 p.W
      have hC := fun (p : After w1) => chunkmay_any (CAt.below A1.out.2 (on hw p.h))
      obtain ⟨tC, htC⟩ : ∃ t, t = bz (okC (pC ea.ch)) := ⟨_, rfl⟩
      rw [← htC] at hC
      have HC := hid htC
      have HZ := hid hz
      obtain ⟨tN, htN⟩ : ∃ t, (z == 0) = t := ⟨_, rfl⟩
      have htN' : (z != 0) = !tN := by unfold bne; rw [htN]
      have HN : Hid (tN = true ↔ NameOk (pI ea).nm) := hid (by show tN = true ↔ NameOk ea.nm; rw [← hz, ← htN]; simp)
      haveI := After.ne w1
      have HWW := hid hw1
      clear hw1
      by_cases h0 : k = 0
      · subst h0
        have HP : Hid (∀ z, 0 < 0 → (L.map pI)[0 - 1]? = some z → lt z.nm (pI ea).nm) := hid (fun z h => by omega)
        clear hc1 ha1 hm1 hb1 hbw hw b1 htC hz hN0
        simp only [Nat.zero_mul, Nat.add_zero] at k0 k1 k2 k3
        obtain ⟨nm, sz, x, m, c', dat, sum⟩ := ea
        unfold vC at hC
        dsimp only at *
        cases tN with
        | false =>
          simp only [Bool.not_false] at htN'
          go_wp2_with fail
          rw [← HWW.out]
          refine wp_region_after (by kernel_rfl) (by kernel_rfl) ?_
          repeat (go_big_quiet_step ((go_at_call 75; refine Calls.after_of (hN _))))
          refine wpQuiet_nil ?_
          rintro _ ⟨q, rfl⟩
          go_wp2_with fail
          go_ret
          exact ⟨by rw [HF.out (iok_not HY.out (.inl fun h => by have := HN.out.2 h; cases this))]; rfl, on HW.out q.h⟩
        | true =>
          simp only [Bool.not_true] at htN'
          cases tC with
          | false =>
            go_wp2_with fail
            rw [← HWW.out]
            refine wp_region_after (by kernel_rfl) (by kernel_rfl) ?_
            repeat (go_big_quiet_step (first | (go_at_call 75; refine Calls.after_of (hN _)) | (go_at_call 60; refine Calls.after_of (hC _))))
            refine wpQuiet_nil ?_
            rintro _ ⟨q, rfl⟩
            go_wp2_with fail
            go_ret
            exact ⟨by rw [HF.out (iok_not HY.out (.inr (.inl (bz_not HC.out.symm))))]; rfl, on HW.out q.h⟩
          | true =>
            go_wp2_with fail
            rw [← HWW.out]
            refine wp_region_after (by kernel_rfl) (by kernel_rfl) ?_
            repeat (go_big_quiet_step (first | (go_at_call 75; refine Calls.after_of (hN _)) | (go_at_call 60; refine Calls.after_of (hC _))))
            refine wpQuiet_nil ?_
            rintro _ ⟨q, rfl⟩
            go_wp2_with fail
            go_roundw
            case rel => exact ⟨1, by omega, by go_num, on HW.out q.h, iok_step HY.out HR.out.2 (HN.out.1 (by trivial)) (bz_of HC.out.symm) HP.out⟩
            case measure => simp [intOf]; omega
      · obtain ⟨j, hj⟩ : ∃ j : Nat, (k : Int) - 1 = (j : Int) := ⟨k - 1, by omega⟩
        have hjk : j = k - 1 := by omega
        have hk0 : 0 < k := by omega
        have hjn : (j : Int) < (n : Int) := by omega
        obtain ⟨ep, hap, hmp⟩ := Lis.some HA.out (k := j) (by omega)
        obtain ⟨l0, _, _, _⟩ := i_at hc1 hap
        have s0 := After.cell (keep hw l0)
        obtain ⟨p1, hp1⟩ : ∃ t, Op.bytesLess ea.nm.toList ep.nm.toList = t := ⟨_, rfl⟩
        obtain ⟨p2, hp2⟩ : ∃ t, (ea.nm.toList == ep.nm.toList) = t := ⟨_, rfl⟩
        have HP : Hid ((p1 || p2) = false ↔ lt (pI ep).nm (pI ea).nm) := hid (by rw [← hp1, ← hp2]; exact cmp_is _ _)
        have HG : Hid ((L.map pI)[k - 1]? = some (pI ep)) := hid (by rw [← hjk]; exact map_get hap)
        have HK : Hid (0 < k) := hid (by omega)
        clear hc1 ha1 hm1 hb1 hbw hw b1 htC hz hN0 hap hmp l0 h0 hjk
        obtain ⟨nm, sz, x, m, c', dat, sum⟩ := ea
        obtain ⟨nm', sz', x', m', c'', dat', sum'⟩ := ep
        unfold vC at hC
        dsimp only at *
        cases tN with
        | false =>
          simp only [Bool.not_false] at htN'
          go_wp2_with fail
          rw [← HWW.out]
          refine wp_region_after (by kernel_rfl) (by kernel_rfl) ?_
          repeat (go_big_quiet_step ((go_at_call 75; refine Calls.after_of (hN _))))
          refine wpQuiet_nil ?_
          rintro _ ⟨q, rfl⟩
          go_wp2_with fail
          go_ret
          exact ⟨by rw [HF.out (iok_not HY.out (.inl fun h => by have := HN.out.2 h; cases this))]; rfl, on HW.out q.h⟩
        | true =>
          simp only [Bool.not_true] at htN'
          cases tC with
          | false =>
            go_wp2_with fail
            rw [← HWW.out]
            refine wp_region_after (by kernel_rfl) (by kernel_rfl) ?_
            repeat (go_big_quiet_step (first | (go_at_call 75; refine Calls.after_of (hN _)) | (go_at_call 60; refine Calls.after_of (hC _))))
            refine wpQuiet_nil ?_
            rintro _ ⟨q, rfl⟩
            go_wp2_with fail
            go_ret
            exact ⟨by rw [HF.out (iok_not HY.out (.inr (.inl (bz_not HC.out.symm))))]; rfl, on HW.out q.h⟩
          | true =>
            obtain ⟨pp, hpp⟩ : ∃ t, (p1 || p2) = t := ⟨_, rfl⟩
            rw [hpp] at HP
            cases pp with
            | false =>
              obtain ⟨rfl, rfl⟩ : p1 = false ∧ p2 = false := by simpa using hpp
              clear hpp
              go_wp2_with fail
              rw [← HWW.out]
              refine wp_region_after (by kernel_rfl) (by kernel_rfl) ?_
              repeat (go_big_quiet_step (first | (go_at_call 75; refine Calls.after_of (hN _)) | (go_at_call 60; refine Calls.after_of (hC _))))
              refine wpQuiet_nil ?_
              rintro _ ⟨q, rfl⟩
              go_wp2_with fail
              go_roundw
              case rel => exact ⟨k + 1, by omega, by go_num, on HW.out q.h, iok_step HY.out HR.out.2 (HN.out.1 (by trivial)) (bz_of HC.out.symm) (fun z _ hz => by have := HG.out.symm.trans hz; injection this with this; rw [← this]; exact HP.out.1 (by trivial))⟩
              case measure => simp [intOf]; omega
            | true =>
              cases p1 <;> cases p2 <;> simp at hpp <;> clear hpp
              all_goals
                go_wp2_with fail
                rw [← HWW.out]
                refine wp_region_after (by kernel_rfl) (by kernel_rfl) ?_
                repeat (go_big_quiet_step (first | (go_at_call 75; refine Calls.after_of (hN _)) | (go_at_call 60; refine Calls.after_of (hC _))))
                refine wpQuiet_nil ?_
                rintro _ ⟨q, rfl⟩
                go_wp2_with fail
                go_ret
                exact ⟨by rw [HF.out (iok_not HY.out (.inr (.inr ⟨_, HK.out, HG.out, fun h => by have := HP.out.2 h; cases this⟩)))]; rfl, on HW.out q.h⟩
    · have hk2 : n = k := by omega
      subst hk2
      go_wp2_with fail
      go_ret
      exact ⟨by rw [HT.out (iok_all (by rw [List.length_map]; exact HL.out) HR.out.2)]; rfl, HR.out.1⟩

theorem lok_step {L : List Ent} {k : Nat} {e : Ent} (he : L[k]? = some e) (h : LOk (L.take k)) (h1 : okE e) (h2 : e.seq = ((k + 1 : Nat) : Int)) : LOk (L.take (k + 1)) := fun i x hx => by
  rw [List.getElem?_take] at hx
  split at hx
  · by_cases e1 : i = k
    · subst e1
      rw [he] at hx
      injection hx with hx
      subst hx
      exact ⟨h1, h2⟩
    · exact h i x (by rw [List.getElem?_take, if_pos (by omega)]; exact hx)
  · cases hx

theorem lok_all {L : List Ent} {n : Nat} (hn : L.length = n) (h : LOk (L.take n)) : LOk L := by rwa [List.take_of_length_le (by omega)] at h

set_option maxHeartbeats 1600000 in
theorem logMay_any {w : World} {F : Nat → Prop} {x : Option Addr} {n c : Nat} {L : List Ent} (h : Es w F x n c L) :
    Calls Try.prog 47 #[.slice x n c] w fun e w' => e = .returned (.bool (bz (LOk L))) ∧ Below w.heap.size w w' := by
  have HA := hid h
  have hl := h.len
  have hn := h.small
  have HL := hid hl
  have HT : Hid (LOk L → bz (LOk L) = true) := hid bz_true
  have HF : Hid (¬ LOk L → bz (LOk L) = false) := hid bz_false
  generalize bz (LOk L) = R at *
  clear h hl
  go_enter Try.func47, Try.ntmps47
  go_wp2_with fail
  go_loopw [7] (fun i wr => ∃ k : Nat, k ≤ n ∧ i = .int .i64 k ∧ Hid (Below w.heap.size w wr ∧ LOk (L.take k))) (fun i _ => n - (intOf i).toNat)
  case atStart => exact ⟨0, by omega, rfl, Below.refl _ _, by simp; exact lok_nil⟩
  case round =>
    obtain ⟨k, hk, rfl, HR⟩ := hrel
    by_cases hlt : k < n
    · have hkn : (k : Int) < (n : Int) := by omega
      obtain ⟨ea, ha1, hm1⟩ := Lis.some HA.out hlt
      have A1 := hid (HA.out.each ea hm1)
      rcases HA.out.row with h0 | ⟨b1, o1, rfl, hb1, _, hc1⟩
      · omega
      obtain ⟨k0, k1, k2, k3, k4, k5, k6⟩ := e_at hc1 ha1
      have hbw := HR.out.1
      have HY := hid ha1
      have hC := entrymay_any (w := wr.alloc (.cells #[.int .i64 ea.seq, .int .i64 ea.cl, .int .i64 ea.ks, .string ea.nm, .int .i64 ea.code, .bool ea.gone, .int .i64 ea.sz] 67)) (F := F) A1.out
      obtain ⟨tC, htC⟩ : ∃ t, t = bz (okE ea) := ⟨_, rfl⟩
      rw [← htC] at hC
      have HC := hid htC
      obtain ⟨v, hv⟩ : ∃ t, (ea.seq == (k : Int) + 1) = t := ⟨_, rfl⟩
      have hv' : (ea.seq != (k : Int) + 1) = !v := by unfold bne; rw [hv]
      have HV : Hid (v = true ↔ ea.seq = ((k + 1 : Nat) : Int)) := hid (by rw [← hv]; simp)
      replace k0 := keep hbw k0
      replace k1 := keep hbw k1
      replace k2 := keep hbw k2
      replace k3 := keep hbw k3
      replace k4 := keep hbw k4
      replace k5 := keep hbw k5
      replace k6 := keep hbw k6
      have HB := hid (on hbw (al wr (.cells #[.int .i64 ea.seq, .int .i64 ea.cl, .int .i64 ea.ks, .string ea.nm, .int .i64 ea.code, .bool ea.gone, .int .i64 ea.sz] 67)))
      clear hc1 ha1 hm1 hb1 hbw htC
      obtain ⟨f0, f1, f2, f3, f4, f5, f6⟩ := ea
      unfold vE at hC
      dsimp only at *
      cases v with
      | false =>
        simp only [Bool.not_false] at hv'
        go_wp2_with fail
        go_ret
        exact ⟨by rw [HF.out fun h => by have := HV.out.2 (h k _ HY.out).2; cases this]; rfl, HB.out⟩
      | true =>
        simp only [Bool.not_true] at hv'
        cases tC with
        | false =>
          go_wp2_with (go_at_call 59; refine hC.mono ?_; rintro e w2 ⟨rfl, hb2⟩)
          go_ret
          exact ⟨by rw [HF.out fun h => bz_not HC.out.symm (h k _ HY.out).1]; rfl, on HB.out hb2⟩
        | true =>
          go_wp2_with (go_at_call 59; refine hC.mono ?_; rintro e w2 ⟨rfl, hb2⟩)
          go_roundw
          case rel => exact ⟨k + 1, by omega, by go_num, on HB.out hb2, lok_step HY.out HR.out.2 (bz_of HC.out.symm) (HV.out.1 (by trivial))⟩
          case measure => simp [intOf]; omega
    · have hk2 : n = k := by omega
      subst hk2
      go_wp2_with fail
      go_ret
      exact ⟨by rw [HT.out (lok_all HL.out HR.out.2)]; rfl, HR.out.1⟩

end Go.Proofs.Ytnfflmndejbepaa.Sh

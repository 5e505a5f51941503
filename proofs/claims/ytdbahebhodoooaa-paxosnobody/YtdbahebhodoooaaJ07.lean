/-
  4 texts of this proof, one behind the other: PxDec2, PxDec3, PxDel, BaAccV.
-/
import Derived.Test.YtdbahebhodoooaaJ06
import Derived.Test.YtdbahebhodoooaaJ03
/-
  Package paxos: ballots and lists of decrees read; which decrees and acceptors may be.
  Conditions: bytes that are looked at lie in memory.
-/
namespace Go.Proofs.Ytdbahebhodoooaa.Px
open Go.RowKit Wi By Fl Ba
set_option linter.unusedVariables false
set_option linter.unusedSimpArgs false
set_option maxRecDepth 100000

theorem rbal_any {p N : Nat} {l : List Nat} {e : Nat} {w : World} (n : Nat) (hn : n ≤ 7) (h : Rdr w p N l e) (hNw : N ≤ w.heap.size) :
    Calls Try.prog 43 #[.pointer (some ⟨p, 0, none⟩), .int .i64 n] w fun ed w' => ed = .returned (bt (rBal n l e).1) ∧ Hid (Turns (atB p) w w' ∧ Rdr w' p N (rBal n l e).2.1 (rBal n l e).2.2) := by
  have hp := h.lt
  have hA := fun W (hW : Rdr W p N l e) => numR 2147483647 hW (by omega) (by omega)
  have HE : Hid (rBal n l e = ((((rNum 2147483647 l e).1 : Int), ((rNum ((n : Int) - 1) (rNum 2147483647 l e).2.1 (rNum 2147483647 l e).2.2).1 : Int)), (rNum ((n : Int) - 1) (rNum 2147483647 l e).2.1 (rNum 2147483647 l e).2.2).2)) := rfl
  generalize rBal n l e = D at *
  have h0 : ∀ o, Rdr (w.alloc o) p N l e := fun o => h.below (al _ _)
  have HNw : Hid (N ≤ w.heap.size) := hNw
  have nI : (n : Int) ≤ 7 := by omega
  clear h hn hNw
  generalize rNum 2147483647 l e = A at *
  have hB := fun W (hW : Rdr W p N A.2.1 A.2.2) => numR ((n : Int) - 1) hW (by omega) (by omega)
  generalize rNum ((n : Int) - 1) A.2.1 A.2.2 = B at *
  go_enter Try.func43, Try.ntmps43
  go_wp2_with (first
    | (
       go_at_call 40; refine (hA _ (h0 _)).mono ?_; rintro e w1 ⟨rfl, H1⟩; clear hA h0
       have r0 := keepn H1.out.1 (b := w.heap.size) (o := 0) (x := .int .i64 0) (by omega) (by go_simp)
       have r1 := keepn H1.out.1 (b := w.heap.size) (o := 1) (x := .int .i64 0) (by omega) (by go_simp)
       have f0 := keepnf H1.out.1 (b := w.heap.size) (o := 0) (by omega) (by simp) (by go_simp)
       have f1 := keepnf H1.out.1 (b := w.heap.size) (o := 1) (by omega) (by simp) (by go_simp))
    | (
       go_at_call 40; refine (hB _ H1.out.2).mono ?_; rintro e w2 ⟨rfl, H2⟩; clear hB
       have lt2 : w.heap.size < w1.heap.size := cell_lt' r0
       have r0 := keepn H2.out.1 (b := w.heap.size) (by omega) r0
       have r1 := keepn H2.out.1 (b := w.heap.size) (by omega) r1
       have f0 := keepnf H2.out.1 (b := w.heap.size) (by omega) (by omega) f0
       have f1 := keepnf H2.out.1 (b := w.heap.size) (by omega) (by omega) f1
       clear lt2))
  refine bodyPost_ret (v := .agg #[.int .i64 (A.1 : Nat), .int .i64 (B.1 : Nat)]) ?_ rfl ?_
  · rw [results_cell1 rfl]
    go_simp
  · have T : Turns (fun k => k = p ∨ k = w.heap.size) (w.alloc (.cells #[.int .i64 0, .int .i64 0] 72)) w2 := (H1.out.1.trans H2.out.1).weak fun k e => .inl e
    have T2 := (T.setCell (p := ⟨w.heap.size, 0, none⟩) (.inl (.inr rfl)) (.int .i64 (A.1 : Nat))).setCell (p := ⟨w.heap.size, 1, none⟩) (.inl (.inr rfl)) (.int .i64 (B.1 : Nat))
    have T3 : Turns (atB w.heap.size) w2 ((w2.setCell ⟨w.heap.size, 0, none⟩ (.int .i64 (A.1 : Nat))).setCell ⟨w.heap.size, 1, none⟩ (.int .i64 (B.1 : Nat))) :=
      turns_put (turns_put (Turns.refl _ w2) 0 _) 1 _
    refine ⟨by rw [HE.out]; rfl, turns_new T2, ?_⟩
    rw [HE.out]
    exact H2.out.2.turns T3 (fun e => by have e2 : p = w.heap.size := e; omega) (fun k e => by have e2 : k = w.heap.size := e; have := HNw.out; omega)

theorem told_any (a b : Nat) (w : World) (ha : a ≤ 2147483647) (hb : b ≤ 2147483647) : Calls Try.prog 42 #[.int .i64 a, .int .i64 b] w fun e w' => e = .returned (.int .i64 (told a b)) ∧ w' = w := by
  have i1 : (a : Int) ≤ 2147483647 := by omega
  have i2 : (b : Int) ≤ 2147483647 := by omega
  unfold told
  by_cases h : (b : Int) - a + 1 ≤ 64
  · rw [Int.min_eq_left h]
    go_enter Try.func42, Try.ntmps42
    go_wp2_with fail
    all_goals first | omega | (go_ret; exact ⟨rfl, rfl⟩)
  · have h2 : 64 < (b : Int) - a + 1 := by omega
    rw [Int.min_eq_right (by omega)]
    go_enter Try.func42, Try.ntmps42
    go_wp2_with fail
    all_goals first | omega | (go_ret; exact ⟨rfl, rfl⟩)

/- A row of decrees. -/
def encD (d : Dc) : List Value := [.int .i64 d.mon, .int .i64 d.ser, .string d.val]

theorem drow : Row 59 68 3 32 encD := by
  have hi : (Try.prog.info? 68).map (fun i => (i.zero, i.size, i.bytes)) = some (some (.agg #[.int .i64 0, .int .i64 0, .string ⟨#[]⟩]), 3, 32) := by kernel_rfl
  obtain ⟨i0, h1, h2, h3, h4⟩ := info_parts hi
  exact ⟨Try.underlying59, ⟨i0, _, h1, h2, h3, h4, rfl⟩, by decide, by decide, fun a => rfl, fun a v hv => by simp [encD] at hv; rcases hv with rfl | rfl | rfl <;> rfl⟩

/- A list of decrees that is read. -/
def DcsAt (w : World) (x : Option Addr) (L : List Dc) : Prop :=
  L.length = 0 ∨ ∃ b o, x = some ⟨b, o, none⟩ ∧ b < w.heap.size ∧ ∀ i d, L[i]? = some d → w.cell? ⟨b, o + i * 3, none⟩ = some (.int .i64 d.mon) ∧ w.cell? ⟨b, o + i * 3 + 1, none⟩ = some (.int .i64 d.ser) ∧ w.cell? ⟨b, o + i * 3 + 2, none⟩ = some (.string d.val)

theorem DcsAt.below {w w' : World} {x : Option Addr} {L : List Dc} (h : DcsAt w x L) (t : Below w.heap.size w w') : DcsAt w' x L := by
  rcases h with h0 | ⟨b, o, rfl, hb, hc⟩
  · exact .inl h0
  · exact .inr ⟨b, o, rfl, Nat.lt_of_lt_of_le hb t.size, fun i d hi => ⟨keep t (hc i d hi).1, keep t (hc i d hi).2.1, keep t (hc i d hi).2.2⟩⟩

theorem allmay_any (x : Option Addr) (n c : Nat) (L : List Dc) (w : World) (h : DcsAt w x L) (hL : L.length = n) (hn : n ≤ 140737488355328) :
    Calls Try.prog 67 #[.slice x n c] w fun e w' => e = .returned (.bool (L.all fun d => decide (1 ≤ d.ser))) ∧ Hid (Below w.heap.size w w') := by
  have HA : Hid (DcsAt w x L ∧ L.length = n) := ⟨h, hL⟩
  clear h hL
  go_enter Try.func67, Try.ntmps67
  go_wp2_with fail
  go_loopw [7, 4] (fun i _ wr => ∃ k : Nat, k ≤ n ∧ i = .int .i64 k ∧ Hid (Below w.heap.size w wr ∧ (L.take k).all (fun d => decide (1 ≤ d.ser)) = true)) (fun i _ _ => n - (intOf i).toNat)
  case atStart => exact ⟨0, by omega, rfl, Below.refl _ _, by simp⟩
  case round =>
    obtain ⟨k, hk, rfl, HR⟩ := hrel
    by_cases hlt : k < n
    · have hkn : (k : Int) < (n : Int) := by omega
      have hA := HA.out.1.below HR.out.1
      have hl2 := HA.out.2
      obtain ⟨b, o, rfl, hb, hc⟩ := hA.resolve_left (by omega)
      obtain ⟨d, hd⟩ : ∃ d, L[k]? = some d := ⟨L[k]'(by omega), List.getElem?_eq_getElem (by omega)⟩
      obtain ⟨c0, c1, c2⟩ := hc k d hd
      have hM := fun W => dmay_any d W
      have htk : (L.take (k + 1)).all (fun d => decide (1 ≤ d.ser)) = decide (1 ≤ d.ser) := by
        rw [List.take_add_one, hd, List.all_append, HR.out.2]
        simp
      have hal : decide (1 ≤ d.ser) = false → L.all (fun d => decide (1 ≤ d.ser)) = false := fun hf => by
        rw [List.all_eq_false]
        exact ⟨d, List.mem_of_getElem? hd, by simpa using hf⟩
      have HT : Hid ((L.take (k + 1)).all (fun d => decide (1 ≤ d.ser)) = decide (1 ≤ d.ser) ∧ (decide (1 ≤ d.ser) = false → L.all (fun d => decide (1 ≤ d.ser)) = false)) := ⟨htk, hal⟩
      clear hA hc hb hd htk hal hl2 HA
      obtain ⟨mon, ser, s⟩ := d
      dsimp only [dv] at *
      cases ht : decide (1 ≤ ser) with
      | true =>
        rw [ht] at hM
        rw [ht] at HT
        clear ht
        go_wp2_with (first
          | (
             go_at_call 83; refine (hM _).mono ?_; rintro e w1 ⟨rfl, hb1⟩; clear hM
             have B1 := on (al _ _) hb1
             clear hb1))
        go_roundw
        case rel => exact ⟨k + 1, by omega, by go_num, on HR.out.1 B1, HT.out.1⟩
        case measure => simp [intOf]; omega
      | false =>
        rw [ht] at hM
        rw [ht] at HT
        clear ht
        go_wp2_with (first
          | (
             go_at_call 83; refine (hM _).mono ?_; rintro e w1 ⟨rfl, hb1⟩; clear hM
             have B1 := on (al _ _) hb1
             clear hb1))
        go_ret
        exact ⟨by rw [HT.out.2 trivial]; rfl, on HR.out.1 B1⟩
    · obtain rfl : k = n := by omega
      go_wp2_with fail
      go_ret
      have := HR.out.2
      rw [List.take_of_length_le (by rw [HA.out.2]; exact Nat.le_refl _)] at this
      exact ⟨by rw [this]; rfl, HR.out.1⟩

end Go.Proofs.Ytdbahebhodoooaa.Px

/-
  Package paxos: readDecrees, mayState.
  Conditions: bytes that are looked at lie in memory.
-/
namespace Go.Proofs.Ytdbahebhodoooaa.Px
open Go.RowKit Wi By Fl Ba
set_option linter.unusedVariables false
set_option linter.unusedSimpArgs false
set_option maxRecDepth 100000

def lenV (v : Value) : Nat := match v with | .slice _ n _ => n | _ => 0

abbrev OwnD (w : World) (B : Nat) (R : Value) (L : List Dc) : Prop := Own w B 68 3 encD R L

theorem new_dc (v : World) (t : TypeId) (d : Dc) : ∀ j u, (flat encD [d])[j]? = some u → (v.alloc (.cells #[.int .i64 d.mon, .int .i64 d.ser, .string d.val] t)).cell? ((⟨v.heap.size, 0, none⟩ : Addr).add j) = some u := fun j u hj => by
  rw [add_at, Nat.zero_add]
  rw [flat_one] at hj
  match j, hj with
  | 0, hj => simpa [encD] using hj
  | 1, hj => simpa [encD] using hj
  | 2, hj => simpa [encD] using hj
  | j + 3, hj => simp [encD] at hj

/- One decree more behind a row of one's own. -/
theorem push_dc {w : World} {B : Nat} {R : Value} {L : List Dc} (h : OwnD w B R L) (hB : B ≤ w.heap.size) (d : Dc) (hs : L.length ≤ 90000) :
    ∃ x' c' w', (Builtin.append_ #[59, 59] 59 #[R, .slice (some ⟨w.heap.size, 0, none⟩) 1 1]).run Try.prog (w.alloc (.cells #[.int .i64 d.mon, .int .i64 d.ser, .string d.val] 68)) = .ok (.slice x' (L.length + 1) c') w' ∧
      Hid (OwnD w' B (.slice x' (L.length + 1) c') (L ++ [d]) ∧ Turns (fun j => R.ownBlock = some j) w w' ∧ ∀ g, (Value.slice x' (L.length + 1) c').ownBlock = some g → R.ownBlock = some g ∨ w.heap.size ≤ g) := by
  have hb := al w (.cells #[.int .i64 d.mon, .int .i64 d.ser, .string d.val] 68)
  obtain ⟨x', c', w', h1, H⟩ := (h.below hb).push drow (by simp; omega) ⟨w.heap.size, 0, none⟩ 1 1 [d] rfl (new_dc w _ d) (by omega)
  refine ⟨x', c', w', h1, H.out.1, ?_, fun g hg => ?_⟩
  · exact ((Turns.refl _ w).alloc _).trans H.out.2.1
  · rcases H.out.2.2 g hg with q | q
    · exact .inl q
    · right
      rw [q]
      simp

theorem rDcs_bad (n : Nat) (k : Nat) (l : List Nat) (e : Nat) (h : e ≠ 0) : rDcs n k l e = ([], l, e) := by
  cases k with
  | zero => rfl
  | succ k => unfold rDcs; rw [if_neg h]

theorem rDcs_ok (n : Nat) (k : Nat) (l : List Nat) : rDcs n (k + 1) l 0 = ((rDc n l 0).1 :: (rDcs n k (rDc n l 0).2.1 (rDc n l 0).2.2).1, (rDcs n k (rDc n l 0).2.1 (rDc n l 0).2.2).2) := by
  conv => lhs; unfold rDcs
  rw [if_pos rfl]

structure RSt (w wr : World) (p N n cnt : Nat) (l : List Nat) (e : Nat) (R : Value) (L : List Dc) (l' : List Nat) (e' : Nat) : Prop where
  own : OwnD wr w.heap.size R L
  rd : Rdr wr p N l' e'
  t : Turns (fun k => k = p ∨ w.heap.size ≤ k) w wr
  le : L.length ≤ cnt
  eq : rDcs n cnt l e = (L ++ (rDcs n (cnt - L.length) l' e').1, (rDcs n (cnt - L.length) l' e').2)

theorem rdcs_any {p N : Nat} {l : List Nat} {e : Nat} {w : World} (n : Nat) (hn : n ≤ 7) (c : Int) (hc : c ≤ 64) (hc0 : -4294967296 ≤ c) (h : Rdr w p N l e) (hNw : N ≤ w.heap.size) :
    Calls Try.prog 41 #[.pointer (some ⟨p, 0, none⟩), .int .i64 c, .int .i64 n] w fun ed w' => ∃ x m cy, ed = .returned (.slice x m cy) ∧ Hid (OwnD w' w.heap.size (.slice x m cy) (rDcs n c.toNat l e).1 ∧ Turns (atB p) w w' ∧ Rdr w' p N (rDcs n c.toNat l e).2.1 (rDcs n c.toNat l e).2.2) := by
  have hp := h.lt
  have HN : Hid (N ≤ w.heap.size ∧ n ≤ 7) := ⟨hNw, hn⟩
  have H0 : Hid (RSt w w p N n c.toNat l e (.slice none 0 0) [] l e) := ⟨Own.nil _ _ _ _ _, h, Turns.refl _ _, by simp, by simp⟩
  have hfin : ∀ {wr R L l' e'}, RSt w wr p N n c.toNat l e R L l' e' → (rDcs n (c.toNat - L.length) l' e' = ([], l', e')) → ∃ x m cy, R = .slice x m cy ∧ Hid (OwnD wr w.heap.size (.slice x m cy) (rDcs n c.toNat l e).1 ∧ Turns (atB p) w wr ∧ Rdr wr p N (rDcs n c.toNat l e).2.1 (rDcs n c.toNat l e).2.2) := fun {wr R L l' e'} k q => by
    obtain ⟨x, cy, rfl, _⟩ := k.own.form
    refine ⟨x, _, cy, rfl, ?_⟩
    rw [k.eq, q]
    simp only [List.append_nil]
    exact ⟨k.own, ⟨k.t.os, k.t.tape, k.t.output, k.t.size, fun i hi hg => k.t.block i hi (fun e => by rcases e with e | e; exact hg e; omega)⟩, k.rd⟩
  clear h hNw hn
  go_enter Try.func41, Try.ntmps41
  go_wp2_with fail
  go_loopw [7] (fun out wr => ∃ (x : Option Addr) (m cy : Nat) (L : List Dc) (l' : List Nat) (e' : Nat), out = .slice x m cy ∧ m = L.length ∧ Hid (RSt w wr p N n c.toNat l e (.slice x m cy) L l' e')) (fun out _ => c.toNat - lenV out)
  case atStart => exact ⟨none, 0, 0, [], l, e, rfl, rfl, H0.out⟩
  case round =>
    obtain ⟨x, m, cy, L, l', e', rfl, hm, HR⟩ := hrel
    clear H0
    by_cases hlt : (m : Int) < c
    · have hE := errR HR.out.rd
      by_cases he : e' = 0
      · subst he
        have hD := rdc_any n HN.out.2 HR.out.rd (Nat.le_trans HN.out.1 HR.out.t.size)
        have HX : Hid (∀ w1, Hid (Turns (atB p) wr w1 ∧ Rdr w1 p N (rDc n l' 0).2.1 (rDc n l' 0).2.2) → ∃ x2 c2 w2, (Builtin.append_ #[59, 59] 59 #[.slice x m cy, .slice (some ⟨w1.heap.size, 0, none⟩) 1 1]).run Try.prog (w1.alloc (.cells #[.int .i64 (rDc n l' 0).1.mon, .int .i64 (rDc n l' 0).1.ser, .string (rDc n l' 0).1.val] 68)) = .ok (.slice x2 (m + 1) c2) w2 ∧
            Hid (RSt w w2 p N n c.toNat l e (.slice x2 (m + 1) c2) (L ++ [(rDc n l' 0).1]) (rDc n l' 0).2.1 (rDc n l' 0).2.2)) := fun w1 H1 => by
          have k := HR.out
          have ho1 : OwnD w1 w.heap.size (.slice x m cy) L := k.own.turns H1.out.1 (fun g hg e => by
            have e2 : g = p := e
            have := (k.own.tb hg).1
            omega)
          obtain ⟨x2, c2, w2, h1, H2⟩ := push_dc ho1 (Nat.le_trans k.t.size H1.out.1.size) (rDc n l' 0).1 (by have := k.le; omega)
          rw [← hm] at h1 H2
          have t2 : Turns (fun k => k = p ∨ w.heap.size ≤ k) w w2 := (k.t.more H1.out.1 (fun i hi => .inl (.inl hi))).more H2.out.2.1 (fun i hi => .inr (ho1.tb hi).1)
          refine ⟨x2, c2, w2, h1, H2.out.1, H1.out.2.turns H2.out.2.1 (fun e => ?_) (fun i hi => ?_), t2, ?_, ?_⟩
          · have := (ho1.tb e).1
            omega
          · have := (ho1.tb hi).1
            have := HN.out.1
            omega
          · simp
            omega
          · rw [k.eq, List.length_append, List.length_singleton]
            obtain ⟨q, hq⟩ : ∃ q, c.toNat - L.length = q + 1 := ⟨c.toNat - L.length - 1, by omega⟩
            rw [hq, rDcs_ok, show c.toNat - (L.length + 1) = q by omega]
            simp
        generalize rDc n l' 0 = D at *
        obtain ⟨⟨mon, ser, s⟩, l2, e2⟩ := D
        dsimp only [dv] at *
        have hm2 : Hid (m = L.length) := hm
        have nI : Hid (m < c.toNat) := by show m < c.toNat; omega
        clear hm hfin
        go_wp2_with (first
          | (
             go_at_call 61; refine hE.mono ?_; rintro e w' ⟨rfl, hw'⟩; subst w'; clear hE)
          | (
             go_at_call 64; refine hD.mono ?_; rintro e w1 ⟨rfl, H1⟩; clear hD
             obtain ⟨x2, c2, w2, hap, H2⟩ := HX.out w1 H1
             clear HX)
          | (
             at_builtin; refine wpList_append_run rfl _ _ 59 rfl _ _ rfl rfl hap ?_; clear hap))
        go_roundw
        case rel => exact ⟨x2, m + 1, c2, _, _, _, rfl, by simp [hm2.out], H2.out⟩
        case measure =>
          have := nI.out
          simp [lenV]
          omega
      · have hne : ((e' : Int) == 0) = false := by simp; omega
        obtain ⟨x3, m3, c3, he3, H3⟩ := hfin HR.out (rDcs_bad n _ l' e' he)
        clear hfin HR he
        go_wp2_with (first
          | (
             go_at_call 61; refine hE.mono ?_; rintro e w' ⟨rfl, hw'⟩; subst w'; clear hE))
        go_ret
        exact ⟨x, m, cy, by rw [hm]; rfl, H3.out⟩
    · obtain ⟨x3, m3, c3, he3, H3⟩ := hfin HR.out (by
        rw [show c.toNat - L.length = 0 by omega]
        rfl)
      clear hfin HR
      go_wp2_with fail
      go_ret
      exact ⟨x, m, cy, by rw [hm]; rfl, H3.out⟩

theorem eq_z0 (b : Bt) (w : World) : (binOp .eql 72 (.agg #[.int .i64 b.1, .int .i64 b.2]) (.agg #[.int .i64 0, .int .i64 0])).run Try.prog w = .ok (.bool (zb b)) w := by
  rw [eq_bt]
  rfl

theorem maystate_any (a : Ac) (x : Option Addr) (c : Nat) (k : Nat) (hk : k ≤ 7) (w : World) (hl : Fl.Sl w x a.d.length c a.d) (hn : a.d.length ≤ 140737488355328) :
    Calls Try.prog 66 #[ac a.p a.a x a.d.length c, .int .i64 k] w fun e w' => e = .returned (.bool (mayState a k)) ∧ Hid (Below w.heap.size w w') := by
  obtain ⟨p, b, d⟩ := a
  dsimp only at *
  have hM := fun W => mayA_any p b x d.length c W
  have hD := fun W h => dof_any x d.length c d k hk W h hn
  have hz1 := fun W => eq_z0 p W
  have hz2 := fun W => eq_z0 b W
  have HL : Hid (Fl.Sl w x d.length c d) := hl
  unfold mayState
  dsimp only
  clear hl hn hk
  generalize mayA p b d.length = tm at *
  generalize zb p = tp at *
  generalize zb b = tb at *
  generalize dOf k d = td at *
  generalize d.length = n at *
  obtain ⟨p1, p2⟩ := p
  obtain ⟨a1, a2⟩ := b
  dsimp only [ac] at *
  have b0 : ∀ o, Below w.heap.size w (w.alloc o) := fun o => al _ _
  cases tm with
  | false =>
    go_enter Try.func66, Try.ntmps66
    go_wp2_with (first
      | (
         go_at_call 81; refine (hM _).mono ?_; rintro e w1 ⟨rfl, hb1⟩; clear hM))
    go_ret
    exact ⟨by simp, on (b0 _) hb1⟩
  | true =>
  cases tp with
  | true =>
    go_enter Try.func66, Try.ntmps66
    go_wp2_with (first
      | (
         go_at_call 81; refine (hM _).mono ?_; rintro e w1 ⟨rfl, hb1⟩; clear hM
         have k0 := keep hb1 (b := w.heap.size) (o := 0) (x := .int .i64 p1) (by first | assumption | go_simp)
         have k1 := keep hb1 (b := w.heap.size) (o := 1) (x := .int .i64 p2) (by first | assumption | go_simp)
         have k2 := keep hb1 (b := w.heap.size) (o := 2) (x := .int .i64 a1) (by first | assumption | go_simp)
         have k3 := keep hb1 (b := w.heap.size) (o := 3) (x := .int .i64 a2) (by first | assumption | go_simp)
         have k4 := keep hb1 (b := w.heap.size) (o := 4) (x := .slice x n c) (by first | assumption | go_simp)
         have B1 := on (b0 _) hb1; clear hb1))
    go_ret
    exact ⟨by simp, B1⟩
  | false =>
  cases tb with
  | true =>
    go_enter Try.func66, Try.ntmps66
    go_wp2_with (first
      | (
         go_at_call 81; refine (hM _).mono ?_; rintro e w1 ⟨rfl, hb1⟩; clear hM
         have k0 := keep hb1 (b := w.heap.size) (o := 0) (x := .int .i64 p1) (by first | assumption | go_simp)
         have k1 := keep hb1 (b := w.heap.size) (o := 1) (x := .int .i64 p2) (by first | assumption | go_simp)
         have k2 := keep hb1 (b := w.heap.size) (o := 2) (x := .int .i64 a1) (by first | assumption | go_simp)
         have k3 := keep hb1 (b := w.heap.size) (o := 3) (x := .int .i64 a2) (by first | assumption | go_simp)
         have k4 := keep hb1 (b := w.heap.size) (o := 4) (x := .slice x n c) (by first | assumption | go_simp)
         have B1 := on (b0 _) hb1; clear hb1))
    go_ret
    exact ⟨by simp, B1⟩
  | false =>
    go_enter Try.func66, Try.ntmps66
    go_wp2_with (first
      | (
         go_at_call 81; refine (hM _).mono ?_; rintro e w1 ⟨rfl, hb1⟩; clear hM
         have k0 := keep hb1 (b := w.heap.size) (o := 0) (x := .int .i64 p1) (by first | assumption | go_simp)
         have k1 := keep hb1 (b := w.heap.size) (o := 1) (x := .int .i64 p2) (by first | assumption | go_simp)
         have k2 := keep hb1 (b := w.heap.size) (o := 2) (x := .int .i64 a1) (by first | assumption | go_simp)
         have k3 := keep hb1 (b := w.heap.size) (o := 3) (x := .int .i64 a2) (by first | assumption | go_simp)
         have k4 := keep hb1 (b := w.heap.size) (o := 4) (x := .slice x n c) (by first | assumption | go_simp)
         have B1 := on (b0 _) hb1; clear hb1)
      | (
         go_at_call 82; refine (hD _ (HL.out.below B1)).mono ?_; rintro e w2 ⟨rfl, H2⟩; clear hD
         dsimp only [dv] at *))
    go_ret
    exact ⟨by simp, (on B1 H2.out).alloc (on B1 H2.out).size _⟩

end Go.Proofs.Ytdbahebhodoooaa.Px

/-
  slices.IndexFunc and slices.DeleteFunc at decrees, with what learn asks of each.
  Conditions: the row is one's own.
-/
namespace Go.Proofs.Ytdbahebhodoooaa.Px
open Go.RowKit Wi By Fl Ba
set_option linter.unusedVariables false
set_option linter.unusedSimpArgs false
set_option maxRecDepth 100000

def hitD (d m : Dc) : Bool := decide (m.mon = d.mon) && decide (m.ser = d.ser)

def Box2 (w : World) (bx : Nat) (d : Dc) : Prop := w.cell? ⟨bx, 0, none⟩ = some (.int .i64 d.mon) ∧ w.cell? ⟨bx, 1, none⟩ = some (.int .i64 d.ser)

theorem Box2.lt {w : World} {bx : Nat} {d : Dc} (h : Box2 w bx d) : bx < w.heap.size := cell_lt' h.1
theorem Box2.below {w w' : World} {bx : Nat} {d : Dc} (h : Box2 w bx d) (b : Below w.heap.size w w') : Box2 w' bx d := ⟨keep b h.1, keep b h.2⟩
theorem Box2.turns {w w' : World} {bx g : Nat} {d : Dc} (h : Box2 w bx d) (t : Turns (fun k => k = g) w w') (hg : bx ≠ g) : Box2 w' bx d := ⟨keept t hg h.1, keept t hg h.2⟩

theorem clos_any (w : World) (bx : Nat) (m d : Dc) (hb : Box2 w bx d) :
    Calls Try.prog 76 #[.agg #[.int .i64 m.mon, .int .i64 m.ser, .string m.val], .pointer (some ⟨bx, 0, none⟩)] w fun e w' => e = .returned (.bool (hitD d m)) ∧ Below w.heap.size w w' := by
  have hlt := hb.lt
  obtain ⟨k0, k1⟩ := hb.below (al w (.cells #[.int .i64 m.mon, .int .i64 m.ser, .string m.val] 68))
  obtain ⟨m1, m2, s⟩ := m
  obtain ⟨d1, d2, ds⟩ := d
  unfold hitD
  dsimp only at *
  by_cases h1 : m1 = d1
  · subst h1
    by_cases h2 : m2 = d2
    · subst h2
      go_enter Try.func76, Try.ntmps76
      go_wp2_with fail
      go_ret
      exact ⟨by simp, al _ _⟩
    · have q2 : ((m2 : Int) == (d2 : Int)) = false := by simp; omega
      go_enter Try.func76, Try.ntmps76
      go_wp2_with fail
      go_ret
      exact ⟨by simp [h2], al _ _⟩
  · have q1 : ((m1 : Int) == (d1 : Int)) = false := by simp; omega
    go_enter Try.func76, Try.ntmps76
    go_wp2_with fail
    go_ret
    exact ⟨by simp [h1], al _ _⟩

section
variable {w : World} {B : Nat} {L : List Dc}

theorem index_any {g n c bx : Nat} (node : Dc) (h : Own w B 68 3 encD (.slice (some ⟨g, 0, none⟩) n c) L) (hb : Box2 w bx node) :
    Calls Try.prog 92 #[.slice (some ⟨g, 0, none⟩) n c, .func (.func 76) #[] #[.pointer (some ⟨bx, 0, none⟩)]] w fun e w' => ∃ r : Int, e = .returned (.int .i64 r) ∧
      Hid (Below w.heap.size w w' ∧ ((r = -1 ∧ ∀ (j : Nat) (m : Dc), L[j]? = some m → (hitD node m) = false) ∨ ∃ k, r = (k : Nat) ∧ k < n ∧ (∀ m : Dc, L[k]? = some m → (hitD node m) = true) ∧ ∀ (j : Nat) (m : Dc), j < k → L[j]? = some m → (hitD node m) = false)) := by
  obtain ⟨hL, _, hnc, hcm, _⟩ := h.heap
  have hm : n ≤ 9223372036854775807 := by unfold maxLen at hcm; omega
  have HO : Hid (Own w B 68 3 encD (.slice (some ⟨g, 0, none⟩) n c) L) := h
  have HB : Hid (Box2 w bx node) := hb
  clear h hb hcm
  go_enter Try.func92, Try.ntmps92
  go_wp2_with fail
  go_loopw [8, 5] (fun i _ wr => ∃ k : Nat, k ≤ n ∧ i = .int .i64 k ∧ Hid (Below w.heap.size w wr ∧ ∀ (j : Nat) (m : Dc), j < k → L[j]? = some m → (hitD node m) = false)) (fun i _ _ => n - (intOf i).toNat)
  case atStart => exact ⟨0, by omega, rfl, Below.refl _ _, fun j m hj => by omega⟩
  case round =>
    obtain ⟨k, hk, rfl, HR⟩ := hrel
    by_cases hlt : k < n
    · have hkn : (k : Int) < (n : Int) := by omega
      obtain ⟨m, hLm⟩ : ∃ m, L[k]? = some m := ⟨L[k]'(by omega), List.getElem?_eq_getElem (by omega)⟩
      have ho := HO.out.below HR.out.1
      have k0 := ho.cell drow.len hLm (j := 0) (v := .int .i64 m.mon) rfl
      rw [Nat.add_zero] at k0
      have k1 := ho.cell drow.len hLm (j := 1) (v := .int .i64 m.ser) rfl
      have k2 := ho.cell drow.len hLm (j := 2) (v := .string m.val) rfl
      have hc := clos_any wr bx m node (HB.out.below HR.out.1)
      have HM : Hid (L[k]? = some m) := hLm
      clear hLm ho
      cases ht : (hitD node m) with
      | true =>
        rw [ht] at hc
        have HT : Hid ((hitD node m) = true) := ht
        clear ht
        generalize m.mon = f at k0 hc
        generalize m.val = x at k2 hc
        have HT2 : Hid (∀ m' : Dc, L[k]? = some m' → (hitD node m') = true) := fun m' e => by
          have := HM.out
          rw [e] at this
          injection this with this
          rw [this]
          exact HT.out
        clear HT HM
        generalize m.ser = t at k1 hc
        go_wp2_with (go_at_call 76; refine hc.mono ?_; rintro e w2 ⟨rfl, hb2⟩; clear hc)
        go_ret
        exact ⟨k, rfl, HR.out.1.trans (hb2.mono HR.out.1.size), .inr ⟨k, rfl, hlt, HT2.out, HR.out.2⟩⟩
      | false =>
        rw [ht] at hc
        have HT2 : Hid (∀ m' : Dc, L[k]? = some m' → (hitD node m') = false) := fun m' e => by
          have := HM.out
          rw [e] at this
          injection this with this
          rw [this]
          exact ht
        clear ht HM
        generalize m.mon = f at k0 hc
        generalize m.val = x at k2 hc
        generalize m.ser = t at k1 hc
        go_wp2_with (go_at_call 76; refine hc.mono ?_; rintro e w2 ⟨rfl, hb2⟩; clear hc)
        go_roundw
        case rel =>
          refine ⟨k + 1, by omega, by go_num, HR.out.1.trans (hb2.mono HR.out.1.size), fun j m' hj e => ?_⟩
          by_cases hjk : j = k
          · subst hjk
            exact HT2.out m' e
          · exact HR.out.2 j m' (by omega) e
        case measure => simp [intOf]; omega
    · have hk2 : k = n := by omega
      subst hk2
      go_wp2_with fail
      go_ret
      refine ⟨-1, rfl, HR.out.1, .inl ⟨rfl, fun j m e => HR.out.2 j m ?_ e⟩⟩
      have := (List.getElem?_eq_some_iff.1 e).1
      omega

end

def keepN (node : Dc) (m : Dc) : Bool := !hitD node m
def left (node : Dc) (L : List Dc) : List Dc := L.filter (keepN node)

theorem left_all {node : Dc} {L : List Dc} (h : ∀ (j : Nat) (m : Dc), L[j]? = some m → (hitD node m) = false) : left node L = L := by
  unfold left
  rw [List.filter_eq_self]
  intro m hm
  obtain ⟨j, hj⟩ := List.getElem?_of_mem hm
  unfold keepN
  rw [h j m hj]
  rfl

structure KInv (node : Dc) (L K : List Dc) (n i j : Nat) : Prop where
  len : K.length = n
  lt : i < j
  le : j ≤ n
  take : K.take i = left node (L.take j)
  drop : K.drop j = L.drop j

theorem KInv.start {node : Dc} {L : List Dc} {n k : Nat} (hL : L.length = n) (hk : k < n) (h1 : ∀ m : Dc, L[k]? = some m → (hitD node m) = true) (h2 : ∀ (j : Nat) (m : Dc), j < k → L[j]? = some m → (hitD node m) = false) : KInv node L L n k (k + 1) := by
  refine ⟨hL, by omega, by omega, ?_, rfl⟩
  have hk' : k < L.length := by omega
  have hg : L[k]? = some (L[k]'hk') := List.getElem?_eq_getElem hk'
  rw [List.take_add_one, hg]
  unfold left
  rw [List.filter_append]
  have e1 : (L.take k).filter (keepN node) = L.take k := left_all (fun j m hj => by
    rw [List.getElem?_take] at hj
    split at hj
    · exact h2 j m (by assumption) hj
    · cases hj)
  have e2 : keepN node (L[k]'hk') = false := by
    unfold keepN
    rw [h1 _ hg]
    rfl
  simp [e1, e2]

theorem KInv.step {node : Dc} {L K : List Dc} {n i j : Nat} (h : KInv node L K n i j) (hL : L.length = n) (hj : j < n) (m : Dc) (hm : L[j]? = some m) :
    ((hitD node m) = true → KInv node L K n i (j + 1)) ∧ ((hitD node m) = false → KInv node L (K.set i m) n (i + 1) (j + 1)) := by
  have hd : K.drop (j + 1) = L.drop (j + 1) := by
    have := congrArg (List.drop 1) h.drop
    simpa [List.drop_drop] using this
  have ht : L.take (j + 1) = L.take j ++ [m] := by rw [List.take_add_one, hm]; rfl
  refine ⟨fun e => ⟨h.len, by have := h.lt; omega, by omega, ?_, hd⟩, fun e => ⟨by rw [List.length_set]; exact h.len, by have := h.lt; omega, by omega, ?_, ?_⟩⟩
  · rw [h.take, ht]
    unfold left
    rw [List.filter_append]
    simp [keepN, e]
  · have hi : i < (K.set i m).length := by rw [List.length_set, h.len]; have := h.lt; omega
    rw [List.take_add_one, List.getElem?_eq_getElem hi, List.getElem_set_self, ht]
    unfold left
    rw [List.filter_append, List.take_set_of_le (Nat.le_refl i), h.take]
    simp [left, keepN, e]
  · rw [List.drop_set_of_lt (by have := h.lt; omega)]
    exact hd

theorem KInv.at_ {node : Dc} {L K : List Dc} {n i j : Nat} (h : KInv node L K n i j) : K[j]? = L[j]? := by
  have := congrArg (fun l => l[0]?) h.drop
  simpa [List.getElem?_drop] using this

theorem encD_is (m : Dc) : encD m = [.int .i64 m.mon, .int .i64 m.ser, .string m.val] := rfl

theorem first_hit (node : Dc) : ∀ L : List Dc, (∀ (j : Nat) (m : Dc), L[j]? = some m → (hitD node m) = false) ∨ ∃ k, k < L.length ∧ (∀ m : Dc, L[k]? = some m → (hitD node m) = true) ∧ ∀ (j : Nat) (m : Dc), j < k → L[j]? = some m → (hitD node m) = false
  | [] => .inl fun j m h => by simp at h
  | a :: L => by
    cases ha : (hitD node a) with
    | true => exact .inr ⟨0, by simp, fun m hm => by simp at hm; rw [← hm]; exact ha, fun j m hj => by omega⟩
    | false =>
      rcases first_hit node L with h | ⟨k, h1, h2, h3⟩
      · refine .inl fun j m hm => ?_
        cases j with
        | zero => simp at hm; rw [← hm]; exact ha
        | succ j => exact h j m (by simpa using hm)
      · refine .inr ⟨k + 1, by simp; exact h1, fun m hm => h2 m (by simpa using hm), fun j m hj hm => ?_⟩
        cases j with
        | zero => simp at hm; rw [← hm]; exact ha
        | succ j => exact h3 j m (by omega) (by simpa using hm)

section
variable {w : World} {B : Nat} {L : List Dc}

theorem ownD_set {g n c i : Nat} (h : Own w B 68 3 encD (.slice (some ⟨g, 0, none⟩) n c) L) (m : Dc) :
    Own (((w.setCell ⟨g, i * 3, none⟩ (.int .i64 m.mon)).setCell ⟨g, i * 3 + 1, none⟩ (.int .i64 m.ser)).setCell ⟨g, i * 3 + 2, none⟩ (.string m.val)) B 68 3 encD (.slice (some ⟨g, 0, none⟩) n c) (L.set i m) := by
  obtain ⟨hL, _⟩ := h.heap
  subst hL
  unfold Own
  rw [flat_set3 _ _ _ encD_is, List.length_set]
  exact own_setCell (own_setCell (own_setCell h _ _) _ _) _ _

theorem deletef_any {g n c bx : Nat} (node : Dc) (h : Own w B 68 3 encD (.slice (some ⟨g, 0, none⟩) n c) L) (hb : Box2 w bx node) (hne : bx ≠ g) :
    Calls Try.prog 75 #[.slice (some ⟨g, 0, none⟩) n c, .func (.func 76) #[] #[.pointer (some ⟨bx, 0, none⟩)]] w fun e w' => ∃ q : Nat, e = .returned (.slice (some ⟨g, 0, none⟩) q c) ∧
      Hid (q = (left node L).length ∧ Own w' B 68 3 encD (.slice (some ⟨g, 0, none⟩) q c) (left node L) ∧ Turns (fun k => k = g) w w') := by
  obtain ⟨hL, _, hnc, hcm, _⟩ := h.heap
  have hm : n ≤ 9223372036854775807 := by unfold maxLen at hcm; omega
  have hgl : g < w.heap.size := (World.ownsRow.lt h g rfl).2
  have hI0 := index_any node h hb
  rcases first_hit node L with hno | ⟨k, hk, h1, h2⟩
  · have hI : Calls Try.prog 92 #[.slice (some ⟨g, 0, none⟩) n c, .func (.func 76) #[] #[.pointer (some ⟨bx, 0, none⟩)]] w fun e w' => e = .returned (.int .i64 (-1)) ∧ Hid (Below w.heap.size w w') := hI0.mono fun e w' ⟨r, e1, HI⟩ => by
      rcases HI.out.2 with ⟨rfl, _⟩ | ⟨k, _, hk, h1, _⟩
      · exact ⟨e1, HI.out.1⟩
      · have hg : L[k]? = some (L[k]'(by omega)) := List.getElem?_eq_getElem (by omega)
        have q := h1 _ hg
        rw [hno k _ hg] at q
        cases q
    have HN : Hid (∀ w', Below w.heap.size w w' → n = (left node L).length ∧ Own w' B 68 3 encD (.slice (some ⟨g, 0, none⟩) n c) (left node L) ∧ Turns (fun k => k = g) w w') := fun w' hb' => by
      rw [left_all hno]
      exact ⟨hL.symm, h.below hb', Turns.of_below hb'⟩
    clear h hb hcm hne hI0 hno
    go_enter Try.func75, Try.ntmps75
    go_wp2_with (go_at_call 92; refine hI.mono ?_; rintro e w1 ⟨rfl, HI⟩; clear hI)
    go_ret
    exact ⟨n, rfl, HN.out _ HI.out⟩
  · have hI : Calls Try.prog 92 #[.slice (some ⟨g, 0, none⟩) n c, .func (.func 76) #[] #[.pointer (some ⟨bx, 0, none⟩)]] w fun e w' => e = .returned (.int .i64 (k : Int)) ∧ Hid (Below w.heap.size w w') := hI0.mono fun e w' ⟨r, e1, HI⟩ => by
      have hg : L[k]? = some (L[k]'(by omega)) := List.getElem?_eq_getElem (by omega)
      rcases HI.out.2 with ⟨rfl, h3⟩ | ⟨kk, rfl, hkk, h3, h4⟩
      · have q := h1 _ hg
        rw [h3 k _ hg] at q
        cases q
      · rcases Nat.lt_trichotomy k kk with q | q | q
        · have := h4 k _ q hg
          rw [h1 _ hg] at this
          cases this
        · subst q
          exact ⟨e1, HI.out.1⟩
        · have hg' : L[kk]? = some (L[kk]'(by omega)) := List.getElem?_eq_getElem (by omega)
          have := h2 kk _ q hg'
          rw [h3 _ hg'] at this
          cases this
    have HS : Hid (KInv node L L n k (k + 1)) := KInv.start hL (by omega) h1 h2
    have HO : Hid (Own w B 68 3 encD (.slice (some ⟨g, 0, none⟩) n c) L ∧ L.length = n) := ⟨h, hL⟩
    have HB : Hid (Box2 w bx node ∧ bx ≠ g ∧ bx < w.heap.size) := ⟨hb, hne, hb.lt⟩
    have hkn : (k : Int) < (n : Int) := by omega
    have hk1 : (k : Int) ≠ -1 := by omega
    have hkn' : k < n := by omega
    have hnm : (n : Int) ≤ 9223372036854775807 := by omega
    clear h hb hcm hne hI0 h1 h2 hk hL
    go_enter Try.func75, Try.ntmps75
    go_wp2_with (go_at_call 92; refine hI.mono ?_; rintro e w1 ⟨rfl, HI⟩; clear hI)
    go_loopw [5, 6, 7] (fun s5 s6 _ wr => ∃ i j K, s5 = .int .i64 (i : Nat) ∧ s6 = .int .i64 (j : Nat) ∧ i < j ∧ j ≤ n ∧ Hid (KInv node L K n i j ∧ Own wr B 68 3 encD (.slice (some ⟨g, 0, none⟩) n c) K ∧ Turns (fun k => k = g) w wr)) (fun _ s6 _ _ => n - (intOf s6).toNat)
    case atStart => exact ⟨k, k + 1, L, rfl, by go_num, by omega, by omega, HS.out, HO.out.1.below HI.out, Turns.of_below HI.out⟩
    case round =>
      obtain ⟨i, j, K, rfl, rfl, hij, hjn, HR⟩ := hrel
      clear HI HS
      by_cases hlt : j < n
      · have hjz : (j : Int) < (n : Int) := by omega
        have hiz : (i : Int) < (n : Int) := by omega
        obtain ⟨hK, ho, ht⟩ := HR.out
        have hLn := HO.out.2
        obtain ⟨m, hLm⟩ : ∃ m, L[j]? = some m := ⟨L[j]'(by omega), List.getElem?_eq_getElem (by omega)⟩
        have hKm : K[j]? = some m := hK.at_.trans hLm
        have hst := hK.step hLn hlt m hLm
        obtain ⟨old, hKi⟩ : ∃ old, K[i]? = some old := ⟨K[i]'(by have := hK.len; omega), List.getElem?_eq_getElem (by have := hK.len; omega)⟩
        have k0 := ho.cell drow.len hKm (j := 0) (v := .int .i64 m.mon) rfl
        rw [Nat.add_zero] at k0
        have k1 := ho.cell drow.len hKm (j := 1) (v := .int .i64 m.ser) rfl
        have k2 := ho.cell drow.len hKm (j := 2) (v := .string m.val) rfl
        have hgr : g < wr.heap.size := (World.ownsRow.lt ho g rfl).2
        have b1 : Below wr.heap.size wr (wr.alloc (.cells #[.int .i64 m.mon, .int .i64 m.ser, .string m.val] 68)) := (Below.refl _ _).alloc (Nat.le_refl _) _
        have hbr : Box2 wr bx node := HB.out.1.turns ht HB.out.2.1
        have hc : Calls Try.prog 76 #[.agg #[.int .i64 m.mon, .int .i64 m.ser, .string m.val], .pointer (some ⟨bx, 0, none⟩)] (wr.alloc (.cells #[.int .i64 m.mon, .int .i64 m.ser, .string m.val] 68)) fun e w2 => e = .returned (.bool (hitD node m)) ∧
            (w2.cell? ⟨wr.heap.size, 0, none⟩ = some (.int .i64 m.mon) ∧ w2.cell? ⟨wr.heap.size, 1, none⟩ = some (.int .i64 m.ser) ∧ w2.cell? ⟨wr.heap.size, 2, none⟩ = some (.string m.val)) ∧
            (w2.cell? ⟨g, i * 3, none⟩ = some (.int .i64 old.mon) ∧ w2.cell? ⟨g, i * 3 + 1, none⟩ = some (.int .i64 old.ser) ∧ w2.cell? ⟨g, i * 3 + 2, none⟩ = some (.string old.val) ∧ (∀ q, w2.frozen? ⟨g, q, none⟩ = false)) ∧
            Hid (Own w2 B 68 3 encD (.slice (some ⟨g, 0, none⟩) n c) K ∧ Turns (fun k => k = g) w w2) := by
          refine (clos_any _ bx m node (hbr.below b1)).mono fun e w2 ⟨e1, hb2⟩ => ?_
          have hb3 : Below wr.heap.size wr w2 := b1.trans (hb2.mono b1.size)
          have ho2 := ho.below hb3
          have q0 := ho2.cell drow.len hKi (j := 0) (v := .int .i64 old.mon) rfl
          rw [Nat.add_zero] at q0
          refine ⟨e1, ⟨(hb2.cell (p := ⟨wr.heap.size, 0, none⟩) (by simp)).trans (by simp), (hb2.cell (p := ⟨wr.heap.size, 1, none⟩) (by simp)).trans (by simp), (hb2.cell (p := ⟨wr.heap.size, 2, none⟩) (by simp)).trans (by simp)⟩,
            ⟨q0, ho2.cell drow.len hKi (j := 1) rfl, ho2.cell drow.len hKi (j := 2) rfl, fun q => ho2.frozen⟩, ho2, ht.trans (Turns.of_below hb3)⟩
        have HST : Hid (((hitD node m) = true → KInv node L K n i (j + 1)) ∧ ((hitD node m) = false → KInv node L (K.set i m) n (i + 1) (j + 1))) := hst
        clear hK ho ht hLn hLm hKm hst hKi hbr b1 HR HO HB
        generalize old.mon = of at hc
        generalize old.ser = ot at hc
        generalize old.val = ox at hc
        cases htn : (hitD node m) with
        | true =>
          rw [htn] at hc HST
          have HF : Hid (KInv node L K n i (j + 1)) := HST.out.1 rfl
          clear htn HST
          generalize m.mon = f at k0 hc
          generalize m.ser = t at k1 hc
          generalize m.val = x at k2 hc
          go_wp2_with (go_at_call 76; refine hc.mono ?_; rintro e w2 ⟨rfl, ⟨q0, q1, q2⟩, ⟨p0, p1, p2, fz⟩, HN⟩; clear hc)
          refine ⟨⟨_, _, _, _, _, _, _, _, _, _, _, _, _, _, _, _, _, _, _, _, _, _, _, ?rel, rfl⟩, ?measure⟩
          case rel => exact ⟨i, j + 1, K, rfl, by go_num, by omega, by omega, HF.out, HN.out⟩
          case measure => simp [intOf]; omega
        | false =>
          rw [htn] at hc HST
          have HF : Hid (KInv node L (K.set i m) n (i + 1) (j + 1)) := HST.out.2 rfl
          have HG : Hid (∀ w2, Own w2 B 68 3 encD (.slice (some ⟨g, 0, none⟩) n c) K ∧ Turns (fun k => k = g) w w2 → Own (((w2.setCell ⟨g, i * 3, none⟩ (.int .i64 m.mon)).setCell ⟨g, i * 3 + 1, none⟩ (.int .i64 m.ser)).setCell ⟨g, i * 3 + 2, none⟩ (.string m.val)) B 68 3 encD (.slice (some ⟨g, 0, none⟩) n c) (K.set i m) ∧
            Turns (fun k => k = g) w (((w2.setCell ⟨g, i * 3, none⟩ (.int .i64 m.mon)).setCell ⟨g, i * 3 + 1, none⟩ (.int .i64 m.ser)).setCell ⟨g, i * 3 + 2, none⟩ (.string m.val))) := fun w2 ⟨h1, h2⟩ =>
            ⟨ownD_set h1 m, ((h2.setCell (p := ⟨g, i * 3, none⟩) (.inl rfl) _).setCell (p := ⟨g, i * 3 + 1, none⟩) (.inl rfl) _).setCell (p := ⟨g, i * 3 + 2, none⟩) (.inl rfl) _⟩
          clear htn HST
          generalize K.set i m = K2 at HF HG
          generalize m.mon = f at k0 hc HG
          generalize m.ser = t at k1 hc HG
          generalize m.val = x at k2 hc HG
          go_wp2_with (go_at_call 76; refine hc.mono ?_; rintro e w2 ⟨rfl, ⟨q0, q1, q2⟩, ⟨p0, p1, p2, fz⟩, HN⟩; clear hc)
          refine ⟨⟨_, _, _, _, _, _, _, _, _, _, _, _, _, _, _, _, _, _, _, _, _, _, _, ?rel, rfl⟩, ?measure⟩
          case rel => exact ⟨i + 1, j + 1, K2, by go_num, by go_num, by omega, by omega, HF.out, HG.out w2 HN.out⟩
          case measure => simp [intOf]; omega
      · have hj2 : j = n := by omega
        subst hj2
        obtain ⟨hK, ho, ht⟩ := HR.out
        obtain ⟨w2, hcl0, H2⟩ := ho.clear drow (k := i) (by omega) (i * 3) (c - i) (fun _ => rfl) (.agg #[.int .i64 0, .int .i64 0, .string ⟨#[]⟩]) (by kernel_rfl) rfl (by intro u hu; simp [Value.cells] at hu; rcases hu with rfl | rfl | rfl <;> rfl) 0
        have hcl : ∀ ty, (Builtin.clear_ #[59] ty #[.slice (some ⟨g, i * 3, none⟩) (j - i) (c - i)]).run Try.prog wr = .ok (.tuple #[]) w2 := fun ty => hcl0
        have HN : Hid (i = (left node L).length ∧ Own w2 B 68 3 encD (.slice (some ⟨g, 0, none⟩) i c) (left node L) ∧ Turns (fun k => k = g) w w2) := by
          have e1 : K.take i = left node L := by rw [hK.take, List.take_of_length_le (by have := HO.out.2; omega)]
          have h2 := H2.out.1
          rw [e1] at h2
          refine ⟨?_, h2, ht.trans H2.out.2⟩
          rw [← e1, List.length_take, hK.len]
          omega
        have hic : i ≤ c := by omega
        have hnci : ¬ c = i := by omega
        have hij2 : i ≤ j := by omega
        clear hK ho ht H2 hcl0 HR HO HB
        go_wp2_with fail
        go_ret
        exact ⟨i, rfl, HN.out⟩

end

theorem index_nil (w : World) (v : Value) : Calls Try.prog 92 #[.slice none 0 0, v] w fun e w' => e = .returned (.int .i64 (-1)) ∧ w' = w := by
  go_enter Try.func92, Try.ntmps92
  go_wp2_with fail
  go_loopw [8, 5] (fun i _ wr => i = .int .i64 0 ∧ wr = w) (fun i _ _ => 0)
  case atStart => exact ⟨rfl, rfl⟩
  case round =>
    obtain ⟨rfl, hw⟩ := hrel
    subst hw
    go_wp2_with fail
    go_ret
    exact ⟨rfl, rfl⟩

theorem deletef_nil (w : World) (v : Value) : Calls Try.prog 75 #[.slice none 0 0, v] w fun e w' => e = .returned (.slice none 0 0) ∧ w' = w := by
  have hI := index_nil w v
  go_enter Try.func75, Try.ntmps75
  go_wp2_with (go_at_call 92; refine hI.mono ?_; rintro e w1 ⟨rfl, hw⟩; subst w1; clear hI)
  go_ret
  exact ⟨rfl, rfl⟩

end Go.Proofs.Ytdbahebhodoooaa.Px

/-
  An acceptor, and where its value lies.
  Conditions: none.
-/
namespace Go.Proofs.Ytdbahebhodoooaa.Ba
open Go.RowKit By Fl
set_option linter.unusedVariables false
set_option linter.unusedSimpArgs false
set_option maxRecDepth 100000

structure AccV where
  p : Bt
  a : Bt
  x : Option Addr
  n : Nat
  c : Nat
  d : List Nat

end Go.Proofs.Ytdbahebhodoooaa.Ba

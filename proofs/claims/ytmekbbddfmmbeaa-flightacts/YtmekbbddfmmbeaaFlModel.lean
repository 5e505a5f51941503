/-
  The statement's own list of messages and of who is parted, as it lies in memory; 'parted', 'out'.
  Conditions: none.
-/
import Derived.Test.YtmekbbddfmmbeaaFlClr
namespace Go.Proofs.Ytmekbbddfmmbeaa.Fl
open Go.RowKit By
set_option linter.unusedVariables false
set_option linter.unusedSimpArgs false
set_option maxRecDepth 100000

structure LM where
  fr : Int
  to : Int
  s : ByteArray

def encL (m : LM) : List Value := [.int .i64 m.fr, .int .i64 m.to, .string m.s]
def encP (x : Int × Int) : List Value := [.int .i64 x.1, .int .i64 x.2]

theorem lrow : Row 26 39 3 32 encL := by
  have hi : (Try.prog.info? 39).map (fun i => (i.zero, i.size, i.bytes)) = some (some (.agg #[.int .i64 0, .int .i64 0, .string ⟨#[]⟩]), 3, 32) := by kernel_rfl
  obtain ⟨i0, h1, h2, h3, h4⟩ := info_parts hi
  exact ⟨Try.underlying26, ⟨i0, _, h1, h2, h3, h4, rfl⟩, by decide, by decide, fun a => rfl, fun a v hv => by simp [encL] at hv; rcases hv with rfl | rfl | rfl <;> rfl⟩

theorem prow : Row 27 55 2 16 encP := by
  have hi : (Try.prog.info? 55).map (fun i => (i.zero, i.size, i.bytes)) = some (some (.agg #[.int .i64 0, .int .i64 0]), 2, 16) := by kernel_rfl
  obtain ⟨i0, h1, h2, h3, h4⟩ := info_parts hi
  exact ⟨Try.underlying27, ⟨i0, _, h1, h2, h3, h4, rfl⟩, by decide, by decide, fun a => rfl, fun a v hv => by simp [encP] at hv; rcases hv with rfl | rfl <;> rfl⟩

structure MdAt (w : World) (B q : Nat) (Rl Rp : Value) (LL : List LM) (PP : List (Int × Int)) : Prop where
  obj : Blk w q 29 2 (obj2 Rl Rp)
  l : Own w B 39 3 encL Rl LL
  p : Own w B 55 2 encP Rp PP
  bq : B ≤ q

def gp (q : Nat) (Rl Rp : Value) : Nat → Prop := fun k => k = q ∨ Rl.ownBlock = some k ∨ Rp.ownBlock = some k
def MTy (w : World) (k : Nat) : Prop := Tb w k 29 ∨ Tb w k 39 ∨ Tb w k 55

theorem apart_ty {w : World} {k : Nat} (h : MTy w k) : ¬ FTy w k ∧ ¬ Tb w k 5 := by
  refine ⟨fun g => ?_, fun g => ?_⟩
  · rcases h with h | h | h <;> rcases g with g | g | g <;> first | exact h.not_map g | (have := h.same g; revert this; decide)
  · rcases h with h | h | h <;> (have := h.same g; revert this; decide)

section
variable {w w' : World} {B q : Nat} {Rl Rp : Value} {LL : List LM} {PP : List (Int × Int)}

theorem MdAt.c0 (h : MdAt w B q Rl Rp LL PP) : w.cell? ⟨q, 0, none⟩ = some Rl := h.obj.cell (k := 0) (by omega)
theorem MdAt.c1 (h : MdAt w B q Rl Rp LL PP) : w.cell? ⟨q, 1, none⟩ = some Rp := h.obj.cell (k := 1) (by omega)

theorem MdAt.foot (h : MdAt w B q Rl Rp LL PP) : ∀ k, gp q Rl Rp k → B ≤ k ∧ MTy w k := fun k hk => by
  rcases hk with rfl | hk | hk
  · exact ⟨h.bq, .inl h.obj.tb⟩
  · exact ⟨(h.l.tb hk).1, .inr (.inl (h.l.tb hk).2)⟩
  · exact ⟨(h.p.tb hk).1, .inr (.inr (h.p.tb hk).2)⟩

theorem MdAt.turns {G : Nat → Prop} (h : MdAt w B q Rl Rp LL PP) (t : Turns G w w') (hG : ∀ k, gp q Rl Rp k → ¬ G k) : MdAt w' B q Rl Rp LL PP :=
  ⟨t.blk h.obj (hG _ (.inl rfl)), h.l.turns t (fun g hg => hG _ (.inr (.inl hg))), h.p.turns t (fun g hg => hG _ (.inr (.inr hg))), h.bq⟩

theorem MdAt.below (h : MdAt w B q Rl Rp LL PP) (t : Below w.heap.size w w') : MdAt w' B q Rl Rp LL PP := h.turns (Turns.of_below (F := fun _ => False) t) (fun _ _ h => h)

/- Beside a flight. -/
theorem MdAt.apart {G : Nat → Prop} (h : MdAt w B q Rl Rp LL PP) (t : Turns G w w') (hG : ∀ k, G k → FTy w k) : MdAt w' B q Rl Rp LL PP :=
  h.turns t (fun k hk hg => (apart_ty (h.foot k hk).2).1 (hG k hg))

theorem MdAt.lne (h : MdAt w B q Rl Rp LL PP) : Rl.ownBlock ≠ some q := fun e => by
  have := (h.l.tb e).2.same h.obj.tb
  revert this
  decide
theorem MdAt.pne (h : MdAt w B q Rl Rp LL PP) : Rp.ownBlock ≠ some q := fun e => by
  have := (h.p.tb e).2.same h.obj.tb
  revert this
  decide
theorem MdAt.lp (h : MdAt w B q Rl Rp LL PP) : ∀ g, Rl.ownBlock = some g → Rp.ownBlock ≠ some g := fun g e1 e2 => by
  have := (h.l.tb e1).2.same (h.p.tb e2).2
  revert this
  decide

theorem MdAt.setL {w3 : World} {Rl' : Value} {LL' : List LM} (h : MdAt w B q Rl Rp LL PP) (T : Turns (fun k => Rl.ownBlock = some k) w w3) (ho : Own w3 B 39 3 encL Rl' LL') :
    w3.cell? ⟨q, 0, none⟩ = some Rl ∧ w3.frozen? ⟨q, 0, none⟩ = false ∧ Turns (gp q Rl Rp) w (w3.setCell ⟨q, 0, none⟩ Rl') ∧ MdAt (w3.setCell ⟨q, 0, none⟩ Rl') B q Rl' Rp LL' PP := by
  have b3 := T.blk h.obj h.lne
  have t0 : Turns (fun k => k = q) w3 (w3.setCell ⟨q, 0, none⟩ Rl') := (Turns.refl (fun k => k = q) w3).setCell (p := ⟨q, 0, none⟩) (.inl rfl) Rl'
  have hp3 := h.p.turns T (fun g hg e => h.lp g e hg)
  refine ⟨b3.cell (k := 0) (by omega), b3.frozen 0, (T.weak (fun k hk => .inr (.inl hk))).setCell (p := ⟨q, 0, none⟩) (.inl (.inl rfl)) Rl', (b3.set 0 Rl').congr fun k hk => ?_, ho.turns t0 (fun g hg e => ?_), hp3.turns t0 (fun g hg e => ?_), h.bq⟩
  · unfold upd obj2
    by_cases e : k = 0 <;> simp [e]
  · subst e
    have := (ho.tb hg).2.same b3.tb
    revert this
    decide
  · subst e
    exact h.pne hg

theorem MdAt.setP {w3 : World} {Rp' : Value} {PP' : List (Int × Int)} (h : MdAt w B q Rl Rp LL PP) (T : Turns (fun k => Rp.ownBlock = some k) w w3) (ho : Own w3 B 55 2 encP Rp' PP') :
    w3.cell? ⟨q, 1, none⟩ = some Rp ∧ w3.frozen? ⟨q, 1, none⟩ = false ∧ Turns (gp q Rl Rp) w (w3.setCell ⟨q, 1, none⟩ Rp') ∧ MdAt (w3.setCell ⟨q, 1, none⟩ Rp') B q Rl Rp' LL PP' := by
  have b3 := T.blk h.obj h.pne
  have t0 : Turns (fun k => k = q) w3 (w3.setCell ⟨q, 1, none⟩ Rp') := (Turns.refl (fun k => k = q) w3).setCell (p := ⟨q, 1, none⟩) (.inl rfl) Rp'
  have hl3 := h.l.turns T (fun g hg e => h.lp g hg e)
  refine ⟨b3.cell (k := 1) (by omega), b3.frozen 1, (T.weak (fun k hk => .inr (.inr hk))).setCell (p := ⟨q, 1, none⟩) (.inl (.inl rfl)) Rp', (b3.set 1 Rp').congr fun k hk => ?_, hl3.turns t0 (fun g hg e => ?_), ho.turns t0 (fun g hg e => ?_), h.bq⟩
  · unfold upd obj2
    by_cases e : k = 1
    · simp [e]
    · have : k = 0 := by omega
      simp [this]
  · subst e
    exact h.lne hg
  · subst e
    have := (ho.tb hg).2.same b3.tb
    revert this
    decide

end

/- parted. -/
def prt (PP : List (Int × Int)) (a b : Int) : Bool := decide (a ≠ b ∧ ((a, b) ∈ PP ∨ (b, a) ∈ PP))

theorem eq_pair (a b c d : Int) (w : World) : (Op.equalIn 10000 55 (.agg #[.int .i64 a, .int .i64 b]) (.agg #[.int .i64 c, .int .i64 d])).run Try.prog w = .ok (a == c && b == d) w := by
  have u3 := Try.underlying3
  have a3 := Try.isAgg3
  have z3 := Try.sizeOf3
  rw [show (10000 : Nat) = 9999 + 1 from rfl, Op.equalIn]
  simp only [Sem.run_bind, run_underlying Try.underlying55, Result.andThen_ok]
  simp only [Std.Legacy.Range.forIn_eq_forIn_range', Std.Legacy.Range.size, Nat.sub_zero, Nat.add_sub_cancel, Nat.div_one, List.range'_succ, List.range'_zero, List.forIn_cons, List.forIn_nil]
  go_simp
  by_cases h1 : a = c <;> by_cases h2 : b = d <;> simp [h1, h2]

theorem build_pair (a b : Int) (w : World) : (Instr.build 55 #[(0, .int .i64 a), (1, .int .i64 b)]).run Try.prog w = .ok (.agg #[.int .i64 a, .int .i64 b]) w := run_build w 55 _ _ (by kernel_rfl)

section
variable {w : World} {B q : Nat} {Rl Rp : Value} {LL : List LM} {PP : List (Int × Int)}

theorem mparted_any (h : MdAt w B q Rl Rp LL PP) (a b : Int) (hP : PP.length ≤ 100000) :
    Calls Try.prog 12 #[.pointer (some ⟨q, 0, none⟩), .int .i64 a, .int .i64 b] w fun e w' => e = .returned (.bool (prt PP a b)) ∧ w' = w := by
  obtain ⟨x, c, hR, _, _, _⟩ := h.p.form
  have c1 := h.c1
  have own := h.p
  rw [hR] at c1 own
  have HO : Hid (Own w B 55 2 encP (.slice x PP.length c) PP) := own
  have hpz : (PP.length : Int) ≤ 100000 := by omega
  have hE := fun x y => eq_pair x y a b
  have hE2 := fun x y => eq_pair x y b a
  have hB1 := build_pair a b
  have hB2 := build_pair b a
  clear own hR h
  go_enter Try.func12, Try.ntmps12
  go_wp2_with fail
  go_loopw [7] (fun i wr => ∃ k : Nat, k ≤ PP.length ∧ i = .int .i64 k ∧ wr = w ∧ Hid (∀ (j : Nat) (y : Int × Int), j < k → PP[j]? = some y → y ≠ (a, b) ∧ y ≠ (b, a))) (fun i _ => PP.length - (intOf i).toNat)
  case atStart => exact ⟨0, by omega, rfl, rfl, fun j y hj => by omega⟩
  case round =>
    obtain ⟨k, hk, rfl, hw, HR⟩ := hrel
    subst hw
    by_cases hlt : k < PP.length
    · have hkn : (k : Int) < (PP.length : Int) := by omega
      obtain ⟨⟨y1, y2⟩, hy⟩ : ∃ y, PP[k]? = some y := ⟨PP[k]'hlt, List.getElem?_eq_getElem hlt⟩
      obtain ⟨g, c', e0, _⟩ := HO.out.there (by intro e; rw [e] at hlt; simp at hlt)
      injection e0 with e0 _ _
      subst e0
      have k0 := HO.out.cell prow.len hy (j := 0) (v := .int .i64 y1) rfl
      rw [Nat.add_zero] at k0
      have k1 := HO.out.cell prow.len hy (j := 1) (v := .int .i64 y2) rfl
      have HM : Hid ((y1, y2) ∈ PP) := List.mem_of_getElem? hy
      have HY : Hid (PP[k]? = some (y1, y2)) := hy
      clear hy HO
      by_cases h1 : y1 = a ∧ y2 = b
      · obtain ⟨rfl, rfl⟩ := h1
        have e1 : prt PP y1 y2 = (y1 != y2) := by
          unfold prt
          have := HM.out
          by_cases e : y1 = y2 <;> simp [e, this]
        have E1 := hid e1
        clear HM HY HR e1
        go_wp2_with fail
        go_ret
        exact ⟨by rw [E1.out]; rfl, rfl⟩
      · have n1 : (y1 == a && y2 == b) = false := by
          rw [Bool.eq_false_iff]
          intro e
          simp at e
          exact h1 e
        have q1 := fun w => (hE y1 y2 w).trans (by rw [n1])
        by_cases h2 : y1 = b ∧ y2 = a
        · have n2 : (y1 == b && y2 == a) = true := by simp [h2.1, h2.2]
          have q2 := fun w => (hE2 y1 y2 w).trans (by rw [n2])
          have e1 : prt PP a b = (a != b) := by
            unfold prt
            have := HM.out
            rw [h2.1, h2.2] at this
            by_cases e : a = b <;> simp [e, this]
          have E1 := hid e1
          clear HM HY HR e1 hE hE2 n1 n2 h1 h2
          go_wp2_with fail
          go_ret
          exact ⟨by rw [E1.out]; rfl, rfl⟩
        · have n2 : (y1 == b && y2 == a) = false := by
            rw [Bool.eq_false_iff]
            intro e
            simp at e
            exact h2 e
          have q2 := fun w => (hE2 y1 y2 w).trans (by rw [n2])
          have HN : Hid (∀ (j : Nat) (y : Int × Int), j < k + 1 → PP[j]? = some y → y ≠ (a, b) ∧ y ≠ (b, a)) := fun j y hj e => by
            by_cases hjk : j = k
            · subst hjk
              have := HY.out
              rw [e] at this
              injection this with this
              rw [this]
              exact ⟨fun e => h1 (by injection e with e1 e2; exact ⟨e1, e2⟩), fun e => h2 (by injection e with e1 e2; exact ⟨e1, e2⟩)⟩
            · exact HR.out j y (by omega) e
          clear HM HY HR hE hE2 n1 n2 h1 h2
          go_wp2_with fail
          go_roundw
          case rel => exact ⟨k + 1, by omega, by go_num, trivial, HN⟩
          case measure => simp [intOf]; omega
    · obtain rfl : k = PP.length := by omega
      have e1 : prt PP a b = false := by
        unfold prt
        have hn : ∀ y ∈ PP, y ≠ (a, b) ∧ y ≠ (b, a) := fun y hy => by
          obtain ⟨j, hj⟩ := List.getElem?_of_mem hy
          exact HR.out j y (List.getElem?_eq_some_iff.1 hj).1 hj
        have n1 : (a, b) ∉ PP := fun e => (hn _ e).1 rfl
        have n2 : (b, a) ∉ PP := fun e => (hn _ e).2 rfl
        simp [n1, n2]
      have E1 := hid e1
      clear HR HO hE hE2 e1
      go_wp2_with fail
      go_ret
      exact ⟨by rw [E1.out]; rfl, rfl⟩

end

end Go.Proofs.Ytmekbbddfmmbeaa.Fl

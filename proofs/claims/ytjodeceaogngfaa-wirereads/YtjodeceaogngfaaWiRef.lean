/-
  What the document's reader does: next, wrong, ReadUvarint, ReadVarint, Done: contracts over plain lists ('WiPlain').
  Conditions: bytes that are looked at lie in memory.
-/
import Derived.Test.YtjodeceaogngfaaWiTake
import Derived.Deep.QuietTactic
import Derived.BigQuiet
namespace Go.Proofs.Ytjodeceaogngfaa
open Go.RowKit Wi By
set_option linter.unusedVariables false
set_option linter.unusedSimpArgs false
set_option maxRecDepth 100000

def RGo (w w' : World) (q : Nat) (x : Option Addr) (n c : Nat) (L l' : List Nat) (e' : Nat) : Prop := Turn q w w' ∧ ∃ t', RRd w' q x n c L t' e' ∧ L.drop t' = l'

theorem RRd.drewN {w : World} {q : Nat} {x : Option Addr} {n c : Nat} {L : List Nat} {t e : Nat} (h : RRd w q x n c L t e) (m : Nat) : RRd (w.drewN m) q x n c L t e :=
  ⟨h.bytes, h.place, h.bad, h.fr, h.sl.heap rfl, h.ap, h.le, h.small⟩

/- next(r). -/
theorem next_no (q n c t e : Nat) (x : Option Addr) (L : List Nat) (w : World) (h : RRd w q x n c L t e) (hd : e ≠ 0 ∨ n ≤ t) :
    Calls Try.prog 45 #[.pointer (some ⟨q, 0, none⟩)] w fun ed w' => ed = .returned (.tuple #[.int .u8 0, .bool false]) ∧ Turn q w w' ∧ RRd w' q x n c L t e := by
  have h0 := h.bytes
  have h1 := h.place
  have h2 := h.bad
  have H : Hid (RRd w q x n c L t e) := h
  clear h
  by_cases he : e = 0
  · subst he
    have hg : (((0 : Nat) : Int) != 0) = false := rfl
    have hg2 : n ≤ t := by omega
    clear hd
    go_enter Try.func45, Try.ntmps45
    go_wp2_with fail
    go_quiet (fail)
    go_wp2_with fail
    go_ret2
    exact ⟨rfl, (Turn.refl q w).drewN _, H.out.drewN _⟩
  · have hg : ((e : Int) != 0) = true := by simp; omega
    clear hd he
    go_enter Try.func45, Try.ntmps45
    go_wp2_with fail
    go_quiet (fail)
    go_wp2_with fail
    go_ret2
    exact ⟨rfl, (Turn.refl q w).drewN _, H.out.drewN _⟩

theorem next_yes (q n c t : Nat) (x : Option Addr) (L : List Nat) (w : World) (h : RRd w q x n c L t 0) (ht : t < n) :
    Calls Try.prog 45 #[.pointer (some ⟨q, 0, none⟩)] w fun ed w' => ed = .returned (.tuple #[.int .u8 (gl L t : Int), .bool true]) ∧ Turn q w w' ∧ RRd w' q x n c L (t + 1) 0 := by
  rcases h.sl.row with h0 | ⟨b, o, rfl, hb, hcell⟩
  · omega
  have h0 := h.bytes
  have h1 := h.place
  have h2 := h.bad
  have hsm := h.small
  have H : Hid (RRd w q (some ⟨b, o, none⟩) n c L t 0) := h
  have hf1 := h.fr 1
  obtain ⟨t1, ht1⟩ : ∃ t1, t1 = t + 1 := ⟨_, rfl⟩
  have ht1i : (t : Int) + 1 = (t1 : Int) := by omega
  have ht1s : (t1 : Int) - 1 = (t : Int) := by omega
  have Ht1 : Hid (t1 = t + 1) := ht1
  have hg : (((0 : Nat) : Int) != 0) = false := rfl
  have hg2 : decide ((n : Int) ≤ (t : Int)) = false := by simp; omega
  clear h hcell ht1
  go_enter Try.func45, Try.ntmps45
  go_wp2_with fail
  go_quiet (fail)
  go_wp2_with fail
  have hw2 : RRd ((w.drewN nq).setCell ⟨q, 1, none⟩ (.int .i64 (t1 : Int))) q (some ⟨b, o, none⟩) n c L t1 0 := (H.out.drewN nq).setPlace t1 (by have := Ht1.out; omega)
  have tw2 : Turn q w ((w.drewN nq).setCell ⟨q, 1, none⟩ (.int .i64 (t1 : Int))) := ((Turn.refl q w).drewN nq).setCell rfl _
  clear h0 h1 h2 H hf1 hb
  generalize (w.drewN nq).setCell ⟨q, 1, none⟩ (.int .i64 (t1 : Int)) = w2 at *
  have g0 := hw2.bytes
  have g1 := hw2.place
  have g2 : w2.cell? ⟨b, o + t, none⟩ = some (.int .u8 (gl L t : Int)) := by
    rcases hw2.sl.row with h0 | ⟨b', o', ha, _, hc⟩
    · omega
    · cases ha
      exact hc t ht
  have H2 : Hid (RRd w2 q (some ⟨b, o, none⟩) n c L t1 0 ∧ Turn q w w2) := ⟨hw2, tw2⟩
  clear hw2 tw2
  go_quiet (fail)
  go_wp2_with fail
  go_ret2
  rw [← Ht1.out]
  exact ⟨rfl, H2.out.2.drewN _, H2.out.1.drewN _⟩

/- wrong(r, e, at). -/
theorem wrong_any (q n c t e e' t' : Nat) (x : Option Addr) (L : List Nat) (w : World) (h : RRd w q x n c L t e) (ht : t' ≤ n) :
    Calls Try.prog 46 #[.pointer (some ⟨q, 0, none⟩), .int .i64 (e' : Int), .int .i64 (t' : Int)] w fun ed w' => ed = .returned (.tuple #[]) ∧ Turn q w w' ∧ RRd w' q x n c L (if e = 0 then t' else t) (if e = 0 then e' else e) := by
  have h2 := h.bad
  by_cases he : e = 0
  · subst he
    have hf2 := h.fr 2
    have hs := h.setBad e'
    have h1 := hs.place
    have hf1 := hs.fr 1
    have HD : Hid (Turn q w ((w.setCell ⟨q, 2, none⟩ (.int .i64 (e' : Int))).setCell ⟨q, 1, none⟩ (.int .i64 (t' : Int))) ∧ RRd ((w.setCell ⟨q, 2, none⟩ (.int .i64 (e' : Int))).setCell ⟨q, 1, none⟩ (.int .i64 (t' : Int))) q x n c L t' e') :=
      ⟨((Turn.refl q w).setCell rfl _).setCell rfl _, hs.setPlace t' ht⟩
    clear h hs ht
    go_enter Try.func46, Try.ntmps46
    go_wp2_with fail
    go_end0
    exact ⟨rfl, HD.out.1, HD.out.2⟩
  · have hne : ((e : Int) == 0) = false := by simp; omega
    have HD : Hid (RRd w q x n c L t e) := h
    clear h ht
    go_enter Try.func46, Try.ntmps46
    go_wp2_with fail
    go_end0
    exact ⟨rfl, Turn.refl q w, HD.out⟩

/- Done(r). -/
theorem rdone_any (q n c t e : Nat) (x : Option Addr) (L : List Nat) (w : World) (h : RRd w q x n c L t e) :
    Calls Try.prog 38 #[.pointer (some ⟨q, 0, none⟩)] w fun ed w' => ed = .returned (.int .i64 (rDone (L.drop t) e : Int)) ∧ ∃ m, w' = w.drewN m := by
  have h0 := h.bytes
  have h1 := h.place
  have h2 := h.bad
  have hlen := h.sl.len
  clear h
  by_cases he : e = 0
  · subst he
    by_cases ht : t < n
    · have HD : Hid (rDone (L.drop t) 0 = 5) := (by unfold rDone; rw [if_neg (by omega), if_pos (by simp; omega)] : rDone (L.drop t) 0 = 5)
      clear hlen
      go_enter Try.func38, Try.ntmps38
      go_wp2_with fail
      go_quiet (fail)
      go_wp2_with fail
      go_ret
      exact ⟨by rw [HD.out]; rfl, _, rfl⟩
    · have HD : Hid (rDone (L.drop t) 0 = 0) := (by unfold rDone; rw [if_neg (by omega), if_neg (by simp; omega)] : rDone (L.drop t) 0 = 0)
      have hnt : n ≤ t := by omega
      clear hlen ht
      go_enter Try.func38, Try.ntmps38
      go_wp2_with fail
      go_quiet (fail)
      go_wp2_with fail
      go_ret
      exact ⟨by rw [HD.out]; rfl, _, rfl⟩
  · have hne : ((e : Int) == 0) = false := by simp; omega
    have HD : Hid (rDone (L.drop t) e = e) := (by unfold rDone; rw [if_pos he] : rDone (L.drop t) e = e)
    clear hlen
    go_enter Try.func38, Try.ntmps38
    go_wp2_with fail
    go_quiet (fail)
    go_wp2_with fail
    go_ret
    exact ⟨by rw [HD.out]; rfl, _, rfl⟩

end Go.Proofs.Ytjodeceaogngfaa

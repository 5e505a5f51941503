/-
  What Read and the reader's methods of package wire do: contracts over plain lists ('WiPlain').
  Conditions: bytes that are looked at lie in memory.
-/
import Derived.Test.YtjodeceaogngfaaWiLead
namespace Go.Proofs.Ytjodeceaogngfaa
open Go.RowKit Wi By
set_option linter.unusedVariables false
set_option linter.unusedSimpArgs false
set_option maxRecDepth 100000

/- A list that is a part of another one: in the same block. -/
def From (x x' : Option Addr) : Prop := ∀ a', x' = some a' → ∃ a, x = some a ∧ a.block = a'.block

theorem From.refl (x : Option Addr) : From x x := fun a h => ⟨a, h, rfl⟩
theorem From.trans {x y z : Option Addr} (h : From x y) (k : From y z) : From x z := fun a ha => by
  obtain ⟨b, hb, e⟩ := k a ha
  obtain ⟨c, hc, e2⟩ := h b hb
  exact ⟨c, hc, e2.trans e⟩
theorem From.cut (x : Option Addr) (c k : Nat) : From x (cutTo x c k) := fun a ha => cutTo_block ha
theorem From.ap {x y : Option Addr} {p : Nat} (h : From x y) (hx : ∀ a, x = some a → a.block ≠ p) : ∀ a, y = some a → a.block ≠ p := fun a ha => by
  obtain ⟨b, hb, e⟩ := h a ha
  rw [← e]
  exact hx b hb

def PGo (w w' : World) (p : Nat) (x : Option Addr) (l' : List Nat) (e' : Nat) : Prop := Turn p w w' ∧ ∃ x' n' c', PRd w' p x' n' c' l' e' ∧ From x x'

/- bytes.Clone, in new memory. -/
theorem clone_sl (x : Option Addr) (n c : Nat) (l : List Nat) (w : World) (hl : Sl w x n c l) (hn : n ≤ 140737488355328) :
    Calls Try.prog 32 #[.slice x n c] w fun e w' => ∃ y cy, e = .returned (.slice y n cy) ∧ Below w.heap.size w w' ∧ Sl w' y n cy l ∧ ∀ a, y = some a → w.heap.size ≤ a.block ∧ a.block < w'.heap.size := by
  cases x with
  | none =>
    obtain ⟨rfl, rfl⟩ := hl.nil' rfl
    have h0 : l = [] := List.eq_nil_of_length_eq_zero hl.len
    subst h0
    exact (clone_nil w).mono fun e w' h => ⟨none, 0, h.1, by rw [h.2]; exact Below.refl _ _, Sl.empty _, fun a ha => by cases ha⟩
  | some ad =>
    obtain ⟨g, cy, w', hrun, h1, h0, h2, h3, h4, h5⟩ := bytes_copy w (some ad) n c (gl l) hl.row (fun h => by cases h) hn
    have hcy : n ≤ cy := by
      rcases h0.2 with ⟨h, _⟩ | ⟨g', c', cur, h, _, _, hc, _⟩
      · cases h
      · injection h with _ _ h; rw [h]; exact hc
    have H1 : Hid (Below w.heap.size w w' ∧ Sl w' (some ⟨g, 0, none⟩) n cy l) := ⟨h1, hl.len, hcy, (fun h => by cases h), h5, hl.lt⟩
    have he : ∀ w : World, (binOp .eql 22 (.slice (some ad) n c) (.slice none 0 0)).run Try.prog w = .ok (.bool false) w := fun _ => by kernel_rfl
    clear h1 h0 h4 h5 hl hcy
    go_enter Try.func32, Try.ntmps32
    go_wp2_with (at_builtin; refine wpList_append_run rfl _ _ 22 rfl _ _ rfl rfl hrun ?_; clear hrun)
    go_ret
    exact ⟨some ⟨g, 0, none⟩, cy, rfl, H1.out.1, H1.out.2, fun a ha => by cases ha; exact ⟨h2, h3⟩⟩

/- Read(b). -/
theorem prd_new (w : World) (y : Option Addr) (n cy : Nat) (l : List Nat) (hy : Sl w y n cy l) (ha : ∀ a, y = some a → a.block < w.heap.size) (hn : n ≤ 140737488355328) :
    PRd (w.alloc (.cells #[.slice y n cy, .int .i64 0] 60)) w.heap.size y n cy l 0 :=
  ⟨by simp, by simp, fun j => frozen_new _ _ _ j, hy.below ((Below.refl _ _).alloc (Nat.le_refl _) _), fun a h => by have := ha a h; omega, hn⟩

theorem read_any (x : Option Addr) (n c : Nat) (l : List Nat) (w : World) (hl : Sl w x n c l) (hn : n ≤ 140737488355328) :
    Calls Try.prog 11 #[.slice x n c] w fun e w' => ∃ p y cy, e = .returned (.pointer (some ⟨p, 0, none⟩)) ∧ w.heap.size ≤ p ∧ Below w.heap.size w w' ∧ PRd w' p y n cy l 0 ∧ ∀ a, y = some a → w.heap.size ≤ a.block ∧ a.block < w'.heap.size := by
  have hc := clone_sl x n c l w hl hn
  clear hl
  go_enter Try.func11, Try.ntmps11
  go_wp2_with (go_at_call 32; refine hc.mono ?_; rintro e w2 ⟨y, cy, rfl, hb, hy, ha⟩; clear hc)
  go_ret
  exact ⟨w2.heap.size, y, cy, rfl, hb.size, hb.alloc hb.size _, prd_new w2 y n cy l hy (fun a h => (ha a h).2) hn, fun a h => ⟨(ha a h).1, by have := (ha a h).2; simp; omega⟩⟩

/- Err, Left, Done. -/
theorem perr_any (p e : Nat) (w : World) (hc : w.cell? ⟨p, 1, none⟩ = some (.int .i64 (e : Int))) :
    Calls Try.prog 20 #[.pointer (some ⟨p, 0, none⟩)] w fun ed w' => ed = .returned (.int .i64 (e : Int)) ∧ w' = w := by
  go_enter Try.func20, Try.ntmps20
  go_wp2_with fail
  go_ret
  exact ⟨rfl, rfl⟩

theorem pleft_any (p n c : Nat) (x : Option Addr) (w : World) (hc : w.cell? ⟨p, 0, none⟩ = some (.slice x n c)) :
    Calls Try.prog 19 #[.pointer (some ⟨p, 0, none⟩)] w fun ed w' => ed = .returned (.int .i64 (n : Int)) ∧ w' = w := by
  go_enter Try.func19, Try.ntmps19
  go_wp2_with fail
  go_ret
  exact ⟨rfl, rfl⟩

theorem pdone_any (p n c e : Nat) (x : Option Addr) (l : List Nat) (w : World) (h : PRd w p x n c l e) :
    Calls Try.prog 18 #[.pointer (some ⟨p, 0, none⟩)] w fun ed w' => ed = .returned (.int .i64 (rDone l e : Int)) ∧ w' = w := by
  have h1 := perr_any p e w h.wrong
  have h2 := pleft_any p n c x w h.rest
  have hlen := h.sl.len
  by_cases he : e = 0
  · subst he
    by_cases h0 : n = 0
    · have HD : Hid (rDone l 0 = 0) := (by unfold rDone; rw [if_neg (by omega), if_neg (by omega)] : rDone l 0 = 0)
      subst h0
      clear h
      go_enter Try.func18, Try.ntmps18
      go_wp2_with (first
        | (go_at_call 20; refine h1.mono ?_; rintro e w' ⟨rfl, rfl⟩; clear h1)
        | (go_at_call 19; refine h2.mono ?_; rintro e w' ⟨rfl, rfl⟩; clear h2))
      go_ret
      exact ⟨by rw [HD.out]; rfl, rfl⟩
    · have HD : Hid (rDone l 0 = 5) := (by unfold rDone; rw [if_neg (by omega), if_pos (by omega)] : rDone l 0 = 5)
      have hpos : 0 < n := by omega
      clear h
      go_enter Try.func18, Try.ntmps18
      go_wp2_with (first
        | (go_at_call 20; refine h1.mono ?_; rintro e w' ⟨rfl, rfl⟩; clear h1)
        | (go_at_call 19; refine h2.mono ?_; rintro e w' ⟨rfl, rfl⟩; clear h2))
      go_ret
      exact ⟨by rw [HD.out]; rfl, rfl⟩
  · have HD : Hid (rDone l e = e) := (by unfold rDone; rw [if_pos he] : rDone l e = e)
    have hne : ((e : Int) != 0) = true := by simp; omega
    clear h h2
    go_enter Try.func18, Try.ntmps18
    go_wp2_with (go_at_call 20; refine h1.mono ?_; rintro e w' ⟨rfl, rfl⟩; clear h1)
    go_ret
    exact ⟨by rw [HD.out]; rfl, rfl⟩

/- Uvarint(). -/
theorem puv_any (p n c e : Nat) (x : Option Addr) (l : List Nat) (w : World) (h : PRd w p x n c l e) :
    Calls Try.prog 13 #[.pointer (some ⟨p, 0, none⟩)] w fun ed w' => ed = .returned (.int .u64 ((rUv l e).1 : Int)) ∧ PGo w w' p x (rUv l e).2.1 (rUv l e).2.2 := by
  have h1 := perr_any p e w h.wrong
  have hsm := h.small
  by_cases he : e = 0
  · subst he
    have h2 := leading_any x n c l w h.sl hsm
    have hc0 := h.rest
    have hc1 := h.wrong
    have hf0 := h.fr 0
    have hf1 := h.fr 1
    cases hl : lead l with
    | none =>
      rw [ld_none hl] at h2
      have HD : Hid (rUv l 0 = (0, l, 5) ∧ PGo w (w.setCell ⟨p, 1, none⟩ (.int .i64 5)) p x l 5) := ⟨rUv_no hl, (Turn.refl p w).setCell rfl _, x, n, c, h.setWrong 5, From.refl x⟩
      clear h hl
      go_enter Try.func13, Try.ntmps13
      go_wp2_with (first
        | (go_at_call 20; refine h1.mono ?_; rintro e w' ⟨rfl, rfl⟩; clear h1)
        | (go_at_call 39; refine h2.mono ?_; rintro e w' ⟨rfl, rfl⟩; clear h2))
      go_ret
      rw [HD.out.1]
      exact ⟨rfl, HD.out.2⟩
    | some q =>
      obtain ⟨N, k⟩ := q
      rw [ld_some hl] at h2
      have hk := (lead_canon h.sl.lt hl).2.2.1
      have hN := (lead_canon h.sl.lt hl).2.2.2
      have hkp := lead_pos h.sl.lt hl
      rw [h.sl.len] at hk
      have hcut := fun v => wcut_from x n c k v hk
      have hk0 : ((k : Int) == 0) = false := by simp; omega
      have HD : Hid (rUv l 0 = (N, l.drop k, 0) ∧ PGo w (w.setCell ⟨p, 0, none⟩ (.slice (cutTo x c k) (n - k) (c - k))) p x (l.drop k) 0) :=
        ⟨rUv_yes hl, (Turn.refl p w).setCell rfl _, _, _, _, h.setRest (h.sl.from k hk) ((From.cut x c k).ap h.ap) (by omega), From.cut x c k⟩
      clear h hl
      go_enter Try.func13, Try.ntmps13
      go_wp2_with (first
        | (go_at_call 20; refine h1.mono ?_; rintro e w' ⟨rfl, rfl⟩; clear h1)
        | (go_at_call 39; refine h2.mono ?_; rintro e w' ⟨rfl, rfl⟩; clear h2))
      go_ret
      rw [HD.out.1]
      exact ⟨rfl, HD.out.2⟩
  · have HD : Hid (rUv l e = (0, l, e) ∧ PGo w w p x l e) := ⟨rUv_bad he, Turn.refl p w, x, n, c, h, From.refl x⟩
    have hne : ((e : Int) != 0) = true := by simp; omega
    clear h
    go_enter Try.func13, Try.ntmps13
    go_wp2_with (go_at_call 20; refine h1.mono ?_; rintro e w' ⟨rfl, rfl⟩; clear h1)
    go_ret
    rw [HD.out.1]
    exact ⟨rfl, HD.out.2⟩

/- Varint(). -/
theorem pvar_any (p n c e : Nat) (x : Option Addr) (l : List Nat) (w : World) (h : PRd w p x n c l e) :
    Calls Try.prog 14 #[.pointer (some ⟨p, 0, none⟩)] w fun ed w' => ed = .returned (.int .i64 (unzz (rUv l e).1)) ∧ PGo w w' p x (rUv l e).2.1 (rUv l e).2.2 := by
  have h1 := puv_any p n c e x l w h
  have h2 := fun v => unfolded_any (rUv l e).1 v (rUv_lt l e h.sl.lt)
  generalize (rUv l e).1 = N at *
  generalize (rUv l e).2.1 = l2 at *
  generalize (rUv l e).2.2 = e2 at *
  clear h
  go_enter Try.func14, Try.ntmps14
  go_wp2_with (first
    | (go_at_call 13; refine h1.mono ?_; rintro e w2 ⟨rfl, hg⟩; clear h1)
    | (go_at_call 40; refine (h2 _).mono ?_; rintro e w' ⟨rfl, rfl⟩; clear h2))
  go_ret
  exact ⟨rfl, hg⟩

/- refuse(begin, wrong). -/
theorem prefuse_any (p n c e e' n' c' : Nat) (x x' : Option Addr) (l l' : List Nat) (w : World) (h : PRd w p x n c l e) (hs : Sl w x' n' c' l') (ha : ∀ a, x' = some a → a.block ≠ p) (hn : n' ≤ 140737488355328) :
    Calls Try.prog 42 #[.pointer (some ⟨p, 0, none⟩), .slice x' n' c', .int .i64 (e' : Int)] w fun ed w' => ed = .returned (.tuple #[]) ∧ PGo w w' p x' l' e' := by
  have hc0 := h.rest
  have hf0 := h.fr 0
  have hg := h.setRest hs ha hn
  have hc1 := hg.wrong
  have hf1 := hg.fr 1
  have HD : Hid (PGo w ((w.setCell ⟨p, 0, none⟩ (.slice x' n' c')).setCell ⟨p, 1, none⟩ (.int .i64 (e' : Int))) p x' l' e') := ⟨((Turn.refl p w).setCell rfl _).setCell rfl _, x', n', c', hg.setWrong e', From.refl x'⟩
  clear h hg hs ha
  go_enter Try.func42, Try.ntmps42
  go_wp2_with fail
  go_end0
  exact ⟨rfl, HD.out⟩

end Go.Proofs.Ytjodeceaogngfaa

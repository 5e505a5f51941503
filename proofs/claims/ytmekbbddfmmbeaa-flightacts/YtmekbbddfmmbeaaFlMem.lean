/-
  Messages on their way as they lie in memory: the flight's own block, its row of messages, the map of who is parted.
  Conditions: none.
-/
import Derived.Test.YtmekbbddfmmbeaaFlBase
import Derived.Maps.OwnSet
import Derived.DeepKeys4
namespace Go.Proofs.Ytmekbbddfmmbeaa.Fl
open Go.RowKit By
set_option linter.unusedVariables false
set_option linter.unusedSimpArgs false
set_option maxRecDepth 100000

/- A message: its nodes, its bytes, and where these lie. -/
structure MV where
  fr : Int
  to : Int
  x : Option Addr
  n : Nat
  c : Nat
  d : List Nat

def encM (m : MV) : List Value := [.int .i64 m.fr, .int .i64 m.to, .slice m.x m.n m.c]

theorem mrow : Row 46 62 3 40 encM := by
  have hi : (Try.prog.info? 62).map (fun i => (i.zero, i.size, i.bytes)) = some (some (.agg #[.int .i64 0, .int .i64 0, .slice none 0 0]), 3, 40) := by kernel_rfl
  obtain ⟨i0, h1, h2, h3, h4⟩ := info_parts hi
  exact ⟨Try.underlying46, ⟨i0, _, h1, h2, h3, h4, rfl⟩, by decide, by decide, fun a => rfl, fun a v hv => by simp [encM] at hv; rcases hv with rfl | rfl | rfl <;> rfl⟩

def wfi (a : Int) : Prop := (Lit.int .i64 a).wf = true

structure MOk (w : World) (m : MV) : Prop where
  sl : Sl w m.x m.n m.c m.d
  sm : m.n ≤ 140737488351232
  tb : ∀ a, m.x = some a → Tb w a.block 5
  wf : wfi m.fr
  wt : wfi m.to

theorem MOk.turns {w w' : World} {G : Nat → Prop} {m : MV} (h : MOk w m) (t : Turns G w w') (hx : ∀ a, m.x = some a → ¬ G a.block) : MOk w' m :=
  ⟨h.sl.turns t (fun _ => hx), h.sm, fun a ha => (h.tb a ha).of_heap (t.block _ (h.tb a ha).lt (hx a ha)), h.wf, h.wt⟩

/- Keys that are pairs. -/
def pk (a b : Int) : Value := .agg #[.int .i64 a, .int .i64 b]
def plit (a b : Int) : Lit := .string (keyBytes [.int .i64 a, .int .i64 b])

theorem laidOut : laidOutB Try.prog = true := by kernel_rfl
theorem plaw : Maps.Keyed Try.prog 59 := Maps.Keyed.of_law (deep_law_laid laidOut (m := 2) (by omega) (of_decide_eq_true (by kernel_rfl)) (by kernel_rfl) (by kernel_rfl))

theorem pk_key {a b : Int} (ha : wfi a) (hb : wfi b) : keyOf Try.prog 59 (pk a b) = some (plit a b) := by
  have h1 : Try.prog.keyType 59 = true := by kernel_rfl
  have h2 : (pk a b).formed Try.prog 59 = true := by kernel_rfl
  have h3 : Try.prog.keyLits (Try.prog.types.size + 1) 59 (pk a b).cells.toList = some [.int .i64 a, .int .i64 b] := by
    unfold wfi at ha hb
    have e0 : Try.prog.types.size + 1 = 83 + 1 + 1 := by kernel_rfl
    have e2 : Try.prog.cellsOf 59 = 2 := by kernel_rfl
    have e3 : Try.prog.cellsOf 3 = 1 := by kernel_rfl
    rw [e0]
    unfold Program.keyLits
    rw [Try.underlying59]
    simp [pk, Value.cells, e2]
    unfold Program.keyLits
    simp [Try.underlying3, e3, ha, hb]
  have hu : Try.prog.underlying 59 = Try.prog.underlying 59 := rfl
  unfold keyOf
  rw [Try.underlying59]
  simp only [h1, h2, Bool.and_self, if_true, h3, Option.map_some]
  rfl

theorem pair_inj {a b c d : Int} (ha : wfi a) (hb : wfi b) (hc : wfi c) (hd : wfi d) (h : plit a b = plit c d) : a = c ∧ b = d := by
  have := plaw.inj (pk_key ha hb) (h ▸ pk_key hc hd)
  simp [pk] at this
  exact this

def obj2 (a b : Value) : Nat → Value := fun i => if i = 0 then a else b

structure FlAt (w : World) (B p mb nb : Nat) (D : DataW Value) (R : Value) (L : List MV) (S : Int → Int → Bool) : Prop where
  obj : Blk w p 49 2 (obj2 R (.map (some mb)))
  own : Own w B 62 3 encM R L
  map : w.ownsMap Try.prog 59 unitElem mb nb D
  has : ∀ a b, wfi a → wfi b → Maps.has D (plit (min a b) (max a b)) = S a b
  dat : ∀ m ∈ L, MOk w m
  bp : B ≤ p
  bm : B ≤ mb

/- What a flight's calls write. -/
def fp (p mb : Nat) (R : Value) : Nat → Prop := fun k => k = p ∨ k = mb ∨ R.ownBlock = some k

def FTy (w : World) (k : Nat) : Prop := Tb w k 49 ∨ Tb w k 62 ∨ Mb w k

section
variable {w w' : World} {B p mb nb : Nat} {D : DataW Value} {R : Value} {L : List MV} {S : Int → Int → Bool}

theorem FlAt.c0 (h : FlAt w B p mb nb D R L S) : w.cell? ⟨p, 0, none⟩ = some R := h.obj.cell (k := 0) (by omega)
theorem FlAt.c1 (h : FlAt w B p mb nb D R L S) : w.cell? ⟨p, 1, none⟩ = some (.map (some mb)) := h.obj.cell (k := 1) (by omega)

theorem map_lt (h : w.ownsMap Try.prog 59 unitElem mb nb D) : mb < w.heap.size ∧ Mb w mb := by
  obtain ⟨es, c, hb, _⟩ := h
  exact ⟨(Array.getElem?_eq_some_iff.1 hb).1, es, c, hb⟩

theorem FlAt.foot (h : FlAt w B p mb nb D R L S) : ∀ k, fp p mb R k → B ≤ k ∧ FTy w k := fun k hk => by
  rcases hk with rfl | rfl | hk
  · exact ⟨h.bp, .inl h.obj.tb⟩
  · exact ⟨h.bm, .inr (.inr (map_lt h.map).2)⟩
  · exact ⟨(h.own.tb hk).1, .inr (.inl (h.own.tb hk).2)⟩

theorem FlAt.turns {G : Nat → Prop} (h : FlAt w B p mb nb D R L S) (t : Turns G w w') (hp : ¬ G p) (hm : ¬ G mb) (hR : ∀ g, R.ownBlock = some g → ¬ G g) (hd : ∀ m ∈ L, ∀ a, m.x = some a → ¬ G a.block) : FlAt w' B p mb nb D R L S := by
  obtain ⟨es, clock, hb, r⟩ := h.map
  exact ⟨t.blk h.obj hp, h.own.turns t hR, ⟨es, clock, (t.block mb (map_lt h.map).1 hm).trans hb, r⟩, h.has, fun m hm => (h.dat m hm).turns t (hd m hm), h.bp, h.bm⟩

theorem FlAt.below (h : FlAt w B p mb nb D R L S) (t : Below w.heap.size w w') : FlAt w' B p mb nb D R L S :=
  h.turns (Turns.of_below (F := fun _ => False) t) (fun h => h) (fun h => h) (fun _ _ h => h) (fun _ _ _ _ h => h)

/- Blocks of none of a flight's types may be turned. -/
theorem FlAt.apart {G : Nat → Prop} (h : FlAt w B p mb nb D R L S) (t : Turns G w w') (hG : ∀ k, G k → ¬ FTy w k ∧ ¬ Tb w k 5) : FlAt w' B p mb nb D R L S :=
  h.turns t (fun e => (hG _ e).1 (h.foot _ (.inl rfl)).2) (fun e => (hG _ e).1 (h.foot _ (.inr (.inl rfl))).2) (fun g hg e => (hG _ e).1 (h.foot _ (.inr (.inr hg))).2) (fun m hm a ha e => (hG _ e).2 ((h.dat m hm).tb a ha))

theorem FlAt.congr {S' : Int → Int → Bool} (h : FlAt w B p mb nb D R L S) (e : ∀ a b, wfi a → wfi b → S a b = S' a b) : FlAt w B p mb nb D R L S' :=
  ⟨h.obj, h.own, h.map, fun a b ha hb => (h.has a b ha hb).trans (e a b ha hb), h.dat, h.bp, h.bm⟩

end

theorem results_cell {fn : Func} {p : Tmp} {ty : TypeId} (h : fn.results = #[.cell p ty]) (tmps : Array Value) (P : Program) (w : World) :
    (results fn tmps).run P w = ((asAddr (tmps.getD p undef)).run P w).andThen fun a w₁ => (loadVar ty a).run P w₁ := by
  simp only [results, h]
  simp [Sem.run_bind, Result.andThen]

theorem made_yes (w : World) (p mb : Nat) (c1 : w.cell? ⟨p, 1, none⟩ = some (.map (some mb))) :
    Calls Try.prog 23 #[.pointer (some ⟨p, 0, none⟩)] w fun e w' => e = .returned (.bool true) ∧ w' = w := by
  have hne : ∀ w : World, (binOp .neq 47 (.map (some mb)) (.map none)).run Try.prog w = .ok (.bool true) w := fun _ => by kernel_rfl
  go_enter Try.func23, Try.ntmps23
  go_wp2_with fail
  go_ret
  exact ⟨rfl, rfl⟩

theorem len_yes (w : World) (p n c : Nat) (x : Option Addr) (c0 : w.cell? ⟨p, 0, none⟩ = some (.slice x n c)) :
    Calls Try.prog 10 #[.pointer (some ⟨p, 0, none⟩)] w fun e w' => e = .returned (.int .i64 (n : Int)) ∧ w' = w := by
  go_enter Try.func10, Try.ntmps10
  go_wp2_with fail
  go_ret
  exact ⟨rfl, rfl⟩

theorem has_yes (w : World) (p n c k : Nat) (x : Option Addr) (c0 : w.cell? ⟨p, 0, none⟩ = some (.slice x n c)) (hk : k < n) :
    Calls Try.prog 25 #[.pointer (some ⟨p, 0, none⟩), .int .i64 (k : Int)] w fun e w' => e = .returned (.bool true) ∧ w' = w := by
  have hL := len_yes w p n c x c0
  have h1 : (0 : Int) ≤ (k : Int) := by omega
  have h2 : (k : Int) < (n : Int) := by omega
  clear c0 hk
  go_enter Try.func25, Try.ntmps25
  go_wp2_with (go_at_call 10; refine hL.mono ?_; rintro e w' ⟨rfl, hw⟩; subst w'; clear hL)
  go_ret
  exact ⟨by simp [h2], rfl⟩

theorem has_no (w : World) (p n c : Nat) (i : Int) (x : Option Addr) (c0 : w.cell? ⟨p, 0, none⟩ = some (.slice x n c)) (hi : i < 0 ∨ (n : Int) ≤ i) :
    Calls Try.prog 25 #[.pointer (some ⟨p, 0, none⟩), .int .i64 i] w fun e w' => e = .returned (.bool false) ∧ w' = w := by
  have hL := len_yes w p n c x c0
  clear c0
  by_cases h1 : i < 0
  · clear hi
    go_enter Try.func25, Try.ntmps25
    go_wp2_with (go_at_call 10; refine hL.mono ?_; rintro e w' ⟨rfl, hw⟩; subst w'; clear hL)
    go_ret
    exact ⟨rfl, rfl⟩
  · have h2 : (0 : Int) ≤ i := by omega
    have h3 : ¬ i < (n : Int) := by omega
    clear hi h1
    go_enter Try.func25, Try.ntmps25
    go_wp2_with (go_at_call 10; refine hL.mono ?_; rintro e w' ⟨rfl, hw⟩; subst w'; clear hL)
    go_ret
    exact ⟨by simp [h3], rfl⟩

theorem room_yes (w : World) (p mb n c : Nat) (x : Option Addr) (c0 : w.cell? ⟨p, 0, none⟩ = some (.slice x n c)) (c1 : w.cell? ⟨p, 1, none⟩ = some (.map (some mb))) (hn : n < 16384) :
    Calls Try.prog 27 #[.pointer (some ⟨p, 0, none⟩)] w fun e w' => e = .returned (.bool true) ∧ w' = w := by
  have hM := made_yes w p mb c1
  have h2 : (n : Int) < 16384 := by omega
  clear c1 hn
  go_enter Try.func27, Try.ntmps27
  go_wp2_with (go_at_call 23; refine hM.mono ?_; rintro e w' ⟨rfl, hw⟩; subst w'; clear hM)
  go_ret
  exact ⟨by simp [h2], rfl⟩

theorem room_no (w : World) (p mb n c : Nat) (x : Option Addr) (c0 : w.cell? ⟨p, 0, none⟩ = some (.slice x n c)) (c1 : w.cell? ⟨p, 1, none⟩ = some (.map (some mb))) (hn : 16384 ≤ n) :
    Calls Try.prog 27 #[.pointer (some ⟨p, 0, none⟩)] w fun e w' => e = .returned (.bool false) ∧ w' = w := by
  have hM := made_yes w p mb c1
  have h2 : ¬ (n : Int) < 16384 := by omega
  clear c1 hn
  go_enter Try.func27, Try.ntmps27
  go_wp2_with (go_at_call 23; refine hM.mono ?_; rintro e w' ⟨rfl, hw⟩; subst w'; clear hM)
  go_ret
  exact ⟨by simp [h2], rfl⟩

/- bytes.Clone. -/
theorem clone_sl (x : Option Addr) (n c : Nat) (l : List Nat) (w : World) (hl : Sl w x n c l) (hn : n ≤ 140737488355328) :
    Calls Try.prog 26 #[.slice x n c] w fun e w' => ∃ y cy, e = .returned (.slice y n cy) ∧ Hid (Below w.heap.size w w' ∧ Sl w' y n cy l ∧ (∀ a, y = some a → w.heap.size ≤ a.block ∧ Tb w' a.block 5 ∧ (∀ j, w'.frozen? ⟨a.block, j, none⟩ = false) ∧ a = ⟨a.block, 0, none⟩)) := by
  cases x with
  | none =>
    obtain ⟨rfl, rfl⟩ := hl.nil' rfl
    have h0 : l = [] := List.eq_nil_of_length_eq_zero hl.len
    subst h0
    exact (clone_nil w).mono fun e w' h => ⟨none, 0, h.1, by rw [h.2]; exact Below.refl _ _, Sl.empty _, fun a ha => by cases ha⟩
  | some ad =>
    obtain ⟨g, cy, w', hrun, h1, h0, h2, h3, h4, h5⟩ := bytes_copy w (some ad) n c (gl l) hl.row (fun h => by cases h) hn
    have hcy : n ≤ cy ∧ Tb w' g 5 ∧ ∀ j, w'.frozen? ⟨g, j, none⟩ = false := by
      rcases h0.2 with ⟨h, _⟩ | ⟨g', c', cur, h, _, hg, hc, _⟩
      · cases h
      · injection h with h _ e
        injection h with h
        injection h with h _ _
        subst h
        subst e
        exact ⟨hc, ⟨_, _, hg⟩, fun j => by simp [World.frozen?, hg]⟩
    have H1 : Hid (Below w.heap.size w w' ∧ Sl w' (some ⟨g, 0, none⟩) n cy l ∧ Tb w' g 5 ∧ (∀ j, w'.frozen? ⟨g, j, none⟩ = false) ∧ w.heap.size ≤ g) := ⟨h1, ⟨hl.len, hcy.1, (fun h => by cases h), h5, hl.lt⟩, hcy.2.1, hcy.2.2, h2⟩
    have he : ∀ w : World, (binOp .eql 31 (.slice (some ad) n c) (.slice none 0 0)).run Try.prog w = .ok (.bool false) w := fun _ => by kernel_rfl
    clear h1 h0 h4 h5 hl hcy h2 h3
    go_enter Try.func26, Try.ntmps26
    go_wp2_with (at_builtin; refine wpList_append_run rfl _ _ 31 rfl _ _ rfl rfl hrun ?_; clear hrun)
    go_ret
    exact ⟨some ⟨g, 0, none⟩, cy, rfl, H1.out.1, H1.out.2.1, fun a ha => by cases ha; exact ⟨H1.out.2.2.2.2, H1.out.2.2.1, H1.out.2.2.2.1, rfl⟩⟩

theorem pairOf_any (a b : Int) (w : World) : Calls Try.prog 24 #[.int .i64 a, .int .i64 b] w fun e w' => e = .returned (pk (min a b) (max a b)) ∧ Below w.heap.size w w' := by
  rcases Int.lt_trichotomy a b with h | h | h
  · go_enter Try.func24, Try.ntmps24
    go_wp2_with fail
    refine bodyPost_ret (v := pk (min a b) (max a b)) ?_ rfl ⟨rfl, (Below.refl _ _).alloc (Nat.le_refl _) _⟩
    rw [Int.min_eq_left (by omega), Int.max_eq_right (by omega)]
    unfold pk
    rw [results_cell rfl]
    go_simp
  · subst h
    have h : a ≤ a := Int.le_refl a
    have h2 : ¬ a < a := by omega
    go_enter Try.func24, Try.ntmps24
    go_wp2_with fail
    refine bodyPost_ret (v := pk a a) ?_ rfl ⟨by simp, (Below.refl _ _).alloc (Nat.le_refl _) _⟩
    unfold pk
    rw [results_cell rfl]
    go_simp
  · go_enter Try.func24, Try.ntmps24
    go_wp2_with fail
    refine bodyPost_ret (v := pk (min a b) (max a b)) ?_ rfl ⟨rfl, (Below.refl _ _).alloc (Nat.le_refl _) _⟩
    rw [Int.min_eq_right (by omega), Int.max_eq_left (by omega)]
    unfold pk
    rw [results_cell rfl]
    go_simp

end Go.Proofs.Ytmekbbddfmmbeaa.Fl

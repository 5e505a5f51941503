/-
  5 texts of this proof, one behind the other: AtFunc, AtBox, AtTurn, AtNums, AtItem.
-/
import Derived.Test.YtnddhlkdemibgaaJ03
import Derived.Shelf.Abstract
import Derived.Laws.MakeOwn
import Derived.Laws.OwnMore
import Derived.Deep.Slices
/-
  slices.IndexFunc and slices.ContainsFunc at OSDs, whatever is asked of each; seat, moved.
  Conditions: the list lies in memory.
-/
namespace Go.Proofs.Ytnddhlkdemibgaa.At
open Go.RowKit By Fl
set_option linter.unusedVariables false
set_option linter.unusedSimpArgs false
set_option maxRecDepth 100000

/- What is asked of each: it answers p, and turns nothing. -/
def Pr (g : Nat) (lb : Array Value) (p : Osd → Bool) (w : World) : Prop :=
  ∀ (W : World) (x : Osd), Below w.heap.size w W → Calls Try.prog g (#[vO x] ++ lb) W fun e w' => e = .returned (.bool (p x)) ∧ Below W.heap.size W w'

theorem Pr.below {g : Nat} {lb : Array Value} {p : Osd → Bool} {w w' : World} (h : Pr g lb p w) (hb : Below w.heap.size w w') : Pr g lb p w' := fun W x hW => h W x (on hb hW)

theorem index_any {w : World} {x : Option Addr} {n c : Nat} {L : List Osd} (p : Osd → Bool) (g : Nat) (lb : Array Value) (eg : ∀ args w, (callFunc g args).run Try.prog w = .ok (.enter g args) w) (h : Os w x n c L) (hp : Pr g lb p w) :
    Calls Try.prog 54 #[.slice x n c, .func (.func g) #[] lb] w fun e w' => e = .returned (.int .i64 (idx p L)) ∧ Below w.heap.size w w' := by
  have hm := h.small
  have HO : Hid (Os w x n c L) := h
  have HP : Hid (Pr g lb p w) := hp
  clear h hp
  go_enter Try.func54, Try.ntmps54
  go_wp2_with fail
  go_loopw [8, 5] (fun i _ wr => ∃ k : Nat, k ≤ n ∧ i = .int .i64 k ∧ Hid (Below w.heap.size w wr ∧ ∀ (j : Nat) (m : Osd), j < k → L[j]? = some m → p m = false)) (fun i _ _ => n - (intOf i).toNat)
  case atStart => exact ⟨0, by omega, rfl, Below.refl _ _, fun j m hj => by omega⟩
  case round =>
    obtain ⟨k, hk, rfl, HR⟩ := hrel
    by_cases hlt : k < n
    · have hkn : (k : Int) < (n : Int) := by omega
      have hlen := HO.out.len
      obtain ⟨m, hLm⟩ : ∃ m, L[k]? = some m := ⟨L[k]'(by omega), List.getElem?_eq_getElem (by omega)⟩
      have ho := HO.out.below HR.out.1
      rcases ho.row with h0 | ⟨b, o, rfl, hbl, hcell⟩
      · omega
      obtain ⟨k0, k1, k2, k3, k4, k5, k6, k7⟩ := Os.at (n := n) (c := c) hcell hLm
      have hc := HP.out wr m HR.out.1
      have HM : Hid (L[k]? = some m) := hLm
      clear hLm ho hcell hlen
      obtain ⟨t, ht⟩ : ∃ t, t = p m := ⟨_, rfl⟩
      rw [← ht] at hc
      have HT : Hid (t = p m) := ht
      clear ht
      obtain ⟨id, up, inn, wt, life, boot, host, rack⟩ := m
      unfold vO at hc
      dsimp only at k0 k1 k2 k3 k4 k5 k6 k7 hc
      cases t with
      | true =>
        go_wp2_with (go_at_fn g; refine hc.mono ?_; rintro e w2 ⟨rfl, hb2⟩; clear hc)
        go_ret
        exact ⟨by unfold idx; rw [idx_hit HM.out HT.out.symm HR.out.2]; rfl, on HR.out.1 hb2⟩
      | false =>
        go_wp2_with (go_at_fn g; refine hc.mono ?_; rintro e w2 ⟨rfl, hb2⟩; clear hc)
        go_roundw
        case rel =>
          refine ⟨k + 1, by omega, by go_num, on HR.out.1 hb2, fun j m' hj e => ?_⟩
          by_cases hjk : j = k
          · subst hjk
            have := Option.some.inj (HM.out.symm.trans e)
            rw [← this]
            exact HT.out.symm
          · exact HR.out.2 j m' (by omega) e
        case measure => simp [intOf]; omega
    · have hk2 : k = n := by omega
      subst hk2
      go_wp2_with fail
      go_ret
      refine ⟨?_, HR.out.1⟩
      unfold idx
      rw [idx_miss fun j m e => HR.out.2 j m (by
        have := (List.getElem?_eq_some_iff.1 e).1
        have := HO.out.len
        omega) e]
      rfl

theorem idx_any (p : Osd → Bool) (L : List Osd) : L.any p = decide (0 ≤ idx p L) := by
  unfold idx
  cases h : L.findIdx? p with
  | none =>
    rw [List.findIdx?_eq_none_iff] at h
    simp only [Bool.eq_false_iff] at *
    have : L.any p = false := by
      rw [List.any_eq_false]
      intro x hx e
      exact h x hx e
    rw [this]
    rfl
  | some k =>
    obtain ⟨a, ha, hp, _⟩ := idx_some h
    have : L.any p = true := List.any_eq_true.2 ⟨a, List.mem_of_getElem? ha, hp⟩
    rw [this]
    simp

theorem contains_any {w : World} {x : Option Addr} {n c : Nat} {L : List Osd} (p : Osd → Bool) (g : Nat) (lb : Array Value) (eg : ∀ args w, (callFunc g args).run Try.prog w = .ok (.enter g args) w) (h : Os w x n c L) (hp : Pr g lb p w) :
    Calls Try.prog 77 #[.slice x n c, .func (.func g) #[] lb] w fun e w' => e = .returned (.bool (L.any p)) ∧ Below w.heap.size w w' := by
  have hI := index_any p g lb eg h hp
  rw [idx_any]
  generalize idx p L = r at hI ⊢
  clear h hp
  go_enter Try.func77, Try.ntmps77
  go_wp2_with (go_at_call 54; refine hI.mono ?_; rintro e w2 ⟨rfl, hb2⟩)
  go_ret
  exact ⟨rfl, hb2⟩

theorem seat_clos (w : World) (bx : Nat) (id : Int) (hb : w.cell? ⟨bx, 0, none⟩ = some (.int .i64 id)) : Pr 55 #[.pointer (some ⟨bx, 0, none⟩)] (isId id) w := by
  intro W x hW
  obtain ⟨i, up, inn, wt, life, boot, host, rack⟩ := x
  have h1 := keep hW hb
  have hlt := cell_lt' h1
  have h2 := fun o => keep (al W o) h1
  clear hb hW
  unfold vO isId
  dsimp only
  show Calls Try.prog 55 #[.agg #[.int .i64 i, .bool up, .bool inn, .int .i64 wt, .int .i64 life, .int .i64 boot, .int .i64 host, .int .i64 rack], .pointer (some ⟨bx, 0, none⟩)] W _
  go_enter Try.func55, Try.ntmps55
  go_wp2_with fail
  go_ret
  exact ⟨rfl, al _ _⟩

theorem moved_clos (w : World) (bx : Nat) (h r : Int) (hb : w.cell? ⟨bx, 6, none⟩ = some (.int .i64 h)) (hr : w.cell? ⟨bx, 7, none⟩ = some (.int .i64 r)) (o : Osd) (eh : o.host = h) (er : o.rack = r) : Pr 78 #[.pointer (some ⟨bx, 0, none⟩)] (mvB o) w := by
  intro W x hW
  obtain ⟨i, up, inn, wt, life, boot, host, rack⟩ := x
  have h1 := keep hW hb
  have h3 := keep hW hr
  have hlt := cell_lt' h1
  have h2 := fun o => keep (al W o) h1
  have h4 := fun o => keep (al W o) h3
  unfold vO mvB
  rw [eh, er]
  clear hb hr hW eh er
  dsimp only
  show Calls Try.prog 78 #[.agg #[.int .i64 i, .bool up, .bool inn, .int .i64 wt, .int .i64 life, .int .i64 boot, .int .i64 host, .int .i64 rack], .pointer (some ⟨bx, 0, none⟩)] W _
  go_enter Try.func78, Try.ntmps78
  go_wp2_with fail
  all_goals (go_ret; exact ⟨by by_cases e : rack = r <;> simp_all, al _ _⟩)

theorem add_clos (w : World) (bx : Nat) (id : Int) (hb : w.cell? ⟨bx, 0, none⟩ = some (.int .i64 id)) : Pr 79 #[.pointer (some ⟨bx, 0, none⟩)] (overId id) w := by
  intro W x hW
  obtain ⟨i, up, inn, wt, life, boot, host, rack⟩ := x
  have h1 := keep hW hb
  have hlt := cell_lt' h1
  have h2 := fun o => keep (al W o) h1
  clear hb hW
  unfold vO overId
  dsimp only
  show Calls Try.prog 79 #[.agg #[.int .i64 i, .bool up, .bool inn, .int .i64 wt, .int .i64 life, .int .i64 boot, .int .i64 host, .int .i64 rack], .pointer (some ⟨bx, 0, none⟩)] W _
  go_enter Try.func79, Try.ntmps79
  go_wp2_with fail
  go_ret
  exact ⟨rfl, al _ _⟩

theorem seat_any {w : World} {x : Option Addr} {n c : Nat} {L : List Osd} (id : Int) (h : Os w x n c L) :
    Calls Try.prog 33 #[.slice x n c, .int .i64 id] w fun e w' => e = .returned (.int .i64 (idx (isId id) L)) ∧ Below w.heap.size w w' := by
  have b0 := al w (.cells #[.int .i64 id] 3)
  have hI := index_any (isId id) 55 #[.pointer (some ⟨w.heap.size, 0, none⟩)] (enters_of Try.func55 (by kernel_rfl) rfl) (h.below b0) (seat_clos _ w.heap.size id (by go_simp))
  generalize idx (isId id) L = r at hI ⊢
  clear h
  go_enter Try.func33, Try.ntmps33
  go_wp2_with (go_at_call 54; refine hI.mono ?_; rintro e w2 ⟨rfl, hb2⟩)
  go_ret
  exact ⟨rfl, on b0 hb2⟩

theorem moved_any {w : World} {x : Option Addr} {n c : Nat} {L : List Osd} (o : Osd) (h : Os w x n c L) :
    Calls Try.prog 57 #[.slice x n c, vO o] w fun e w' => e = .returned (.bool (movedB L o)) ∧ Below w.heap.size w w' := by
  have b0 := al w (.cells #[.int .i64 o.id, .bool o.up, .bool o.inn, .int .i64 o.wt, .int .i64 o.life, .int .i64 o.boot, .int .i64 o.host, .int .i64 o.rack] 28)
  have hI := contains_any (mvB o) 78 #[.pointer (some ⟨w.heap.size, 0, none⟩)] (enters_of Try.func78 (by kernel_rfl) rfl) (h.below b0) (moved_clos _ w.heap.size o.host o.rack (by go_simp) (by go_simp) o rfl rfl)
  unfold movedB
  generalize L.any (mvB o) = r at hI ⊢
  clear h
  obtain ⟨i, up, inn, wt, life, boot, host, rack⟩ := o
  unfold vO
  dsimp only at b0 hI ⊢
  go_enter Try.func57, Try.ntmps57
  go_wp2_with (go_at_call 77; refine hI.mono ?_; rintro e w2 ⟨rfl, hb2⟩)
  go_ret
  exact ⟨rfl, on b0 hb2⟩

end Go.Proofs.Ytnddhlkdemibgaa.At

/-
  One OSD, and one map, that are written: where they lie; what setUp, setDown, setIn, setOut, setWeight do to one.
  Conditions: none.
-/
namespace Go.Proofs.Ytnddhlkdemibgaa.At
open Go.RowKit By Fl
set_option linter.unusedVariables false
set_option linter.unusedSimpArgs false
set_option maxRecDepth 100000

theorem heap_set {w : World} {a j : Nat} {cs : Array Value} {t : TypeId} (h : w.heap[a]? = some (.cells cs t (0, 0))) (v : Value) : (w.setCell ⟨a, j, none⟩ v).heap[a]? = some (.cells (cs.setIfInBounds j v) t (0, 0)) := by
  rw [setCell_eq_setRow w a j cs t (0, 0) v h]
  exact setRow_heap w a cs _ t (0, 0) h

theorem cell_heap {w : World} {a j : Nat} {cs : Array Value} {t : TypeId} (h : w.heap[a]? = some (.cells cs t (0, 0))) {v : Value} (hv : cs[j]? = some v) : w.cell? ⟨a, j, none⟩ = some v := by
  simp only [World.cell?, h]
  simpa using hv

theorem fr_heap {w : World} {a : Nat} {cs : Array Value} {t : TypeId} (h : w.heap[a]? = some (.cells cs t (0, 0))) (j : Nat) : w.frozen? ⟨a, j, none⟩ = false := by
  simp [World.frozen?, h]

def OBox (w : World) (a : Nat) (o : Osd) : Prop := w.heap[a]? = some (.cells #[.int .i64 o.id, .bool o.up, .bool o.inn, .int .i64 o.wt, .int .i64 o.life, .int .i64 o.boot, .int .i64 o.host, .int .i64 o.rack] 28 (0, 0))

theorem OBox.lt {w : World} {a : Nat} {o : Osd} (h : OBox w a o) : a < w.heap.size := (Array.getElem?_eq_some_iff.1 h).1

theorem OBox.at {w : World} {a : Nat} {o : Osd} (h : OBox w a o) : w.cell? ⟨a, 0, none⟩ = some (.int .i64 o.id) ∧ w.cell? ⟨a, 1, none⟩ = some (.bool o.up) ∧ w.cell? ⟨a, 2, none⟩ = some (.bool o.inn) ∧ w.cell? ⟨a, 3, none⟩ = some (.int .i64 o.wt) ∧
    w.cell? ⟨a, 4, none⟩ = some (.int .i64 o.life) ∧ w.cell? ⟨a, 5, none⟩ = some (.int .i64 o.boot) ∧ w.cell? ⟨a, 6, none⟩ = some (.int .i64 o.host) ∧ w.cell? ⟨a, 7, none⟩ = some (.int .i64 o.rack) :=
  ⟨cell_heap h rfl, cell_heap h rfl, cell_heap h rfl, cell_heap h rfl, cell_heap h rfl, cell_heap h rfl, cell_heap h rfl, cell_heap h rfl⟩

theorem OBox.turns {G : Nat → Prop} {w w' : World} {a : Nat} {o : Osd} (h : OBox w a o) (t : Turns G w w') (hg : ¬ G a) : OBox w' a o := (t.block a h.lt hg).trans h

theorem turns_put {w w' : World} {a : Nat} (t : Turns (fun k => k = a) w w') (j : Nat) (v : Value) : Turns (fun k => k = a) w (w'.setCell ⟨a, j, none⟩ v) := t.setCell (p := ⟨a, j, none⟩) (.inl rfl) v

/- What is done to one of them. -/
def Does (g : Nat) (lb : Array Value) (f : Osd → Osd) (w : World) : Prop :=
  ∀ (W : World) (a : Nat) (x : Osd), Below w.heap.size w W → w.heap.size ≤ a → OBox W a x → Calls Try.prog g (#[.pointer (some ⟨a, 0, none⟩)] ++ lb) W fun e w' => e = .returned (.tuple #[]) ∧ Hid (OBox w' a (f x) ∧ Turns (fun k => k = a) W w')

theorem Does.below {g : Nat} {lb : Array Value} {f : Osd → Osd} {w w' : World} (h : Does g lb f w) (hb : Below w.heap.size w w') : Does g lb f w' := fun W a x hW ha hx => h W a x (on hb hW) (Nat.le_trans hb.size ha) hx

theorem down_clos (o : Osd) (w : World) : Does 83 #[] (setDown o) w := by
  intro W a x hW ha hx
  have HX := hid hx
  obtain ⟨k0, k1, k2, k3, k4, k5, k6, k7⟩ := hx.at
  have f1 := fr_heap hx 1
  clear hx hW ha
  show Calls Try.prog 83 #[.pointer (some ⟨a, 0, none⟩)] W _
  go_enter Try.func83, Try.ntmps83
  go_wp2_with fail
  go_end0
  refine ⟨rfl, ?_, turns_put (Turns.refl _ _) _ _⟩
  exact heap_set HX.out _

theorem in_clos (o : Osd) (w : World) : Does 84 #[] (setIn o) w := by
  intro W a x hW ha hx
  have HX := hid hx
  obtain ⟨k0, k1, k2, k3, k4, k5, k6, k7⟩ := hx.at
  have f1 := fr_heap hx 2
  clear hx hW ha
  show Calls Try.prog 84 #[.pointer (some ⟨a, 0, none⟩)] W _
  go_enter Try.func84, Try.ntmps84
  go_wp2_with fail
  go_end0
  refine ⟨rfl, ?_, turns_put (Turns.refl _ _) _ _⟩
  exact heap_set HX.out _

theorem out_clos (o : Osd) (w : World) : Does 85 #[] (setOut o) w := by
  intro W a x hW ha hx
  have HX := hid hx
  obtain ⟨k0, k1, k2, k3, k4, k5, k6, k7⟩ := hx.at
  have f1 := fr_heap hx 2
  clear hx hW ha
  show Calls Try.prog 85 #[.pointer (some ⟨a, 0, none⟩)] W _
  go_enter Try.func85, Try.ntmps85
  go_wp2_with fail
  go_end0
  refine ⟨rfl, ?_, turns_put (Turns.refl _ _) _ _⟩
  exact heap_set HX.out _

theorem weight_clos (o : Osd) (w : World) (bx : Nat) (wt : Int) (hb : w.cell? ⟨bx, 3, none⟩ = some (.int .i64 wt)) (ho : o.wt = wt) : Does 86 #[.pointer (some ⟨bx, 0, none⟩)] (setWt o) w := by
  intro W a x hW ha hx
  have HX := hid hx
  obtain ⟨k0, k1, k2, k3, k4, k5, k6, k7⟩ := hx.at
  have f1 := fr_heap hx 3
  have q := keep hW hb
  have hne : bx ≠ a := by have := cell_lt' hb; simp at this; omega
  have HO := hid ho
  clear hx hW ha hb ho
  show Calls Try.prog 86 #[.pointer (some ⟨a, 0, none⟩), .pointer (some ⟨bx, 0, none⟩)] W _
  go_enter Try.func86, Try.ntmps86
  go_wp2_with fail
  go_end0
  refine ⟨rfl, ?_, turns_put (Turns.refl _ _) _ _⟩
  rw [← HO.out]
  exact heap_set HX.out _

theorem up_clos (o : Osd) (w : World) (bx : Nat) (life boot : Int) (hb : w.cell? ⟨bx, 4, none⟩ = some (.int .i64 life)) (hb2 : w.cell? ⟨bx, 5, none⟩ = some (.int .i64 boot)) (ho : o.life = life) (ho2 : o.boot = boot) : Does 82 #[.pointer (some ⟨bx, 0, none⟩)] (setUp o) w := by
  intro W a x hW ha hx
  have HX := hid hx
  obtain ⟨k0, k1, k2, k3, k4, k5, k6, k7⟩ := hx.at
  have f1 := fr_heap hx 1
  have f4 := fr_heap hx 4
  have f5 := fr_heap hx 5
  have q := keep hW hb
  have q2 := keep hW hb2
  have hne : bx ≠ a := by have := cell_lt' hb; simp at this; omega
  have HO := hid (show o.life = life ∧ o.boot = boot from ⟨ho, ho2⟩)
  clear hx hW ha hb hb2 ho ho2
  show Calls Try.prog 82 #[.pointer (some ⟨a, 0, none⟩), .pointer (some ⟨bx, 0, none⟩)] W _
  go_enter Try.func82, Try.ntmps82
  go_wp2_with fail
  go_region
  go_wp2_with fail
  go_end0
  refine ⟨rfl, ?_, (turns_put (turns_put (turns_put (Turns.refl _ _) _ _) _ _) _ _).drew⟩
  rw [← HO.out.1, ← HO.out.2]
  exact heap_set (heap_set (heap_set HX.out _) _) _

end Go.Proofs.Ytnddhlkdemibgaa.At

/-
  Package atlas: turn, and what each kind of change but ChangeAdd does to a map's OSDs.
  Conditions: the map is one's own.
-/
namespace Go.Proofs.Ytnddhlkdemibgaa.At
open Go.RowKit By Fl
set_option linter.unusedVariables false
set_option linter.unusedSimpArgs false
set_option maxRecDepth 100000

structure MapAt (w : World) (B p : Nat) (m : Mp) (R : Value) : Prop where
  blk : w.heap[p]? = some (.cells #[.int .i64 m.ep, .int .i64 m.pool.k, .int .i64 m.pool.m, .int .i64 m.pool.pgs, .int .i64 m.pool.dom, R] 26 (0, 0))
  own : Own w B 28 8 enO R m.osds
  small : m.osds.length ≤ 64

theorem MapAt.lt {w : World} {B p : Nat} {m : Mp} {R : Value} (h : MapAt w B p m R) : p < w.heap.size := (Array.getElem?_eq_some_iff.1 h.blk).1

theorem MapAt.apart {w : World} {B p : Nat} {m : Mp} {R : Value} (h : MapAt w B p m R) {g : Nat} (hg : R.ownBlock = some g) : g ≠ p := fun e => by
  subst e
  have := (h.own.tb hg).2.same ⟨_, _, h.blk⟩
  cases this

theorem MapAt.turns {G : Nat → Prop} {w w' : World} {B p : Nat} {m : Mp} {R : Value} (h : MapAt w B p m R) (t : Turns G w w') (h1 : ¬ G p) (h2 : ∀ g, R.ownBlock = some g → ¬ G g) : MapAt w' B p m R :=
  ⟨(t.block p h.lt h1).trans h.blk, h.own.turns t h2, h.small⟩

theorem MapAt.below {w w' : World} {B p : Nat} {m : Mp} {R : Value} (h : MapAt w B p m R) (t : Below w.heap.size w w') : MapAt w' B p m R :=
  h.turns (Turns.of_below (F := fun _ => False) t) (fun h => h) (fun _ _ h => h)

theorem bel_drewN (w : World) (n : Nat) : Below w.heap.size w (w.drewN n) := ⟨rfl, rfl, rfl, Nat.le_refl _, fun _ _ => rfl⟩

theorem flat_set8 : ∀ (L : List Osd) (i : Nat) (a : Osd), flat enO (L.set i a) = ((((((((flat enO L).set (i * 8) (.int .i64 a.id)).set (i * 8 + 1) (.bool a.up)).set (i * 8 + 2) (.bool a.inn)).set (i * 8 + 3) (.int .i64 a.wt)).set (i * 8 + 4) (.int .i64 a.life)).set (i * 8 + 5) (.int .i64 a.boot)).set (i * 8 + 6) (.int .i64 a.host)).set (i * 8 + 7) (.int .i64 a.rack)
  | [], i, a => by simp [flat]
  | b :: L, 0, a => by simp [flat_cons, enO]
  | b :: L, i + 1, a => by
    rw [List.set_cons_succ, flat_cons, flat_cons, flat_set8 L i a, show (i + 1) * 8 = i * 8 + 1 + 1 + 1 + 1 + 1 + 1 + 1 + 1 by omega]
    simp [List.set_cons_succ, enO]

def put8 (w : World) (g o : Nat) (a : Osd) : World :=
  (((((((w.setCell ⟨g, o, none⟩ (.int .i64 a.id)).setCell ⟨g, o + 1, none⟩ (.bool a.up)).setCell ⟨g, o + 2, none⟩ (.bool a.inn)).setCell ⟨g, o + 3, none⟩ (.int .i64 a.wt)).setCell ⟨g, o + 4, none⟩ (.int .i64 a.life)).setCell ⟨g, o + 5, none⟩ (.int .i64 a.boot)).setCell ⟨g, o + 6, none⟩ (.int .i64 a.host)).setCell ⟨g, o + 7, none⟩ (.int .i64 a.rack)

theorem Own.set8 {w : World} {B g n c : Nat} {L : List Osd} (h : Own w B 28 8 enO (.slice (some ⟨g, 0, none⟩) n c) L) (i : Nat) (a : Osd) : Own (put8 w g (i * 8) a) B 28 8 enO (.slice (some ⟨g, 0, none⟩) n c) (L.set i a) := by
  have hL := h.heap.1
  unfold Own at h ⊢
  rw [List.length_set, flat_set8]
  rw [hL] at h ⊢
  exact own_setCell (own_setCell (own_setCell (own_setCell (own_setCell (own_setCell (own_setCell (own_setCell h _ _) _ _) _ _) _ _) _ _) _ _) _ _) _ _

theorem turns_put8 {w : World} {g o : Nat} {a : Osd} : Turns (fun k => k = g) w (put8 w g o a) :=
  turns_put (turns_put (turns_put (turns_put (turns_put (turns_put (turns_put (turns_put (Turns.refl _ _) _ _) _ _) _ _) _ _) _ _) _ _) _ _) _ _

theorem turnP_none {L : List Osd} {id : Int} (f : Osd → Osd) (h : L.findIdx? (isId id) = none) : turnP L id f = (4, L) := by unfold turnP; rw [h]
theorem turnP_same {L : List Osd} {id : Int} {f : Osd → Osd} {k : Nat} {x : Osd} (h : L.findIdx? (isId id) = some k) (hx : L[k]? = some x) (he : eqO (f x) x = true) : turnP L id f = (6, L) := by unfold turnP; simp [h, hx, he]
theorem turnP_yes {L : List Osd} {id : Int} {f : Osd → Osd} {k : Nat} {x : Osd} (h : L.findIdx? (isId id) = some k) (hx : L[k]? = some x) (he : eqO (f x) x = false) : turnP L id f = (0, L.set k (f x)) := by unfold turnP; simp [h, hx, he]

theorem turnP_len (L : List Osd) (id : Int) (f : Osd → Osd) : (turnP L id f).2.length = L.length := by
  unfold turnP
  split
  · rfl
  · split
    · rfl
    · split
      · rfl
      · simp

def Turned (w w' : World) (B p : Nat) (m : Mp) (R : Value) (L : List Osd) : Prop := ∃ R', MapAt w' B p ⟨m.ep, m.pool, L⟩ R' ∧ Turns (fun k => k = p ∨ R.ownBlock = some k) w w' ∧ ∀ g, R'.ownBlock = some g → R.ownBlock = some g ∨ w.heap.size ≤ g

theorem Turned.not {w w' : World} {B p : Nat} {m : Mp} {R : Value} (h : MapAt w B p m R) (b : Below w.heap.size w w') : Turned w w' B p m R m.osds := ⟨R, h.below b, Turns.of_below b, fun g hg => .inl hg⟩

set_option maxHeartbeats 1600000 in
theorem turn_any {w : World} {B p : Nat} {m : Mp} {R : Value} (id : Int) (f : Osd → Osd) (g : Nat) (lb : Array Value) (eg : ∀ args w, (callFunc g args).run Try.prog w = .ok (.enter g args) w) (h : MapAt w B p m R) (hby : Does g lb f w) :
    Calls Try.prog 81 #[.pointer (some ⟨p, 0, none⟩), .int .i64 id, .func (.func g) #[] lb] w fun e w' => e = .returned (.int .i64 (turnP m.osds id f).1) ∧ Hid (Turned w w' B p m R (turnP m.osds id f).2) := by
  have HM := hid h
  obtain ⟨x, c, rfl, hnc, hnil, hx⟩ := h.own.form
  have p5 := cell_heap h.blk (j := 5) rfl
  have hS := seat_any id (own_os h.own (by have := h.small; omega))
  obtain ⟨n, hn⟩ : ∃ n, n = m.osds.length := ⟨_, rfl⟩
  rw [← hn] at p5 hS hnc hnil HM ⊢
  have HN := hid hn
  have hn64 : n ≤ 64 := by rw [hn]; exact h.small
  have hpl := h.lt
  clear h hn
  cases hi : m.osds.findIdx? (isId id) with
  | none =>
    have HI := hid hi
    rw [show idx (isId id) m.osds = -1 by unfold idx; rw [hi]] at hS
    clear hi
    go_enter Try.func81, Try.ntmps81
    go_wp2_with (go_at_call 33; refine hS.mono ?_; rintro e w1 ⟨rfl, hb1⟩; clear hS)
    go_ret
    rw [turnP_none f HI.out]
    exact ⟨rfl, Turned.not HM.out hb1⟩
  | some k =>
    obtain ⟨o, ho, hid1, _⟩ := idx_some hi
    have HI := hid (show m.osds.findIdx? (isId id) = some k ∧ m.osds[k]? = some o from ⟨hi, ho⟩)
    have hkn : k < n := by rw [HN.out]; exact (List.getElem?_eq_some_iff.1 ho).1
    rw [show idx (isId id) m.osds = (k : Int) by unfold idx; rw [hi]] at hS
    have hk0 : ¬ (k : Int) < 0 := by omega
    have hkI : (k : Int) < (n : Int) := by omega
    obtain ⟨gr, rfl⟩ : ∃ gr, x = some ⟨gr, 0, none⟩ := by
      cases x with
      | none => have := hnil rfl; omega
      | some ad =>
        obtain ⟨gr, rfl, _⟩ := hx ad rfl
        exact ⟨gr, rfl⟩
    have HO := hid HM.out.own
    have hlt := HM.out.own.heap.2.2.2
    have hgp : gr ≠ p := HM.out.apart rfl
    have hgl := (World.ownsRow.lt HM.out.own gr rfl).2
    have HB := hid hby
    have hE := fun W => eq_osd (f o) o W
    obtain ⟨t, ht⟩ : ∃ t, t = eqO (f o) o := ⟨_, rfl⟩
    rw [← ht] at hE
    have HT := hid ht
    have HF : Hid (∀ w' : World, Turned w w' B p m (.slice (some ⟨gr, 0, none⟩) n c) (turnP m.osds id f).2 → Turned w w' B p m (.slice (some ⟨gr, 0, none⟩) n c) (turnP m.osds id f).2) := fun _ h => h
    clear hi ho hid1 hx hnil hby ht
    obtain ⟨y, hy⟩ : ∃ y, y = f o := ⟨_, rfl⟩
    rw [← hy] at hE
    have HY := hid hy
    clear hy
    obtain ⟨i0, i1, i2, i3, i4, i5, i6, i7⟩ := o
    obtain ⟨y0, y1, y2, y3, y4, y5, y6, y7⟩ := y
    unfold vO at hE
    dsimp only at hE
    go_enter Try.func81, Try.ntmps81
    go_wp2_with (first
      | (go_at_call 33; refine hS.mono ?_; rintro e w1 ⟨rfl, hb1⟩; clear hS
         have q5 := keep hb1 p5
         obtain ⟨k0, k1, k2, k3, k4, k5, k6, k7⟩ : _ := Os.at (n := n) (c := c) (w := w1) (b := gr) (o := 0) (fun q a hq j v hv => by rw [Nat.zero_add]; exact (HO.out.below hb1).cell orow.len hq hv) HI.out.2
         rw [Nat.zero_add] at k0 k1 k2 k3 k4 k5 k6 k7
         dsimp only at k0 k1 k2 k3 k4 k5 k6 k7
         have lt1 : p < w1.heap.size := Nat.lt_of_lt_of_le hpl hb1.size
         have lt2 : gr < w1.heap.size := Nat.lt_of_lt_of_le hgl hb1.size
         have hD := HB.out (w1.alloc (.cells #[.int .i64 i0, .bool i1, .bool i2, .int .i64 i3, .int .i64 i4, .int .i64 i5, .int .i64 i6, .int .i64 i7] 28)) w1.heap.size ⟨i0, i1, i2, i3, i4, i5, i6, i7⟩ (on hb1 (al _ _)) hb1.size (heap_alloc_new _ _))
      | (go_at_fn g; refine hD.mono ?_; rintro e w2 ⟨rfl, H2⟩; clear hD
         rw [← HY.out] at H2
         obtain ⟨a0, a1, a2, a3, a4, a5, a6, a7⟩ := H2.out.1.at
         have T2 := H2.out.2
         have hal := al w1 (.cells #[.int .i64 i0, .bool i1, .bool i2, .int .i64 i3, .int .i64 i4, .int .i64 i5, .int .i64 i6, .int .i64 i7] 28)
         have np : p ≠ w1.heap.size := by omega
         have ng : gr ≠ w1.heap.size := by omega
         have KK : ∀ (b q : Nat) (v : Value), b ≠ w1.heap.size → w1.cell? ⟨b, q, none⟩ = some v → w2.cell? ⟨b, q, none⟩ = some v := fun b q v hb hv => (World.cell?_of_block (a := ⟨b, q, none⟩) (T2.block b (cell_lt' (keep hal hv)) hb)).trans (keep hal hv)
         have r5 := KK _ _ _ np q5
         have l0 := KK _ _ _ ng k0
         have l1 := KK _ _ _ ng k1
         have l2 := KK _ _ _ ng k2
         have l3 := KK _ _ _ ng k3
         have l4 := KK _ _ _ ng k4
         have l5 := KK _ _ _ ng k5
         have l6 := KK _ _ _ ng k6
         have l7 := KK _ _ _ ng k7
         have H3 : Hid (Turns (fun k => k = w1.heap.size) w1 w2) := ⟨T2.os.trans hal.os, T2.tape.trans hal.tape, T2.output.trans hal.output, Nat.le_trans hal.size T2.size, fun k hk hne => (T2.block k (Nat.lt_of_lt_of_le hk hal.size) hne).trans (hal.block k hk)⟩
         clear KK T2 hal q5 k0 k1 k2 k3 k4 k5 k6 k7))
    have F3 : Hid (∀ W : World, Below w2.heap.size w2 W → Below w.heap.size w W ∧ Turned w W B p m (.slice (some ⟨gr, 0, none⟩) n c) m.osds) := fun W hW => by
      have hb := on hb1 (on ((H3.out.below (B := w1.heap.size) (fun k hk => by rw [hk]; exact Nat.le_refl _) (Nat.le_refl _))) hW)
      exact ⟨hb, Turned.not HM.out hb⟩
    cases t with
    | true =>
      go_quiet (fail)
      go_wp2_with fail
      go_ret
      rw [turnP_same HI.out.1 HI.out.2 (by rw [← HT.out])]
      exact ⟨rfl, (F3.out _ (bel_drewN _ _)).2⟩
    | false =>
      have fz : ∀ j, w2.frozen? ⟨gr, j, none⟩ = false := fun j => by
        rw [World.frozen?_of_block (a := ⟨gr, j, none⟩) (H3.out.block gr lt2 ng)]
        exact (HO.out.below hb1).frozen
      go_quiet (fail)
      go_wp2_with fail
      go_region
      go_wp2_with fail
      go_ret
      rw [turnP_yes HI.out.1 HI.out.2 (by rw [← HT.out]), ← HY.out]
      have hb := (F3.out (w2.drewN (nq + 1)) (bel_drewN _ _)).1
      have hM2 := HM.out.below hb
      have TP : Turns (fun k => k = gr) (w2.drewN (nq + 1)) _ := turns_put8 (w := w2.drewN (nq + 1)) (g := gr) (o := k * 8) (a := ⟨y0, y1, y2, y3, y4, y5, y6, y7⟩)
      exact ⟨rfl, .slice (some ⟨gr, 0, none⟩) n c, ⟨(TP.block p hM2.lt (Ne.symm hgp)).trans hM2.blk, Own.set8 hM2.own k ⟨y0, y1, y2, y3, y4, y5, y6, y7⟩, by show (m.osds.set k _).length ≤ 64; rw [List.length_set]; exact hM2.small⟩, (Turns.of_below hb).more TP (fun i hi => .inl (.inr (by rw [hi]; rfl))), fun g hg => .inl hg⟩

theorem setUp_any {w : World} {B p : Nat} {m : Mp} {R : Value} (o : Osd) (h : MapAt w B p m R) (hB : B ≤ w.heap.size) :
    Calls Try.prog 60 #[.pointer (some ⟨p, 0, none⟩), vO o] w fun e w' => e = .returned (.int .i64 (turnP m.osds o.id (setUp o)).1) ∧ Hid (Turned w w' B p m R (turnP m.osds o.id (setUp o)).2) := by
  have b0 := al w (.cells #[.int .i64 o.id, .bool o.up, .bool o.inn, .int .i64 o.wt, .int .i64 o.life, .int .i64 o.boot, .int .i64 o.host, .int .i64 o.rack] 28)
  have hT := turn_any o.id (setUp o) 82 #[.pointer (some ⟨w.heap.size, 0, none⟩)] (enters_of Try.func82 (by kernel_rfl) rfl) (h.below b0) (up_clos o _ w.heap.size o.life o.boot (by go_simp) (by go_simp) rfl rfl)
  have HT : Hid (∀ (w' : World) (L : List Osd), Turned (w.alloc (.cells #[.int .i64 o.id, .bool o.up, .bool o.inn, .int .i64 o.wt, .int .i64 o.life, .int .i64 o.boot, .int .i64 o.host, .int .i64 o.rack] 28)) w' B p m R L → Turned w w' B p m R L) := fun w' L ⟨R', h1, h2, h3⟩ => ⟨R', h1, (Turns.of_below b0).trans h2, fun g hg => (h3 g hg).imp (fun h => h) (fun h => by simp at h; omega)⟩
  generalize (turnP m.osds o.id (setUp o)) = r at *
  clear h
  obtain ⟨i, up, inn, wt, life, boot, host, rack⟩ := o
  unfold vO
  dsimp only at b0 hT HT ⊢
  go_enter Try.func60, Try.ntmps60
  go_wp2_with (go_at_call 81; refine hT.mono ?_; rintro e w2 ⟨rfl, h2⟩)
  go_ret
  exact ⟨rfl, HT.out _ _ h2.out⟩

theorem setDown_any {w : World} {B p : Nat} {m : Mp} {R : Value} (o : Osd) (h : MapAt w B p m R) (hB : B ≤ w.heap.size) :
    Calls Try.prog 62 #[.pointer (some ⟨p, 0, none⟩), vO o] w fun e w' => e = .returned (.int .i64 (turnP m.osds o.id (setDown o)).1) ∧ Hid (Turned w w' B p m R (turnP m.osds o.id (setDown o)).2) := by
  have b0 := al w (.cells #[.int .i64 o.id, .bool o.up, .bool o.inn, .int .i64 o.wt, .int .i64 o.life, .int .i64 o.boot, .int .i64 o.host, .int .i64 o.rack] 28)
  have hT := turn_any o.id (setDown o) 83 #[] (enters_of Try.func83 (by kernel_rfl) rfl) (h.below b0) (down_clos o _)
  have HT : Hid (∀ (w' : World) (L : List Osd), Turned (w.alloc (.cells #[.int .i64 o.id, .bool o.up, .bool o.inn, .int .i64 o.wt, .int .i64 o.life, .int .i64 o.boot, .int .i64 o.host, .int .i64 o.rack] 28)) w' B p m R L → Turned w w' B p m R L) := fun w' L ⟨R', h1, h2, h3⟩ => ⟨R', h1, (Turns.of_below b0).trans h2, fun g hg => (h3 g hg).imp (fun h => h) (fun h => by simp at h; omega)⟩
  generalize (turnP m.osds o.id (setDown o)) = r at *
  clear h
  obtain ⟨i, up, inn, wt, life, boot, host, rack⟩ := o
  unfold vO
  dsimp only at b0 hT HT ⊢
  go_enter Try.func62, Try.ntmps62
  go_wp2_with (go_at_call 81; refine hT.mono ?_; rintro e w2 ⟨rfl, h2⟩)
  go_ret
  exact ⟨rfl, HT.out _ _ h2.out⟩

theorem setIn_any {w : World} {B p : Nat} {m : Mp} {R : Value} (o : Osd) (h : MapAt w B p m R) (hB : B ≤ w.heap.size) :
    Calls Try.prog 63 #[.pointer (some ⟨p, 0, none⟩), vO o] w fun e w' => e = .returned (.int .i64 (turnP m.osds o.id (setIn o)).1) ∧ Hid (Turned w w' B p m R (turnP m.osds o.id (setIn o)).2) := by
  have b0 := al w (.cells #[.int .i64 o.id, .bool o.up, .bool o.inn, .int .i64 o.wt, .int .i64 o.life, .int .i64 o.boot, .int .i64 o.host, .int .i64 o.rack] 28)
  have hT := turn_any o.id (setIn o) 84 #[] (enters_of Try.func84 (by kernel_rfl) rfl) (h.below b0) (in_clos o _)
  have HT : Hid (∀ (w' : World) (L : List Osd), Turned (w.alloc (.cells #[.int .i64 o.id, .bool o.up, .bool o.inn, .int .i64 o.wt, .int .i64 o.life, .int .i64 o.boot, .int .i64 o.host, .int .i64 o.rack] 28)) w' B p m R L → Turned w w' B p m R L) := fun w' L ⟨R', h1, h2, h3⟩ => ⟨R', h1, (Turns.of_below b0).trans h2, fun g hg => (h3 g hg).imp (fun h => h) (fun h => by simp at h; omega)⟩
  generalize (turnP m.osds o.id (setIn o)) = r at *
  clear h
  obtain ⟨i, up, inn, wt, life, boot, host, rack⟩ := o
  unfold vO
  dsimp only at b0 hT HT ⊢
  go_enter Try.func63, Try.ntmps63
  go_wp2_with (go_at_call 81; refine hT.mono ?_; rintro e w2 ⟨rfl, h2⟩)
  go_ret
  exact ⟨rfl, HT.out _ _ h2.out⟩

theorem setOut_any {w : World} {B p : Nat} {m : Mp} {R : Value} (o : Osd) (h : MapAt w B p m R) (hB : B ≤ w.heap.size) :
    Calls Try.prog 64 #[.pointer (some ⟨p, 0, none⟩), vO o] w fun e w' => e = .returned (.int .i64 (turnP m.osds o.id (setOut o)).1) ∧ Hid (Turned w w' B p m R (turnP m.osds o.id (setOut o)).2) := by
  have b0 := al w (.cells #[.int .i64 o.id, .bool o.up, .bool o.inn, .int .i64 o.wt, .int .i64 o.life, .int .i64 o.boot, .int .i64 o.host, .int .i64 o.rack] 28)
  have hT := turn_any o.id (setOut o) 85 #[] (enters_of Try.func85 (by kernel_rfl) rfl) (h.below b0) (out_clos o _)
  have HT : Hid (∀ (w' : World) (L : List Osd), Turned (w.alloc (.cells #[.int .i64 o.id, .bool o.up, .bool o.inn, .int .i64 o.wt, .int .i64 o.life, .int .i64 o.boot, .int .i64 o.host, .int .i64 o.rack] 28)) w' B p m R L → Turned w w' B p m R L) := fun w' L ⟨R', h1, h2, h3⟩ => ⟨R', h1, (Turns.of_below b0).trans h2, fun g hg => (h3 g hg).imp (fun h => h) (fun h => by simp at h; omega)⟩
  generalize (turnP m.osds o.id (setOut o)) = r at *
  clear h
  obtain ⟨i, up, inn, wt, life, boot, host, rack⟩ := o
  unfold vO
  dsimp only at b0 hT HT ⊢
  go_enter Try.func64, Try.ntmps64
  go_wp2_with (go_at_call 81; refine hT.mono ?_; rintro e w2 ⟨rfl, h2⟩)
  go_ret
  exact ⟨rfl, HT.out _ _ h2.out⟩

theorem setWeight_any {w : World} {B p : Nat} {m : Mp} {R : Value} (o : Osd) (h : MapAt w B p m R) (hB : B ≤ w.heap.size) :
    Calls Try.prog 66 #[.pointer (some ⟨p, 0, none⟩), vO o] w fun e w' => e = .returned (.int .i64 (turnP m.osds o.id (setWt o)).1) ∧ Hid (Turned w w' B p m R (turnP m.osds o.id (setWt o)).2) := by
  have b0 := al w (.cells #[.int .i64 o.id, .bool o.up, .bool o.inn, .int .i64 o.wt, .int .i64 o.life, .int .i64 o.boot, .int .i64 o.host, .int .i64 o.rack] 28)
  have hT := turn_any o.id (setWt o) 86 #[.pointer (some ⟨w.heap.size, 0, none⟩)] (enters_of Try.func86 (by kernel_rfl) rfl) (h.below b0) (weight_clos o _ w.heap.size o.wt (by go_simp) rfl)
  have HT : Hid (∀ (w' : World) (L : List Osd), Turned (w.alloc (.cells #[.int .i64 o.id, .bool o.up, .bool o.inn, .int .i64 o.wt, .int .i64 o.life, .int .i64 o.boot, .int .i64 o.host, .int .i64 o.rack] 28)) w' B p m R L → Turned w w' B p m R L) := fun w' L ⟨R', h1, h2, h3⟩ => ⟨R', h1, (Turns.of_below b0).trans h2, fun g hg => (h3 g hg).imp (fun h => h) (fun h => by simp at h; omega)⟩
  generalize (turnP m.osds o.id (setWt o)) = r at *
  clear h
  obtain ⟨i, up, inn, wt, life, boot, host, rack⟩ := o
  unfold vO
  dsimp only at b0 hT HT ⊢
  go_enter Try.func66, Try.ntmps66
  go_wp2_with (go_at_call 81; refine hT.mono ?_; rintro e w2 ⟨rfl, h2⟩)
  go_ret
  exact ⟨rfl, HT.out _ _ h2.out⟩

end Go.Proofs.Ytnddhlkdemibgaa.At

/-
  Lists of numbers that are made at once and written one by one; lists of changes that are read.
  Conditions: none.
-/
namespace Go.Proofs.Ytnddhlkdemibgaa.At
open Go.RowKit By Fl
set_option linter.unusedVariables false
set_option linter.unusedSimpArgs false
set_option maxRecDepth 100000

def Ns (w : World) (g : Nat) (t : TypeId) (T : List Int) : Prop := w.heap[g]? = some (.cells (T.map fun v => Value.int .i64 v).toArray t (0, 0))

section
variable {w w' : World} {g : Nat} {t : TypeId} {T : List Int}

theorem Ns.lt (h : Ns w g t T) : g < w.heap.size := (Array.getElem?_eq_some_iff.1 h).1
theorem Ns.cell (h : Ns w g t T) {i : Nat} {v : Int} (hv : T[i]? = some v) : w.cell? ⟨g, i, none⟩ = some (.int .i64 v) := cell_heap h (by simp [hv])
theorem Ns.fr (h : Ns w g t T) (i : Nat) : w.frozen? ⟨g, i, none⟩ = false := fr_heap h i
theorem Ns.turns {G : Nat → Prop} (h : Ns w g t T) (k : Turns G w w') (hg : ¬ G g) : Ns w' g t T := (k.block g h.lt hg).trans h
theorem Ns.below (h : Ns w g t T) (k : Below w.heap.size w w') : Ns w' g t T := (k.block g h.lt).trans h
theorem Ns.set (h : Ns w g t T) (i : Nat) (v : Int) : Ns (w.setCell ⟨g, i, none⟩ (.int .i64 v)) g t (T.set i v) := by
  unfold Ns
  rw [heap_set h]
  simp
theorem Ns.new (w : World) (t : TypeId) (T : List Int) : Ns (w.alloc (.cells (T.map fun v => Value.int .i64 v).toArray t)) w.heap.size t T := heap_alloc_new _ _
end

theorem run_make_ns (w : World) (T e : TypeId) (hu : Try.prog.underlying T = some (.slice e)) (hi : (Try.prog.info? e).map (fun i => (i.zero, i.size, i.bytes)) = some (some (.int .i64 0), 1, 8)) (n : Nat) (hn : n ≤ 1000) :
    (Instr.makeSlice T (.int .i64 (n : Int)) (.int .i64 (n : Int))).run Try.prog w = .ok (.slice (some ⟨w.heap.size, 0, none⟩) n n) (w.alloc (.cells ((List.replicate n (0 : Int)).map fun v => Value.int .i64 v).toArray e)) := by
  obtain ⟨i0, h1, h2, h3, h4⟩ := info_parts hi
  have := run_make (P := Try.prog) w T e i0 _ hu h1 h2 .i64 .i64 (n : Int) (n : Int) (by omega) (by omega) (by rw [h4]; omega) (by omega)
  rw [this, h3]
  have e1 : madeCells (Value.int IntKind.i64 0).cells (((n : Int).toNat) * 1) = ((List.replicate n (0 : Int)).map fun v => Value.int .i64 v).toArray := by
    apply Array.toList_inj.1
    show (madeCells #[Value.int IntKind.i64 0] (n * 1)).toList = _
    rw [toList_madeCells_one]
    simp
  rw [e1]
  simp

/- A list of changes that is read. -/
structure Cs (w : World) (x : Option Addr) (n c : Nat) (L : List Ch) : Prop where
  len : L.length = n
  le : n ≤ c
  small : n ≤ 140737488351232
  nil : x = none → n = 0 ∧ c = 0
  row : n = 0 ∨ ∃ b o, x = some ⟨b, o, none⟩ ∧ b < w.heap.size ∧ ∀ (k : Nat) (a : Ch), L[k]? = some a → ∀ (j : Nat) (v : Value), (enC a)[j]? = some v → w.cell? ⟨b, o + k * 9 + j, none⟩ = some v

theorem Cs.below {w w' : World} {x : Option Addr} {n c : Nat} {L : List Ch} (h : Cs w x n c L) (hb : Below w.heap.size w w') : Cs w' x n c L := by
  refine ⟨h.len, h.le, h.small, h.nil, ?_⟩
  rcases h.row with h0 | ⟨b, o, h1, h2, h3⟩
  · exact .inl h0
  · exact .inr ⟨b, o, h1, Nat.lt_of_lt_of_le h2 hb.size, fun k a hk j v hv => keep hb (h3 k a hk j v hv)⟩

theorem Cs.at {w : World} {b o k : Nat} {L : List Ch} {a : Ch} (h : ∀ (k : Nat) (a : Ch), L[k]? = some a → ∀ (j : Nat) (v : Value), (enC a)[j]? = some v → w.cell? ⟨b, o + k * 9 + j, none⟩ = some v) (hk : L[k]? = some a) :
    w.cell? ⟨b, o + k * 9, none⟩ = some (.int .i64 a.kind) ∧ w.cell? ⟨b, o + k * 9 + 1, none⟩ = some (.int .i64 a.osd.id) ∧ w.cell? ⟨b, o + k * 9 + 2, none⟩ = some (.bool a.osd.up) ∧ w.cell? ⟨b, o + k * 9 + 3, none⟩ = some (.bool a.osd.inn) ∧ w.cell? ⟨b, o + k * 9 + 4, none⟩ = some (.int .i64 a.osd.wt) ∧
    w.cell? ⟨b, o + k * 9 + 5, none⟩ = some (.int .i64 a.osd.life) ∧ w.cell? ⟨b, o + k * 9 + 6, none⟩ = some (.int .i64 a.osd.boot) ∧ w.cell? ⟨b, o + k * 9 + 7, none⟩ = some (.int .i64 a.osd.host) ∧ w.cell? ⟨b, o + k * 9 + 8, none⟩ = some (.int .i64 a.osd.rack) :=
  ⟨h k a hk 0 _ rfl, h k a hk 1 _ rfl, h k a hk 2 _ rfl, h k a hk 3 _ rfl, h k a hk 4 _ rfl, h k a hk 5 _ rfl, h k a hk 6 _ rfl, h k a hk 7 _ rfl, h k a hk 8 _ rfl⟩

theorem adv_ep {m : Mp} (c : Ch) (h0 : 0 ≤ m.ep) (h1 : m.ep ≤ 1048576) : 0 ≤ (advP m c).2.ep ∧ (advP m c).2.ep ≤ 1048576 := by
  unfold advP
  split
  · exact ⟨h0, h1⟩
  · rename_i h
    have : m.ep ≠ 1048576 := fun e => h (.inr e)
    split
    · exact ⟨by show 0 ≤ m.ep + 1; omega, by show m.ep + 1 ≤ 1048576; omega⟩
    · exact ⟨h0, h1⟩

theorem fold_ep : ∀ (l : List Ch) (m : Mp), 0 ≤ m.ep → m.ep ≤ 1048576 → 0 ≤ (foldP m l).2.ep ∧ (foldP m l).2.ep ≤ 1048576
  | [], m, h0, h1 => ⟨h0, h1⟩
  | c :: l, m, h0, h1 => by
    have := adv_ep c h0 h1
    exact fold_ep l _ this.1 this.2

theorem fold_take {l : List Ch} {k : Nat} {c : Ch} (m : Mp) (h : l[k]? = some c) : foldP m (l.take (k + 1)) = ((foldP m (l.take k)).1 ++ [(advP (foldP m (l.take k)).2 c).1], (advP (foldP m (l.take k)).2 c).2) := by
  rw [List.take_add_one, h]
  exact foldP_snoc _ _ _

end Go.Proofs.Ytnddhlkdemibgaa.At

/-
  What a law is told of a pool, an OSD, a map, a change, a list of changes and two changes that came in, with their reach.
  Conditions: none.
-/
namespace Go.Proofs.Ytnddhlkdemibgaa.At
open Go.RowKit Go.ChangeShapes Go.WideShapes Go.Deep By Fl
set_option linter.unusedVariables false
set_option linter.unusedSimpArgs false
set_option maxRecDepth 100000

theorem mem_weightsAll {H : Type} {P : Program} {e : TypeId} {d : DataW H} {n : Nat} (hn : n ∈ d.weights P e) : ∀ {ds : List (DataW H)}, d ∈ ds → n ∈ DataW.weightsAll P e ds
  | d0 :: ds, h => by
    simp only [DataW.weightsAll, List.mem_append]
    rcases List.mem_cons.1 h with h | h
    · subst h; exact .inl hn
    · exact .inr (mem_weightsAll hn h)

theorem wf_top {z : Int} (h : (Lit.int .i64 z).wf = true) : z ≤ 9223372036854775807 := by
  have e2 : IntKind.i64.max = 9223372036854775807 := by decide
  unfold Lit.wf at h
  simp [e2] at h
  exact h.2

structure MpV where
  m : Mp
  x : Option Addr
  n : Nat
  c : Nat

structure MapIn (w : World) (v : MpV) : Prop where
  os : Os w v.x v.n v.c v.m.osds
  k : v.m.pool.k ≤ 9223372036854775807
  fit : v.n * 56 ≤ 140737488351232

section
variable {H : Type} {enc : TypeId × Value → H} {W : World} {base : Nat} {held : Bool} {d : DataW H} {p : List MemPlace}

theorem eight_cells : Try.prog.cellsOf 28 = 8 := by kernel_rfl
theorem four_cells : Try.prog.cellsOf 23 = 4 := by kernel_rfl
theorem six_cells : Try.prog.cellsOf 26 = 6 := by kernel_rfl
theorem nine_cells : Try.prog.cellsOf 30 = 9 := by kernel_rfl
theorem two_cells : Try.prog.cellsOf 60 = 18 := by kernel_rfl

theorem osd_cells {fuel : Nat} {e0 e1 e2 e3 e4 e5 e6 e7 : Value} (hf : DataW.trod enc Try.prog W base (fun _ => true) held fuel 28 [e0, e1, e2, e3, e4, e5, e6, e7] = some (d, p)) :
    ∃ o : Osd, e0 = .int .i64 o.id ∧ e1 = .bool o.up ∧ e2 = .bool o.inn ∧ e3 = .int .i64 o.wt ∧ e4 = .int .i64 o.life ∧ e5 = .int .i64 o.boot ∧ e6 = .int .i64 o.host ∧ e7 = .int .i64 o.rack := by
  have c3 : Try.prog.cellsOf 3 = 1 := by kernel_rfl
  have c4 : Try.prog.cellsOf 4 = 1 := by kernel_rfl
  obtain ⟨xs, n, _, hx, _, hxl, hF⟩ := DataW.trod_struct Try.underlying28 hf
  simp only [Prod.mk.injEq] at hx
  obtain ⟨hd, _⟩ := hx
  subst hd
  obtain ⟨x0, x1, x2, x3, x4, x5, x6, x7, rfl⟩ : ∃ x0 x1 x2 x3 x4 x5 x6 x7, xs = [x0, x1, x2, x3, x4, x5, x6, x7] := by
    match xs, hxl with
    | [x0, x1, x2, x3, x4, x5, x6, x7], _ => exact ⟨x0, x1, x2, x3, x4, x5, x6, x7, rfl⟩
  have f0' : DataW.trod enc Try.prog W base (fun _ => true) held n 3 (([e0, e1, e2, e3, e4, e5, e6, e7].drop 0).take (Try.prog.cellsOf 3)) = some x0 := hF 0 _ rfl
  rw [c3] at f0'
  have f0 : DataW.trod enc Try.prog W base (fun _ => true) held n 3 [e0] = some (x0.1, x0.2) := f0'
  have f1' : DataW.trod enc Try.prog W base (fun _ => true) held n 4 (([e0, e1, e2, e3, e4, e5, e6, e7].drop 1).take (Try.prog.cellsOf 4)) = some x1 := hF 1 _ rfl
  rw [c4] at f1'
  have f1 : DataW.trod enc Try.prog W base (fun _ => true) held n 4 [e1] = some (x1.1, x1.2) := f1'
  have f2' : DataW.trod enc Try.prog W base (fun _ => true) held n 4 (([e0, e1, e2, e3, e4, e5, e6, e7].drop 2).take (Try.prog.cellsOf 4)) = some x2 := hF 2 _ rfl
  rw [c4] at f2'
  have f2 : DataW.trod enc Try.prog W base (fun _ => true) held n 4 [e2] = some (x2.1, x2.2) := f2'
  have f3' : DataW.trod enc Try.prog W base (fun _ => true) held n 3 (([e0, e1, e2, e3, e4, e5, e6, e7].drop 3).take (Try.prog.cellsOf 3)) = some x3 := hF 3 _ rfl
  rw [c3] at f3'
  have f3 : DataW.trod enc Try.prog W base (fun _ => true) held n 3 [e3] = some (x3.1, x3.2) := f3'
  have f4' : DataW.trod enc Try.prog W base (fun _ => true) held n 3 (([e0, e1, e2, e3, e4, e5, e6, e7].drop 4).take (Try.prog.cellsOf 3)) = some x4 := hF 4 _ rfl
  rw [c3] at f4'
  have f4 : DataW.trod enc Try.prog W base (fun _ => true) held n 3 [e4] = some (x4.1, x4.2) := f4'
  have f5' : DataW.trod enc Try.prog W base (fun _ => true) held n 3 (([e0, e1, e2, e3, e4, e5, e6, e7].drop 5).take (Try.prog.cellsOf 3)) = some x5 := hF 5 _ rfl
  rw [c3] at f5'
  have f5 : DataW.trod enc Try.prog W base (fun _ => true) held n 3 [e5] = some (x5.1, x5.2) := f5'
  have f6' : DataW.trod enc Try.prog W base (fun _ => true) held n 3 (([e0, e1, e2, e3, e4, e5, e6, e7].drop 6).take (Try.prog.cellsOf 3)) = some x6 := hF 6 _ rfl
  rw [c3] at f6'
  have f6 : DataW.trod enc Try.prog W base (fun _ => true) held n 3 [e6] = some (x6.1, x6.2) := f6'
  have f7' : DataW.trod enc Try.prog W base (fun _ => true) held n 3 (([e0, e1, e2, e3, e4, e5, e6, e7].drop 7).take (Try.prog.cellsOf 3)) = some x7 := hF 7 _ rfl
  rw [c3] at f7'
  have f7 : DataW.trod enc Try.prog W base (fun _ => true) held n 3 [e7] = some (x7.1, x7.2) := f7'
  obtain ⟨v0, q0, _⟩ := DataW.trod_int Try.underlying3 f0
  obtain ⟨v1, q1, _⟩ := DataW.trod_bool Try.underlying4 f1
  obtain ⟨v2, q2, _⟩ := DataW.trod_bool Try.underlying4 f2
  obtain ⟨v3, q3, _⟩ := DataW.trod_int Try.underlying3 f3
  obtain ⟨v4, q4, _⟩ := DataW.trod_int Try.underlying3 f4
  obtain ⟨v5, q5, _⟩ := DataW.trod_int Try.underlying3 f5
  obtain ⟨v6, q6, _⟩ := DataW.trod_int Try.underlying3 f6
  obtain ⟨v7, q7, _⟩ := DataW.trod_int Try.underlying3 f7
  simp at q0 q1 q2 q3 q4 q5 q6 q7
  subst q0 q1 q2 q3 q4 q5 q6 q7
  exact ⟨⟨v0, v1, v2, v3, v4, v5, v6, v7⟩, rfl, rfl, rfl, rfl, rfl, rfl, rfl, rfl⟩

theorem pool_cells {fuel : Nat} {e0 e1 e2 e3 : Value} (hf : DataW.trod enc Try.prog W base (fun _ => true) held fuel 23 [e0, e1, e2, e3] = some (d, p)) :
    ∃ o : Pool, e0 = .int .i64 o.k ∧ e1 = .int .i64 o.m ∧ e2 = .int .i64 o.pgs ∧ e3 = .int .i64 o.dom ∧ o.k ≤ 9223372036854775807 := by
  have c3 : Try.prog.cellsOf 3 = 1 := by kernel_rfl
  obtain ⟨xs, n, _, hx, _, hxl, hF⟩ := DataW.trod_struct Try.underlying23 hf
  simp only [Prod.mk.injEq] at hx
  obtain ⟨hd, _⟩ := hx
  subst hd
  obtain ⟨x0, x1, x2, x3, rfl⟩ : ∃ x0 x1 x2 x3, xs = [x0, x1, x2, x3] := by
    match xs, hxl with
    | [x0, x1, x2, x3], _ => exact ⟨x0, x1, x2, x3, rfl⟩
  have f0' : DataW.trod enc Try.prog W base (fun _ => true) held n 3 (([e0, e1, e2, e3].drop 0).take (Try.prog.cellsOf 3)) = some x0 := hF 0 _ rfl
  rw [c3] at f0'
  have f0 : DataW.trod enc Try.prog W base (fun _ => true) held n 3 [e0] = some (x0.1, x0.2) := f0'
  have f1' : DataW.trod enc Try.prog W base (fun _ => true) held n 3 (([e0, e1, e2, e3].drop 1).take (Try.prog.cellsOf 3)) = some x1 := hF 1 _ rfl
  rw [c3] at f1'
  have f1 : DataW.trod enc Try.prog W base (fun _ => true) held n 3 [e1] = some (x1.1, x1.2) := f1'
  have f2' : DataW.trod enc Try.prog W base (fun _ => true) held n 3 (([e0, e1, e2, e3].drop 2).take (Try.prog.cellsOf 3)) = some x2 := hF 2 _ rfl
  rw [c3] at f2'
  have f2 : DataW.trod enc Try.prog W base (fun _ => true) held n 3 [e2] = some (x2.1, x2.2) := f2'
  have f3' : DataW.trod enc Try.prog W base (fun _ => true) held n 3 (([e0, e1, e2, e3].drop 3).take (Try.prog.cellsOf 3)) = some x3 := hF 3 _ rfl
  rw [c3] at f3'
  have f3 : DataW.trod enc Try.prog W base (fun _ => true) held n 3 [e3] = some (x3.1, x3.2) := f3'
  obtain ⟨v0, q0, _, r0⟩ := DataW.trod_int Try.underlying3 f0
  obtain ⟨v1, q1, _, r1⟩ := DataW.trod_int Try.underlying3 f1
  obtain ⟨v2, q2, _, r2⟩ := DataW.trod_int Try.underlying3 f2
  obtain ⟨v3, q3, _, r3⟩ := DataW.trod_int Try.underlying3 f3
  simp at q0 q1 q2 q3
  subst q0 q1 q2 q3
  exact ⟨⟨v0, v1, v2, v3⟩, rfl, rfl, rfl, rfl, wf_top r0⟩

theorem ch_cells {fuel : Nat} {e0 e1 e2 e3 e4 e5 e6 e7 e8 : Value} (hf : DataW.trod enc Try.prog W base (fun _ => true) held fuel 30 [e0, e1, e2, e3, e4, e5, e6, e7, e8] = some (d, p)) :
    ∃ c : Ch, [e0, e1, e2, e3, e4, e5, e6, e7, e8] = enC c := by
  have c3 : Try.prog.cellsOf 3 = 1 := by kernel_rfl
  obtain ⟨xs, n, _, hx, _, hxl, hF⟩ := DataW.trod_struct Try.underlying30 hf
  simp only [Prod.mk.injEq] at hx
  obtain ⟨hd, _⟩ := hx
  subst hd
  obtain ⟨x0, x1, rfl⟩ : ∃ x0 x1, xs = [x0, x1] := by
    match xs, hxl with
    | [x0, x1], _ => exact ⟨x0, x1, rfl⟩
  have f0' : DataW.trod enc Try.prog W base (fun _ => true) held n 3 (([e0, e1, e2, e3, e4, e5, e6, e7, e8].drop 0).take (Try.prog.cellsOf 3)) = some x0 := hF 0 _ rfl
  rw [c3] at f0'
  have f0 : DataW.trod enc Try.prog W base (fun _ => true) held n 3 [e0] = some (x0.1, x0.2) := f0'
  have f1' : DataW.trod enc Try.prog W base (fun _ => true) held n 28 (([e0, e1, e2, e3, e4, e5, e6, e7, e8].drop 1).take (Try.prog.cellsOf 28)) = some x1 := hF 1 _ rfl
  rw [eight_cells] at f1'
  have f1 : DataW.trod enc Try.prog W base (fun _ => true) held n 28 [e1, e2, e3, e4, e5, e6, e7, e8] = some (x1.1, x1.2) := f1'
  obtain ⟨v0, q0, _⟩ := DataW.trod_int Try.underlying3 f0
  simp at q0
  subst q0
  obtain ⟨o, rfl, rfl, rfl, rfl, rfl, rfl, rfl, rfl⟩ := osd_cells f1
  exact ⟨⟨v0, o⟩, rfl⟩

theorem pool_in {v : Value} (hv : ∃ cs, v = .agg cs ∧ cs.size = Try.prog.cellsOf 23) (h : DataW.Trod enc Try.prog W base (fun _ => true) held 23 v d p) :
    ∃ V : Pool, v = vP V ∧ V.k ≤ 9223372036854775807 := by
  obtain ⟨cs, rfl, hcs⟩ := hv
  obtain ⟨fuel, hf⟩ := h
  rw [four_cells] at hcs
  obtain ⟨e0, e1, e2, e3, rfl⟩ : ∃ e0 e1 e2 e3, cs = #[e0, e1, e2, e3] := by
    obtain ⟨l⟩ := cs
    match l, hcs with
    | [e0, e1, e2, e3], _ => exact ⟨e0, e1, e2, e3, rfl⟩
  obtain ⟨o, rfl, rfl, rfl, rfl, h1⟩ := pool_cells hf
  exact ⟨o, rfl, h1⟩

theorem ch_in {v : Value} (hv : ∃ cs, v = .agg cs ∧ cs.size = Try.prog.cellsOf 30) (h : DataW.Trod enc Try.prog W base (fun _ => true) held 30 v d p) :
    ∃ V : Ch, v = vC V := by
  obtain ⟨cs, rfl, hcs⟩ := hv
  obtain ⟨fuel, hf⟩ := h
  rw [nine_cells] at hcs
  obtain ⟨e0, e1, e2, e3, e4, e5, e6, e7, e8, rfl⟩ : ∃ e0 e1 e2 e3 e4 e5 e6 e7 e8, cs = #[e0, e1, e2, e3, e4, e5, e6, e7, e8] := by
    obtain ⟨l⟩ := cs
    match l, hcs with
    | [e0, e1, e2, e3, e4, e5, e6, e7, e8], _ => exact ⟨e0, e1, e2, e3, e4, e5, e6, e7, e8, rfl⟩
  obtain ⟨c, hc⟩ := ch_cells hf
  exact ⟨c, by unfold vC; rw [show (#[e0, e1, e2, e3, e4, e5, e6, e7, e8] : Array Value) = (enC c).toArray from by rw [← hc]]; rfl⟩

theorem osds_open {fuel : Nat} {cs : List Value} (hf : DataW.trod enc Try.prog W base (fun _ => true) held fuel 24 cs = some (d, p)) :
    (cs = [.slice none 0 0] ∧ d = .nil) ∨
    ∃ (a : Addr) (len cap n : Nat) (DD : Nat → DataW H) (Pl : Nat → List MemPlace), cs = [.slice (some a) len cap] ∧ len ≤ cap ∧ d = .slice ((List.range len).map DD) ((List.range (cap - len)).map fun j => DD (len + j)) ∧
      ∀ i, i < cap → ∃ e0 e1 e2 e3 e4 e5 e6 e7, (∀ j v, [e0, e1, e2, e3, e4, e5, e6, e7][j]? = some v → W.cell? (a.add (i * 8 + j)) = some v) ∧ DataW.trod enc Try.prog W base (fun _ => true) held n 28 [e0, e1, e2, e3, e4, e5, e6, e7] = some (DD i, Pl i) := by
  rcases open_slice Try.underlying24 hf with ⟨h1, h2⟩ | ⟨a, len, cap, m, n, DD, Pl, rfl, hb, hl, hm, hmm, hx, hcell⟩
  · simp only [Prod.mk.injEq] at h2
    exact .inl ⟨h1, h2.1⟩
  · simp only [if_true] at hmm
    subst hmm
    simp only [Prod.mk.injEq] at hx
    refine .inr ⟨a, len, m, n, DD, Pl, rfl, hl, hx.1, fun i hi => ?_⟩
    obtain ⟨cs', h1, h2⟩ := hcell i hi
    rw [eight_cells] at h1
    obtain ⟨_, hlen, hc⟩ := World.cells?_some h1
    match cs', hlen with
    | [e0, e1, e2, e3, e4, e5, e6, e7], _ =>
      refine ⟨e0, e1, e2, e3, e4, e5, e6, e7, fun j v hv => ?_, h2⟩
      have hj := (List.getElem?_eq_some_iff.1 hv).1
      have q := hc j (by simpa using hj)
      rw [add_add] at q
      rw [q, ← hv, List.getElem?_eq_getElem hj]

theorem chs_open {fuel : Nat} {cs : List Value} (hf : DataW.trod enc Try.prog W base (fun _ => true) held fuel 47 cs = some (d, p)) :
    (cs = [.slice none 0 0] ∧ d = .nil) ∨
    ∃ (a : Addr) (len cap n : Nat) (DD : Nat → DataW H) (Pl : Nat → List MemPlace), cs = [.slice (some a) len cap] ∧ len ≤ cap ∧ d = .slice ((List.range len).map DD) ((List.range (cap - len)).map fun j => DD (len + j)) ∧
      ∀ i, i < cap → ∃ e0 e1 e2 e3 e4 e5 e6 e7 e8, (∀ j v, [e0, e1, e2, e3, e4, e5, e6, e7, e8][j]? = some v → W.cell? (a.add (i * 9 + j)) = some v) ∧ DataW.trod enc Try.prog W base (fun _ => true) held n 30 [e0, e1, e2, e3, e4, e5, e6, e7, e8] = some (DD i, Pl i) := by
  rcases open_slice Try.underlying47 hf with ⟨h1, h2⟩ | ⟨a, len, cap, m, n, DD, Pl, rfl, hb, hl, hm, hmm, hx, hcell⟩
  · simp only [Prod.mk.injEq] at h2
    exact .inl ⟨h1, h2.1⟩
  · simp only [if_true] at hmm
    subst hmm
    simp only [Prod.mk.injEq] at hx
    refine .inr ⟨a, len, m, n, DD, Pl, rfl, hl, hx.1, fun i hi => ?_⟩
    obtain ⟨cs', h1, h2⟩ := hcell i hi
    rw [nine_cells] at h1
    obtain ⟨_, hlen, hc⟩ := World.cells?_some h1
    match cs', hlen with
    | [e0, e1, e2, e3, e4, e5, e6, e7, e8], _ =>
      refine ⟨e0, e1, e2, e3, e4, e5, e6, e7, e8, fun j v hv => ?_, h2⟩
      have hj := (List.getElem?_eq_some_iff.1 hv).1
      have q := hc j (by simpa using hj)
      rw [add_add] at q
      rw [q, ← hv, List.getElem?_eq_getElem hj]

theorem osds_in {fuel : Nat} {cs : List Value} (hf : DataW.trod enc Try.prog W base (fun _ => true) held fuel 24 cs = some (d, p)) (hw : ∀ x ∈ d.weights Try.prog 24, x ≤ reachBytes) :
    ∃ a len cap V, cs = [.slice a len cap] ∧ Os W a len cap V ∧ len * 56 ≤ 140737488351232 := by
  rcases osds_open hf with ⟨h1, _⟩ | ⟨a, len, cap, n, DD, Pl, h1, hl, rfl, hc⟩
  · exact ⟨none, 0, 0, [], h1, ⟨rfl, Nat.le_refl _, by omega, fun _ => ⟨rfl, rfl⟩, .inl rfl⟩, by omega⟩
  · have hb48 : Try.prog.bytesOf 28 = 56 := by kernel_rfl
    simp only [DataW.weights, Try.underlying24, List.mem_cons, List.mem_append, hb48] at hw
    have hw0 := hw _ (.inl rfl)
    simp only [List.length_map, List.length_range, reachBytes] at hw0
    haveI : Inhabited Osd := ⟨noO 0⟩
    have each : ∀ i, i < len → ∃ v : Osd, ∀ (j : Nat) (u : Value), (enO v)[j]? = some u → W.cell? (a.add (i * 8 + j)) = some u := fun i hi => by
      obtain ⟨e0, e1, e2, e3, e4, e5, e6, e7, g, g5⟩ := hc i (by omega)
      obtain ⟨o, rfl, rfl, rfl, rfl, rfl, rfl, rfl, rfl⟩ := osd_cells g5
      exact ⟨o, fun j u hu => g j u hu⟩
    obtain ⟨V, hV⟩ := choose_lt each
    refine ⟨some a, len, cap, (List.range len).map V, h1, ⟨by simp, hl, by omega, (fun h => by cases h), ?_⟩, by omega⟩
    by_cases h0 : len = 0
    · exact .inl h0
    · obtain ⟨b, off, spot⟩ := a
      have c0 := hV 0 (by omega) 0 _ rfl
      have hspot : spot = none := by simpa [Addr.add] using World.cell?_spot c0
      subst hspot
      refine .inr ⟨b, off, rfl, by simpa [Addr.add] using cell_lt' c0, fun q x hq j u hu => ?_⟩
      have hql : q < len := by simpa using (List.getElem?_eq_some_iff.1 hq).1
      have hx : V q = x := by simpa [hql] using hq
      subst hx
      have := hV q hql j u hu
      rw [add_at] at this
      rw [← Nat.add_assoc] at this
      exact this

theorem chs_in {fuel : Nat} {cs : List Value} (hf : DataW.trod enc Try.prog W base (fun _ => true) held fuel 47 cs = some (d, p)) (hw : ∀ x ∈ d.weights Try.prog 47, x ≤ reachBytes) :
    ∃ a len cap V, cs = [.slice a len cap] ∧ Cs W a len cap V ∧ len * 64 ≤ 140737488351232 := by
  rcases chs_open hf with ⟨h1, _⟩ | ⟨a, len, cap, n, DD, Pl, h1, hl, rfl, hc⟩
  · exact ⟨none, 0, 0, [], h1, ⟨rfl, Nat.le_refl _, by omega, fun _ => ⟨rfl, rfl⟩, .inl rfl⟩, by omega⟩
  · have hb48 : Try.prog.bytesOf 30 = 64 := by kernel_rfl
    simp only [DataW.weights, Try.underlying47, List.mem_cons, List.mem_append, hb48] at hw
    have hw0 := hw _ (.inl rfl)
    simp only [List.length_map, List.length_range, reachBytes] at hw0
    haveI : Inhabited Ch := ⟨noC⟩
    have each : ∀ i, i < len → ∃ v : Ch, ∀ (j : Nat) (u : Value), (enC v)[j]? = some u → W.cell? (a.add (i * 9 + j)) = some u := fun i hi => by
      obtain ⟨e0, e1, e2, e3, e4, e5, e6, e7, e8, g, g5⟩ := hc i (by omega)
      obtain ⟨o, ho⟩ := ch_cells g5
      exact ⟨o, fun j u hu => g j u (by rw [ho]; exact hu)⟩
    obtain ⟨V, hV⟩ := choose_lt each
    refine ⟨some a, len, cap, (List.range len).map V, h1, ⟨by simp, hl, by omega, (fun h => by cases h), ?_⟩, by omega⟩
    by_cases h0 : len = 0
    · exact .inl h0
    · obtain ⟨b, off, spot⟩ := a
      have c0 := hV 0 (by omega) 0 _ rfl
      have hspot : spot = none := by simpa [Addr.add] using World.cell?_spot c0
      subst hspot
      refine .inr ⟨b, off, rfl, by simpa [Addr.add] using cell_lt' c0, fun q x hq j u hu => ?_⟩
      have hql : q < len := by simpa using (List.getElem?_eq_some_iff.1 hq).1
      have hx : V q = x := by simpa [hql] using hq
      subst hx
      have := hV q hql j u hu
      rw [add_at] at this
      rw [← Nat.add_assoc] at this
      exact this

theorem map_in {v : Value} (hv : ∃ cs, v = .agg cs ∧ cs.size = Try.prog.cellsOf 26) (h : DataW.Trod enc Try.prog W base (fun _ => true) held 26 v d p) (hw : ∀ x ∈ d.weights Try.prog 26, x ≤ reachBytes) :
    ∃ V : MpV, v = vM V.m.ep V.m.pool V.x V.n V.c ∧ MapIn W V := by
  obtain ⟨cs, rfl, hcs⟩ := hv
  obtain ⟨fuel, hf⟩ := h
  rw [six_cells] at hcs
  obtain ⟨e0, e1, e2, e3, e4, e5, rfl⟩ : ∃ e0 e1 e2 e3 e4 e5, cs = #[e0, e1, e2, e3, e4, e5] := by
    obtain ⟨l⟩ := cs
    match l, hcs with
    | [e0, e1, e2, e3, e4, e5], _ => exact ⟨e0, e1, e2, e3, e4, e5, rfl⟩
  have c3 : Try.prog.cellsOf 3 = 1 := by kernel_rfl
  have c24 : Try.prog.cellsOf 24 = 1 := by kernel_rfl
  change DataW.trod enc Try.prog W base (fun _ => true) held fuel 26 [e0, e1, e2, e3, e4, e5] = some (d, p) at hf
  obtain ⟨xs, n, _, hx, _, hxl, hF⟩ := DataW.trod_struct Try.underlying26 hf
  simp only [Prod.mk.injEq] at hx
  obtain ⟨hd, _⟩ := hx
  subst hd
  obtain ⟨x0, x1, x2, rfl⟩ : ∃ x0 x1 x2, xs = [x0, x1, x2] := by
    match xs, hxl with
    | [x0, x1, x2], _ => exact ⟨x0, x1, x2, rfl⟩
  have f0' : DataW.trod enc Try.prog W base (fun _ => true) held n 3 (([e0, e1, e2, e3, e4, e5].drop 0).take (Try.prog.cellsOf 3)) = some x0 := hF 0 _ rfl
  rw [c3] at f0'
  have f0 : DataW.trod enc Try.prog W base (fun _ => true) held n 3 [e0] = some (x0.1, x0.2) := f0'
  have f1' : DataW.trod enc Try.prog W base (fun _ => true) held n 23 (([e0, e1, e2, e3, e4, e5].drop 1).take (Try.prog.cellsOf 23)) = some x1 := hF 1 _ rfl
  rw [four_cells] at f1'
  have f1 : DataW.trod enc Try.prog W base (fun _ => true) held n 23 [e1, e2, e3, e4] = some (x1.1, x1.2) := f1'
  have f2' : DataW.trod enc Try.prog W base (fun _ => true) held n 24 (([e0, e1, e2, e3, e4, e5].drop 5).take (Try.prog.cellsOf 24)) = some x2 := hF 2 _ rfl
  rw [c24] at f2'
  have f2 : DataW.trod enc Try.prog W base (fun _ => true) held n 24 [e5] = some (x2.1, x2.2) := f2'
  obtain ⟨v0, q0, _⟩ := DataW.trod_int Try.underlying3 f0
  simp at q0
  subst q0
  obtain ⟨o, rfl, rfl, rfl, rfl, hk⟩ := pool_cells f1
  simp only [DataW.weights, Try.underlying26] at hw
  obtain ⟨a, len, cap, L, g1, g2, g3⟩ := osds_in f2 (fun x hx => hw x (DataW.weights_mem_each (j := 2) (t := 24) rfl rfl x hx))
  simp at g1
  exact ⟨⟨⟨v0, o, L⟩, a, len, cap⟩, by rw [g1]; rfl, g2, hk, g3⟩

theorem two_in {v : Value} (hv : ∃ cs, v = .agg cs ∧ cs.size = Try.prog.cellsOf 60) (h : DataW.Trod enc Try.prog W base (fun _ => true) held 60 v d p) :
    ∃ V U : Ch, v = .agg ((enC V).toArray ++ (enC U).toArray) := by
  obtain ⟨cs, rfl, hcs⟩ := hv
  obtain ⟨fuel, hf⟩ := h
  rw [two_cells] at hcs
  obtain ⟨e0, e1, e2, e3, e4, e5, e6, e7, e8, e9, e10, e11, e12, e13, e14, e15, e16, e17, rfl⟩ : ∃ e0 e1 e2 e3 e4 e5 e6 e7 e8 e9 e10 e11 e12 e13 e14 e15 e16 e17, cs = #[e0, e1, e2, e3, e4, e5, e6, e7, e8, e9, e10, e11, e12, e13, e14, e15, e16, e17] := by
    obtain ⟨l⟩ := cs
    match l, hcs with
    | [e0, e1, e2, e3, e4, e5, e6, e7, e8, e9, e10, e11, e12, e13, e14, e15, e16, e17], _ => exact ⟨e0, e1, e2, e3, e4, e5, e6, e7, e8, e9, e10, e11, e12, e13, e14, e15, e16, e17, rfl⟩
  change DataW.trod enc Try.prog W base (fun _ => true) held fuel 60 [e0, e1, e2, e3, e4, e5, e6, e7, e8, e9, e10, e11, e12, e13, e14, e15, e16, e17] = some (d, p) at hf
  obtain ⟨xs, n, _, hx, _, hxl, hF⟩ := DataW.trod_array Try.underlying60 hf
  obtain ⟨x0, x1, rfl⟩ : ∃ x0 x1, xs = [x0, x1] := by
    match xs, hxl with
    | [x0, x1], _ => exact ⟨x0, x1, rfl⟩
  have f0' := hF 0 (by omega)
  rw [nine_cells] at f0'
  have f0 : DataW.trod enc Try.prog W base (fun _ => true) held n 30 [e0, e1, e2, e3, e4, e5, e6, e7, e8] = some (x0.1, x0.2) := f0'
  have f1' := hF 1 (by omega)
  rw [nine_cells] at f1'
  have f1 : DataW.trod enc Try.prog W base (fun _ => true) held n 30 [e9, e10, e11, e12, e13, e14, e15, e16, e17] = some (x1.1, x1.2) := f1'
  obtain ⟨V, hV⟩ := ch_cells f0
  obtain ⟨U, hU⟩ := ch_cells f1
  exact ⟨V, U, by rw [← hV, ← hU]; rfl⟩

end

end Go.Proofs.Ytnddhlkdemibgaa.At

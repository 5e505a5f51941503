/-
  5 texts of this proof, one behind the other: AtTurn, AtNums, AtItem, PxPlain, PxMem.
-/
import Derived.Test.YtdlajpjigddbhaaGreatJ07
import Derived.Laws.MakeOwn
import Derived.Laws.OwnMore
import Derived.Deep.Slices
import Derived.Test.YtdlajpjigddbhaaGreatJ05
import Derived.Test.YtdlajpjigddbhaaGreatJ01
import Derived.Test.YtdlajpjigddbhaaGreatJ02
import Derived.Test.YtdlajpjigddbhaaGreatJ04
import Derived.Test.YtdlajpjigddbhaaGreatJ06
import Derived.Lib.ConvBytes
import Derived.Laws.ResultCell
/-
  Package atlas: turn, and what each kind of change but ChangeAdd does to a map's OSDs.
  Conditions: the map is one's own.
-/
namespace Go.Proofs.YtdlajpjigddbhaaGreat.At
open Go.RowKit By Fl
set_option linter.unusedVariables false
set_option linter.unusedSimpArgs false
set_option maxRecDepth 100000

structure MapAt (w : World) (B p : Nat) (m : Mp) (R : Value) : Prop where
  blk : w.heap[p]? = some (.cells #[.int .i64 m.ep, .int .i64 m.pool.k, .int .i64 m.pool.m, .int .i64 m.pool.pgs, .int .i64 m.pool.dom, R] 56 (0, 0))
  own : Own w B 35 8 enO R m.osds
  small : m.osds.length ≤ 64

theorem MapAt.lt {w : World} {B p : Nat} {m : Mp} {R : Value} (h : MapAt w B p m R) : p < w.heap.size := (Array.getElem?_eq_some_iff.1 h.blk).1

theorem MapAt.apart {w : World} {B p : Nat} {m : Mp} {R : Value} (h : MapAt w B p m R) {g : Nat} (hg : R.ownBlock = some g) : g ≠ p := fun e => by
  subst e
  have := (h.own.tb hg).2.same ⟨_, _, h.blk⟩
  cases this

theorem MapAt.turns {G : Nat → Prop} {w w' : World} {B p : Nat} {m : Mp} {R : Value} (h : MapAt w B p m R) (t : Turns G w w') (h1 : ¬ G p) (h2 : ∀ g, R.ownBlock = some g → ¬ G g) : MapAt w' B p m R :=
  ⟨(t.block p h.lt h1).trans h.blk, h.own.turns t h2, h.small⟩

theorem MapAt.below {w w' : World} {B p : Nat} {m : Mp} {R : Value} (h : MapAt w B p m R) (t : Below w.heap.size w w') : MapAt w' B p m R :=
  h.turns (Turns.of_below (F := fun _ => False) t) (fun h => h) (fun _ _ h => h)

theorem bel_drewN (w : World) (n : Nat) : Below w.heap.size w (w.drewN n) := ⟨rfl, rfl, rfl, Nat.le_refl _, fun _ _ => rfl⟩

theorem flat_set8 : ∀ (L : List Osd) (i : Nat) (a : Osd), flat enO (L.set i a) = ((((((((flat enO L).set (i * 8) (.int .i64 a.id)).set (i * 8 + 1) (.bool a.up)).set (i * 8 + 2) (.bool a.inn)).set (i * 8 + 3) (.int .i64 a.wt)).set (i * 8 + 4) (.int .i64 a.life)).set (i * 8 + 5) (.int .i64 a.boot)).set (i * 8 + 6) (.int .i64 a.host)).set (i * 8 + 7) (.int .i64 a.rack)
  | [], i, a => by simp [flat]
  | b :: L, 0, a => by simp [flat_cons, enO]
  | b :: L, i + 1, a => by
    rw [List.set_cons_succ, flat_cons, flat_cons, flat_set8 L i a, show (i + 1) * 8 = i * 8 + 1 + 1 + 1 + 1 + 1 + 1 + 1 + 1 by omega]
    simp [List.set_cons_succ, enO]

def put8 (w : World) (g o : Nat) (a : Osd) : World :=
  (((((((w.setCell ⟨g, o, none⟩ (.int .i64 a.id)).setCell ⟨g, o + 1, none⟩ (.bool a.up)).setCell ⟨g, o + 2, none⟩ (.bool a.inn)).setCell ⟨g, o + 3, none⟩ (.int .i64 a.wt)).setCell ⟨g, o + 4, none⟩ (.int .i64 a.life)).setCell ⟨g, o + 5, none⟩ (.int .i64 a.boot)).setCell ⟨g, o + 6, none⟩ (.int .i64 a.host)).setCell ⟨g, o + 7, none⟩ (.int .i64 a.rack)

theorem Own.set8 {w : World} {B g n c : Nat} {L : List Osd} (h : Own w B 35 8 enO (.slice (some ⟨g, 0, none⟩) n c) L) (i : Nat) (a : Osd) : Own (put8 w g (i * 8) a) B 35 8 enO (.slice (some ⟨g, 0, none⟩) n c) (L.set i a) := by
  have hL := h.heap.1
  unfold Own at h ⊢
  rw [List.length_set, flat_set8]
  rw [hL] at h ⊢
  exact own_setCell (own_setCell (own_setCell (own_setCell (own_setCell (own_setCell (own_setCell (own_setCell h _ _) _ _) _ _) _ _) _ _) _ _) _ _) _ _

theorem turns_put8 {w : World} {g o : Nat} {a : Osd} : Turns (fun k => k = g) w (put8 w g o a) :=
  turns_put (turns_put (turns_put (turns_put (turns_put (turns_put (turns_put (turns_put (Turns.refl _ _) _ _) _ _) _ _) _ _) _ _) _ _) _ _) _ _

theorem turnP_none {L : List Osd} {id : Int} (f : Osd → Osd) (h : L.findIdx? (isId id) = none) : turnP L id f = (4, L) := by unfold turnP; rw [h]
theorem turnP_same {L : List Osd} {id : Int} {f : Osd → Osd} {k : Nat} {x : Osd} (h : L.findIdx? (isId id) = some k) (hx : L[k]? = some x) (he : eqO (f x) x = true) : turnP L id f = (6, L) := by unfold turnP; simp [h, hx, he]
theorem turnP_yes {L : List Osd} {id : Int} {f : Osd → Osd} {k : Nat} {x : Osd} (h : L.findIdx? (isId id) = some k) (hx : L[k]? = some x) (he : eqO (f x) x = false) : turnP L id f = (0, L.set k (f x)) := by unfold turnP; simp [h, hx, he]

theorem turnP_len (L : List Osd) (id : Int) (f : Osd → Osd) : (turnP L id f).2.length = L.length := by
  unfold turnP
  split
  · rfl
  · split
    · rfl
    · split
      · rfl
      · simp

def Turned (w w' : World) (B p : Nat) (m : Mp) (R : Value) (L : List Osd) : Prop := ∃ R', MapAt w' B p ⟨m.ep, m.pool, L⟩ R' ∧ Turns (fun k => k = p ∨ R.ownBlock = some k) w w' ∧ ∀ g, R'.ownBlock = some g → R.ownBlock = some g ∨ w.heap.size ≤ g

theorem Turned.not {w w' : World} {B p : Nat} {m : Mp} {R : Value} (h : MapAt w B p m R) (b : Below w.heap.size w w') : Turned w w' B p m R m.osds := ⟨R, h.below b, Turns.of_below b, fun g hg => .inl hg⟩

set_option maxHeartbeats 1600000 in
theorem turn_any {w : World} {B p : Nat} {m : Mp} {R : Value} (id : Int) (f : Osd → Osd) (g : Nat) (lb : Array Value) (eg : ∀ args w, (callFunc g args).run Tryz.prog w = .ok (.enter g args) w) (h : MapAt w B p m R) (hby : Does g lb f w) :
    Calls Tryz.prog 133 #[.pointer (some ⟨p, 0, none⟩), .int .i64 id, .func (.func g) #[] lb] w fun e w' => e = .returned (.int .i64 (turnP m.osds id f).1) ∧ Hid (Turned w w' B p m R (turnP m.osds id f).2) := by
  have HM := hid h
  obtain ⟨x, c, rfl, hnc, hnil, hx⟩ := h.own.form
  have p5 := cell_heap h.blk (j := 5) rfl
  have hS := seat_any id (own_os h.own (by have := h.small; omega))
  obtain ⟨n, hn⟩ : ∃ n, n = m.osds.length := ⟨_, rfl⟩
  rw [← hn] at p5 hS hnc hnil HM ⊢
  have HN := hid hn
  have hn64 : n ≤ 64 := by rw [hn]; exact h.small
  have hpl := h.lt
  clear h hn
  cases hi : m.osds.findIdx? (isId id) with
  | none =>
    have HI := hid hi
    rw [show idx (isId id) m.osds = -1 by unfold idx; rw [hi]] at hS
    clear hi
    go_enter Tryz.func133, Tryz.ntmps133
    go_wp2_with (go_at_call 128; refine hS.mono ?_; rintro e w1 ⟨rfl, hb1⟩; clear hS)
    go_ret
    rw [turnP_none f HI.out]
    exact ⟨rfl, Turned.not HM.out hb1⟩
  | some k =>
    obtain ⟨o, ho, hid1, _⟩ := idx_some hi
    have HI := hid (show m.osds.findIdx? (isId id) = some k ∧ m.osds[k]? = some o from ⟨hi, ho⟩)
    have hkn : k < n := by rw [HN.out]; exact (List.getElem?_eq_some_iff.1 ho).1
    rw [show idx (isId id) m.osds = (k : Int) by unfold idx; rw [hi]] at hS
    have hk0 : ¬ (k : Int) < 0 := by omega
    have hkI : (k : Int) < (n : Int) := by omega
    obtain ⟨gr, rfl⟩ : ∃ gr, x = some ⟨gr, 0, none⟩ := by
      cases x with
      | none => have := hnil rfl; omega
      | some ad =>
        obtain ⟨gr, rfl, _⟩ := hx ad rfl
        exact ⟨gr, rfl⟩
    have HO := hid HM.out.own
    have hlt := HM.out.own.heap.2.2.2
    have hgp : gr ≠ p := HM.out.apart rfl
    have hgl := (World.ownsRow.lt HM.out.own gr rfl).2
    have HB := hid hby
    have hE := fun W => eq_osd (f o) o W
    obtain ⟨t, ht⟩ : ∃ t, t = eqO (f o) o := ⟨_, rfl⟩
    rw [← ht] at hE
    have HT := hid ht
    have HF : Hid (∀ w' : World, Turned w w' B p m (.slice (some ⟨gr, 0, none⟩) n c) (turnP m.osds id f).2 → Turned w w' B p m (.slice (some ⟨gr, 0, none⟩) n c) (turnP m.osds id f).2) := fun _ h => h
    clear hi ho hid1 hx hnil hby ht
    obtain ⟨y, hy⟩ : ∃ y, y = f o := ⟨_, rfl⟩
    rw [← hy] at hE
    have HY := hid hy
    clear hy
    obtain ⟨i0, i1, i2, i3, i4, i5, i6, i7⟩ := o
    obtain ⟨y0, y1, y2, y3, y4, y5, y6, y7⟩ := y
    unfold vO at hE
    dsimp only at hE
    go_enter Tryz.func133, Tryz.ntmps133
    go_wp2_with (first
      | (go_at_call 128; refine hS.mono ?_; rintro e w1 ⟨rfl, hb1⟩; clear hS
         have q5 := keep hb1 p5
         obtain ⟨k0, k1, k2, k3, k4, k5, k6, k7⟩ : _ := Os.at (n := n) (c := c) (w := w1) (b := gr) (o := 0) (fun q a hq j v hv => by rw [Nat.zero_add]; exact (HO.out.below hb1).cell orow.len hq hv) HI.out.2
         rw [Nat.zero_add] at k0 k1 k2 k3 k4 k5 k6 k7
         dsimp only at k0 k1 k2 k3 k4 k5 k6 k7
         have lt1 : p < w1.heap.size := Nat.lt_of_lt_of_le hpl hb1.size
         have lt2 : gr < w1.heap.size := Nat.lt_of_lt_of_le hgl hb1.size
         have hD := HB.out (w1.alloc (.cells #[.int .i64 i0, .bool i1, .bool i2, .int .i64 i3, .int .i64 i4, .int .i64 i5, .int .i64 i6, .int .i64 i7] 35)) w1.heap.size ⟨i0, i1, i2, i3, i4, i5, i6, i7⟩ (on hb1 (al _ _)) hb1.size (heap_alloc_new _ _))
      | (go_at_fn g; refine hD.mono ?_; rintro e w2 ⟨rfl, H2⟩; clear hD
         rw [← HY.out] at H2
         obtain ⟨a0, a1, a2, a3, a4, a5, a6, a7⟩ := H2.out.1.at
         have T2 := H2.out.2
         have hal := al w1 (.cells #[.int .i64 i0, .bool i1, .bool i2, .int .i64 i3, .int .i64 i4, .int .i64 i5, .int .i64 i6, .int .i64 i7] 35)
         have np : p ≠ w1.heap.size := by omega
         have ng : gr ≠ w1.heap.size := by omega
         have KK : ∀ (b q : Nat) (v : Value), b ≠ w1.heap.size → w1.cell? ⟨b, q, none⟩ = some v → w2.cell? ⟨b, q, none⟩ = some v := fun b q v hb hv => (World.cell?_of_block (a := ⟨b, q, none⟩) (T2.block b (cell_lt' (keep hal hv)) hb)).trans (keep hal hv)
         have r5 := KK _ _ _ np q5
         have l0 := KK _ _ _ ng k0
         have l1 := KK _ _ _ ng k1
         have l2 := KK _ _ _ ng k2
         have l3 := KK _ _ _ ng k3
         have l4 := KK _ _ _ ng k4
         have l5 := KK _ _ _ ng k5
         have l6 := KK _ _ _ ng k6
         have l7 := KK _ _ _ ng k7
         have H3 : Hid (Turns (fun k => k = w1.heap.size) w1 w2) := ⟨T2.os.trans hal.os, T2.tape.trans hal.tape, T2.output.trans hal.output, Nat.le_trans hal.size T2.size, fun k hk hne => (T2.block k (Nat.lt_of_lt_of_le hk hal.size) hne).trans (hal.block k hk)⟩
         clear KK T2 hal q5 k0 k1 k2 k3 k4 k5 k6 k7))
    have F3 : Hid (∀ W : World, Below w2.heap.size w2 W → Below w.heap.size w W ∧ Turned w W B p m (.slice (some ⟨gr, 0, none⟩) n c) m.osds) := fun W hW => by
      have hb := on hb1 (on ((H3.out.below (B := w1.heap.size) (fun k hk => by rw [hk]; exact Nat.le_refl _) (Nat.le_refl _))) hW)
      exact ⟨hb, Turned.not HM.out hb⟩
    cases t with
    | true =>
      go_quiet (fail)
      go_wp2_with fail
      go_ret
      rw [turnP_same HI.out.1 HI.out.2 (by rw [← HT.out])]
      exact ⟨rfl, (F3.out _ (bel_drewN _ _)).2⟩
    | false =>
      have fz : ∀ j, w2.frozen? ⟨gr, j, none⟩ = false := fun j => by
        rw [World.frozen?_of_block (a := ⟨gr, j, none⟩) (H3.out.block gr lt2 ng)]
        exact (HO.out.below hb1).frozen
      go_quiet (fail)
      go_wp2_with fail
      go_region
      go_wp2_with fail
      go_ret
      rw [turnP_yes HI.out.1 HI.out.2 (by rw [← HT.out]), ← HY.out]
      have hb := (F3.out (w2.drewN (nq + 1)) (bel_drewN _ _)).1
      have hM2 := HM.out.below hb
      have TP : Turns (fun k => k = gr) (w2.drewN (nq + 1)) _ := turns_put8 (w := w2.drewN (nq + 1)) (g := gr) (o := k * 8) (a := ⟨y0, y1, y2, y3, y4, y5, y6, y7⟩)
      exact ⟨rfl, .slice (some ⟨gr, 0, none⟩) n c, ⟨(TP.block p hM2.lt (Ne.symm hgp)).trans hM2.blk, Own.set8 hM2.own k ⟨y0, y1, y2, y3, y4, y5, y6, y7⟩, by show (m.osds.set k _).length ≤ 64; rw [List.length_set]; exact hM2.small⟩, (Turns.of_below hb).more TP (fun i hi => .inl (.inr (by rw [hi]; rfl))), fun g hg => .inl hg⟩

theorem setUp_any {w : World} {B p : Nat} {m : Mp} {R : Value} (o : Osd) (h : MapAt w B p m R) (hB : B ≤ w.heap.size) :
    Calls Tryz.prog 99 #[.pointer (some ⟨p, 0, none⟩), vO o] w fun e w' => e = .returned (.int .i64 (turnP m.osds o.id (setUp o)).1) ∧ Hid (Turned w w' B p m R (turnP m.osds o.id (setUp o)).2) := by
  have b0 := al w (.cells #[.int .i64 o.id, .bool o.up, .bool o.inn, .int .i64 o.wt, .int .i64 o.life, .int .i64 o.boot, .int .i64 o.host, .int .i64 o.rack] 35)
  have hT := turn_any o.id (setUp o) 134 #[.pointer (some ⟨w.heap.size, 0, none⟩)] (enters_of Tryz.func134 (by kernel_rfl) rfl) (h.below b0) (up_clos o _ w.heap.size o.life o.boot (by go_simp) (by go_simp) rfl rfl)
  have HT : Hid (∀ (w' : World) (L : List Osd), Turned (w.alloc (.cells #[.int .i64 o.id, .bool o.up, .bool o.inn, .int .i64 o.wt, .int .i64 o.life, .int .i64 o.boot, .int .i64 o.host, .int .i64 o.rack] 35)) w' B p m R L → Turned w w' B p m R L) := fun w' L ⟨R', h1, h2, h3⟩ => ⟨R', h1, (Turns.of_below b0).trans h2, fun g hg => (h3 g hg).imp (fun h => h) (fun h => by simp at h; omega)⟩
  generalize (turnP m.osds o.id (setUp o)) = r at *
  clear h
  obtain ⟨i, up, inn, wt, life, boot, host, rack⟩ := o
  unfold vO
  dsimp only at b0 hT HT ⊢
  go_enter Tryz.func99, Tryz.ntmps99
  go_wp2_with (go_at_call 133; refine hT.mono ?_; rintro e w2 ⟨rfl, h2⟩)
  go_ret
  exact ⟨rfl, HT.out _ _ h2.out⟩

theorem setDown_any {w : World} {B p : Nat} {m : Mp} {R : Value} (o : Osd) (h : MapAt w B p m R) (hB : B ≤ w.heap.size) :
    Calls Tryz.prog 101 #[.pointer (some ⟨p, 0, none⟩), vO o] w fun e w' => e = .returned (.int .i64 (turnP m.osds o.id (setDown o)).1) ∧ Hid (Turned w w' B p m R (turnP m.osds o.id (setDown o)).2) := by
  have b0 := al w (.cells #[.int .i64 o.id, .bool o.up, .bool o.inn, .int .i64 o.wt, .int .i64 o.life, .int .i64 o.boot, .int .i64 o.host, .int .i64 o.rack] 35)
  have hT := turn_any o.id (setDown o) 135 #[] (enters_of Tryz.func135 (by kernel_rfl) rfl) (h.below b0) (down_clos o _)
  have HT : Hid (∀ (w' : World) (L : List Osd), Turned (w.alloc (.cells #[.int .i64 o.id, .bool o.up, .bool o.inn, .int .i64 o.wt, .int .i64 o.life, .int .i64 o.boot, .int .i64 o.host, .int .i64 o.rack] 35)) w' B p m R L → Turned w w' B p m R L) := fun w' L ⟨R', h1, h2, h3⟩ => ⟨R', h1, (Turns.of_below b0).trans h2, fun g hg => (h3 g hg).imp (fun h => h) (fun h => by simp at h; omega)⟩
  generalize (turnP m.osds o.id (setDown o)) = r at *
  clear h
  obtain ⟨i, up, inn, wt, life, boot, host, rack⟩ := o
  unfold vO
  dsimp only at b0 hT HT ⊢
  go_enter Tryz.func101, Tryz.ntmps101
  go_wp2_with (go_at_call 133; refine hT.mono ?_; rintro e w2 ⟨rfl, h2⟩)
  go_ret
  exact ⟨rfl, HT.out _ _ h2.out⟩

theorem setIn_any {w : World} {B p : Nat} {m : Mp} {R : Value} (o : Osd) (h : MapAt w B p m R) (hB : B ≤ w.heap.size) :
    Calls Tryz.prog 102 #[.pointer (some ⟨p, 0, none⟩), vO o] w fun e w' => e = .returned (.int .i64 (turnP m.osds o.id (setIn o)).1) ∧ Hid (Turned w w' B p m R (turnP m.osds o.id (setIn o)).2) := by
  have b0 := al w (.cells #[.int .i64 o.id, .bool o.up, .bool o.inn, .int .i64 o.wt, .int .i64 o.life, .int .i64 o.boot, .int .i64 o.host, .int .i64 o.rack] 35)
  have hT := turn_any o.id (setIn o) 136 #[] (enters_of Tryz.func136 (by kernel_rfl) rfl) (h.below b0) (in_clos o _)
  have HT : Hid (∀ (w' : World) (L : List Osd), Turned (w.alloc (.cells #[.int .i64 o.id, .bool o.up, .bool o.inn, .int .i64 o.wt, .int .i64 o.life, .int .i64 o.boot, .int .i64 o.host, .int .i64 o.rack] 35)) w' B p m R L → Turned w w' B p m R L) := fun w' L ⟨R', h1, h2, h3⟩ => ⟨R', h1, (Turns.of_below b0).trans h2, fun g hg => (h3 g hg).imp (fun h => h) (fun h => by simp at h; omega)⟩
  generalize (turnP m.osds o.id (setIn o)) = r at *
  clear h
  obtain ⟨i, up, inn, wt, life, boot, host, rack⟩ := o
  unfold vO
  dsimp only at b0 hT HT ⊢
  go_enter Tryz.func102, Tryz.ntmps102
  go_wp2_with (go_at_call 133; refine hT.mono ?_; rintro e w2 ⟨rfl, h2⟩)
  go_ret
  exact ⟨rfl, HT.out _ _ h2.out⟩

theorem setOut_any {w : World} {B p : Nat} {m : Mp} {R : Value} (o : Osd) (h : MapAt w B p m R) (hB : B ≤ w.heap.size) :
    Calls Tryz.prog 103 #[.pointer (some ⟨p, 0, none⟩), vO o] w fun e w' => e = .returned (.int .i64 (turnP m.osds o.id (setOut o)).1) ∧ Hid (Turned w w' B p m R (turnP m.osds o.id (setOut o)).2) := by
  have b0 := al w (.cells #[.int .i64 o.id, .bool o.up, .bool o.inn, .int .i64 o.wt, .int .i64 o.life, .int .i64 o.boot, .int .i64 o.host, .int .i64 o.rack] 35)
  have hT := turn_any o.id (setOut o) 137 #[] (enters_of Tryz.func137 (by kernel_rfl) rfl) (h.below b0) (out_clos o _)
  have HT : Hid (∀ (w' : World) (L : List Osd), Turned (w.alloc (.cells #[.int .i64 o.id, .bool o.up, .bool o.inn, .int .i64 o.wt, .int .i64 o.life, .int .i64 o.boot, .int .i64 o.host, .int .i64 o.rack] 35)) w' B p m R L → Turned w w' B p m R L) := fun w' L ⟨R', h1, h2, h3⟩ => ⟨R', h1, (Turns.of_below b0).trans h2, fun g hg => (h3 g hg).imp (fun h => h) (fun h => by simp at h; omega)⟩
  generalize (turnP m.osds o.id (setOut o)) = r at *
  clear h
  obtain ⟨i, up, inn, wt, life, boot, host, rack⟩ := o
  unfold vO
  dsimp only at b0 hT HT ⊢
  go_enter Tryz.func103, Tryz.ntmps103
  go_wp2_with (go_at_call 133; refine hT.mono ?_; rintro e w2 ⟨rfl, h2⟩)
  go_ret
  exact ⟨rfl, HT.out _ _ h2.out⟩

theorem setWeight_any {w : World} {B p : Nat} {m : Mp} {R : Value} (o : Osd) (h : MapAt w B p m R) (hB : B ≤ w.heap.size) :
    Calls Tryz.prog 105 #[.pointer (some ⟨p, 0, none⟩), vO o] w fun e w' => e = .returned (.int .i64 (turnP m.osds o.id (setWt o)).1) ∧ Hid (Turned w w' B p m R (turnP m.osds o.id (setWt o)).2) := by
  have b0 := al w (.cells #[.int .i64 o.id, .bool o.up, .bool o.inn, .int .i64 o.wt, .int .i64 o.life, .int .i64 o.boot, .int .i64 o.host, .int .i64 o.rack] 35)
  have hT := turn_any o.id (setWt o) 138 #[.pointer (some ⟨w.heap.size, 0, none⟩)] (enters_of Tryz.func138 (by kernel_rfl) rfl) (h.below b0) (weight_clos o _ w.heap.size o.wt (by go_simp) rfl)
  have HT : Hid (∀ (w' : World) (L : List Osd), Turned (w.alloc (.cells #[.int .i64 o.id, .bool o.up, .bool o.inn, .int .i64 o.wt, .int .i64 o.life, .int .i64 o.boot, .int .i64 o.host, .int .i64 o.rack] 35)) w' B p m R L → Turned w w' B p m R L) := fun w' L ⟨R', h1, h2, h3⟩ => ⟨R', h1, (Turns.of_below b0).trans h2, fun g hg => (h3 g hg).imp (fun h => h) (fun h => by simp at h; omega)⟩
  generalize (turnP m.osds o.id (setWt o)) = r at *
  clear h
  obtain ⟨i, up, inn, wt, life, boot, host, rack⟩ := o
  unfold vO
  dsimp only at b0 hT HT ⊢
  go_enter Tryz.func105, Tryz.ntmps105
  go_wp2_with (go_at_call 133; refine hT.mono ?_; rintro e w2 ⟨rfl, h2⟩)
  go_ret
  exact ⟨rfl, HT.out _ _ h2.out⟩

end Go.Proofs.YtdlajpjigddbhaaGreat.At

/-
  Lists of numbers that are made at once and written one by one; lists of changes that are read.
  Conditions: none.
-/
namespace Go.Proofs.YtdlajpjigddbhaaGreat.At
open Go.RowKit By Fl
set_option linter.unusedVariables false
set_option linter.unusedSimpArgs false
set_option maxRecDepth 100000

def Ns (w : World) (g : Nat) (t : TypeId) (T : List Int) : Prop := w.heap[g]? = some (.cells (T.map fun v => Value.int .i64 v).toArray t (0, 0))

section
variable {w w' : World} {g : Nat} {t : TypeId} {T : List Int}

theorem Ns.lt (h : Ns w g t T) : g < w.heap.size := (Array.getElem?_eq_some_iff.1 h).1
theorem Ns.cell (h : Ns w g t T) {i : Nat} {v : Int} (hv : T[i]? = some v) : w.cell? ⟨g, i, none⟩ = some (.int .i64 v) := cell_heap h (by simp [hv])
theorem Ns.fr (h : Ns w g t T) (i : Nat) : w.frozen? ⟨g, i, none⟩ = false := fr_heap h i
theorem Ns.turns {G : Nat → Prop} (h : Ns w g t T) (k : Turns G w w') (hg : ¬ G g) : Ns w' g t T := (k.block g h.lt hg).trans h
theorem Ns.below (h : Ns w g t T) (k : Below w.heap.size w w') : Ns w' g t T := (k.block g h.lt).trans h
theorem Ns.set (h : Ns w g t T) (i : Nat) (v : Int) : Ns (w.setCell ⟨g, i, none⟩ (.int .i64 v)) g t (T.set i v) := by
  unfold Ns
  rw [heap_set h]
  simp
theorem Ns.new (w : World) (t : TypeId) (T : List Int) : Ns (w.alloc (.cells (T.map fun v => Value.int .i64 v).toArray t)) w.heap.size t T := heap_alloc_new _ _
end

theorem run_make_ns (w : World) (T e : TypeId) (hu : Tryz.prog.underlying T = some (.slice e)) (hi : (Tryz.prog.info? e).map (fun i => (i.zero, i.size, i.bytes)) = some (some (.int .i64 0), 1, 8)) (n : Nat) (hn : n ≤ 1000) :
    (Instr.makeSlice T (.int .i64 (n : Int)) (.int .i64 (n : Int))).run Tryz.prog w = .ok (.slice (some ⟨w.heap.size, 0, none⟩) n n) (w.alloc (.cells ((List.replicate n (0 : Int)).map fun v => Value.int .i64 v).toArray e)) := by
  obtain ⟨i0, h1, h2, h3, h4⟩ := info_parts hi
  have := run_make (P := Tryz.prog) w T e i0 _ hu h1 h2 .i64 .i64 (n : Int) (n : Int) (by omega) (by omega) (by rw [h4]; omega) (by omega)
  rw [this, h3]
  have e1 : madeCells (Value.int IntKind.i64 0).cells (((n : Int).toNat) * 1) = ((List.replicate n (0 : Int)).map fun v => Value.int .i64 v).toArray := by
    apply Array.toList_inj.1
    show (madeCells #[Value.int IntKind.i64 0] (n * 1)).toList = _
    rw [toList_madeCells_one]
    simp
  rw [e1]
  simp

/- A list of changes that is read. -/
structure Cs (w : World) (x : Option Addr) (n c : Nat) (L : List Ch) : Prop where
  len : L.length = n
  le : n ≤ c
  small : n ≤ 140737488351232
  nil : x = none → n = 0 ∧ c = 0
  row : n = 0 ∨ ∃ b o, x = some ⟨b, o, none⟩ ∧ b < w.heap.size ∧ ∀ (k : Nat) (a : Ch), L[k]? = some a → ∀ (j : Nat) (v : Value), (enC a)[j]? = some v → w.cell? ⟨b, o + k * 9 + j, none⟩ = some v

theorem Cs.below {w w' : World} {x : Option Addr} {n c : Nat} {L : List Ch} (h : Cs w x n c L) (hb : Below w.heap.size w w') : Cs w' x n c L := by
  refine ⟨h.len, h.le, h.small, h.nil, ?_⟩
  rcases h.row with h0 | ⟨b, o, h1, h2, h3⟩
  · exact .inl h0
  · exact .inr ⟨b, o, h1, Nat.lt_of_lt_of_le h2 hb.size, fun k a hk j v hv => keep hb (h3 k a hk j v hv)⟩

theorem Cs.at {w : World} {b o k : Nat} {L : List Ch} {a : Ch} (h : ∀ (k : Nat) (a : Ch), L[k]? = some a → ∀ (j : Nat) (v : Value), (enC a)[j]? = some v → w.cell? ⟨b, o + k * 9 + j, none⟩ = some v) (hk : L[k]? = some a) :
    w.cell? ⟨b, o + k * 9, none⟩ = some (.int .i64 a.kind) ∧ w.cell? ⟨b, o + k * 9 + 1, none⟩ = some (.int .i64 a.osd.id) ∧ w.cell? ⟨b, o + k * 9 + 2, none⟩ = some (.bool a.osd.up) ∧ w.cell? ⟨b, o + k * 9 + 3, none⟩ = some (.bool a.osd.inn) ∧ w.cell? ⟨b, o + k * 9 + 4, none⟩ = some (.int .i64 a.osd.wt) ∧
    w.cell? ⟨b, o + k * 9 + 5, none⟩ = some (.int .i64 a.osd.life) ∧ w.cell? ⟨b, o + k * 9 + 6, none⟩ = some (.int .i64 a.osd.boot) ∧ w.cell? ⟨b, o + k * 9 + 7, none⟩ = some (.int .i64 a.osd.host) ∧ w.cell? ⟨b, o + k * 9 + 8, none⟩ = some (.int .i64 a.osd.rack) :=
  ⟨h k a hk 0 _ rfl, h k a hk 1 _ rfl, h k a hk 2 _ rfl, h k a hk 3 _ rfl, h k a hk 4 _ rfl, h k a hk 5 _ rfl, h k a hk 6 _ rfl, h k a hk 7 _ rfl, h k a hk 8 _ rfl⟩

theorem adv_ep {m : Mp} (c : Ch) (h0 : 0 ≤ m.ep) (h1 : m.ep ≤ 1048576) : 0 ≤ (advP m c).2.ep ∧ (advP m c).2.ep ≤ 1048576 := by
  unfold advP
  split
  · exact ⟨h0, h1⟩
  · rename_i h
    have : m.ep ≠ 1048576 := fun e => h (.inr e)
    split
    · exact ⟨by show 0 ≤ m.ep + 1; omega, by show m.ep + 1 ≤ 1048576; omega⟩
    · exact ⟨h0, h1⟩

theorem fold_ep : ∀ (l : List Ch) (m : Mp), 0 ≤ m.ep → m.ep ≤ 1048576 → 0 ≤ (foldP m l).2.ep ∧ (foldP m l).2.ep ≤ 1048576
  | [], m, h0, h1 => ⟨h0, h1⟩
  | c :: l, m, h0, h1 => by
    have := adv_ep c h0 h1
    exact fold_ep l _ this.1 this.2

theorem fold_take {l : List Ch} {k : Nat} {c : Ch} (m : Mp) (h : l[k]? = some c) : foldP m (l.take (k + 1)) = ((foldP m (l.take k)).1 ++ [(advP (foldP m (l.take k)).2 c).1], (advP (foldP m (l.take k)).2 c).2) := by
  rw [List.take_add_one, h]
  exact foldP_snoc _ _ _

end Go.Proofs.YtdlajpjigddbhaaGreat.At

/-
  What a law is told of a pool, an OSD, a map, a change, a list of changes and two changes that came in, with their reach.
  Conditions: none.
-/
namespace Go.Proofs.YtdlajpjigddbhaaGreat.At
open Go.RowKit Go.ChangeShapes Go.WideShapes Go.Deep By Fl
set_option linter.unusedVariables false
set_option linter.unusedSimpArgs false
set_option maxRecDepth 100000

theorem mem_weightsAll {H : Type} {P : Program} {e : TypeId} {d : DataW H} {n : Nat} (hn : n ∈ d.weights P e) : ∀ {ds : List (DataW H)}, d ∈ ds → n ∈ DataW.weightsAll P e ds
  | d0 :: ds, h => by
    simp only [DataW.weightsAll, List.mem_append]
    rcases List.mem_cons.1 h with h | h
    · subst h; exact .inl hn
    · exact .inr (mem_weightsAll hn h)

theorem wf_top {z : Int} (h : (Lit.int .i64 z).wf = true) : z ≤ 9223372036854775807 := by
  have e2 : IntKind.i64.max = 9223372036854775807 := by decide
  unfold Lit.wf at h
  simp [e2] at h
  exact h.2

structure MpV where
  m : Mp
  x : Option Addr
  n : Nat
  c : Nat

structure MapIn (w : World) (v : MpV) : Prop where
  os : Os w v.x v.n v.c v.m.osds
  k : v.m.pool.k ≤ 9223372036854775807
  fit : v.n * 56 ≤ 140737488351232

section
variable {H : Type} {enc : TypeId × Value → H} {W : World} {base : Nat} {held : Bool} {d : DataW H} {p : List MemPlace}

theorem eight_cells : Tryz.prog.cellsOf 35 = 8 := by kernel_rfl
theorem four_cells : Tryz.prog.cellsOf 49 = 4 := by kernel_rfl
theorem six_cells : Tryz.prog.cellsOf 56 = 6 := by kernel_rfl
theorem nine_cells : Tryz.prog.cellsOf 37 = 9 := by kernel_rfl

theorem osd_cells {fuel : Nat} {e0 e1 e2 e3 e4 e5 e6 e7 : Value} (hf : DataW.trod enc Tryz.prog W base (fun _ => true) held fuel 35 [e0, e1, e2, e3, e4, e5, e6, e7] = some (d, p)) :
    ∃ o : Osd, e0 = .int .i64 o.id ∧ e1 = .bool o.up ∧ e2 = .bool o.inn ∧ e3 = .int .i64 o.wt ∧ e4 = .int .i64 o.life ∧ e5 = .int .i64 o.boot ∧ e6 = .int .i64 o.host ∧ e7 = .int .i64 o.rack := by
  have c3 : Tryz.prog.cellsOf 3 = 1 := by kernel_rfl
  have c4 : Tryz.prog.cellsOf 4 = 1 := by kernel_rfl
  obtain ⟨xs, n, _, hx, _, hxl, hF⟩ := DataW.trod_struct Tryz.underlying35 hf
  simp only [Prod.mk.injEq] at hx
  obtain ⟨hd, _⟩ := hx
  subst hd
  obtain ⟨x0, x1, x2, x3, x4, x5, x6, x7, rfl⟩ : ∃ x0 x1 x2 x3 x4 x5 x6 x7, xs = [x0, x1, x2, x3, x4, x5, x6, x7] := by
    match xs, hxl with
    | [x0, x1, x2, x3, x4, x5, x6, x7], _ => exact ⟨x0, x1, x2, x3, x4, x5, x6, x7, rfl⟩
  have f0' : DataW.trod enc Tryz.prog W base (fun _ => true) held n 3 (([e0, e1, e2, e3, e4, e5, e6, e7].drop 0).take (Tryz.prog.cellsOf 3)) = some x0 := hF 0 _ rfl
  rw [c3] at f0'
  have f0 : DataW.trod enc Tryz.prog W base (fun _ => true) held n 3 [e0] = some (x0.1, x0.2) := f0'
  have f1' : DataW.trod enc Tryz.prog W base (fun _ => true) held n 4 (([e0, e1, e2, e3, e4, e5, e6, e7].drop 1).take (Tryz.prog.cellsOf 4)) = some x1 := hF 1 _ rfl
  rw [c4] at f1'
  have f1 : DataW.trod enc Tryz.prog W base (fun _ => true) held n 4 [e1] = some (x1.1, x1.2) := f1'
  have f2' : DataW.trod enc Tryz.prog W base (fun _ => true) held n 4 (([e0, e1, e2, e3, e4, e5, e6, e7].drop 2).take (Tryz.prog.cellsOf 4)) = some x2 := hF 2 _ rfl
  rw [c4] at f2'
  have f2 : DataW.trod enc Tryz.prog W base (fun _ => true) held n 4 [e2] = some (x2.1, x2.2) := f2'
  have f3' : DataW.trod enc Tryz.prog W base (fun _ => true) held n 3 (([e0, e1, e2, e3, e4, e5, e6, e7].drop 3).take (Tryz.prog.cellsOf 3)) = some x3 := hF 3 _ rfl
  rw [c3] at f3'
  have f3 : DataW.trod enc Tryz.prog W base (fun _ => true) held n 3 [e3] = some (x3.1, x3.2) := f3'
  have f4' : DataW.trod enc Tryz.prog W base (fun _ => true) held n 3 (([e0, e1, e2, e3, e4, e5, e6, e7].drop 4).take (Tryz.prog.cellsOf 3)) = some x4 := hF 4 _ rfl
  rw [c3] at f4'
  have f4 : DataW.trod enc Tryz.prog W base (fun _ => true) held n 3 [e4] = some (x4.1, x4.2) := f4'
  have f5' : DataW.trod enc Tryz.prog W base (fun _ => true) held n 3 (([e0, e1, e2, e3, e4, e5, e6, e7].drop 5).take (Tryz.prog.cellsOf 3)) = some x5 := hF 5 _ rfl
  rw [c3] at f5'
  have f5 : DataW.trod enc Tryz.prog W base (fun _ => true) held n 3 [e5] = some (x5.1, x5.2) := f5'
  have f6' : DataW.trod enc Tryz.prog W base (fun _ => true) held n 3 (([e0, e1, e2, e3, e4, e5, e6, e7].drop 6).take (Tryz.prog.cellsOf 3)) = some x6 := hF 6 _ rfl
  rw [c3] at f6'
  have f6 : DataW.trod enc Tryz.prog W base (fun _ => true) held n 3 [e6] = some (x6.1, x6.2) := f6'
  have f7' : DataW.trod enc Tryz.prog W base (fun _ => true) held n 3 (([e0, e1, e2, e3, e4, e5, e6, e7].drop 7).take (Tryz.prog.cellsOf 3)) = some x7 := hF 7 _ rfl
  rw [c3] at f7'
  have f7 : DataW.trod enc Tryz.prog W base (fun _ => true) held n 3 [e7] = some (x7.1, x7.2) := f7'
  obtain ⟨v0, q0, _⟩ := DataW.trod_int Tryz.underlying3 f0
  obtain ⟨v1, q1, _⟩ := DataW.trod_bool Tryz.underlying4 f1
  obtain ⟨v2, q2, _⟩ := DataW.trod_bool Tryz.underlying4 f2
  obtain ⟨v3, q3, _⟩ := DataW.trod_int Tryz.underlying3 f3
  obtain ⟨v4, q4, _⟩ := DataW.trod_int Tryz.underlying3 f4
  obtain ⟨v5, q5, _⟩ := DataW.trod_int Tryz.underlying3 f5
  obtain ⟨v6, q6, _⟩ := DataW.trod_int Tryz.underlying3 f6
  obtain ⟨v7, q7, _⟩ := DataW.trod_int Tryz.underlying3 f7
  simp at q0 q1 q2 q3 q4 q5 q6 q7
  subst q0 q1 q2 q3 q4 q5 q6 q7
  exact ⟨⟨v0, v1, v2, v3, v4, v5, v6, v7⟩, rfl, rfl, rfl, rfl, rfl, rfl, rfl, rfl⟩

theorem pool_cells {fuel : Nat} {e0 e1 e2 e3 : Value} (hf : DataW.trod enc Tryz.prog W base (fun _ => true) held fuel 49 [e0, e1, e2, e3] = some (d, p)) :
    ∃ o : Pool, e0 = .int .i64 o.k ∧ e1 = .int .i64 o.m ∧ e2 = .int .i64 o.pgs ∧ e3 = .int .i64 o.dom ∧ o.k ≤ 9223372036854775807 := by
  have c3 : Tryz.prog.cellsOf 3 = 1 := by kernel_rfl
  obtain ⟨xs, n, _, hx, _, hxl, hF⟩ := DataW.trod_struct Tryz.underlying49 hf
  simp only [Prod.mk.injEq] at hx
  obtain ⟨hd, _⟩ := hx
  subst hd
  obtain ⟨x0, x1, x2, x3, rfl⟩ : ∃ x0 x1 x2 x3, xs = [x0, x1, x2, x3] := by
    match xs, hxl with
    | [x0, x1, x2, x3], _ => exact ⟨x0, x1, x2, x3, rfl⟩
  have f0' : DataW.trod enc Tryz.prog W base (fun _ => true) held n 3 (([e0, e1, e2, e3].drop 0).take (Tryz.prog.cellsOf 3)) = some x0 := hF 0 _ rfl
  rw [c3] at f0'
  have f0 : DataW.trod enc Tryz.prog W base (fun _ => true) held n 3 [e0] = some (x0.1, x0.2) := f0'
  have f1' : DataW.trod enc Tryz.prog W base (fun _ => true) held n 3 (([e0, e1, e2, e3].drop 1).take (Tryz.prog.cellsOf 3)) = some x1 := hF 1 _ rfl
  rw [c3] at f1'
  have f1 : DataW.trod enc Tryz.prog W base (fun _ => true) held n 3 [e1] = some (x1.1, x1.2) := f1'
  have f2' : DataW.trod enc Tryz.prog W base (fun _ => true) held n 3 (([e0, e1, e2, e3].drop 2).take (Tryz.prog.cellsOf 3)) = some x2 := hF 2 _ rfl
  rw [c3] at f2'
  have f2 : DataW.trod enc Tryz.prog W base (fun _ => true) held n 3 [e2] = some (x2.1, x2.2) := f2'
  have f3' : DataW.trod enc Tryz.prog W base (fun _ => true) held n 3 (([e0, e1, e2, e3].drop 3).take (Tryz.prog.cellsOf 3)) = some x3 := hF 3 _ rfl
  rw [c3] at f3'
  have f3 : DataW.trod enc Tryz.prog W base (fun _ => true) held n 3 [e3] = some (x3.1, x3.2) := f3'
  obtain ⟨v0, q0, _, r0⟩ := DataW.trod_int Tryz.underlying3 f0
  obtain ⟨v1, q1, _, r1⟩ := DataW.trod_int Tryz.underlying3 f1
  obtain ⟨v2, q2, _, r2⟩ := DataW.trod_int Tryz.underlying3 f2
  obtain ⟨v3, q3, _, r3⟩ := DataW.trod_int Tryz.underlying3 f3
  simp at q0 q1 q2 q3
  subst q0 q1 q2 q3
  exact ⟨⟨v0, v1, v2, v3⟩, rfl, rfl, rfl, rfl, wf_top r0⟩

theorem ch_cells {fuel : Nat} {e0 e1 e2 e3 e4 e5 e6 e7 e8 : Value} (hf : DataW.trod enc Tryz.prog W base (fun _ => true) held fuel 37 [e0, e1, e2, e3, e4, e5, e6, e7, e8] = some (d, p)) :
    ∃ c : Ch, [e0, e1, e2, e3, e4, e5, e6, e7, e8] = enC c := by
  have c3 : Tryz.prog.cellsOf 3 = 1 := by kernel_rfl
  obtain ⟨xs, n, _, hx, _, hxl, hF⟩ := DataW.trod_struct Tryz.underlying37 hf
  simp only [Prod.mk.injEq] at hx
  obtain ⟨hd, _⟩ := hx
  subst hd
  obtain ⟨x0, x1, rfl⟩ : ∃ x0 x1, xs = [x0, x1] := by
    match xs, hxl with
    | [x0, x1], _ => exact ⟨x0, x1, rfl⟩
  have f0' : DataW.trod enc Tryz.prog W base (fun _ => true) held n 3 (([e0, e1, e2, e3, e4, e5, e6, e7, e8].drop 0).take (Tryz.prog.cellsOf 3)) = some x0 := hF 0 _ rfl
  rw [c3] at f0'
  have f0 : DataW.trod enc Tryz.prog W base (fun _ => true) held n 3 [e0] = some (x0.1, x0.2) := f0'
  have f1' : DataW.trod enc Tryz.prog W base (fun _ => true) held n 35 (([e0, e1, e2, e3, e4, e5, e6, e7, e8].drop 1).take (Tryz.prog.cellsOf 35)) = some x1 := hF 1 _ rfl
  rw [eight_cells] at f1'
  have f1 : DataW.trod enc Tryz.prog W base (fun _ => true) held n 35 [e1, e2, e3, e4, e5, e6, e7, e8] = some (x1.1, x1.2) := f1'
  obtain ⟨v0, q0, _⟩ := DataW.trod_int Tryz.underlying3 f0
  simp at q0
  subst q0
  obtain ⟨o, rfl, rfl, rfl, rfl, rfl, rfl, rfl, rfl⟩ := osd_cells f1
  exact ⟨⟨v0, o⟩, rfl⟩

theorem pool_in {v : Value} (hv : ∃ cs, v = .agg cs ∧ cs.size = Tryz.prog.cellsOf 49) (h : DataW.Trod enc Tryz.prog W base (fun _ => true) held 49 v d p) :
    ∃ V : Pool, v = vP V ∧ V.k ≤ 9223372036854775807 := by
  obtain ⟨cs, rfl, hcs⟩ := hv
  obtain ⟨fuel, hf⟩ := h
  rw [four_cells] at hcs
  obtain ⟨e0, e1, e2, e3, rfl⟩ : ∃ e0 e1 e2 e3, cs = #[e0, e1, e2, e3] := by
    obtain ⟨l⟩ := cs
    match l, hcs with
    | [e0, e1, e2, e3], _ => exact ⟨e0, e1, e2, e3, rfl⟩
  obtain ⟨o, rfl, rfl, rfl, rfl, h1⟩ := pool_cells hf
  exact ⟨o, rfl, h1⟩

theorem ch_in {v : Value} (hv : ∃ cs, v = .agg cs ∧ cs.size = Tryz.prog.cellsOf 37) (h : DataW.Trod enc Tryz.prog W base (fun _ => true) held 37 v d p) :
    ∃ V : Ch, v = vC V := by
  obtain ⟨cs, rfl, hcs⟩ := hv
  obtain ⟨fuel, hf⟩ := h
  rw [nine_cells] at hcs
  obtain ⟨e0, e1, e2, e3, e4, e5, e6, e7, e8, rfl⟩ : ∃ e0 e1 e2 e3 e4 e5 e6 e7 e8, cs = #[e0, e1, e2, e3, e4, e5, e6, e7, e8] := by
    obtain ⟨l⟩ := cs
    match l, hcs with
    | [e0, e1, e2, e3, e4, e5, e6, e7, e8], _ => exact ⟨e0, e1, e2, e3, e4, e5, e6, e7, e8, rfl⟩
  obtain ⟨c, hc⟩ := ch_cells hf
  exact ⟨c, by unfold vC; rw [show (#[e0, e1, e2, e3, e4, e5, e6, e7, e8] : Array Value) = (enC c).toArray from by rw [← hc]]; rfl⟩

theorem osds_open {fuel : Nat} {cs : List Value} (hf : DataW.trod enc Tryz.prog W base (fun _ => true) held fuel 54 cs = some (d, p)) :
    (cs = [.slice none 0 0] ∧ d = .nil) ∨
    ∃ (a : Addr) (len cap n : Nat) (DD : Nat → DataW H) (Pl : Nat → List MemPlace), cs = [.slice (some a) len cap] ∧ len ≤ cap ∧ d = .slice ((List.range len).map DD) ((List.range (cap - len)).map fun j => DD (len + j)) ∧
      ∀ i, i < cap → ∃ e0 e1 e2 e3 e4 e5 e6 e7, (∀ j v, [e0, e1, e2, e3, e4, e5, e6, e7][j]? = some v → W.cell? (a.add (i * 8 + j)) = some v) ∧ DataW.trod enc Tryz.prog W base (fun _ => true) held n 35 [e0, e1, e2, e3, e4, e5, e6, e7] = some (DD i, Pl i) := by
  rcases open_slice Tryz.underlying54 hf with ⟨h1, h2⟩ | ⟨a, len, cap, m, n, DD, Pl, rfl, hb, hl, hm, hmm, hx, hcell⟩
  · simp only [Prod.mk.injEq] at h2
    exact .inl ⟨h1, h2.1⟩
  · simp only [if_true] at hmm
    subst hmm
    simp only [Prod.mk.injEq] at hx
    refine .inr ⟨a, len, m, n, DD, Pl, rfl, hl, hx.1, fun i hi => ?_⟩
    obtain ⟨cs', h1, h2⟩ := hcell i hi
    rw [eight_cells] at h1
    obtain ⟨_, hlen, hc⟩ := World.cells?_some h1
    match cs', hlen with
    | [e0, e1, e2, e3, e4, e5, e6, e7], _ =>
      refine ⟨e0, e1, e2, e3, e4, e5, e6, e7, fun j v hv => ?_, h2⟩
      have hj := (List.getElem?_eq_some_iff.1 hv).1
      have q := hc j (by simpa using hj)
      rw [add_add] at q
      rw [q, ← hv, List.getElem?_eq_getElem hj]

theorem chs_open {fuel : Nat} {cs : List Value} (hf : DataW.trod enc Tryz.prog W base (fun _ => true) held fuel 63 cs = some (d, p)) :
    (cs = [.slice none 0 0] ∧ d = .nil) ∨
    ∃ (a : Addr) (len cap n : Nat) (DD : Nat → DataW H) (Pl : Nat → List MemPlace), cs = [.slice (some a) len cap] ∧ len ≤ cap ∧ d = .slice ((List.range len).map DD) ((List.range (cap - len)).map fun j => DD (len + j)) ∧
      ∀ i, i < cap → ∃ e0 e1 e2 e3 e4 e5 e6 e7 e8, (∀ j v, [e0, e1, e2, e3, e4, e5, e6, e7, e8][j]? = some v → W.cell? (a.add (i * 9 + j)) = some v) ∧ DataW.trod enc Tryz.prog W base (fun _ => true) held n 37 [e0, e1, e2, e3, e4, e5, e6, e7, e8] = some (DD i, Pl i) := by
  rcases open_slice Tryz.underlying63 hf with ⟨h1, h2⟩ | ⟨a, len, cap, m, n, DD, Pl, rfl, hb, hl, hm, hmm, hx, hcell⟩
  · simp only [Prod.mk.injEq] at h2
    exact .inl ⟨h1, h2.1⟩
  · simp only [if_true] at hmm
    subst hmm
    simp only [Prod.mk.injEq] at hx
    refine .inr ⟨a, len, m, n, DD, Pl, rfl, hl, hx.1, fun i hi => ?_⟩
    obtain ⟨cs', h1, h2⟩ := hcell i hi
    rw [nine_cells] at h1
    obtain ⟨_, hlen, hc⟩ := World.cells?_some h1
    match cs', hlen with
    | [e0, e1, e2, e3, e4, e5, e6, e7, e8], _ =>
      refine ⟨e0, e1, e2, e3, e4, e5, e6, e7, e8, fun j v hv => ?_, h2⟩
      have hj := (List.getElem?_eq_some_iff.1 hv).1
      have q := hc j (by simpa using hj)
      rw [add_add] at q
      rw [q, ← hv, List.getElem?_eq_getElem hj]

theorem osds_in {fuel : Nat} {cs : List Value} (hf : DataW.trod enc Tryz.prog W base (fun _ => true) held fuel 54 cs = some (d, p)) (hw : ∀ x ∈ d.weights Tryz.prog 54, x ≤ reachBytes) :
    ∃ a len cap V, cs = [.slice a len cap] ∧ Os W a len cap V ∧ len * 56 ≤ 140737488351232 := by
  rcases osds_open hf with ⟨h1, _⟩ | ⟨a, len, cap, n, DD, Pl, h1, hl, rfl, hc⟩
  · exact ⟨none, 0, 0, [], h1, ⟨rfl, Nat.le_refl _, by omega, fun _ => ⟨rfl, rfl⟩, .inl rfl⟩, by omega⟩
  · have hb48 : Tryz.prog.bytesOf 35 = 56 := by kernel_rfl
    simp only [DataW.weights, Tryz.underlying54, List.mem_cons, List.mem_append, hb48] at hw
    have hw0 := hw _ (.inl rfl)
    simp only [List.length_map, List.length_range, reachBytes] at hw0
    haveI : Inhabited Osd := ⟨noO 0⟩
    have each : ∀ i, i < len → ∃ v : Osd, ∀ (j : Nat) (u : Value), (enO v)[j]? = some u → W.cell? (a.add (i * 8 + j)) = some u := fun i hi => by
      obtain ⟨e0, e1, e2, e3, e4, e5, e6, e7, g, g5⟩ := hc i (by omega)
      obtain ⟨o, rfl, rfl, rfl, rfl, rfl, rfl, rfl, rfl⟩ := osd_cells g5
      exact ⟨o, fun j u hu => g j u hu⟩
    obtain ⟨V, hV⟩ := choose_lt each
    refine ⟨some a, len, cap, (List.range len).map V, h1, ⟨by simp, hl, by omega, (fun h => by cases h), ?_⟩, by omega⟩
    by_cases h0 : len = 0
    · exact .inl h0
    · obtain ⟨b, off, spot⟩ := a
      have c0 := hV 0 (by omega) 0 _ rfl
      have hspot : spot = none := by simpa [Addr.add] using World.cell?_spot c0
      subst hspot
      refine .inr ⟨b, off, rfl, by simpa [Addr.add] using cell_lt' c0, fun q x hq j u hu => ?_⟩
      have hql : q < len := by simpa using (List.getElem?_eq_some_iff.1 hq).1
      have hx : V q = x := by simpa [hql] using hq
      subst hx
      have := hV q hql j u hu
      rw [add_at] at this
      rw [← Nat.add_assoc] at this
      exact this

theorem chs_in {fuel : Nat} {cs : List Value} (hf : DataW.trod enc Tryz.prog W base (fun _ => true) held fuel 63 cs = some (d, p)) (hw : ∀ x ∈ d.weights Tryz.prog 63, x ≤ reachBytes) :
    ∃ a len cap V, cs = [.slice a len cap] ∧ Cs W a len cap V ∧ len * 64 ≤ 140737488351232 := by
  rcases chs_open hf with ⟨h1, _⟩ | ⟨a, len, cap, n, DD, Pl, h1, hl, rfl, hc⟩
  · exact ⟨none, 0, 0, [], h1, ⟨rfl, Nat.le_refl _, by omega, fun _ => ⟨rfl, rfl⟩, .inl rfl⟩, by omega⟩
  · have hb48 : Tryz.prog.bytesOf 37 = 64 := by kernel_rfl
    simp only [DataW.weights, Tryz.underlying63, List.mem_cons, List.mem_append, hb48] at hw
    have hw0 := hw _ (.inl rfl)
    simp only [List.length_map, List.length_range, reachBytes] at hw0
    haveI : Inhabited Ch := ⟨noC⟩
    have each : ∀ i, i < len → ∃ v : Ch, ∀ (j : Nat) (u : Value), (enC v)[j]? = some u → W.cell? (a.add (i * 9 + j)) = some u := fun i hi => by
      obtain ⟨e0, e1, e2, e3, e4, e5, e6, e7, e8, g, g5⟩ := hc i (by omega)
      obtain ⟨o, ho⟩ := ch_cells g5
      exact ⟨o, fun j u hu => g j u (by rw [ho]; exact hu)⟩
    obtain ⟨V, hV⟩ := choose_lt each
    refine ⟨some a, len, cap, (List.range len).map V, h1, ⟨by simp, hl, by omega, (fun h => by cases h), ?_⟩, by omega⟩
    by_cases h0 : len = 0
    · exact .inl h0
    · obtain ⟨b, off, spot⟩ := a
      have c0 := hV 0 (by omega) 0 _ rfl
      have hspot : spot = none := by simpa [Addr.add] using World.cell?_spot c0
      subst hspot
      refine .inr ⟨b, off, rfl, by simpa [Addr.add] using cell_lt' c0, fun q x hq j u hu => ?_⟩
      have hql : q < len := by simpa using (List.getElem?_eq_some_iff.1 hq).1
      have hx : V q = x := by simpa [hql] using hq
      subst hx
      have := hV q hql j u hu
      rw [add_at] at this
      rw [← Nat.add_assoc] at this
      exact this

theorem map_in {v : Value} (hv : ∃ cs, v = .agg cs ∧ cs.size = Tryz.prog.cellsOf 56) (h : DataW.Trod enc Tryz.prog W base (fun _ => true) held 56 v d p) (hw : ∀ x ∈ d.weights Tryz.prog 56, x ≤ reachBytes) :
    ∃ V : MpV, v = vM V.m.ep V.m.pool V.x V.n V.c ∧ MapIn W V := by
  obtain ⟨cs, rfl, hcs⟩ := hv
  obtain ⟨fuel, hf⟩ := h
  rw [six_cells] at hcs
  obtain ⟨e0, e1, e2, e3, e4, e5, rfl⟩ : ∃ e0 e1 e2 e3 e4 e5, cs = #[e0, e1, e2, e3, e4, e5] := by
    obtain ⟨l⟩ := cs
    match l, hcs with
    | [e0, e1, e2, e3, e4, e5], _ => exact ⟨e0, e1, e2, e3, e4, e5, rfl⟩
  have c3 : Tryz.prog.cellsOf 3 = 1 := by kernel_rfl
  have c24 : Tryz.prog.cellsOf 54 = 1 := by kernel_rfl
  change DataW.trod enc Tryz.prog W base (fun _ => true) held fuel 56 [e0, e1, e2, e3, e4, e5] = some (d, p) at hf
  obtain ⟨xs, n, _, hx, _, hxl, hF⟩ := DataW.trod_struct Tryz.underlying56 hf
  simp only [Prod.mk.injEq] at hx
  obtain ⟨hd, _⟩ := hx
  subst hd
  obtain ⟨x0, x1, x2, rfl⟩ : ∃ x0 x1 x2, xs = [x0, x1, x2] := by
    match xs, hxl with
    | [x0, x1, x2], _ => exact ⟨x0, x1, x2, rfl⟩
  have f0' : DataW.trod enc Tryz.prog W base (fun _ => true) held n 3 (([e0, e1, e2, e3, e4, e5].drop 0).take (Tryz.prog.cellsOf 3)) = some x0 := hF 0 _ rfl
  rw [c3] at f0'
  have f0 : DataW.trod enc Tryz.prog W base (fun _ => true) held n 3 [e0] = some (x0.1, x0.2) := f0'
  have f1' : DataW.trod enc Tryz.prog W base (fun _ => true) held n 49 (([e0, e1, e2, e3, e4, e5].drop 1).take (Tryz.prog.cellsOf 49)) = some x1 := hF 1 _ rfl
  rw [four_cells] at f1'
  have f1 : DataW.trod enc Tryz.prog W base (fun _ => true) held n 49 [e1, e2, e3, e4] = some (x1.1, x1.2) := f1'
  have f2' : DataW.trod enc Tryz.prog W base (fun _ => true) held n 54 (([e0, e1, e2, e3, e4, e5].drop 5).take (Tryz.prog.cellsOf 54)) = some x2 := hF 2 _ rfl
  rw [c24] at f2'
  have f2 : DataW.trod enc Tryz.prog W base (fun _ => true) held n 54 [e5] = some (x2.1, x2.2) := f2'
  obtain ⟨v0, q0, _⟩ := DataW.trod_int Tryz.underlying3 f0
  simp at q0
  subst q0
  obtain ⟨o, rfl, rfl, rfl, rfl, hk⟩ := pool_cells f1
  simp only [DataW.weights, Tryz.underlying56] at hw
  obtain ⟨a, len, cap, L, g1, g2, g3⟩ := osds_in f2 (fun x hx => hw x (DataW.weights_mem_each (j := 2) (t := 54) rfl rfl x hx))
  simp at g1
  exact ⟨⟨⟨v0, o, L⟩, a, len, cap⟩, by rw [g1]; rfl, g2, hk, g3⟩

end

end Go.Proofs.YtdlajpjigddbhaaGreat.At

/-
  Decrees and messages of package paxos as plain bytes: how they are written, and what any bytes are.
  Conditions: none.
-/
namespace Go.Proofs.YtdlajpjigddbhaaGreat.Px
open Go.RowKit Wi By Fl Ba
set_option linter.unusedVariables false
set_option linter.unusedSimpArgs false
set_option maxRecDepth 100000

structure Dc where
  mon : Nat
  ser : Nat
  val : ByteArray

structure Ac where
  p : Bt
  a : Bt
  d : List Nat

structure Ms where
  kind : Nat
  num : Nat
  st : Ac
  known : Nat
  decs : List Dc

def most : Nat := 2147483647

def noAc : Ac := ⟨z0, z0, []⟩

def dbytes (d : Dc) : List Nat := uv d.mon ++ uv d.ser ++ (uv d.val.size ++ nat d.val)

def wBal (b : Bt) : List Nat := uv b.1.toNat ++ uv b.2.toNat

def dcs (l : List Dc) : List Nat := (l.map dbytes).flatten

/- A message's bytes, without their seal. -/
def body (m : Ms) (fr : Nat) : List Nat :=
  uv fr ++ uv m.kind ++ uv m.num ++
    (if m.kind = 4 then [] else if m.kind = 5 then uv m.known ++ dcs m.decs else wBal m.st.p ++ wBal m.st.a ++ (uv m.st.d.length ++ m.st.d))

def sealStep (s v : Nat) : Nat := (s ^^^ v) * 1099511628211 % 18446744073709551616
def fnv (l : List Nat) : Nat := l.foldl sealStep 14695981039346656037
def sealed (l : List Nat) : List Nat := l ++ fx (fnv l) 8

def encM (m : Ms) (fr : Nat) : List Nat := sealed (body m fr)

/- The readers. -/
def rDc (n : Nat) (l : List Nat) (e : Nat) : Dc × List Nat × Nat :=
  (⟨(rNum ((n : Int) - 1) l e).1, (rNum 2147483647 (rNum ((n : Int) - 1) l e).2.1 (rNum ((n : Int) - 1) l e).2.2).1,
    str (rBy 4096 (rNum 2147483647 (rNum ((n : Int) - 1) l e).2.1 (rNum ((n : Int) - 1) l e).2.2).2.1 (rNum 2147483647 (rNum ((n : Int) - 1) l e).2.1 (rNum ((n : Int) - 1) l e).2.2).2.2).1⟩,
    (rBy 4096 (rNum 2147483647 (rNum ((n : Int) - 1) l e).2.1 (rNum ((n : Int) - 1) l e).2.2).2.1 (rNum 2147483647 (rNum ((n : Int) - 1) l e).2.1 (rNum ((n : Int) - 1) l e).2.2).2.2).2)

def dOf (n : Nat) (v : List Nat) : Option Dc :=
  if rDone (rDc n v 0).2.1 (rDc n v 0).2.2 = 0 ∧ 1 ≤ (rDc n v 0).1.ser then some (rDc n v 0).1 else none

def rBal (n : Nat) (l : List Nat) (e : Nat) : Bt × List Nat × Nat :=
  ((((rNum 2147483647 l e).1 : Int), ((rNum ((n : Int) - 1) (rNum 2147483647 l e).2.1 (rNum 2147483647 l e).2.2).1 : Int)), (rNum ((n : Int) - 1) (rNum 2147483647 l e).2.1 (rNum 2147483647 l e).2.2).2)

/- So many decrees, as far as they can be read. -/
def rDcs (n : Nat) : Nat → List Nat → Nat → List Dc × List Nat × Nat
  | 0, l, e => ([], l, e)
  | k + 1, l, e => if e = 0 then ((rDc n l e).1 :: (rDcs n k (rDc n l e).2.1 (rDc n l e).2.2).1, (rDcs n k (rDc n l e).2.1 (rDc n l e).2.2).2) else ([], l, e)

def told (first known : Nat) : Int := min ((known : Int) - first + 1) 64

def mayState (a : Ac) (n : Nat) : Bool := mayA a.p a.a a.d.length && !zb a.p && (zb a.a || (dOf n a.d).isSome)

def mayM (m : Ms) (fr n : Nat) : Bool :=
  if m.kind = 1 then decide (1 ≤ m.num) && mayState m.st n && decide (m.st.p.2 = (fr : Int)) && zb m.st.a
  else if m.kind = 2 then decide (1 ≤ m.num) && mayState m.st n && decide (m.st.p.2 = (fr : Int)) && (decide (m.st.a.1 = m.st.p.1) && decide (m.st.a.2 = m.st.p.2))
  else if m.kind = 3 then decide (1 ≤ m.num) && mayState m.st n
  else if m.kind = 4 then true
  else if m.kind = 5 then decide (1 ≤ m.num) && decide (0 < m.decs.length) && m.decs.all (fun d => decide (1 ≤ d.ser))
  else false

/- What is read behind the kind and the number. -/
def rRest (n k u : Nat) (l : List Nat) (e : Nat) : Ms × List Nat × Nat :=
  if k = 4 then (⟨k, u, noAc, 0, []⟩, l, e)
  else if k = 5 then
    (⟨k, u, noAc, (rNum 2147483647 l e).1, (rDcs n (told u (rNum 2147483647 l e).1).toNat (rNum 2147483647 l e).2.1 (rNum 2147483647 l e).2.2).1⟩, (rDcs n (told u (rNum 2147483647 l e).1).toNat (rNum 2147483647 l e).2.1 (rNum 2147483647 l e).2.2).2)
  else
    (⟨k, u, ⟨(rBal n l e).1, (rBal n (rBal n l e).2.1 (rBal n l e).2.2).1, (rBy 4104 (rBal n (rBal n l e).2.1 (rBal n l e).2.2).2.1 (rBal n (rBal n l e).2.1 (rBal n l e).2.2).2.2).1⟩, 0, []⟩,
      (rBy 4104 (rBal n (rBal n l e).2.1 (rBal n l e).2.2).2.1 (rBal n (rBal n l e).2.1 (rBal n l e).2.2).2.2).2)

def rMsg (n : Nat) (l : List Nat) : Nat × Ms × List Nat × Nat :=
  ((rNum ((n : Int) - 1) l 0).1,
    rRest n (rNum 5 (rNum ((n : Int) - 1) l 0).2.1 (rNum ((n : Int) - 1) l 0).2.2).1
      (rNum 2147483647 (rNum 5 (rNum ((n : Int) - 1) l 0).2.1 (rNum ((n : Int) - 1) l 0).2.2).2.1 (rNum 5 (rNum ((n : Int) - 1) l 0).2.1 (rNum ((n : Int) - 1) l 0).2.2).2.2).1
      (rNum 2147483647 (rNum 5 (rNum ((n : Int) - 1) l 0).2.1 (rNum ((n : Int) - 1) l 0).2.2).2.1 (rNum 5 (rNum ((n : Int) - 1) l 0).2.1 (rNum ((n : Int) - 1) l 0).2.2).2.2).2.1
      (rNum 2147483647 (rNum 5 (rNum ((n : Int) - 1) l 0).2.1 (rNum ((n : Int) - 1) l 0).2.2).2.1 (rNum 5 (rNum ((n : Int) - 1) l 0).2.1 (rNum ((n : Int) - 1) l 0).2.2).2.2).2.2)

def isSealed (b : List Nat) : Bool := decide (8 ≤ b.length) && decide (sealed (b.take (b.length - 8)) = b)

/- The message that bytes are, of the monitor fr of n. -/
def decM (n fr : Nat) (b : List Nat) : Option Ms :=
  if isSealed b = true ∧ rDone (rMsg n (b.take (b.length - 8))).2.2.1 (rMsg n (b.take (b.length - 8))).2.2.2 = 0 ∧ (rMsg n (b.take (b.length - 8))).1 = fr ∧ mayM (rMsg n (b.take (b.length - 8))).2.1 fr n = true
  then some (rMsg n (b.take (b.length - 8))).2.1 else none

theorem fnv_lt (l : List Nat) : fnv l < 18446744073709551616 := by
  unfold fnv
  have : ∀ (l : List Nat) (s : Nat), s < 18446744073709551616 → l.foldl sealStep s < 18446744073709551616 := fun l => by
    induction l with
    | nil => intro s h; exact h
    | cons v l ih => intro s h; exact ih _ (Nat.mod_lt _ (by omega))
  exact this l _ (by omega)

theorem dbytes_lt (d : Dc) : ∀ v ∈ dbytes d, v < 256 := fun v hv => by
  unfold dbytes at hv
  simp only [List.mem_append] at hv
  rcases hv with (h | h) | h | h
  · exact uv_lt _ v h
  · exact uv_lt _ v h
  · exact uv_lt _ v h
  · exact nat_lt _ v h

end Go.Proofs.YtdlajpjigddbhaaGreat.Px

/-
  Lists of bytes in both words; what wire's writers and readers make, told alike.
  Conditions: bytes that are looked at lie in memory.
-/
namespace Go.Proofs.YtdlajpjigddbhaaGreat.Px
open Go.RowKit Wi By Fl Ba
set_option linter.unusedVariables false
set_option linter.unusedSimpArgs false
set_option maxRecDepth 100000

theorem toW {w : World} {x : Option Addr} {n c : Nat} {l : List Nat} (h : Fl.Sl w x n c l) : Go.Proofs.YtdlajpjigddbhaaGreat.Sl w x n c l := ⟨h.len, h.le, h.nil, h.row, h.lt⟩
theorem ofW {w : World} {x : Option Addr} {n c : Nat} {l : List Nat} (h : Go.Proofs.YtdlajpjigddbhaaGreat.Sl w x n c l) : Fl.Sl w x n c l := ⟨h.len, h.le, h.nil, h.row, h.lt⟩

theorem ownL_vl {w w' : World} {R : Value} {l : List Nat} (h : OwnL w' w.heap.size R l) (hl : ∀ u ∈ l, u < 256) (hb : Below w.heap.size w w') : ∃ y m cy, R = .slice y m cy ∧ m = l.length ∧ Vl w w' y m cy l := by
  obtain ⟨x, c, h1, h2, h3⟩ := h.sl hl
  refine ⟨x, l.length, c, h1, rfl, hb, ofW h2, fun a ha => ⟨(h3 a ha).1, ?_⟩⟩
  subst ha
  rcases h.2 with ⟨h0, _⟩ | ⟨g, cap, cur, hv, _, h5, _⟩
  · rw [h1] at h0
    cases h0
  · rw [h1] at hv
    injection hv with hv _ _
    injection hv with hv
    rw [hv]
    exact ⟨_, _, h5⟩

theorem app_lt {l k : List Nat} (h : ∀ u ∈ l, u < 256) (h2 : ∀ u ∈ k, u < 256) : ∀ u ∈ l ++ k, u < 256 := fun u hu => by
  rcases List.mem_append.1 hu with q | q
  · exact h u q
  · exact h2 u q

theorem uvW (x : Option Addr) (n c : Nat) (l : List Nat) (N : Nat) (w : World) (hl : Fl.Sl w x n c l) (hN : N < 18446744073709551616) (hs : n ≤ 140737488350000) :
    Calls Tryz.prog 71 #[.slice x n c, .int .u64 N] w fun e w' => ∃ y m cy, e = .returned (.slice y m cy) ∧ Hid (m = n + (uv N).length ∧ Vl w w' y m cy (l ++ uv N)) :=
  (uvarint_any x n c l N w (toW hl) hN hs).mono fun e w' ⟨R, h1, h2, h3⟩ => by
    obtain ⟨y, m, cy, rfl, h4, h5⟩ := ownL_vl h2 (app_lt hl.lt (uv_lt N)) h3
    exact ⟨y, m, cy, h1, by rw [h4, List.length_append, hl.len], h5⟩

theorem byW (x : Option Addr) (n c : Nat) (l : List Nat) (y : Option Addr) (m d : Nat) (k : List Nat) (w : World) (hl : Fl.Sl w x n c l) (hk : Fl.Sl w y m d k) (hs : n + m ≤ 140737488350000) :
    Calls Tryz.prog 148 #[.slice x n c, .slice y m d] w fun e w' => ∃ y' m' cy, e = .returned (.slice y' m' cy) ∧ Hid (m' = n + ((uv m).length + m) ∧ Vl w w' y' m' cy (l ++ (uv m ++ k))) :=
  (bytes_any x n c l y m d k w (toW hl) (toW hk) hs).mono fun e w' ⟨R, h1, h2, h3⟩ => by
    obtain ⟨y', m', cy, rfl, h4, h5⟩ := ownL_vl h2 (app_lt hl.lt (app_lt (uv_lt m) hk.lt)) h3
    exact ⟨y', m', cy, h1, by rw [h4, List.length_append, List.length_append, hl.len, hk.len], h5⟩

theorem fx8W (x : Option Addr) (n c : Nat) (l : List Nat) (N : Nat) (w : World) (hl : Fl.Sl w x n c l) (hN : N < 18446744073709551616) (hs : n ≤ 140737488353000) :
    Calls Tryz.prog 139 #[.slice x n c, .int .u64 N] w fun e w' => ∃ y m cy, e = .returned (.slice y m cy) ∧ Hid (m = n + 8 ∧ Vl w w' y m cy (l ++ fx N 8)) :=
  (fixed8_any x n c l N w (toW hl) hN hs).mono fun e w' ⟨R, h1, h2, h3⟩ => by
    obtain ⟨y, m, cy, rfl, h4, h5⟩ := ownL_vl h2 (app_lt hl.lt (fx_lt N 8)) h3
    exact ⟨y, m, cy, h1, by rw [h4, List.length_append, hl.len, fx_len], h5⟩

theorem Vl.on {a b c : World} {y : Option Addr} {m cy : Nat} {l : List Nat} (h : Below a.heap.size a b) (k : Vl b c y m cy l) : Vl a c y m cy l :=
  ⟨Ba.on h k.1, k.2.1, fun q hq => ⟨Nat.le_trans h.size (k.2.2 q hq).1, (k.2.2 q hq).2⟩⟩

/- []byte(s). -/
theorem conv_text (s : ByteArray) (w : World) :
    ∃ c W1, (convert 9 73 (.string s)).run Tryz.prog w = .ok (.slice (some ⟨w.heap.size, 0, none⟩) s.size c) W1 ∧ Hid (Vl w W1 (some ⟨w.heap.size, 0, none⟩) s.size c (nat s)) := by
  have hr := Lib.run_convert_string_bytes (P := Tryz.prog) w 9 73 5 s Tryz.underlying9 Tryz.underlying73 Tryz.underlying5
  refine ⟨_, _, hr, ⟨rfl, rfl, rfl, by rw [Lib.bytesWorld_size]; omega, fun q hq => Lib.bytesWorld_at_old w _ s q hq⟩, ⟨nat_length s, ?_, (fun e => by cases e), .inr ⟨w.heap.size, 0, rfl, by rw [Lib.bytesWorld_size]; omega, fun j hj => ?_⟩, nat_lt s⟩, fun a ha => ?_⟩
  · exact grownCap_ge w s.size 0 5
  · rw [Nat.zero_add, Lib.bytesWorld_cell w _ s j hj]
    have h1 : j < s.data.toList.length := by rw [Array.length_toList]; exact hj
    simp [nat, Fl.gl, List.getD, List.getElem?_eq_getElem h1]
  · cases ha
    exact ⟨Nat.le_refl _, _, _, Lib.bytesWorld_at_new w _ s⟩

def dv (d : Dc) : Value := .agg #[.int .i64 d.mon, .int .i64 d.ser, .string d.val]

structure DOk (d : Dc) : Prop where
  mon : d.mon < 9223372036854775808
  ser : d.ser < 9223372036854775808
  val : d.val.size ≤ 4096

theorem dbytes_any (d : Dc) (hd : DOk d) (w : World) :
    Calls Tryz.prog 146 #[dv d] w fun e w' => ∃ y m cy, e = .returned (.slice y m cy) ∧ Hid (m ≤ 5000 ∧ Vl w w' y m cy (dbytes d)) := by
  obtain ⟨h1, h2, h3⟩ := hd
  obtain ⟨mon, ser, s⟩ := d
  dsimp only [dv] at *
  have HD : Hid (dbytes ⟨mon, ser, s⟩ = uv mon ++ uv ser ++ (uv s.size ++ nat s)) := rfl
  have u1 := uv_ten (n := mon) (by omega)
  have u2 := uv_ten (n := ser) (by omega)
  have u3 := uv_ten (n := s.size) (by omega)
  have HU : Hid ((uv mon).length ≤ 10 ∧ (uv ser).length ≤ 10 ∧ (uv s.size).length ≤ 10) := ⟨u1, u2, u3⟩
  clear u1 u2 u3
  have hU1 := fun W => uvW none 0 0 [] mon W (Fl.Sl.empty W) (by omega) (by omega)
  have i1 : (mon : Int) < 9223372036854775808 := by omega
  have i2 : (ser : Int) < 9223372036854775808 := by omega
  go_enter Tryz.func146, Tryz.ntmps146
  go_wp2_with (first
    | (
       go_at_call 71; refine (hU1 _).mono ?_; rintro e w1 ⟨y1, m1, c1, rfl, H1⟩; clear hU1
       have k0 := keep H1.out.2.1 (b := w.heap.size) (o := 0) (x := .int .i64 mon) (by first | assumption | go_simp)
       have k1 := keep H1.out.2.1 (b := w.heap.size) (o := 1) (x := .int .i64 ser) (by first | assumption | go_simp)
       have k2 := keep H1.out.2.1 (b := w.heap.size) (o := 2) (x := .string s) (by first | assumption | go_simp)
       have hU2 := uvW y1 m1 c1 _ ser w1 H1.out.2.2.1 (by omega) (by have := H1.out.1; have := HU.out.1; omega)
       have B1 := on (al _ _) H1.out.2.1)
    | (
       go_at_call 71; refine hU2.mono ?_; rintro e w2 ⟨y2, m2, c2, rfl, H2⟩; clear hU2
       have j0 := keep H2.out.2.1 (b := w.heap.size) (o := 0) (x := .int .i64 mon) (by first | assumption | go_simp)
       have j1 := keep H2.out.2.1 (b := w.heap.size) (o := 1) (x := .int .i64 ser) (by first | assumption | go_simp)
       have j2 := keep H2.out.2.1 (b := w.heap.size) (o := 2) (x := .string s) (by first | assumption | go_simp)
       clear k0 k1 k2
       have B2 := on B1 H2.out.2.1
       obtain ⟨cc, W3, hcv, H3⟩ := conv_text s w2
       have B3 := on B2 H3.out.1
       have hY := byW y2 m2 c2 _ (some ⟨w2.heap.size, 0, none⟩) s.size cc (nat s) W3 (H2.out.2.2.1.below H3.out.1) H3.out.2.1 (by have := H1.out.1; have := H2.out.1; have := HU.out.1; have := HU.out.2.1; omega))
    | (
       go_at_call 148; refine hY.mono ?_; rintro e w4 ⟨y4, m4, c4, rfl, H4⟩; clear hY))
  go_ret
  refine ⟨y4, m4, c4, rfl, ?_, ?_⟩
  · have := H1.out.1; have := H2.out.1; have := H4.out.1; have := HU.out; omega
  · have := Vl.on B3 H4.out.2
    rw [HD.out]
    simpa using this

end Go.Proofs.YtdlajpjigddbhaaGreat.Px

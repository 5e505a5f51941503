/-
  3 texts of this proof, one behind the other: StDecode, StMap, StBack.
-/
import Derived.Test.YtbbjklenpgkooaaJ04
import Derived.Laws.MakeOwn
import Derived.Maps.OwnSet
import Derived.Maps.RangeWalk
import Derived.Maps.Ext
import Derived.RangeFuncNested
import Derived.RangeFuncBound
import Derived.RangeFuncCalls
import Derived.RangeFuncLeaves
import Derived.Shelf.Abstract
import Derived.Shelf.RegionOpen
import Derived.WalkKit
import Derived.OwnWalkIn
import Derived.TacticsInMore
import Derived.LoopNIn
import Derived.LoopIn
/-
  Package store's Decode.
  Conditions: the bytes lie in memory.
-/
namespace Go.Proofs.Ytbbjklenpgkooaa
open Go.RowKit By Dk Wi St
set_option linter.unusedVariables false
set_option linter.unusedSimpArgs false
set_option maxRecDepth 100000

def noAV : AV := ⟨ByteArray.empty, false, none, 0, 0, []⟩

def avV (V : Nat → AV) : Nat → Value := fun j => if j % 3 = 0 then .string (V (j / 3)).key else if j % 3 = 1 then .bool (V (j / 3)).set else .slice (V (j / 3)).x (V (j / 3)).n (V (j / 3)).c

theorem avV_0 (V : Nat → AV) (k : Nat) : avV V (k * 3) = .string (V k).key := by
  unfold avV
  rw [if_pos (by omega), show k * 3 / 3 = k by omega]
theorem avV_1 (V : Nat → AV) (k : Nat) : avV V (k * 3 + 1) = .bool (V k).set := by
  unfold avV
  rw [if_neg (by omega), if_pos (by omega), show (k * 3 + 1) / 3 = k by omega]
theorem avV_2 (V : Nat → AV) (k : Nat) : avV V (k * 3 + 2) = .slice (V k).x (V k).n (V k).c := by
  unfold avV
  rw [if_neg (by omega), if_neg (by omega), show (k * 3 + 2) / 3 = k by omega]

def updA (V : Nat → AV) (k : Nat) (v : AV) : Nat → AV := fun i => if i = k then v else V i

theorem updA_same (V : Nat → AV) (k : Nat) (v : AV) : updA V k v k = v := by simp [updA]
theorem updA_other (V : Nat → AV) {k i : Nat} (v : AV) (h : i ≠ k) : updA V k v i = V i := by simp [updA, h]

theorem avV_upd (V : Nat → AV) (k : Nat) (v : AV) (j : Nat) : upd (upd (upd (avV V) (k * 3) (.string v.key)) (k * 3 + 1) (.bool v.set)) (k * 3 + 2) (.slice v.x v.n v.c) j = avV (updA V k v) j := by
  by_cases h2 : j = k * 3 + 2
  · subst h2; rw [avV_2, updA_same]; simp [upd]
  · by_cases h1 : j = k * 3 + 1
    · subst h1; rw [avV_1, updA_same]; simp [upd]
    · by_cases h0 : j = k * 3
      · subst h0; rw [avV_0, updA_same]; simp [upd]
      · have hk : j / 3 ≠ k := by omega
        simp only [upd, h2, h1, h0, if_false]
        unfold avV
        rw [updA_other V v hk]

theorem info_act : (Try.prog.info? 48).map (fun i => (i.zero, i.size, i.bytes)) = some (some (.agg #[.string ByteArray.empty, .bool false, .slice none 0 0]), 3, 48) := by kernel_rfl

theorem made_acts (n : Nat) : madeCells #[.string ByteArray.empty, .bool false, .slice none 0 0] (n * 3) = (rowOf (avV fun _ => noAV) (n * 3)).toArray := by
  apply Array.ext'
  apply List.ext_getElem?
  intro i
  by_cases hi : i < n * 3
  · rw [List.toList_toArray, rowOf_get _ _ _ hi]
    have h3 : i % 3 = 0 ∨ i % 3 = 1 ∨ i % 3 = 2 := by omega
    simp only [madeCells, Array.toList_map, List.getElem?_map, Array.toList_range, List.getElem?_range hi, Option.map_some, List.size_toArray, List.length_cons, List.length_nil, Nat.zero_add, Nat.reduceAdd]
    unfold avV noAV
    rcases h3 with h | h | h <;> rw [h] <;> simp
  · rw [List.getElem?_eq_none (by simp [madeCells]; omega), List.getElem?_eq_none (by simp [rowOf_len]; omega)]

theorem make_acts (w : World) (n : Nat) (hn : n ≤ 256) : ∃ w1 : World,
    (Instr.makeSlice 22 (.int .i64 (n : Int)) (.int .i64 (n : Int))).run Try.prog w = .ok (.slice (some ⟨w.heap.size, 0, none⟩) n n) w1 ∧ Hid (Blk w1 w.heap.size 48 (n * 3) (avV fun _ => noAV) ∧ Below w.heap.size w w1) := by
  obtain ⟨i0, hi, hz0, hz1, hz2⟩ := info_parts info_act
  have hr := run_make (P := Try.prog) w 22 48 i0 _ Try.underlying22 hi hz0 .i64 .i64 (n : Int) (n : Int) (by omega) (Int.le_refl _) (by rw [hz2]; omega) (by omega)
  rw [hz1] at hr
  refine ⟨_, hr, ?_, (Below.refl _ _).alloc (Nat.le_refl _) _⟩
  exact Blk.new _ _ _ _ _ (by rw [Int.toNat_natCast]; exact made_acts n)

/- A row of acts, of a block of one's own. -/
theorem Blk.acts {w : World} {g n : Nat} {V : Nat → AV} (h : Blk w g 48 (n * 3) (avV V)) (ho : ∀ i, i < n → ActOk w (V i)) : ActsAt w (some ⟨g, 0, none⟩) n V := by
  refine ⟨.inr ⟨g, 0, rfl, h.lt, fun i hi => ?_⟩, ho⟩
  have c0 := h.cell (k := i * 3) (by omega)
  have c1 := h.cell (k := i * 3 + 1) (by omega)
  have c2 := h.cell (k := i * 3 + 2) (by omega)
  rw [avV_0] at c0
  rw [avV_1] at c1
  rw [avV_2] at c2
  exact ⟨by rw [Nat.zero_add]; exact c0, by rw [Nat.zero_add]; exact c1, by rw [Nat.zero_add]; exact c2⟩

theorem Blk.set3 {w : World} {g n : Nat} {V : Nat → AV} (h : Blk w g 48 (n * 3) (avV V)) (k : Nat) (v : AV) : Blk (((w.setCell ⟨g, k * 3, none⟩ (.string v.key)).setCell ⟨g, k * 3 + 1, none⟩ (.bool v.set)).setCell ⟨g, k * 3 + 2, none⟩ (.slice v.x v.n v.c)) g 48 (n * 3) (avV (updA V k v)) :=
  (((h.set _ _).set _ _).set _ _).congr fun j _ => avV_upd V k v j

theorem turns_three (g : Nat) (w : World) (j0 j1 j2 : Nat) (u0 u1 u2 : Value) : Turns (fun k => k = g) w (((w.setCell ⟨g, j0, none⟩ u0).setCell ⟨g, j1, none⟩ u1).setCell ⟨g, j2, none⟩ u2) :=
  (((Turns.refl (fun k => k = g) w).setCell (p := ⟨g, j0, none⟩) (.inl rfl) u0).setCell (p := ⟨g, j1, none⟩) (.inl rfl) u1).setCell (p := ⟨g, j2, none⟩) (.inl rfl) u2

theorem turn_three' (g : Nat) (w : World) (j0 j1 j2 : Nat) (u0 u1 u2 : Value) : Turn g w (((w.setCell ⟨g, j0, none⟩ u0).setCell ⟨g, j1, none⟩ u1).setCell ⟨g, j2, none⟩ u2) :=
  ((turn_one g w j0 u0).trans (turn_one g _ j1 u1)).trans (turn_one g _ j2 u2)

/- Decode, behind k acts: the reader at p, the list at g. -/
structure DR (w wr : World) (p : Nat) (y : Option Addr) (g n : Nat) (l : List Nat) (e k : Nat) (V : Nat → AV) : Prop where
  rd : ∃ x' n' c', PRd wr p x' n' c' (rActs k l e).2.1 (rActs k l e).2.2 ∧ From y x'
  blk : Blk wr g 48 (n * 3) (avV V)
  ok : ∀ i, i < k → ActOk wr (V i)
  ap : ∀ i, i < k → ∀ a, (V i).x = some a → w.heap.size ≤ a.block ∧ a.block ≠ g ∧ a.block ≠ p
  eq : pas V k = (rActs k l e).1
  bel : Below w.heap.size w wr
  hp : w.heap.size ≤ p
  hg : w.heap.size ≤ g
  ne : p ≠ g
  hy : ∀ a, y = some a → a.block < wr.heap.size ∧ a.block ≠ g ∧ w.heap.size ≤ a.block

theorem DR.plt {w wr : World} {p : Nat} {y : Option Addr} {g n : Nat} {l : List Nat} {e k : Nat} {V : Nat → AV} (h : DR w wr p y g n l e k V) : p < wr.heap.size := by
  obtain ⟨x', n', c', h1, _⟩ := h.rd
  exact h1.lt

theorem DR.step {w wr w1 : World} {p : Nat} {y : Option Addr} {g n : Nat} {l : List Nat} {e k : Nat} {V : Nat → AV} (h : DR w wr p y g n l e k V) {x' : Option Addr} {v : AV} (hf : From y x')
    (t : ReadTold wr w1 p x' (rActs k l e).2.1 (rActs k l e).2.2 v) :
    DR w (((w1.setCell ⟨g, k * 3, none⟩ (.string v.key)).setCell ⟨g, k * 3 + 1, none⟩ (.bool v.set)).setCell ⟨g, k * 3 + 2, none⟩ (.slice v.x v.n v.c)) p y g n l e (k + 1) (updA V k v) := by
  obtain ⟨⟨tn, x2, n2, c2, r1, r2⟩, tp, tok, tx⟩ := t
  have hplt := h.plt
  have hglt := h.blk.lt
  have hb1 : Blk w1 g 48 (n * 3) (avV V) := h.blk.of_heap (tn.block g hglt (Ne.symm h.ne))
  have T3 := turns_three g w1 (k * 3) (k * 3 + 1) (k * 3 + 2) (.string v.key) (.bool v.set) (.slice v.x v.n v.c)
  have Tn3 := turn_three' g w1 (k * 3) (k * 3 + 1) (k * 3 + 2) (.string v.key) (.bool v.set) (.slice v.x v.n v.c)
  have hsz := h.bel.size
  have hsz1 := tn.size
  have hbel1 : Below w.heap.size w w1 := h.bel.trans (tn.below h.hp hsz)
  refine ⟨⟨x2, n2, c2, ?_, hf.trans r2⟩, hb1.set3 k v, fun i hi => ?_, fun i hi a ha => ?_, ?_, hbel1.trans (Tn3.below h.hg hbel1.size), h.hp, h.hg, h.ne, fun a ha => ?_⟩
  · exact r1.turn Tn3 h.ne (fun a ha => by
      obtain ⟨b, hb, eb⟩ := (hf.trans r2) a ha
      have := (h.hy b hb).2.1
      omega)
  · by_cases ei : i = k
    · subst ei
      rw [updA_same]
      exact tok.turns T3 (fun _ a ha e1 => by have := tx a ha; omega)
    · rw [updA_other V v ei]
      have hap := h.ap i (by omega)
      have h1 : ActOk w1 (V i) := ⟨(h.ok i (by omega)).sl.turn tn (fun a ha => (hap a ha).2.2), (h.ok i (by omega)).sm, (h.ok i (by omega)).ks⟩
      exact h1.turns T3 (fun _ a ha e1 => (hap a ha).2.1 e1)
  · by_cases ei : i = k
    · subst ei
      rw [updA_same] at ha
      have := tx a ha
      omega
    · rw [updA_other V v ei] at ha
      exact h.ap i (by omega) a ha
  · rw [pas_succ, updA_same]
    have : pas (updA V k v) k = pas V k := pas_congr fun i hi => by rw [updA_other V v (by omega)]
    rw [this, h.eq, tp]
    rfl
  · have := h.hy a ha
    have h3 := Tn3.size
    exact ⟨by omega, this.2⟩

def DecTold (w w' : World) (a : Option Addr) (m : Nat) (V : Nat → AV) : Prop :=
  ActsAt w' a m V ∧ (∀ ad, a = some ad → w.heap.size ≤ ad.block) ∧ (∀ i, i < m → ∀ ad, (V i).x = some ad → w.heap.size ≤ ad.block) ∧ Below w.heap.size w w'

theorem decode_any (x : Option Addr) (n cp : Nat) (b : List Nat) (w : World) (h : Sl w x n cp b) (hn : n ≤ 140737488351232) (c : Nat) (acts : List PA) (hS : DecSays b c acts) :
    Calls Try.prog 8 #[.slice x n cp] w fun e w' => ∃ a m cm V, e = .returned (.tuple #[.slice a m cm, .int .i64 (c : Int)]) ∧ m ≤ 256 ∧ pas V m = acts ∧ m ≤ cm ∧ DecTold w w' a m V := by
  by_cases hlong : 13005 < n
  · have q0 : (13005 : Int) < (n : Int) := by omega
    have hc : c = 5 ∧ acts = [] := by
      rcases hS with ⟨⟨h1, _⟩, _⟩ | ⟨_, h1⟩
      · rw [h.len] at h1; omega
      · exact h1
    obtain ⟨rfl, rfl⟩ := hc
    clear hS h hlong
    go_enter Try.func8, Try.ntmps8
    go_wp2_with fail
    go_ret2
    exact ⟨none, 0, 0, fun _ => noAV, rfl, by omega, rfl, Nat.le_refl _, ⟨.inl rfl, fun i hi => by omega⟩, (fun ad ha => by cases ha), (fun i hi => by omega), Below.refl _ _⟩
  · have q0 : ¬ (13005 : Int) < (n : Int) := by omega
    have hR := read_any x n cp b w h (by omega)
    have hbl := h.lt
    have hlen := h.len
    have hrd : rd b = rActs (rNum 256 b 0).1 (rNum 256 b 0).2.1 (rNum 256 b 0).2.2 := rfl
    have hmost := rNum_most 256 b 0 (by omega)
    have hN : ∀ v p y cy, PRd v p y n cy b 0 → Calls Try.prog 26 #[.pointer (some ⟨p, 0, none⟩), .int .i64 256] v fun ed w' => ed = .returned (.int .i64 ((rNum 256 b 0).1 : Int)) ∧ PGo v w' p y (rNum 256 b 0).2.1 (rNum 256 b 0).2.2 := fun v p y cy hp => pnum_any p n cy 0 256 y b v hp (by omega) (by omega)
    generalize rNum 256 b 0 = M at hrd hmost hN
    obtain ⟨N, l, e0⟩ := M
    dsimp only at hrd hmost hN
    have hN256 : N ≤ 256 := by omega
    have HN := hid hN
    have HS := hid hS
    have HRD := hid (And.intro hrd hlen)
    have HMK := hid (fun v => make_acts v N hN256)
    clear h hS hlong hbl hrd hmost hN hlen
    go_enter Try.func8, Try.ntmps8
    go_wp2_with (first
      | (go_at_call 25; refine hR.mono ?_; rintro e w1 ⟨p, y, cy, rfl, hp, hb1, r1, hy⟩; clear hR
         have hN1 := HN.out w1 p y cy r1
         have H1 := hid (And.intro hp (And.intro hb1 (And.intro r1 hy)))
         clear HN hp hb1 r1 hy)
      | (go_at_call 26; refine hN1.mono ?_; rintro e w2 ⟨rfl, hg2⟩; clear hN1
         obtain ⟨w3, hm3, HM3⟩ := HMK.out w2
         have H2 : Hid (DR w w3 p y w2.heap.size N l e0 0 (fun _ => noAV)) := by
           obtain ⟨z1, z2, z3, z4⟩ := H1.out
           obtain ⟨t2, x', n', c', r3, r4⟩ := hg2
           have hsz := z2.size
           have hsz2 := t2.size
           have hlt := z3.lt
           have hb2 : Below w.heap.size w w2 := z2.trans (t2.below z1 hsz)
           exact ⟨⟨x', n', c', r3.below HM3.out.2, r4⟩, HM3.out.1, (fun i hi => by omega), (fun i hi => by omega), rfl, hb2.trans (HM3.out.2.mono hb2.size), z1, by omega, by omega, fun a ha => by have := z4 a ha; have := HM3.out.2.size; exact ⟨by omega, by omega, by omega⟩⟩
         clear H1 hg2 HMK HM3))
    go_loopw [17] (fun i wr => ∃ (k : Nat) (V : Nat → AV), k ≤ N ∧ i = .int .i64 k ∧ Hid (DR w wr p y w2.heap.size N l e0 k V)) (fun i _ => N - (intOf i).toNat)
    case atStart => exact ⟨0, _, by omega, rfl, H2.out⟩
    case round =>
      clear H2
      obtain ⟨k, V, hk, rfl, HD⟩ := hrel
      by_cases hkl : k < N
      · have hkl' : (k : Int) < (N : Int) := by omega
        have hA : Calls Try.prog 27 #[.pointer (some ⟨p, 0, none⟩)] wr fun ed w' => ∃ v : AV, ed = .returned (.agg #[.string v.key, .bool v.set, .slice v.x v.n v.c]) ∧ (∃ u, w'.cell? ⟨w2.heap.size, k * 3, none⟩ = some u) ∧ (∃ u, w'.cell? ⟨w2.heap.size, k * 3 + 1, none⟩ = some u) ∧ (∃ u, w'.cell? ⟨w2.heap.size, k * 3 + 2, none⟩ = some u) ∧ (∀ j, w'.frozen? ⟨w2.heap.size, j, none⟩ = false) ∧
            Hid (DR w (((w'.setCell ⟨w2.heap.size, k * 3, none⟩ (.string v.key)).setCell ⟨w2.heap.size, k * 3 + 1, none⟩ (.bool v.set)).setCell ⟨w2.heap.size, k * 3 + 2, none⟩ (.slice v.x v.n v.c)) p y w2.heap.size N l e0 (k + 1) (updA V k v)) := by
          obtain ⟨x', n', c', r1, r2⟩ := HD.out.rd
          refine (readact_any p n' c' _ x' _ wr r1 (fun a ha => by
            obtain ⟨a', ha', ea⟩ := r2 a ha
            have := (HD.out.hy a' ha').1
            omega)).mono fun ed w' ⟨v, h1, h2⟩ => ?_
          have hb1 : Blk w' w2.heap.size 48 (N * 3) (avV V) := HD.out.blk.of_heap (h2.1.1.block _ HD.out.blk.lt (Ne.symm HD.out.ne))
          exact ⟨v, h1, ⟨_, hb1.cell (by omega)⟩, ⟨_, hb1.cell (by omega)⟩, ⟨_, hb1.cell (by omega)⟩, hb1.frozen, HD.out.step r2 h2⟩
        clear HD
        go_wp2_with (go_at_call 27; refine hA.mono ?_; rintro e w4 ⟨v, rfl, ⟨u0, q1⟩, ⟨u1, q2⟩, ⟨u2, q3⟩, qf, HD2⟩; clear hA
                     have qf0 := qf (k * 3)
                     have qf1 := qf (k * 3 + 1)
                     have qf2 := qf (k * 3 + 2)
                     clear qf)
        go_roundw
        case rel => exact ⟨k + 1, _, by omega, by go_num, HD2.out⟩
        case measure => simp [intOf]; omega
      · obtain rfl : k = N := by omega
        have hd := HD.out
        have hD1 : Calls Try.prog 28 #[.pointer (some ⟨p, 0, none⟩)] wr fun ed w' => ed = .returned (.int .i64 (rDone (rActs k l e0).2.1 (rActs k l e0).2.2 : Int)) ∧ w' = wr := by
          obtain ⟨x', n', c', r1, r2⟩ := hd.rd
          exact pdone_any p n' c' _ x' _ wr r1
        have hrd := HRD.out.1
        rw [← hrd] at hD1
        have hpas : pas V k = (rd b).1 := by rw [hrd]; exact hd.eq
        have hacts := hd.blk.acts hd.ok
        have HF : Hid (∀ w', Below wr.heap.size wr w' → DecTold w w' (some ⟨w2.heap.size, 0, none⟩) k V) := fun w' hb => ⟨hacts.below hb, (fun ad ha => by cases ha; exact hd.hg), (fun i hi ad ha => (hd.ap i hi ad ha).1), hd.bel.trans (hb.mono hd.bel.size)⟩
        by_cases hdone : rDone (rd b).2.1 (rd b).2.2 = 0
        · rw [hdone] at hD1
          by_cases hok : okL (pas V k)
          · have hI := isbatch_any (some ⟨w2.heap.size, 0, none⟩) k k V wr true hacts (by omega) (by simp [hN256, hok])
            have hc : c = 0 ∧ acts = pas V k := by
              rcases HS.out with ⟨_, h1, h2⟩ | ⟨h1, _⟩
              · exact ⟨h1, h2.trans hpas.symm⟩
              · exact absurd ⟨by have := HRD.out.2; omega, by rw [← hpas]; exact hok, hdone⟩ h1
            obtain ⟨rfl, rfl⟩ := hc
            clear hdone hok hacts hd HD HS HRD hpas hrd
            go_wp2_with (first
              | (go_at_call 28; refine hD1.mono ?_; rintro e w' ⟨rfl, hw⟩; subst w'; clear hD1)
              | (go_at_call 16; refine hI.mono ?_; rintro e w5 ⟨rfl, hb5⟩; clear hI))
            go_ret2
            exact ⟨_, _, _, V, rfl, hN256, rfl, Nat.le_refl _, HF.out w5 hb5⟩
          · have hI := isbatch_any (some ⟨w2.heap.size, 0, none⟩) k k V wr false hacts (by omega) (by simp [hok])
            have hc : c = 5 ∧ acts = [] := by
              rcases HS.out with ⟨⟨_, h1, _⟩, _⟩ | ⟨_, h1⟩
              · exact absurd (by rw [hpas]; exact h1) hok
              · exact h1
            obtain ⟨rfl, rfl⟩ := hc
            clear hdone hok hacts hd HD HS HRD hpas hrd
            go_wp2_with (first
              | (go_at_call 28; refine hD1.mono ?_; rintro e w' ⟨rfl, hw⟩; subst w'; clear hD1)
              | (go_at_call 16; refine hI.mono ?_; rintro e w5 ⟨rfl, hb5⟩; clear hI))
            go_ret2
            exact ⟨none, 0, 0, fun _ => noAV, rfl, by omega, rfl, Nat.le_refl _, ⟨.inl rfl, fun i hi => by omega⟩, (fun ad ha => by cases ha), (fun i hi => by omega), (HF.out w5 hb5).2.2.2⟩
        · have hc : c = 5 ∧ acts = [] := by
            rcases HS.out with ⟨⟨_, _, h1⟩, _⟩ | ⟨_, h1⟩
            · exact absurd h1 hdone
            · exact h1
          obtain ⟨rfl, rfl⟩ := hc
          generalize rDone (rd b).2.1 (rd b).2.2 = DN at hD1 hdone
          have hne : ((DN : Int) != 0) = true := by simp; omega
          clear hacts hd HD HS HRD hpas hrd hdone
          go_wp2_with (first
            | (go_at_call 28; refine hD1.mono ?_; rintro e w' ⟨rfl, hw⟩; subst w'; clear hD1))
          go_ret2
          exact ⟨none, 0, 0, fun _ => noAV, rfl, by omega, rfl, Nat.le_refl _, ⟨.inl rfl, fun i hi => by omega⟩, (fun ad ha => by cases ha), (fun i hi => by omega), (HF.out _ (Below.refl _ _)).2.2.2⟩

end Go.Proofs.Ytbbjklenpgkooaa

/-
  Keys and values, plainly; the program's map of them as it lies in memory.
  Conditions: none.
-/
namespace Go.Proofs.Ytbbjklenpgkooaa
open Go.RowKit By Dk Wi St
set_option linter.unusedVariables false
set_option linter.unusedSimpArgs false
set_option maxRecDepth 100000

abbrev KV := ByteArray → Option (List Nat)

def doA (M : KV) (a : PA) : KV := fun s => if s = str a.key then (if a.set = true then some a.data else none) else M s

def doL (M : KV) (l : List PA) : KV := l.foldl doA M

theorem doL_snoc (M : KV) (l : List PA) (a : PA) : doL M (l ++ [a]) = doA (doL M l) a := by simp [doL]

def canL (M : KV) (l : List PA) : Prop := ∀ i a, l[i]? = some a → a.set = false → (doL M (l.take i) (str a.key)).isSome = true

theorem pas_get (V : Nat → AV) {n i : Nat} (h : i < n) : (pas V n)[i]? = some (pa (V i)) := by simp [pas, h]

theorem pas_take (V : Nat → AV) {n k : Nat} (h : k ≤ n) : (pas V n).take k = pas V k := by
  unfold pas
  rw [← List.map_take, List.take_range, Nat.min_eq_left h]

theorem str_key (v : AV) : str (pa v).key = v.key := str_nat v.key

theorem canL_at {M : KV} {V : Nat → AV} {n : Nat} (h : canL M (pas V n)) {i : Nat} (hi : i < n) (hs : (V i).set = false) : (doL M (pas V i) (V i).key).isSome = true := by
  have := h i _ (pas_get V hi) hs
  rwa [pas_take V (Nat.le_of_lt hi), str_key] at this

theorem canL_of {M : KV} {V : Nat → AV} {n : Nat} (h : ∀ i, i < n → (V i).set = false → (doL M (pas V i) (V i).key).isSome = true) : canL M (pas V n) := fun i a ha hs => by
  have hi : i < n := by
    have := (List.getElem?_eq_some_iff.1 ha).1
    rwa [pas_len] at this
  rw [pas_get V hi] at ha
  injection ha with ha
  subst ha
  rw [pas_take V (Nat.le_of_lt hi), str_key]
  exact h i hi hs

def lit (s : ByteArray) : Lit := .string s.data.toList

theorem lit_inj {s t : ByteArray} (h : lit s = lit t) : s = t := by
  injection h with h
  exact ByteArray.ext (Array.toList_inj.1 h)

theorem lit_key (s : ByteArray) : WideAt.IsKeyLit (lit s) := trivial

/- How a value is told: as it stands. -/
def hv (v : Value) : Option (DataW Value × List MemPlace) :=
  match v with
  | .slice a n c => some (.held (.slice a n c), [])
  | _ => none

theorem hv_slice (a : Option Addr) (n c : Nat) : hv (.slice a n c) = some (.held (.slice a n c), []) := rfl

theorem hv_inv {v : Value} {z : DataW Value × List MemPlace} (h : hv v = some z) : ∃ a n c, v = .slice a n c ∧ z = (.held (.slice a n c), []) := by
  unfold hv at h
  cases v <;> simp at h
  subst h
  exact ⟨_, _, _, rfl, rfl⟩

theorem slaw : Maps.Keyed Try.prog 9 := Maps.string_keyed Try.underlying9

theorem szero (w : World) : (zeroValue 23).run Try.prog w = .ok (.slice none 0 0) w := by kernel_rfl

theorem skey {s : ByteArray} (h : s.size ≤ 140737488355328) : keyOf Try.prog 9 (.string s) = some (lit s) := WideMaps.keyOf_string_mk Try.underlying9 (by unfold maxLen; omega)

structure MapAt (w : World) (mb nb : Nat) (D : DataW Value) (M : KV) (U : Nat → Prop) : Prop where
  own : w.ownsMap Try.prog 9 hv mb nb D
  has : ∀ s, Maps.has D (lit s) = (M s).isSome
  val : ∀ s l, M s = some l → ∃ x n c, (∀ z, D.atKey (lit s) z = .held (.slice x n c)) ∧ Sl w x n c l ∧ n ≤ 4096 ∧ ∀ a, x = some a → a.block < w.heap.size ∧ ¬ U a.block ∧ a.block ≠ mb
  keys : ∀ s, (M s).isSome = true → s.size ≤ 64

section
variable {w w' : World} {mb nb : Nat} {D : DataW Value} {M : KV} {U : Nat → Prop}

theorem MapAt.lt (h : MapAt w mb nb D M U) : mb < w.heap.size := h.own.lt

theorem MapAt.turns {G : Nat → Prop} (h : MapAt w mb nb D M U) (t : Turns G w w') (hm : ¬ G mb) (hG : ∀ k, k < w.heap.size → G k → U k) : MapAt w' mb nb D M U := by
  obtain ⟨es, clock, hb, r⟩ := h.own
  refine ⟨⟨es, clock, (t.block mb h.lt hm).trans hb, r⟩, h.has, fun s l hs => ?_, h.keys⟩
  obtain ⟨x, n, c, h1, h2, h3, h4⟩ := h.val s l hs
  exact ⟨x, n, c, h1, h2.turns t (fun _ a ha hg => (h4 a ha).2.1 (hG _ (h4 a ha).1 hg)), h3, fun a ha => ⟨Nat.lt_of_lt_of_le (h4 a ha).1 t.size, (h4 a ha).2⟩⟩

theorem MapAt.below (h : MapAt w mb nb D M U) (t : Below w.heap.size w w') : MapAt w' mb nb D M U :=
  h.turns (Turns.of_below (F := fun _ => False) t) (fun h => h) (fun _ _ h => h.elim)

theorem MapAt.weak {U' : Nat → Prop} (h : MapAt w mb nb D M U) (hU : ∀ k, k < w.heap.size → U' k → U k) : MapAt w mb nb D M U' :=
  ⟨h.own, h.has, fun s l hs => by
    obtain ⟨x, n, c, h1, h2, h3, h4⟩ := h.val s l hs
    exact ⟨x, n, c, h1, h2, h3, fun a ha => ⟨(h4 a ha).1, fun hu => (h4 a ha).2.1 (hU _ (h4 a ha).1 hu), (h4 a ha).2.2⟩⟩, h.keys⟩

theorem MapAt.new (w : World) (U : Nat → Prop) : MapAt (w.alloc (.map #[] 0)) w.heap.size 0 (.map []) (fun _ => none) U :=
  ⟨World.ownsMap_made w Try.prog 9 hv, fun s => rfl, (fun s l h => by cases h), fun s h => by cases h⟩

theorem MapAt.look (h : MapAt w mb nb D M U) (s : ByteArray) (hs : s.size ≤ 140737488355328) : ∃ x n c, (Instr.lookup 36 (.map (some mb)) (.string s) true).run Try.prog w = .ok (.tuple #[.slice x n c, .bool (M s).isSome]) w ∧ (M s = none → x = none ∧ n = 0 ∧ c = 0) ∧ ∀ l, M s = some l → Sl w x n c l ∧ n ≤ 4096 := by
  obtain ⟨v, ps, h1, h2⟩ := h.own.look_ok (t := 36) (e := 23) slaw Try.underlying36 (szero w) (hv_slice none 0 0) (skey hs)
  obtain ⟨x, n, c, rfl, h3⟩ := hv_inv h2
  rw [h.has] at h1
  refine ⟨x, n, c, h1, fun hn => ?_, fun l hl => ?_⟩
  · have : Maps.has D (lit s) = false := by rw [h.has, hn]; rfl
    have e := congrArg Prod.fst h3
    dsimp only at e
    rw [Maps.atKey_of_not_has this] at e
    injection e with e
    injection e with e1 e2 e3
    exact ⟨e1.symm, e2.symm, e3.symm⟩
  · obtain ⟨x', n', c', k1, k2, k3, k4⟩ := h.val s l hl
    have e := congrArg Prod.fst h3
    dsimp only at e
    rw [k1] at e
    injection e with e
    injection e with e1 e2 e3
    subst e1
    subst e2
    subst e3
    exact ⟨k2, k3⟩

theorem MapAt.lookq (h : MapAt w mb nb D M U) (s : ByteArray) (hs : s.size ≤ 140737488355328) : ∃ x n c, ∀ q, (Instr.lookup 36 (.map (some mb)) (.string s) true).run Try.prog (w.drewN q) = .ok (.tuple #[.slice x n c, .bool (M s).isSome]) (w.drewN q) := by
  obtain ⟨v, ps, h1, h2⟩ := h.own.look_ok (t := 36) (e := 23) slaw Try.underlying36 (szero w) (hv_slice none 0 0) (skey hs)
  obtain ⟨x, n, c, rfl, h3⟩ := hv_inv h2
  refine ⟨x, n, c, fun q => ?_⟩
  have hq : MapAt (w.drewN q) mb nb D M U := h.below ⟨rfl, rfl, rfl, Nat.le_refl _, fun _ _ => rfl⟩
  obtain ⟨v, ps', k1, k2⟩ := hq.own.look_ok (t := 36) (e := 23) slaw Try.underlying36 (szero _) (hv_slice none 0 0) (skey hs)
  obtain ⟨x', n', c', rfl, k3⟩ := hv_inv k2
  have e1 := congrArg Prod.fst h3
  have e2 := congrArg Prod.fst k3
  dsimp only at e1 e2
  have e := e1.symm.trans e2
  clear e1 e2
  injection e with e
  injection e with e1 e2 e3
  subst e1
  subst e2
  subst e3
  rw [h.has] at k1
  exact k1

theorem grown_turns {row : Nat} (h : w.grownBy w' (some row)) : Turns (fun k => k = row) w w' := ⟨h.os, h.tape, h.output, h.size, fun k hk hr => h.block k hk (fun e => hr (by injection e))⟩

theorem MapAt.put (h : MapAt w mb nb D M U) (hn : nb < 1000000000) (s : ByteArray) (hs : s.size ≤ 64) (x : Option Addr) (n c : Nat) (l : List Nat) (hl : Sl w x n c l) (hn4 : n ≤ 4096) (hx : ∀ a, x = some a → a.block < w.heap.size ∧ ¬ U a.block ∧ a.block ≠ mb) :
    ∃ w1, (Instr.mapUpdate 36 (.map (some mb)) (.string s) (.slice x n c)).run Try.prog w = .ok () w1 ∧ MapAt w1 mb (nb + 1) (D.put (lit s) (.held (.slice x n c))) (fun t => if t = s then some l else M t) U ∧ Turns (fun k => k = mb) w w1 := by
  obtain ⟨w1, h1, h2, h3⟩ := h.own.update (t := 36) (e := 23) slaw Try.underlying36 (by unfold maxLen; omega) (skey (s := s) (by omega)) (hv_slice x n c)
  have t := grown_turns h3
  refine ⟨w1, h1, ⟨h2, fun u => ?_, fun u l' hu => ?_, fun u hu => ?_⟩, t⟩
  · by_cases e : u = s
    · subst e
      rw [Maps.has_put_same h.own.isMap (lit_key u)]
      simp
    · rw [Maps.has_put_other (fun h => e (lit_inj h)), h.has]
      simp [e]
  · by_cases e : u = s
    · subst e
      simp at hu
      subst hu
      exact ⟨x, n, c, fun z => Maps.atKey_put_same h.own.isMap (lit_key u) _ z, hl.turns t (fun _ a ha e => (hx a ha).2.2 e), hn4, fun a ha => ⟨Nat.lt_of_lt_of_le (hx a ha).1 t.size, (hx a ha).2⟩⟩
    · simp only [e, if_false] at hu
      obtain ⟨x', n', c', k1, k2, k3, k4⟩ := h.val u l' hu
      exact ⟨x', n', c', fun z => by rw [Maps.atKey_put_other (fun h => e (lit_inj h))]; exact k1 z, k2.turns t (fun _ a ha e => (k4 a ha).2.2 e), k3, fun a ha => ⟨Nat.lt_of_lt_of_le (k4 a ha).1 t.size, (k4 a ha).2⟩⟩
  · by_cases e : u = s
    · subst e; exact hs
    · simp only [e, if_false] at hu
      exact h.keys u hu

theorem MapAt.del (h : MapAt w mb nb D M U) (s : ByteArray) (hs : s.size ≤ 140737488355328) (ty : TypeId) :
    ∃ w1, (Builtin.delete_ #[36, 9] ty #[.map (some mb), .string s]).run Try.prog w = .ok (.tuple #[]) w1 ∧ MapAt w1 mb nb (D.del (lit s)) (fun t => if t = s then none else M t) U ∧ Turns (fun k => k = mb) w w1 := by
  obtain ⟨w1, h1, h2, h3⟩ := h.own.drop (t := 36) (e := 23) slaw Try.underlying36 (skey hs) ty
  have t := grown_turns h3.grown
  refine ⟨w1, h1, ⟨h2, fun u => ?_, fun u l' hu => ?_, fun u hu => ?_⟩, t⟩
  · by_cases e : u = s
    · subst e
      rw [Maps.has_del_same]
      simp
    · rw [Maps.has_del_other (fun h => e (lit_inj h)), h.has]
      simp [e]
  · by_cases e : u = s
    · subst e
      simp at hu
    · simp only [e, if_false] at hu
      obtain ⟨x', n', c', k1, k2, k3, k4⟩ := h.val u l' hu
      exact ⟨x', n', c', fun z => by rw [Maps.atKey_del_other (fun h => e (lit_inj h))]; exact k1 z, k2.turns t (fun _ a ha e => (k4 a ha).2.2 e), k3, fun a ha => ⟨Nat.lt_of_lt_of_le (k4 a ha).1 t.size, (k4 a ha).2⟩⟩
  · by_cases e : u = s
    · subst e; simp at hu
    · simp only [e, if_false] at hu
      exact h.keys u hu

theorem MapAt.len (h : MapAt w mb nb D M U) (ty : TypeId) : (Builtin.len_ #[36] ty #[.map (some mb)]).run Try.prog w = .ok (.int .i64 (Maps.size D)) w :=
  h.own.len (t := 36) (e := 23) Try.underlying36 ty

theorem MapAt.congr {M' : KV} (h : MapAt w mb nb D M U) (e : M = M') : MapAt w mb nb D M' U := by subst e; exact h

end

theorem doA_set (M : KV) (v : AV) (h : v.set = true) : doA M (pa v) = fun t => if t = v.key then some v.d else M t := by
  funext t
  unfold doA
  rw [str_key]
  show (if t = v.key then (if v.set = true then some v.d else none) else M t) = _
  rw [if_pos h]

theorem doA_del (M : KV) (v : AV) (h : v.set = false) : doA M (pa v) = fun t => if t = v.key then none else M t := by
  funext t
  unfold doA
  rw [str_key]
  show (if t = v.key then (if v.set = true then some v.d else none) else M t) = _
  rw [if_neg (show ¬ (v.set = true) by simp [h])]

theorem doL_succ (M : KV) (V : Nat → AV) (k : Nat) : doL M (pas V (k + 1)) = doA (doL M (pas V k)) (pa (V k)) := by rw [pas_succ, doL_snoc]

/- A store as it lies in memory: the journal's place and the map's. -/
structure StAt (w : World) (sp jp mb nb : Nat) (D : DataW Value) (M : KV) (U : Nat → Prop) : Prop where
  obj : Blk w sp 38 2 (fun i => if i = 0 then .pointer (some ⟨jp, 0, none⟩) else .map (some mb))
  map : MapAt w mb nb D M U
  ne : sp ≠ mb

section
variable {w w' : World} {sp jp mb nb : Nat} {D : DataW Value} {M : KV} {U : Nat → Prop}

theorem StAt.c0 (h : StAt w sp jp mb nb D M U) : w.cell? ⟨sp, 0, none⟩ = some (.pointer (some ⟨jp, 0, none⟩)) := h.obj.cell (k := 0) (by omega)
theorem StAt.c1 (h : StAt w sp jp mb nb D M U) : w.cell? ⟨sp, 1, none⟩ = some (.map (some mb)) := h.obj.cell (k := 1) (by omega)

theorem StAt.turns {G : Nat → Prop} (h : StAt w sp jp mb nb D M U) (t : Turns G w w') (hs : ¬ G sp) (hm : ¬ G mb) (hG : ∀ k, k < w.heap.size → G k → U k) : StAt w' sp jp mb nb D M U :=
  ⟨t.blk h.obj hs, h.map.turns t hm hG, h.ne⟩

theorem StAt.below (h : StAt w sp jp mb nb D M U) (t : Below w.heap.size w w') : StAt w' sp jp mb nb D M U :=
  h.turns (Turns.of_below (F := fun _ => False) t) (fun h => h) (fun h => h) (fun _ _ h => h.elim)

theorem sopen_yes (h : StAt w sp jp mb nb D M U) : Calls Try.prog 34 #[.pointer (some ⟨sp, 0, none⟩)] w fun e w' => e = .returned (.bool true) ∧ w' = w := by
  have c0 := h.c0
  clear h
  go_enter Try.func34, Try.ntmps34
  go_wp2_with fail
  go_ret
  exact ⟨rfl, rfl⟩

theorem get_any (h : StAt w sp jp mb nb D M U) (s : ByteArray) (hs : s.size ≤ 140737488355328) :
    Calls Try.prog 11 #[.pointer (some ⟨sp, 0, none⟩), .string s] w fun e w' => ∃ y n c, e = .returned (.tuple #[.slice y n c, .bool (M s).isSome]) ∧ Below w.heap.size w w' ∧ (∀ a, y = some a → w.heap.size ≤ a.block) ∧ ∀ l, M s = some l → Sl w' y n c l ∧ n ≤ 4096 := by
  have hO := sopen_yes h
  have c1 := h.c1
  obtain ⟨x, n, c, hlook, hno, hyes⟩ := h.map.look s hs
  have hC : Calls Try.prog 35 #[.slice x n c] w fun e w' => ∃ y n2 c2, e = .returned (.slice y n2 c2) ∧ Hid (Below w.heap.size w w' ∧ (∀ a, y = some a → w.heap.size ≤ a.block) ∧ ∀ l, M s = some l → Sl w' y n2 c2 l ∧ n2 ≤ 4096) := by
    cases hM : M s with
    | none =>
      obtain ⟨rfl, rfl, rfl⟩ := hno hM
      refine (clone_sl none 0 0 [] w (Sl.empty w) (by omega)).mono fun e w' ⟨y, cy, h1, h2, h3, h4⟩ => ⟨y, 0, cy, h1, h2, fun a ha => (h4 a ha).1, fun l hl => by cases hl⟩
    | some l =>
      obtain ⟨k1, k2⟩ := hyes l hM
      refine (clone_sl x n c l w k1 (by omega)).mono fun e w' ⟨y, cy, h1, h2, h3, h4⟩ => ⟨y, n, cy, h1, h2, fun a ha => (h4 a ha).1, fun l' hl => ?_⟩
      injection hl with hl
      subst hl
      exact ⟨h3, k2⟩
  clear h hno hyes
  generalize (M s).isSome = t at *
  go_enter Try.func11, Try.ntmps11
  go_wp2_with (first
    | (go_at_call 34; refine hO.mono ?_; rintro e w' ⟨rfl, hw⟩; subst w'; clear hO)
    | (go_at_call 35; refine hC.mono ?_; rintro e w2 ⟨y, n2, c2, rfl, HC⟩; clear hC))
  go_ret2
  exact ⟨y, n2, c2, rfl, HC.out.1, HC.out.2.1, HC.out.2.2⟩

theorem len_any (h : StAt w sp jp mb nb D M U) : Calls Try.prog 13 #[.pointer (some ⟨sp, 0, none⟩)] w fun e w' => e = .returned (.int .i64 (Maps.size D)) ∧ w' = w := by
  have hO := sopen_yes h
  have c1 := h.c1
  have hlen := fun ty => h.map.len ty
  clear h
  go_enter Try.func13, Try.ntmps13
  go_wp2_with (first
    | (go_at_call 34; refine hO.mono ?_; rintro e w' ⟨rfl, hw⟩; subst w'; clear hO))
  go_ret
  exact ⟨rfl, rfl⟩

end

end Go.Proofs.Ytbbjklenpgkooaa

/-
  slices.Backward over acts: what it hands to a loop.
  Conditions: the acts lie in memory.
-/
namespace Go.Proofs.Ytbbjklenpgkooaa
open Go.RowKit Go.Shelf By Dk Wi St
set_option linter.unusedVariables false
set_option linter.unusedSimpArgs false
set_option maxRecDepth 100000
attribute [local go_sem] Oper.semAt_some

def agv (v : AV) : Value := .agg #[.string v.key, .bool v.set, .slice v.x v.n v.c]

def dn (V : Nat → AV) (len k : Nat) : List (Nat × AV) := (List.range k).map fun j => (len - 1 - j, V (len - 1 - j))

theorem dn_succ (V : Nat → AV) (len k : Nat) : dn V len (k + 1) = dn V len k ++ [(len - 1 - k, V (len - 1 - k))] := by simp [dn, List.range_succ]
theorem dn_len (V : Nat → AV) (len k : Nat) : (dn V len k).length = k := by simp [dn]

theorem back1_in (F : Fence) (n : Nat) (hf : F.fn 82) (hro : F.round = none) (hn : 1 ≤ n) (l Bs n₀ b o M m cap : Nat) (hM : M = m + 1) (V : Nat → AV) (hlen : M ≤ 140737488351232) (hb : b < n₀) (J Jx : List (Nat × AV) → World → Prop)
    (hY : ∀ pre x W, J pre W → pre.length < M → YieldAt F (n - 1) Try.prog l #[.int .i64 (x.1 : Int), agv x.2] W fun e W' =>
      (e = .returned (.bool true) ∧ J (pre ++ [x]) W' ∧ Below n₀ W W') ∨ (e = .returned (.bool false) ∧ Jx (pre ++ [x]) W'))
    (W : World) (hBn : Bs < n₀) (hBs : W.cell? ⟨Bs, 0, none⟩ = some (.slice (some ⟨b, o, none⟩) M cap))
    (hc : ∀ i, i < M → W.cell? ⟨b, o + i * 3, none⟩ = some (.string (V i).key) ∧ W.cell? ⟨b, o + i * 3 + 1, none⟩ = some (.bool (V i).set) ∧ W.cell? ⟨b, o + i * 3 + 2, none⟩ = some (.slice (V i).x (V i).n (V i).c)) (h0 : J [] W) :
    CallsIn F n Try.prog 82 #[.func (.yield l) #[] #[], .pointer (some ⟨Bs, 0, none⟩)] W fun e W' => (∃ v, e = .returned v) ∧
      ((∃ ys, ys = dn V M M ∧ J ys W') ∨ (∃ pre, (∃ k, k ≤ M ∧ pre = dn V M k) ∧ Jx pre W')) := by
  have e2 : (M : Int) - 1 = (m : Int) := by omega
  have HM := hid hM
  clear hM
  refine callsIn_of_wp Try.func82 rfl hf ?_ hro
  simp only [Try.ntmps82, List.size_toArray, List.length_cons, List.length_nil, Nat.reduceAdd, Nat.reduceSub, Array.replicate_succ, Array.replicate_zero, List.push_toArray, List.append_toArray, List.nil_append, List.cons_append]
  gi_wp2
  gi_loopw [3] (fun i wr => ∃ k : Nat, k ≤ M ∧ ((k = 0 ∧ i = .int .i64 (-1)) ∨ ∃ j : Nat, k = j + 1 ∧ i = .int .i64 (j : Int)) ∧ J (dn V M (M - k)) wr ∧ Below n₀ W wr) (fun i _ => (intOf i + 1).toNat)
  case atStart => exact ⟨M, Nat.le_refl _, .inr ⟨m, HM.out, by first | rfl | (congr 1; omega) | simp [e2]⟩, by rw [Nat.sub_self]; exact h0, Below.refl _ _⟩
  case round =>
    obtain ⟨k, hk, hki, hJs, hnx⟩ := hrel
    rcases hki with ⟨rfl, rfl⟩ | ⟨j, rfl, rfl⟩
    · gi_wp2
      go_end0
      exact ⟨⟨_, rfl⟩, .inl ⟨_, rfl, hJs⟩⟩
    · have hjM : j < M := by omega
      have hj0 : (0 : Int) ≤ (j : Int) := by omega
      have hjM' : (j : Int) < (M : Int) := by omega
      obtain ⟨f0, f1, f2⟩ := hc j hjM
      have k0 := (hnx.cell (p := ⟨b, o + j * 3, none⟩) hb).trans f0
      have k1 := (hnx.cell (p := ⟨b, o + j * 3 + 1, none⟩) hb).trans f1
      have k2 := (hnx.cell (p := ⟨b, o + j * 3 + 2, none⟩) hb).trans f2
      have ks := (hnx.cell (p := ⟨Bs, 0, none⟩) hBn).trans hBs
      have hstep : dn V M (M - (j + 1)) ++ [(j, V j)] = dn V M (M - j) := by
        have : M - j = (M - (j + 1)) + 1 := by omega
        rw [this, dn_succ, show M - 1 - (M - (j + 1)) = j by omega]
      obtain ⟨fn, tmps, assign, body, hy, hR⟩ := hY (dn V M (M - (j + 1))) (j, V j) wr hJs (by rw [dn_len]; omega)
      unfold agv at hy
      dsimp only at hy
      rw [hstep] at hR
      clear hc f0 f1 f2 hstep hY
      gi_wp2
      refine hR.mono ?_
      rintro e W3 (⟨rfl, hJ3, hk3⟩ | ⟨rfl, hJx3⟩)
      · cases j with
        | zero =>
          gi_wp2
          go_roundw
          case rel => exact ⟨0, by omega, .inl ⟨rfl, by first | rfl | simp⟩, hJ3, hnx.trans hk3⟩
          case measure => simp [intOf]
        | succ i =>
          have e3 : ((i + 1 : Nat) : Int) - 1 = (i : Int) := by omega
          have e4 : ((i : Int) + 1) - 1 = (i : Int) := by omega
          gi_wp2
          go_roundw
          case rel => exact ⟨i + 1, by omega, .inr ⟨i, rfl, by first | rfl | simp | go_num⟩, hJ3, hnx.trans hk3⟩
          case measure => simp [intOf]; omega
      · gi_wp2
        refine bodyPost_ret (results_none rfl _ _ _) rfl ?_
        exact ⟨⟨_, rfl⟩, .inr ⟨_, ⟨M - j, by omega, rfl⟩, hJx3⟩⟩

theorem back0_in (F : Fence) (n : Nat) (hf : F.fn 82) (hro : F.round = none) (l Bs : Nat) (a : Option Addr) (cap : Nat) (J : List (Nat × AV) → World → Prop) (W : World) (hBs : W.cell? ⟨Bs, 0, none⟩ = some (.slice a 0 cap)) (h0 : J [] W) :
    CallsIn F n Try.prog 82 #[.func (.yield l) #[] #[], .pointer (some ⟨Bs, 0, none⟩)] W fun e W' => (∃ v, e = .returned v) ∧ J [] W' := by
  refine callsIn_of_wp Try.func82 rfl hf ?_ hro
  simp only [Try.ntmps82, List.size_toArray, List.length_cons, List.length_nil, Nat.reduceAdd, Nat.reduceSub, Array.replicate_succ, Array.replicate_zero, List.push_toArray, List.append_toArray, List.nil_append, List.cons_append]
  gi_wp2
  gi_loopw [3] (fun i wr => i = .int .i64 (-1) ∧ J [] wr) (fun _ _ => 0)
  case atStart => exact ⟨by first | rfl | simp, h0⟩
  case round =>
    obtain ⟨rfl, hJs⟩ := hrel
    gi_wp2
    go_end0
    exact ⟨⟨_, rfl⟩, hJs⟩

theorem backmake_any (a : Option Addr) (len cap : Nat) (w : World) :
    Calls Try.prog 71 #[.slice a len cap] w fun e w' => e = .returned (.func (.func 82) #[] #[.pointer (some ⟨w.heap.size, 0, none⟩)]) ∧ w' = w.alloc (.cells #[.slice a len cap] 22) := by
  go_enter Try.func71, Try.ntmps71
  go_wp2_with fail
  go_ret
  exact ⟨rfl, rfl⟩

theorem back_stops (F : Fence) (n : Nat) (hf : F.fn 82) (hro : F.round = none) (hn : 1 ≤ n) (Bs n₀ : Nat) (a : Option Addr) (len cap : Nat) (V : Nat → AV) (hlen : len ≤ 140737488351232) (w : World) (hBs : Bs < n₀) (hn₀ : n₀ ≤ w.heap.size)
    (hc : w.cell? ⟨Bs, 0, none⟩ = some (.slice a len cap)) (hA : ActsAt w a len V) (hlow : len ≠ 0 → ∀ ad, a = some ad → ad.block < n₀) :
    SeqStopsK F n Try.prog 82 #[.pointer (some ⟨Bs, 0, none⟩)] (fun x : Nat × AV => #[Value.int .i64 (x.1 : Int), agv x.2]) (Below n₀) (fun ys => ys = dn V len len) (fun pre => ∃ k, k ≤ len ∧ pre = dn V len k) len w := fun l J Jx W hW _ _ hY h0 => by
  have hc' := ((hW.mono hn₀).cell (p := ⟨Bs, 0, none⟩) hBs).trans hc
  cases hm : len with
  | zero =>
    subst hm
    exact (back0_in F n hf hro l Bs a cap J W hc' h0).mono fun e W' ⟨he, hj⟩ => ⟨he, .inl ⟨_, rfl, hj⟩⟩
  | succ m =>
    rcases hA.row with h0' | ⟨b, o, rfl, hb, hcs⟩
    · omega
    · have hbn := hlow (by omega) _ rfl
      rw [← hm]
      exact back1_in F n hf hro hn l Bs n₀ b o len m cap hm V hlen hbn J Jx hY W hBs hc' (fun i hi => by
        obtain ⟨q0, q1, q2⟩ := hcs i hi
        exact ⟨((hW.mono hn₀).cell (p := ⟨b, o + i * 3, none⟩) hbn).trans q0, ((hW.mono hn₀).cell (p := ⟨b, o + i * 3 + 1, none⟩) hbn).trans q1, ((hW.mono hn₀).cell (p := ⟨b, o + i * 3 + 2, none⟩) hbn).trans q2⟩) h0

end Go.Proofs.Ytbbjklenpgkooaa

/-
  Messages have bytes of their own: what was handed in, and what is told, may be turned: 'mooringlaw10.FlightOwns' returns true and leaves its argument as it was.
  Conditions: none.
-/
import Derived.Test.YtmekbbddfmmbeaaRows
import Derived.WalkKit
import Derived.ProofKit
import Derived.OpenShut
import Derived.SizedLaws
import Derived.ShutString
import Derived.ChangeOld
import Derived.Below
import Derived.Test.YtmekbbddfmmbeaaByRows
import Derived.Test.YtmekbbddfmmbeaaFlItem
import Derived.Test.YtmekbbddfmmbeaaFlBump
namespace Go.Proofs.Ytmekbbddfmmbeaa.flightOwns
open Go.ChangeShapes Go.WideShapes Go.ChangeAt Go.RowKit By
open Fl
set_option linter.unusedVariables false
set_option linter.unusedSimpArgs false
set_option maxRecDepth 100000

theorem own : ownKnob Try.prog.godebug = none := by kernel_rfl
theorem laidOut : laidOutB Try.prog = true := by kernel_rfl

/- The flight behind a step of the law: two times the same message. -/
def St (w wr : World) (p : Nat) (n : Nat) (l : List Nat) (k : Nat) (y : Option Addr) : Prop :=
  Below w.heap.size w wr ∧ (∀ a, y = some a → w.heap.size ≤ a.block ∧ Tb wr a.block 5) ∧ ∃ mb D R m, FlAt wr w.heap.size p mb 0 D R (List.replicate k m) (fun _ _ => false) ∧ m.fr = 1 ∧ m.to = 2 ∧ m.d = l ∧ m.n = n ∧ ∀ a a', m.x = some a → y = some a' → a.block ≠ a'.block

theorem St.turn {w w0 wr : World} {p n : Nat} {l : List Nat} {k : Nat} {y : Option Addr} (h : St w w0 p n l k y) (t : Turns (atB y) w0 wr) : St w wr p n l k none := by
  obtain ⟨h1, h2, mb, D, R, m, h3, h4, h5, h6, h7, h8⟩ := h
  refine ⟨h1.trans (t.below (fun j ⟨a, e1, e2⟩ => by rw [e2]; exact (h2 a e1).1) h1.size), (fun a e => by cases e), mb, D, R, m, h3.bump t (fun a e => (h2 a e).2) (fun m' hm => ?_), h4, h5, h6, h7, fun _ _ _ e => by cases e⟩
  rw [(List.mem_replicate.1 hm).2]
  exact h8

theorem start_in (b : Option Addr) (n c : Nat) (l : List Nat) (w : World) (hl : Sl w b n c l) (hn : n ≤ 140737488351232) : Calls Try.prog 8 #[] w fun e w1 => ∃ p, e = .returned (.pointer (some ⟨p, 0, none⟩)) ∧
    ∃ g cy w2, (Builtin.append_ #[31, 31] 31 #[.slice (some ⟨w1.heap.size, 0, none⟩) 0 0, .slice b n c]).run Try.prog (w1.alloc (.cells #[] 5)) = .ok (.slice (some ⟨g, 0, none⟩) n cy) w2 ∧
    Calls Try.prog 17 #[.pointer (some ⟨p, 0, none⟩), .int .i64 1, .int .i64 2, .slice (some ⟨g, 0, none⟩) n cy] w2 fun e w3 => e = .returned (.bool true) ∧
    Calls Try.prog 16 #[.pointer (some ⟨p, 0, none⟩), .int .i64 0] w3 fun e w4 => e = .returned (.bool true) ∧ Hid (St w w4 p n l 2 (some ⟨g, 0, none⟩) ∧ Bm w4 w4 (some ⟨g, 0, none⟩) n l 0) := by
  refine (new_any w).mono fun e w1 ⟨p, mb, e1, H1⟩ => ⟨p, e1, ?_⟩
  obtain ⟨hb1, h1⟩ := H1.out
  obtain ⟨g, cy, w2, hrun, hb2, hown, hg1, hg2, hc, hrow⟩ := bytes_copy w1 b n c (gl l) (hl.below hb1).row hl.nil' (by omega)
  refine ⟨g, cy, w2, hrun, ?_⟩
  have hblk : n ≤ cy ∧ ∃ cur, w2.heap[g]? = some (.cells cur 5 (0, 0)) := by
    rcases hown.2 with ⟨h, _⟩ | ⟨g', c', cur, h, _, hg, hc, _⟩
    · cases h
    · injection h with h _ e
      injection h with h
      injection h with h _ _
      subst h
      subst e
      exact ⟨hc, cur, hg⟩
  obtain ⟨hcy, cur, hcur⟩ := hblk
  have h2 := h1.below hb2
  have hs2 : Sl w2 (some ⟨g, 0, none⟩) n cy l := ⟨hl.len, hcy, (fun e => by cases e), hrow, hl.lt⟩
  refine (post_yes h2 1 2 (wfi_small (by omega) (by omega)) (wfi_small (by omega) (by omega)) _ n cy l hs2 hn (by simp)).mono fun e w3 ⟨e3, H3⟩ => ⟨e3, ?_⟩
  obtain ⟨R3, m, h3, mf, mt, md, mn, mx, t3⟩ := H3.out
  refine (twice_yes h3 0 m rfl (by simp)).mono fun e w4 ⟨e4, H4⟩ => ⟨e4, ?_⟩
  obtain ⟨R4, h4, t4⟩ := H4.out
  have tb2 : Tb w2 g 5 := ⟨_, _, hcur⟩
  have nf : ∀ {v : World} {R : Value} {L : List MV} {S : Int → Int → Bool} {nb : Nat} {D : DataW Value}, FlAt v w.heap.size p mb nb D R L S → Tb v g 5 → ¬ fp p mb R g := fun hv tb hf => by
    rcases (hv.foot g hf).2 with q | q | q
    · have := tb.same q
      revert this
      decide
    · have := tb.same q
      revert this
      decide
    · exact tb.not_map q
  have q3 := t3.block g hg2 (nf h2 tb2)
  have tb3 := tb2.of_heap q3
  have q4 := (t4.block g tb3.lt (nf h3 tb3)).trans q3
  have b3 : Below w.heap.size w w2 := hb1.trans (hb2.mono hb1.size)
  have b4 := (b3.trans (h2.out t3 h2.bw)).trans (h3.out t4 h3.bw)
  have hcur4 := q4.trans hcur
  refine ⟨⟨b4, fun a ha => ?_, mb, _, R4, m, h4, mf, mt, md, mn, fun a a' ha ha' => ?_⟩, Bm.start (c := cy) ⟨hl.len, hcy, (fun e => by cases e), ?_, hl.lt⟩ (fun a ha => ?_)⟩
  · cases ha
    exact ⟨Nat.le_trans hb1.size hg1, tb2.of_heap q4⟩
  · cases ha'
    have := mx a ha
    show a.block ≠ g
    omega
  · refine .inr ⟨g, 0, rfl, (tb2.of_heap q4).lt, fun i hi => ?_⟩
    exact (World.cell?_of_block (a := ⟨g, 0 + i, none⟩) q4).trans (hc i hi)
  · cases ha
    exact ⟨fun j => by simp [World.frozen?, hcur4], rfl⟩

theorem look_in {w wr : World} {p n : Nat} {l : List Nat} (h : St w wr p n l 2 none) : Calls Try.prog 13 #[.pointer (some ⟨p, 0, none⟩), .int .i64 0] wr fun e w2 => ∃ y cy, e = .returned (.tuple #[.int .i64 1, .int .i64 2, .slice y n cy, .bool true]) ∧ Hid (St w w2 p n l 2 y ∧ Bm w2 w2 y n l 0) := by
  obtain ⟨h1, h2, mb, D, R, m, h3, mf, mt, md, mn, h8⟩ := h
  refine (look_yes h3 0 m rfl).mono fun e w2 ⟨y, cy, e1, H⟩ => ?_
  rw [mf, mt, mn] at e1
  obtain ⟨hb, hs, hy⟩ := H.out
  rw [mn, md] at hs
  refine ⟨y, cy, e1, ⟨h1.trans (hb.mono h1.size), fun a ha => ⟨Nat.le_trans h1.size (hy a ha).1, (hy a ha).2.1⟩, mb, D, R, m, h3.below hb, mf, mt, md, mn, fun a a' ha ha' => ?_⟩, Bm.start hs (fun a ha => (hy a ha).2.2)⟩
  have q1 := (h3.dat m (by simp)).tb a ha
  have q2 := (hy a' ha').1
  have := q1.lt
  omega

theorem deliver_one {w wr : World} {p n k : Nat} {l : List Nat} (h : St w wr p n l (k + 1) none) : Calls Try.prog 15 #[.pointer (some ⟨p, 0, none⟩), .int .i64 0] wr fun e w2 => ∃ y cy, e = .returned (.tuple #[.int .i64 1, .int .i64 2, .slice y n cy, .bool true]) ∧ Hid (St w w2 p n l k y ∧ Bm w2 w2 y n l 0 ∧ Sl w2 y n cy l) := by
  obtain ⟨h1, h2, mb, D, R, m, h3, mf, mt, md, mn, h8⟩ := h
  refine (deliver_free h3 0 m rfl rfl).mono fun e w2 ⟨y, cy, e1, H⟩ => ?_
  rw [mf, mt, mn] at e1
  obtain ⟨hs, hy, R2, h4, t4⟩ := H.out
  rw [mn, md] at hs
  have e2 : del (List.replicate (k + 1) m) 0 = List.replicate k m := by simp [del, List.replicate_succ]
  rw [e2] at h4
  refine ⟨y, cy, e1, ⟨h1.trans (h3.out t4 h3.bw), fun a ha => ⟨Nat.le_trans h1.size (hy a ha).1, (hy a ha).2.1⟩, mb, D, R2, m, h4, mf, mt, md, mn, fun a a' ha ha' => ?_⟩, Bm.start hs (fun a ha => (hy a ha).2.2), hs⟩
  have q1 := (h3.dat m (by simp)).tb a ha
  have q2 := (hy a' ha').1
  have := q1.lt
  omega

set_option maxHeartbeats 4000000 in
set_option maxRecDepth 100000 in
theorem walk (b : Option Addr) (n c : Nat) (f : Nat → Nat) (w : World) (h : BytesIn w b n c f) :
    Calls Try.prog 7 #[.slice b n c] w fun e w' => e = .returned (.bool true) ∧ Below w.heap.size w w' := by
  have hl := Sl.of_in h
  have hsm : n ≤ 140737488351232 := Nat.le_trans h.le h.small
  obtain ⟨l, hll⟩ : ∃ l, l = (List.range n).map f := ⟨_, rfl⟩
  rw [← hll] at hl
  clear hll h
  have hN := start_in b n c l w hl hsm
  have HL : Hid (Sl w b n c l) := hl
  have hnz : (n : Int) ≤ 140737488351232 := by omega
  clear hl hsm
  go_enter Try.func7, Try.ntmps7
  go_wp2_with (first
    | (go_at_call 8; refine hN.mono ?_; rintro e w1 ⟨p, rfl, g, cy, w2, hrun, hP⟩; clear hN)
    | (at_builtin; refine wpList_append_run rfl _ _ 31 rfl _ _ rfl rfl hrun ?_; clear hrun)
    | (go_at_call 17; refine hP.mono ?_; rintro e w3 ⟨rfl, hT⟩; clear hP)
    | (go_at_call 16; refine hT.mono ?_; rintro e w4 ⟨rfl, HS⟩; clear hT))
  go_loopw [5] (fun i wr => ∃ k : Nat, k ≤ n ∧ i = .int .i64 k ∧ Hid (Bm w4 wr (some ⟨g, 0, none⟩) n l k)) (fun i _ => n - (intOf i).toNat)
  case atStart => exact ⟨0, by omega, rfl, HS.out.2⟩
  case round =>
    obtain ⟨k, hk, rfl, HR⟩ := hrel
    by_cases hlt : k < n
    · have hkn : (k : Int) < (n : Int) := by omega
      obtain ⟨g', e0, c1, f1⟩ := HR.out.rest k (Nat.le_refl _) hlt
      cases e0
      have HN : Hid (∀ u, Bm w4 (wr.setCell ⟨g, k, none⟩ u) (some ⟨g, 0, none⟩) n l (k + 1)) := fun u => HR.out.step u
      clear HR HS
      generalize (gl l k : Int) = v at c1
      go_wp2_with fail
      go_roundw
      case rel => exact ⟨k + 1, by omega, by go_num, HN.out _⟩
      case measure => simp [intOf]; omega
    · obtain rfl : k = n := by omega
      have hS1 := HS.out.1.turn HR.out.turns
      have hLk := look_in hS1
      clear HR HS hS1
      go_wp2_with (go_at_call 13; refine hLk.mono ?_; rintro e w5 ⟨y, cy5, rfl, HS⟩; clear hLk)
      obtain ⟨wA, hA⟩ : ∃ wA, wA = wr := ⟨_, rfl⟩
      subst hA
      go_loopw [10] (fun i wr => ∃ j : Nat, j ≤ k ∧ i = .int .i64 j ∧ Hid (Bm w5 wr y k l j)) (fun i _ => k - (intOf i).toNat)
      case atStart => exact ⟨0, by omega, rfl, HS.out.2⟩
      case round =>
        obtain ⟨j, hj, rfl, HR⟩ := hrel
        by_cases hlt : j < k
        · have hkn : (j : Int) < (k : Int) := by omega
          obtain ⟨g', rfl, c1, f1⟩ := HR.out.rest j (Nat.le_refl _) hlt
          have HN : Hid (∀ u, Bm w5 (wr.setCell ⟨g', j, none⟩ u) (some ⟨g', 0, none⟩) k l (j + 1)) := fun u => HR.out.step u
          clear HR HS
          generalize (gl l j : Int) = v at c1
          go_wp2_with fail
          go_roundw
          case rel => exact ⟨j + 1, by omega, by go_num, HN.out _⟩
          case measure => simp [intOf]; omega
        · obtain rfl : j = k := by omega
          have hS1 := HS.out.1.turn HR.out.turns
          have hDl := deliver_one (k := 1) hS1
          clear HR HS hS1
          go_wp2_with (go_at_call 15; refine hDl.mono ?_; rintro e w6 ⟨z, cy6, rfl, HS⟩; clear hDl)
          obtain ⟨wB, hB⟩ : ∃ wB, wB = wr := ⟨_, rfl⟩
          subst hB
          go_loopw [15] (fun i wr => ∃ q : Nat, q ≤ j ∧ i = .int .i64 q ∧ Hid (Bm w6 wr z j l q)) (fun i _ => j - (intOf i).toNat)
          case atStart => exact ⟨0, by omega, rfl, HS.out.2.1⟩
          case round =>
            obtain ⟨q, hq, rfl, HR⟩ := hrel
            by_cases hlt : q < j
            · have hkn : (q : Int) < (j : Int) := by omega
              obtain ⟨g', rfl, c1, f1⟩ := HR.out.rest q (Nat.le_refl _) hlt
              have HN : Hid (∀ u, Bm w6 (wr.setCell ⟨g', q, none⟩ u) (some ⟨g', 0, none⟩) j l (q + 1)) := fun u => HR.out.step u
              have hbw : Below w.heap.size w wr := (HS.out.1.turn HR.out.turns).1
              rcases (HL.out.below hbw).row with h0 | ⟨bb, bo, rfl, _, hc⟩
              · omega
              have c2 := hc q hlt
              have d1 : wr.drew.cell? ⟨g', q, none⟩ = some (.int .u8 (gl l q : Int)) := c1
              have d2 : wr.drew.cell? ⟨bb, bo + q, none⟩ = some (.int .u8 (gl l q : Int)) := c2
              clear HR HS hbw hc
              generalize (gl l q : Int) = v at c1 c2 d1 d2
              go_wp2_with fail
              refine wp_region_held_drew (S := fun u => u.cell? ⟨g', q, none⟩ = some (.int .u8 v) ∧ u.cell? ⟨bb, bo + q, none⟩ = some (.int .u8 v)) (by kernel_rfl) ⟨d1, d2⟩ (fun hHeld => ?_)
              refine wpAnyH_take (i := 0) (v := ?_) rfl (by kernel_rfl) (by kernel_rfl) (by kernel_rfl) (fun _ _ _ h => h) (Or.inl ⟨by rfl, ?_⟩) (by assumption) ?_
              case refine_2 => (intro w hSw; (try dsimp only at hSw); go_simp; (try with_reducible rfl))
              (try simp only [Act.put, List.getElem_toArray, List.getElem_cons_succ, List.getElem_cons_zero, List.setIfInBounds_toArray, List.set_cons_zero, List.set_cons_succ])
              refine wpAnyH_take (i := 1) (v := ?_) rfl (by kernel_rfl) (by kernel_rfl) (by kernel_rfl) (fun _ _ _ h => h) (Or.inl ⟨by rfl, ?_⟩) (by assumption) ?_
              case refine_2 => (intro w hSw; (try dsimp only at hSw); go_simp; (try with_reducible rfl))
              (try simp only [Act.put, List.getElem_toArray, List.getElem_cons_succ, List.getElem_cons_zero, List.setIfInBounds_toArray, List.set_cons_zero, List.set_cons_succ])
              refine wpAnyH_take (i := 2) (v := ?_) rfl (by kernel_rfl) (by kernel_rfl) (by kernel_rfl) (fun _ _ _ h => h) (Or.inl ⟨by rfl, ?_⟩) (by assumption) ?_
              case refine_2 => (intro w hSw; (try dsimp only at hSw); go_simp; (try with_reducible rfl))
              (try simp only [Act.put, List.getElem_toArray, List.getElem_cons_succ, List.getElem_cons_zero, List.setIfInBounds_toArray, List.set_cons_zero, List.set_cons_succ])
              refine wpAnyH_take (i := 3) (v := ?_) rfl (by kernel_rfl) (by kernel_rfl) (by kernel_rfl) (fun _ _ _ h => h) (Or.inl ⟨by rfl, ?_⟩) (by assumption) ?_
              case refine_2 => (intro w hSw; (try dsimp only at hSw); go_simp; (try with_reducible rfl))
              (try simp only [Act.put, List.getElem_toArray, List.getElem_cons_succ, List.getElem_cons_zero, List.setIfInBounds_toArray, List.set_cons_zero, List.set_cons_succ])
              refine wpAnyH_take (i := 4) (v := ?_) rfl (by kernel_rfl) (by kernel_rfl) (by kernel_rfl) (fun _ _ _ h => h) (Or.inl ⟨by rfl, ?_⟩) (by assumption) ?_
              case refine_2 => (intro w hSw; (try dsimp only at hSw); go_simp; (try with_reducible rfl))
              (try simp only [Act.put, List.getElem_toArray, List.getElem_cons_succ, List.getElem_cons_zero, List.setIfInBounds_toArray, List.set_cons_zero, List.set_cons_succ])
              refine wpAnyH_take (i := 5) (v := ?_) rfl (by kernel_rfl) (by kernel_rfl) (by kernel_rfl) (fun _ _ _ h => h) (Or.inl ⟨by rfl, ?_⟩) (by assumption) ?_
              case refine_2 => (intro w hSw; (try dsimp only at hSw); go_simp; (try with_reducible rfl))
              (try simp only [Act.put, List.getElem_toArray, List.getElem_cons_succ, List.getElem_cons_zero, List.setIfInBounds_toArray, List.set_cons_zero, List.set_cons_succ])
              refine wpAnyH_take (i := 6) (v := ?_) rfl (by kernel_rfl) (by kernel_rfl) (by kernel_rfl) (fun _ _ _ h => h) (Or.inl ⟨by rfl, ?_⟩) (by assumption) ?_
              case refine_2 => (intro w hSw; (try dsimp only at hSw); go_simp; (try with_reducible rfl))
              (try simp only [Act.put, List.getElem_toArray, List.getElem_cons_succ, List.getElem_cons_zero, List.setIfInBounds_toArray, List.set_cons_zero, List.set_cons_succ])
              refine wpAnyH_take (i := 7) (v := ?_) rfl (by kernel_rfl) (by kernel_rfl) (by kernel_rfl) (fun _ _ _ h => h) (Or.inl ⟨by rfl, ?_⟩) (by assumption) ?_
              case refine_2 => (intro w hSw; (try dsimp only at hSw); go_simp; (try with_reducible rfl))
              (try simp only [Act.put, List.getElem_toArray, List.getElem_cons_succ, List.getElem_cons_zero, List.setIfInBounds_toArray, List.set_cons_zero, List.set_cons_succ])
              refine wpAnyH_take (i := 8) (v := ?_) rfl (by kernel_rfl) (by kernel_rfl) (by kernel_rfl) (fun _ _ _ h => h) (Or.inl ⟨by rfl, ?_⟩) (by assumption) ?_
              case refine_2 => (intro w hSw; (try dsimp only at hSw); go_simp; (try with_reducible rfl))
              (try simp only [Act.put, List.getElem_toArray, List.getElem_cons_succ, List.getElem_cons_zero, List.setIfInBounds_toArray, List.set_cons_zero, List.set_cons_succ])
              refine wpAnyH_done (by kernel_rfl) ?_ _
              go_wp2_with fail
              go_roundw
              case rel => exact ⟨q + 1, by omega, by go_num, (HN.out _).drew⟩
              case measure => simp [intOf]; omega
            · obtain rfl : q = j := by omega
              have hS1 := HS.out.1.turn HR.out.turns
              have hD2 : Calls Try.prog 15 #[.pointer (some ⟨p, 0, none⟩), .int .i64 0] wr fun e w2 => ∃ y cy, e = .returned (.tuple #[.int .i64 1, .int .i64 2, .slice y q cy, .bool true]) ∧ (convert 31 9 (.slice y q cy)).run Try.prog w2 = .ok (.string (str l)) w2 ∧ (convert 31 9 (.slice b q c)).run Try.prog w2 = .ok (.string (str l)) w2 ∧
                  Calls Try.prog 14 #[] w2 fun e w3 => e = .returned (.bool true) ∧ Hid (Below w.heap.size w w3) := by
                refine (deliver_one (k := 0) hS1).mono fun e w2 ⟨y, cy, e1, H⟩ => ⟨y, cy, e1, conv_sl H.out.2.2, conv_sl (HL.out.below H.out.1.1), ?_⟩
                have hb2 := H.out.1.1
                exact (awake_any w2).mono fun e w3 ⟨e3, b3⟩ => ⟨e3, hb2.trans (b3.mono hb2.size)⟩
              clear HR HS hS1
              generalize str l = Z at hD2
              go_wp2_with (first
                | (go_at_call 15; refine hD2.mono ?_; rintro e w7 ⟨z7, cy7, rfl, v1, v2, hA⟩; clear hD2)
                | (go_at_call 14; refine hA.mono ?_; rintro e w8 ⟨rfl, HN⟩; clear hA))
              go_ret
              exact ⟨rfl, HN.out⟩

set_option maxRecDepth 100000 in
theorem lifted (os : Os) (started : os.Started) (H : Type) (enc : TypeId × Value → H) :
    ReturnsInHanded {} Try.checked os 7 .any (Rows.flightOwnsSpec.pre6 enc Try.prog Try.f7 Rows.flightOwnsRow.domain false) (Rows.flightOwnsSpec.post enc Try.prog Try.f7 false true false false) := by
  refine returnsInHanded_of_change_sized (C := Try.checked) own started (by kernel_rfl) Try.func7
    (ChangeSpec.witness6 (enc := enc) (C := Try.checked) false ⟨#[], #[.slice none 0 0], []⟩ 8 (by kernel_rfl) (by kernel_rfl) (by kernel_rfl) (by kernel_rfl)) ?_
  intro W base args ds gs before hval0 hW hcnd hsz0 _
  have hsz : (DataW.weightsEach Try.prog (Try.f7.params.toList ++ Rows.flightOwnsSpec.plain.varTypes Try.prog) (ds ++ gs)).all (· ≤ reachBytes) = true := hsz0
  have hval : ∀ (j : Nat) t v, Try.f7.params[j]? = some t → args[j]? = some v → Value.okWide Try.prog W .any base t v := hval0
  have hW' := hW
  obtain ⟨p, q, hA0, hV, rfl, hfz, hnd⟩ := hW
  have hA : DataW.TrodAll enc Try.prog W 0 (fun _ => true) true Try.f7.params.toList args.toList ds p := hA0
  rw [Try.params7] at hA hval hsz
  obtain ⟨v0, vs0, d0, ds0, p0, q0, hargs, rfl, rfl, h0, r0⟩ := trodAll_cons hA
  obtain ⟨rfl, rfl, rfl⟩ := trodAll_nil r0
  obtain rfl : args = #[v0] := by cases args; simp_all
  obtain ⟨rfl, rfl⟩ := trodVars_none hV
  have k0 := h0
  have lt0 : ∀ x ∈ p0, x.block < W.heap.size := by obtain ⟨m, hm⟩ := k0; exact DataW.trod_lt m _ _ _ hm
  have s0 : ∀ x ∈ d0.weights Try.prog 31, x ≤ reachBytes := fun x hx => by
    have := List.all_eq_true.1 hsz x (DataW.weights_mem_each (j := 0) rfl rfl x hx)
    simpa using this
  obtain ⟨b0, nn0, cc0, rfl⟩ := okWide_slice Try.underlying31 (hval 0 31 v0 rfl rfl)
  obtain ⟨fu0, hf0⟩ := h0
  obtain ⟨a0, len0, cap0, f0, e0, w0⟩ := bytes_in hf0 s0
  simp [Value.cells] at e0
  obtain ⟨rfl, rfl, rfl⟩ := e0
  clear hA0 hval0
  refine (walk b0 nn0 cc0 f0 W w0).mono fun e W' ⟨he, bel⟩ => ?_
  subst he
  exact ⟨_, rfl, _, _, _, [], _, [], hW', trodAll_mk1 (shut_bool Try.underlying4 _), (trodAll_cons_mk (Below.trod laidOut (by kernel_rfl) (of_decide_eq_true (by kernel_rfl)) k0 bel lt0) trodAll_mk0), rfl, bel.frame _, fun h => by cases h⟩

theorem over : Rows.flightOwnsRow.holds Try.pinned (OpenSpec.ofChange Rows.flightOwnsSpec) :=
  OpenClaim.holds_of_wide 7 Try.f7 rfl rfl rfl rfl rfl rfl rfl ⟨rfl, rfl, rfl, rfl, rfl⟩ rfl rfl rfl rfl rfl (by kernel_rfl) Try.func7 (by kernel_rfl)
    (of_decide_eq_true (by kernel_rfl)) (by unfold Func.isWrapper; first | (rw [if_pos (by decide +kernel)]; kernel_rfl) | (rw [if_neg (by decide +kernel)]; exact ⟨rfl, rfl⟩))
    (fun os started H enc _ => lifted os started H enc)

theorem proved : Rows.FlightOwnsSaid := over
#print axioms proved
end Go.Proofs.Ytmekbbddfmmbeaa.flightOwns

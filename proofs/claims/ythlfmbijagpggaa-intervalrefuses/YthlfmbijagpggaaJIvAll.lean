/-
  2 texts of this proof, one behind the other: IvAll, IvAwake.
-/
import Derived.Test.YthlfmbijagpggaaJIvColl
import Derived.Test.YthlfmbijagpggaaJIvEqual
/-
  Package interval: All.
  Conditions: the row of maps lies in memory.
-/
namespace Go.Proofs.Ythlfmbijagpggaa.Iv
open Go.RowKit By Fl At Cr Pl
set_option linter.unusedVariables false
set_option linter.unusedSimpArgs false
set_option maxRecDepth 100000

/- A list of intervals of one's own that tells T. -/
def SpsAt (w w' : World) (T : List Span) (x : Option Addr) (n c : Nat) : Prop := CollSays w w' T x n c

theorem ownBase {w : World} {B B0 : Nat} {R : Value} {L : List SpV} (h : Fl.Own w B 25 6 enS R L) (hb : B0 ≤ B) : Fl.Own w B0 25 6 enS R L := by
  refine ⟨h.1, ?_⟩
  rcases h.2 with q | ⟨g, cap, cur, h0, h1, h2⟩
  · exact .inl q
  · exact .inr ⟨g, cap, cur, h0, by omega, h2⟩

def AllSays (w : World) (ms : List Mp) (pg : Int) (e : Ending) (w' : World) : Prop :=
  (okM ms pg = false ∧ e = .returned (.tuple #[.slice none 0 0, .int .i64 1]) ∧ Below w.heap.size w w') ∨ (okM ms pg = true ∧ ∃ x n c, e = .returned (.tuple #[.slice x n c, .int .i64 0]) ∧ CollSays w w' (ivs ms pg) x n c)

/- What backward gives at the world behind its making. -/
theorem back_at {w : World} {x : Option Addr} {n c : Nat} {L : List MV} {pg : Int} (h : Ms w x n c L) (hok : okM (L.map MV.m) pg = true) {w1 : World} (hb : Below w.heap.size w w1) :
    Gives 8 18 #[.pointer (some ⟨w1.heap.size, 0, none⟩), .pointer (some ⟨w1.heap.size + 1, 0, none⟩)] (bks (L.map MV.m) pg).length (OkS (bks (L.map MV.m) pg)) (fun k => k < w.heap.size ∨ k = w1.heap.size ∨ k = w1.heap.size + 1) ((w1.alloc (.cells #[.slice x n c] 22)).alloc (.cells #[.int .i64 pg] 3)) := by
  obtain ⟨W, hW⟩ : ∃ W, W = (w1.alloc (.cells #[.slice x n c] 22)).alloc (.cells #[.int .i64 pg] 3) := ⟨_, rfl⟩
  have b1 : Below w.heap.size w W := by rw [hW]; exact on hb (on (al _ _) (al _ _))
  have c1 : W.cell? ⟨w1.heap.size, 0, none⟩ = some (.slice x n c) := by rw [hW]; go_simp
  have c2 : W.cell? ⟨w1.heap.size + 1, 0, none⟩ = some (.int .i64 pg) := by rw [hW]; go_simp
  rw [← hW]
  have hR := rw_of hok
  have hl := h.len
  have hne := hR.ne
  have hle := hR.le
  rw [List.length_map] at hle
  refine back_gives (x := x) (n := n) (c := c) _ _ (fun W' t => ?_) ?_ (by omega)
  · have hbw : Below w.heap.size w W' := b1.trans ⟨t.os, t.tape, t.output, t.size, fun k hk => t.block k (Nat.lt_of_lt_of_le hk b1.size) (fun e => e (.inl hk))⟩
    refine ⟨h.below hbw, (World.cell?_of_block (a := ⟨w1.heap.size, 0, none⟩) (t.block _ (cell_lt' c1) (fun e => e (.inr (.inl rfl))))).trans c1, (World.cell?_of_block (a := ⟨w1.heap.size + 1, 0, none⟩) (t.block _ (cell_lt' c2) (fun e => e (.inr (.inr rfl))))).trans c2⟩
  · cases L with
    | nil => exact absurd rfl hne
    | cons a t => rw [List.length_cons] at hl; omega

set_option maxHeartbeats 1600000 in
theorem all_any {w : World} {x : Option Addr} {n c : Nat} {L : List MV} (h : Ms w x n c L) (pg : Int) :
    Calls Try.prog 6 #[.slice x n c, .int .i64 pg] w fun e w' => AllSays w (L.map MV.m) pg e w' := by
  have cM := mapsmay_any h pg
  unfold AllSays
  cases hok : okM (L.map MV.m) pg with
  | false =>
    rw [hok] at cM
    clear h hok
    go_enter Try.func6, Try.ntmps6
    go_wp2_with (go_at_call 12; refine cM.mono ?_; rintro e w1 ⟨rfl, hb1⟩; clear cM)
    refine bodyPost_ret (results_tmp2 rfl _ _ _) rfl ?_
    exact .inl ⟨trivial, rfl, hb1⟩
  | true =>
    rw [hok] at cM
    have HB : Hid (∀ w1, Below w.heap.size w w1 → Calls Try.prog 13 #[.func (.func 18) #[] #[.pointer (some ⟨w1.heap.size, 0, none⟩), .pointer (some ⟨w1.heap.size + 1, 0, none⟩)]] ((w1.alloc (.cells #[.slice x n c] 22)).alloc (.cells #[.int .i64 pg] 3)) fun e w' => ∃ x' n' c', e = .returned (.slice x' n' c') ∧ Hid (CollSays ((w1.alloc (.cells #[.slice x n c] 22)).alloc (.cells #[.int .i64 pg] 3)) w' (bks (L.map MV.m) pg) x' n' c')) := fun w1 hb => by
      have hR := rw_of hok
      have hle := hR.le
      refine collect_any (back_at h hok hb) (Nat.le_trans (bks_len _ _) hle) (fun k hk => ?_) (enters_of Try.func18 (by kernel_rfl) rfl)
      have z := hb.size
      rcases hk with hk | rfl | rfl
      · simp; omega
      · simp; omega
      · simp
    have hlen : (bks (L.map MV.m) pg).length ≤ 5000 := by
      have := bks_len (L.map MV.m) pg
      have := (rw_of hok).le
      omega
    have hrev : (bks (L.map MV.m) pg).reverse = ivs (L.map MV.m) pg := by unfold bks; rw [List.reverse_reverse]
    have HV := hid (And.intro hlen hrev)
    clear h hok hlen hrev
    generalize bks (L.map MV.m) pg = TT at *
    generalize ivs (L.map MV.m) pg = TI at *
    go_enter Try.func6, Try.ntmps6
    go_wp2_with (first
      | (go_at_call 12; refine cM.mono ?_; rintro e w1 ⟨rfl, hb1⟩; clear cM; have cB := back_make x n c pg w1; have cC := HB.out w1 hb1)
      | (go_at_call 14; refine cB.mono ?_; rintro e w' ⟨rfl, hw'⟩; subst w'; clear cB)
      | (go_at_call 13; refine cC.mono ?_; rintro e w3 ⟨x3, n3, c3, rfl, H3⟩; clear cC
         have cR : Calls Try.prog 15 #[.slice x3 n3 c3] w3 fun e w' => (∃ v, e = .returned v) ∧ Hid (CollSays w w' TI x3 n3 c3) := by
           obtain ⟨LS, q1, q2, q3, q4⟩ := H3.out
           have hl : LS.length ≤ 5000 := by
             have := congrArg List.length q3
             rw [List.length_map] at this
             have := HV.out.1
             omega
           refine (reverse_any q2 hl).mono ?_
           rintro e w' ⟨he, HQ⟩
           obtain ⟨r1, r2⟩ := HQ.out
           have bq : Below w.heap.size w w3 := hb1.trans (((al _ _).trans ((al _ _).mono (by simp))).mono hb1.size |>.trans (q1.mono (by simp; have := hb1.size; omega)))
           refine ⟨he, LS.reverse, bq.trans (r2.below (fun k hk => by have := (q2.tb hk).1; simp at this; have := hb1.size; omega) bq.size), ?_, ?_, fun v hv => ?_⟩
           · exact ownBase r1 (by simp; have := hb1.size; omega)
           · rw [List.map_reverse, q3, HV.out.2]
           · obtain ⟨s1, s2⟩ := q4 v (List.mem_reverse.1 hv)
             exact ⟨s1.turns r2 (fun k hk e => s2 k hk e), s2⟩)
      | (go_at_call 15; refine cR.mono ?_; rintro e w4 ⟨⟨vv, rfl⟩, H4⟩; clear cR))
    refine bodyPost_ret (results_tmp2 rfl _ _ _) rfl ?_
    exact .inr ⟨trivial, _, _, _, rfl, H4.out⟩

end Go.Proofs.Ythlfmbijagpggaa.Iv

/-
  The statements' own test of package interval.
  Conditions: none.
-/
namespace Go.Proofs.Ythlfmbijagpggaa.Iv
open Go.RowKit By Fl At Cr Pl
set_option linter.unusedVariables false
set_option linter.unusedSimpArgs false
set_option maxRecDepth 100000

def o9 : Osd := ⟨7, true, true, 5, 3, 1, 0, 0⟩
def m9 : Mp := ⟨0, ⟨1, 1, 1, 0⟩, [o9]⟩
theorem m9_fine : Fine m9 0 := fine_of (by decide) (by decide) (by decide)
theorem m9_up : upL m9 0 = [7, -1] := by
  rw [m9_fine.eq]
  exact chs_one _ _ o9 (by decide) (by decide)
theorem m9_act : actL m9 0 = [7, -1] := by
  unfold actL
  rw [m9_up]
  rfl
theorem m9_lives : (actL m9 0).map (lf m9.osds) = [3, 0] := by
  rw [m9_act]
  rfl
theorem m9_ok : okM [m9] 0 = true := by decide
theorem m9_ivs : ivs [m9] 0 = [mom m9 0] := rfl
theorem m9_mom : (mom m9 0).ac = [7, -1] ∧ (mom m9 0).lv = [3, 0] := ⟨m9_act, m9_lives⟩

set_option maxHeartbeats 3200000 in
theorem awake_any (w : World) : Calls Try.prog 5 #[] w fun e w' => e = .returned (.bool true) ∧ Below w.heap.size w w' := by
  obtain ⟨w0, hw0⟩ : ∃ w0, w0 = ((w.alloc (.cells #[.int .i64 7, .bool true, .bool true, .int .i64 5, .int .i64 3, .int .i64 1, .int .i64 0, .int .i64 0] 45)).alloc (.cells #[.int .i64 0, .int .i64 1, .int .i64 1, .int .i64 1, .int .i64 0, .slice (some ⟨w.heap.size, 0, none⟩) 1 1] 32)).alloc (.cells #[.int .i64 0, .int .i64 1, .int .i64 1, .int .i64 1, .int .i64 0, .slice (some ⟨w.heap.size, 0, none⟩) 1 1] 32) := ⟨_, rfl⟩
  have b0 : Below w.heap.size w w0 := by rw [hw0]; exact on (al _ _) (on (al _ _) (al _ _))
  have hz : w0.heap.size = w.heap.size + 3 := by rw [hw0]; simp
  have ho : w0.heap[w.heap.size]? = some (.cells #[.int .i64 7, .bool true, .bool true, .int .i64 5, .int .i64 3, .int .i64 1, .int .i64 0, .int .i64 0] 45 (0, 0)) := by
    rw [hw0]
    exact (Below.heap_alloc _ _ _ (by simp; omega)).trans ((Below.heap_alloc _ _ _ (by simp)).trans (heap_alloc_new w _))
  have hm : w0.heap[w.heap.size + 2]? = some (.cells #[.int .i64 0, .int .i64 1, .int .i64 1, .int .i64 1, .int .i64 0, .slice (some ⟨w.heap.size, 0, none⟩) 1 1] 32 (0, 0)) := by
    rw [hw0]
    have := heap_alloc_new ((w.alloc (.cells #[.int .i64 7, .bool true, .bool true, .int .i64 5, .int .i64 3, .int .i64 1, .int .i64 0, .int .i64 0] 45)).alloc (.cells #[.int .i64 0, .int .i64 1, .int .i64 1, .int .i64 1, .int .i64 0, .slice (some ⟨w.heap.size, 0, none⟩) 1 1] 32)) (.cells #[.int .i64 0, .int .i64 1, .int .i64 1, .int .i64 1, .int .i64 0, .slice (some ⟨w.heap.size, 0, none⟩) 1 1] 32)
    rw [World.size_alloc, World.size_alloc] at this
    exact this
  have hO : At.Os w0 (some ⟨w.heap.size, 0, none⟩) 1 1 m9.osds := by
    refine ⟨rfl, Nat.le_refl _, by omega, (fun e => by cases e), .inr ⟨_, _, rfl, by omega, fun k a hk j v hv => ?_⟩⟩
    match k, hk with
    | 0, hk =>
      injection hk with hk
      subst hk
      rw [Nat.zero_mul, Nat.zero_add]
      exact cell_heap ho (by simpa [enO, o9] using hv)
    | k + 1, hk => simp [m9] at hk
  have hM : Ms w0 (some ⟨w.heap.size + 2, 0, none⟩) 1 1 [⟨m9, some ⟨w.heap.size, 0, none⟩, 1, 1⟩] := by
    refine ⟨rfl, Nat.le_refl _, (fun e => by cases e), .inr ⟨_, _, rfl, by omega, fun k v hk j u hu => ?_⟩, fun k v hk => ?_⟩
    · match k, hk with
      | 0, hk =>
        injection hk with hk
        subst hk
        rw [Nat.zero_mul, Nat.zero_add]
        exact cell_heap hm (by simpa [enM, m9] using hu)
      | k + 1, hk => simp at hk
    · match k, hk with
      | 0, hk =>
        injection hk with hk
        subst hk
        exact ⟨hO, by show (1 : Int) ≤ 9223372036854775807; omega⟩
      | k + 1, hk => simp at hk
  have cA : Calls Try.prog 6 #[.slice (some ⟨w.heap.size + 2, 0, none⟩) 1 1, .int .i64 0] w0 fun e w' => ∃ (g c : Nat) (v : SpV), e = .returned (.tuple #[.slice (some ⟨g, 0, none⟩) 1 c, .int .i64 0]) ∧ Hid (Below w0.heap.size w0 w' ∧ v.s = mom m9 0 ∧ SpAt w' v) ∧ w'.cell? ⟨g, 0, none⟩ = some (.int .i64 v.s.fr) ∧ w'.cell? ⟨g, 1, none⟩ = some (.int .i64 v.s.til) ∧ w'.cell? ⟨g, 2, none⟩ = some (.slice v.x1 v.n1 v.c1) ∧ w'.cell? ⟨g, 3, none⟩ = some (.slice v.x2 v.n2 v.c2) ∧ w'.cell? ⟨g, 4, none⟩ = some (.slice v.x3 v.n3 v.c3) ∧ w'.cell? ⟨g, 5, none⟩ = some (.int .i64 (prm v.s.ac)) := by
    refine (all_any hM 0).mono ?_
    rintro e w' h
    rcases h with ⟨h1, _⟩ | ⟨_, x, n, c, he, LS, q1, q2, q3, q4⟩
    · have := m9_ok
      rw [List.map_cons, List.map_nil] at h1
      rw [h1] at this
      cases this
    · rw [List.map_cons, List.map_nil, m9_ivs] at q3
      have hl1 : LS.length = 1 := by
        have := congrArg List.length q3
        rw [List.length_map] at this
        exact this
      obtain ⟨v, hv⟩ := List.length_eq_one_iff.1 hl1
      subst hv
      rw [List.map_cons, List.map_nil] at q3
      injection q3 with q3
      have hn := form_slice q2
      obtain ⟨g, c6, e6, _, _, _, _⟩ := q2.there (by simp)
      injection e6 with e61 e62 e63
      subst e61
      have hn1 : n = 1 := hn.symm
      subst hn1
      obtain ⟨a0, a1, a2, a3, a4, a5⟩ := cells6 q2 (k := 0) (u := v) rfl
      rw [Nat.zero_mul] at a0 a1 a2 a3 a4 a5
      rw [Nat.zero_add] at a1 a2 a3 a4 a5
      exact ⟨g, c, v, he, ⟨q1, q3, (q4 v (by simp)).1⟩, a0, a1, a2, a3, a4, a5⟩
  have HB := hid b0
  have HW := hid hw0
  rw [hw0] at cA
  clear b0 hw0 hz ho hm hO hM
  go_enter Try.func5, Try.ntmps5
  go_wp2_with (first
    | (go_at_call 6
       refine cA.mono ?_
       rintro e w1 ⟨g, c, v, rfl, H1, a0, a1, a2, a3, a4, a5⟩
       clear cA
       rw [← HW.out] at H1
       obtain ⟨f1, f2, f3⟩ := H1.out
       have cE := enough_any (x2 := v.x2) (x3 := v.x3) (n2 := v.n2) (c2 := v.c2) (n3 := v.n3) (c3 := v.c3) f3.a (by have := f3.sm; omega) v.s.fr v.s.til (prm v.s.ac) 1
       rw [show decide ((1 : Int) ≤ (nh v.s.ac : Int)) = true by rw [f2, m9_mom.1]; decide] at cE
       have HS := hid (And.intro f2 f3)
       have hb1 := f1
       clear f1 f2 f3 H1)
    | (go_at_call 7
       refine cE.mono ?_
       rintro e w2 ⟨rfl, hb2⟩
       clear cE
       have d0 := keep hb2 a0
       have d1 := keep hb2 a1
       have d2 := keep hb2 a2
       have d3 := keep hb2 a3
       have d4 := keep hb2 a4
       have d5 := keep hb2 a5
       clear a0 a1 a2 a3 a4 a5
       have s2 := HS.out.2.below hb2
       have cP := place_any (x3 := v.x3) (n3 := v.n3) (c3 := v.c3) s2.a s2.l (by have := s2.sm; omega) (by have := s2.sm; omega) v.s.fr v.s.til (prm v.s.ac) 7 3
       rw [show plc v.s.ac v.s.lv 7 3 = 0 by rw [HS.out.1, m9_mom.1, m9_mom.2]; decide] at cP
       clear s2)
    | (go_at_call 8
       refine cP.mono ?_
       rintro e w3 ⟨rfl, hb3⟩
       clear cP
       have i0 := keep hb3 d0
       have i1 := keep hb3 d1
       have i2 := keep hb3 d2
       have i3 := keep hb3 d3
       have i4 := keep hb3 d4
       have i5 := keep hb3 d5
       clear d0 d1 d2 d3 d4 d5
       have s3 := HS.out.2.below (on hb2 hb3)
       have cQ := place_any (x3 := v.x3) (n3 := v.n3) (c3 := v.c3) s3.a s3.l (by have := s3.sm; omega) (by have := s3.sm; omega) v.s.fr v.s.til (prm v.s.ac) 7 4
       rw [show plc v.s.ac v.s.lv 7 4 = -1 by rw [HS.out.1, m9_mom.1, m9_mom.2]; decide] at cQ
       clear s3)
    | (go_at_call 8; refine cQ.mono ?_; rintro e w4 ⟨rfl, hb4⟩; clear cQ))
  go_ret
  exact ⟨rfl, on HB.out (on hb1 (on hb2 (on hb3 hb4)))⟩

end Go.Proofs.Ythlfmbijagpggaa.Iv

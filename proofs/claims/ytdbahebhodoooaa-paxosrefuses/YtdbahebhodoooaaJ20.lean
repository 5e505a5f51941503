/-
  3 texts of this proof, one behind the other: PxBound, PxRecv2, PxAt.
-/
import Derived.Test.YtdbahebhodoooaaJ12
import Derived.Test.YtdbahebhodoooaaJ18
import Derived.Test.YtdbahebhodoooaaJ19
import Derived.Test.YtdbahebhodoooaaJ09
import Derived.Deep.OwnRows
/-
  What a message that was read can be.
  Conditions: none.
-/
namespace Go.Proofs.Ytdbahebhodoooaa.Px
open Go.RowKit Wi By Fl Ba
set_option linter.unusedVariables false
set_option linter.unusedSimpArgs false
set_option maxRecDepth 100000

structure MB (m : Ms) : Prop where
  kind : m.kind ≤ 5
  num : m.num ≤ 2147483647
  known : m.known ≤ 2147483647
  dl : m.decs.length ≤ 64
  dok : ∀ d ∈ m.decs, DOk d
  pok : BOk m.st.p
  pwf : bwf m.st.p
  aok : BOk m.st.a
  awf : bwf m.st.a
  len : m.st.d.length ≤ 4104

theorem rNum_n (n : Nat) (h : n ≤ 7) (l : List Nat) (e : Nat) : (rNum ((n : Int) - 1) l e).1 ≤ 6 := by
  have := rNum_le ((n : Int) - 1) l e
  omega

theorem rDc_ok (n : Nat) (h : n ≤ 7) (l : List Nat) (e : Nat) : DOk (rDc n l e).1 := by
  unfold rDc
  refine ⟨?_, ?_, ?_⟩
  · exact Nat.lt_of_le_of_lt (rNum_n n h l e) (by decide)
  · exact Nat.lt_of_le_of_lt (rNum_b 2147483647 _ _) (by decide)
  · show (str _).size ≤ 4096
    rw [str_size]
    exact rBy_len 4096 _ _

theorem rDcs_okd (n : Nat) (h : n ≤ 7) : ∀ (k : Nat) (l : List Nat) (e : Nat), ∀ d ∈ (rDcs n k l e).1, DOk d
  | 0, l, e, d, hd => by cases hd
  | k + 1, l, e, d, hd => by
    unfold rDcs at hd
    split at hd
    · rcases List.mem_cons.1 hd with rfl | hd
      · exact rDc_ok n h _ _
      · exact rDcs_okd n h k _ _ d hd
    · cases hd

theorem bok_of {a b : Nat} (ha : a ≤ 2147483647) (hb : b ≤ 6) : BOk ((a : Int), (b : Int)) ∧ bwf ((a : Int), (b : Int)) :=
  ⟨⟨by show (0 : Int) ≤ a; omega, by show (a : Int) < _; omega, by show (0 : Int) ≤ b; omega, by show (b : Int) < _; omega⟩, wfi_all (a := (a : Int)) (by omega) (by omega), wfi_all (a := (b : Int)) (by omega) (by omega)⟩

theorem rBal_ok (n : Nat) (h : n ≤ 7) (l : List Nat) (e : Nat) : BOk (rBal n l e).1 ∧ bwf (rBal n l e).1 := bok_of (rNum_b 2147483647 _ _) (rNum_n n h _ _)

theorem z0_ok : BOk z0 ∧ bwf z0 := bok_of (a := 0) (b := 0) (by omega) (by omega)

theorem rRest_mb (n : Nat) (h : n ≤ 7) (k u : Nat) (hk : k ≤ 5) (hu : u ≤ 2147483647) (l : List Nat) (e : Nat) : MB (rRest n k u l e).1 := by
  unfold rRest
  split
  · exact ⟨hk, hu, by show 0 ≤ _; omega, by show 0 ≤ _; omega, (fun d hd => by cases hd), z0_ok.1, z0_ok.2, z0_ok.1, z0_ok.2, by show 0 ≤ _; omega⟩
  · split
    · refine ⟨hk, hu, rNum_b 2147483647 _ _, ?_, rDcs_okd n h _ _ _, z0_ok.1, z0_ok.2, z0_ok.1, z0_ok.2, by show 0 ≤ _; omega⟩
      have h1 := rDcs_len n (told u (rNum 2147483647 l e).1).toNat (rNum 2147483647 l e).2.1 (rNum 2147483647 l e).2.2
      have h6 : told u (rNum 2147483647 l e).1 ≤ 64 := by unfold told; omega
      show (rDcs n _ _ _).1.length ≤ 64
      omega
    · exact ⟨hk, hu, by show 0 ≤ _; omega, by show 0 ≤ _; omega, (fun d hd => by cases hd), (rBal_ok n h _ _).1, (rBal_ok n h _ _).2, (rBal_ok n h _ _).1, (rBal_ok n h _ _).2, rBy_len 4104 _ _⟩

theorem decM_mb {n fr : Nat} (h : n ≤ 7) {l : List Nat} {m : Ms} (hm : decM n fr l = some m) : MB m ∧ mayM m fr n = true := by
  unfold decM at hm
  split at hm
  · rename_i q
    injection hm with hm
    rw [← hm]
    exact ⟨rRest_mb n h _ _ (rNum_b 5 _ _) (rNum_b 2147483647 _ _) _ _, q.2.2.2⟩
  · cases hm

end Go.Proofs.Ytdbahebhodoooaa.Px

/-
  Receive of a new monitor, whatever is sent to it.
  Conditions: the monitor is one that New gave ('NdAt'), and is new.
-/
namespace Go.Proofs.Ytdbahebhodoooaa.Px
open Go.RowKit Wi By Fl Ba
set_option linter.unusedVariables false
set_option linter.unusedSimpArgs false
set_option maxRecDepth 100000

section
variable {w : World} {B : Nat} {g : Ln} {st : Nd}

theorem recv_neg (h : NdAt w B g st) (fr : Int) (hf : fr < 0) (v : Value) : Calls Try.prog 22 #[.pointer (some ⟨g.p, 0, none⟩), .int .i64 fr, v] w fun e w' => e = .returned (.tuple #[.slice none 0 0, .int .i64 1]) ∧ w' = w := by
  have hM := made_yes h
  clear h
  go_enter Try.func22, Try.ntmps22
  go_wp2_with (first
    | (
       go_at_call 26; refine hM.mono ?_; rintro e w1 ⟨rfl, hw1⟩; subst w1; clear hM))
  go_ret2
  exact ⟨rfl, rfl⟩

theorem recv_big (h : NdAt w B g st) (fr : Int) (hf : ¬ fr < 0) (hn : (st.n : Int) ≤ fr) (v : Value) : Calls Try.prog 22 #[.pointer (some ⟨g.p, 0, none⟩), .int .i64 fr, v] w fun e w' => e = .returned (.tuple #[.slice none 0 0, .int .i64 1]) ∧ w' = w := by
  have hM := made_yes h
  have c1 := h.c1
  clear h
  go_enter Try.func22, Try.ntmps22
  go_wp2_with (first
    | (
       go_at_call 26; refine hM.mono ?_; rintro e w1 ⟨rfl, hw1⟩; subst w1; clear hM))
  go_ret2
  exact ⟨rfl, rfl⟩

theorem recv_self (h : NdAt w B g st) (fr : Int) (hf : ¬ fr < 0) (hn : ¬ (st.n : Int) ≤ fr) (he : (fr == (st.id : Int)) = true) (v : Value) : Calls Try.prog 22 #[.pointer (some ⟨g.p, 0, none⟩), .int .i64 fr, v] w fun e w' => e = .returned (.tuple #[.slice none 0 0, .int .i64 1]) ∧ w' = w := by
  have hM := made_yes h
  have c0 := h.c0
  have c1 := h.c1
  clear h
  go_enter Try.func22, Try.ntmps22
  go_wp2_with (first
    | (
       go_at_call 26; refine hM.mono ?_; rintro e w1 ⟨rfl, hw1⟩; subst w1; clear hM))
  go_ret2
  exact ⟨rfl, rfl⟩

theorem recv_text (h : NdAt w B g st) (fr : Nat) (hn7 : st.n ≤ 7) (hf : ¬ (fr : Int) < 0) (hn : ¬ (st.n : Int) ≤ fr) (he : ((fr : Int) == (st.id : Int)) = false) (x : Option Addr) (nn c : Nat) (l : List Nat) (hl : Fl.Sl w x nn c l) (hnn : nn ≤ 140737488351232) (hd : decM st.n fr l = none) : Calls Try.prog 22 #[.pointer (some ⟨g.p, 0, none⟩), .int .i64 fr, .slice x nn c] w fun e w' => e = .returned (.tuple #[.slice none 0 0, .int .i64 5]) ∧ Hid (Below w.heap.size w w') := by
  have hM := made_yes h
  have c0 := h.c0
  have c1 := h.c1
  have hD := decode_any x nn c l st.n fr hn7 w hl hnn
  rw [hd] at hD
  dsimp only [mv, noMs, noAc, z0, List.length_nil] at hD
  clear h hl
  go_enter Try.func22, Try.ntmps22
  go_wp2_with (first
    | (
       go_at_call 26; refine hM.mono ?_; rintro e w1 ⟨rfl, hw1⟩; subst w1; clear hM)
    | (
       go_at_call 29; refine hD.mono ?_; rintro e w2 ⟨rfl, H2⟩; clear hD))
  go_ret2
  exact ⟨rfl, on H2.out (al _ _)⟩

set_option maxHeartbeats 1600000 in
theorem recv_1 (h : NdAt w B g st) (hst : st.dec = [] ∧ (∀ k, st.acc k = noAc) ∧ st.id < 7 ∧ st.bid = none ∧ st.wait = [] ∧ gnb g < 1000000000000000) (fr : Nat) (hn7 : st.n ≤ 7) (hf : ¬ (fr : Int) < 0) (hn : ¬ (st.n : Int) ≤ fr) (he : ((fr : Int) == (st.id : Int)) = false) (x : Option Addr) (nn c : Nat) (l : List Nat) (hl : Fl.Sl w x nn c l) (hnn : nn ≤ 140737488351232) (num kn : Nat) (p1 p2 a1 a2 : Int) (d : List Nat) (L : List Dc) (hd : decM st.n fr l = some ⟨1, num, ⟨(p1, p2), (a1, a2), d⟩, kn, L⟩) : Calls Try.prog 22 #[.pointer (some ⟨g.p, 0, none⟩), .int .i64 fr, .slice x nn c] w fun e w' => ∃ z m cz, e = .returned (.tuple #[.slice z m cz, .int .i64 0]) ∧ Hid (∃ st', Goes w w' B g st' 1 ∧ Idle st st') := by
  have hM := made_yes h
  have c0 := h.c0
  have c1 := h.c1
  obtain ⟨hB, hmay⟩ := decM_mb hn7 hd
  obtain ⟨dn, hdn⟩ : ∃ dn, dn = d.length := ⟨_, rfl⟩
  obtain ⟨dl, hdl⟩ : ∃ dl, dl = L.length := ⟨_, rfl⟩
  have hD : Calls Try.prog 29 #[.slice x nn c, .int .i64 fr, .int .i64 st.n] w fun e w' => ∃ X C Y CY, e = .returned (.tuple #[.agg #[.int .i64 1, .int .i64 num, .int .i64 p1, .int .i64 p2, .int .i64 a1, .int .i64 a2, .slice X dn C, .int .i64 kn, .slice Y dl CY], .bool true]) ∧ Hid (Below w.heap.size w w' ∧ Sv w' X dn C d ∧ L.length = dl ∧ DcsAt w' Y L ∧ (∀ a, Y = some a → w.heap.size ≤ a.block)) := by
    have q := decode_any x nn c l st.n fr hn7 w hl hnn
    rw [hd] at q
    refine q.mono ?_
    rintro e w' ⟨X, C, Y, CY, he, H⟩
    refine ⟨X, C, Y, CY, ?_, H.out.1, ⟨?_, ?_, fun a ha => (H.out.2.tb a ha).2⟩, hdl.symm, (own_dcs H.out.2.own).2, fun a ha => ?_⟩
    · rw [he, hdn, hdl]
      rfl
    · rw [hdn]
      exact H.out.2.sl
    · have := hB.len
      rw [hdn]
      exact Nat.le_trans this (by omega)
    · obtain ⟨x9, c9, e9, _, _, q9⟩ := H.out.2.own.form
      injection e9 with e9
      obtain ⟨k9, hk9, h9, _⟩ := q9 a (e9 ▸ ha)
      rw [hk9]
      exact h9
  have HC : Hid (∀ (W : World) (X : Option Addr) (C : Nat) (Y : Option Addr) (CY : Nat), Below w.heap.size w W → Sv W X dn C d → L.length = dl → DcsAt W Y L → (∀ a, Y = some a → w.heap.size ≤ a.block) → Calls Try.prog 30 #[.pointer (some ⟨g.p, 0, none⟩), .int .i64 fr, .agg #[.int .i64 1, .int .i64 num, .int .i64 p1, .int .i64 p2, .int .i64 a1, .int .i64 a2, .slice X dn C, .int .i64 kn, .slice Y dl CY]] W fun e w' => ∃ z m cz, e = .returned (.slice z m cz) ∧ Hid (∃ st', Goes W w' B g st' 1 ∧ Idle st st')) := by
    intro W X C Y CY bb hsv hLl hdc hy
    have hk := h.below bb
    obtain ⟨s1, s2, s3, s4, s5, s6⟩ := hst
    have hnum : 1 ≤ num := by
      unfold mayM at hmay
      simp at hmay
      omega
    cases hfr : freeb z0 z0 0 (p1, p2) with
    | true =>
      refine (answer_1_yes hk s1 s2 s3 fr num kn dn C dl CY p1 p2 a1 a2 X Y d hnum hB.num hsv hB.pok hB.pwf hfr s6).mono ?_
      rintro e w' ⟨z, m, cz, he, H⟩
      obtain ⟨M, hM⟩ := H.out
      exact ⟨z, m, cz, he, _, hM, s4, s5, rfl, rfl, rfl⟩
    | false =>
      refine (answer_1_no hk s1 s2 s3 fr num kn dn C dl CY p1 p2 a1 a2 X Y d hnum hB.num hsv hB.pok hB.pwf hfr s6).mono ?_
      rintro e w' ⟨z, m, cz, he, H⟩
      obtain ⟨M, hM⟩ := H.out
      exact ⟨z, m, cz, he, _, hM, s4, s5, rfl, rfl, rfl⟩
  have HG : Hid (∀ W wF st', Below w.heap.size w W → Goes W wF B g st' 1 → Goes w wF B g st' 1) := fun W wF st' bb hG => (Goes.trans (k1 := 0) rfl (Turns.of_below bb) (Nat.le_refl _) (fun k hk => .inl hk) hG).mono (by omega)
  have HS : Hid (∀ W wF, Below w.heap.size w W → Below W.heap.size W wF → ∃ st', Goes w wF B g st' 1 ∧ Idle st st') := fun W wF bb b2 => ⟨st, (Goes.same h (on bb b2)).mono (by omega), hst.2.2.2.1, hst.2.2.2.2.1, rfl, rfl, rfl⟩
  clear h hl hd hB hmay hst hdn hdl
  go_enter Try.func22, Try.ntmps22
  go_wp2_with (first
    | (
       go_at_call 26; refine hM.mono ?_; rintro e w1 ⟨rfl, hw1⟩; subst w1; clear hM)
    | (
       go_at_call 29; refine hD.mono ?_; rintro e w2 ⟨X, C, Y, CY, rfl, H2⟩; clear hD
       have b3 := al w2 (.cells #[.int .i64 1, .int .i64 num, .int .i64 p1, .int .i64 p2, .int .i64 a1, .int .i64 a2, .slice X dn C, .int .i64 kn, .slice Y dl CY] 76)
       have hC := HC.out _ X C Y CY (on H2.out.1 b3) (H2.out.2.1.below b3) H2.out.2.2.1 (H2.out.2.2.2.1.below b3) H2.out.2.2.2.2
       have B3 : Hid (Below w.heap.size w (w2.alloc (.cells #[.int .i64 1, .int .i64 num, .int .i64 p1, .int .i64 p2, .int .i64 a1, .int .i64 a2, .slice X dn C, .int .i64 kn, .slice Y dl CY] 76))) := on H2.out.1 b3
       clear HC b3)
    | (
       go_at_call 30; refine hC.mono ?_; rintro e w3 ⟨z3, m3, cz3, rfl, H3⟩; clear hC))
  go_ret2
  obtain ⟨st', hG, hI⟩ := H3.out
  exact ⟨_, _, _, rfl, st', HG.out _ _ _ B3.out hG, hI⟩

set_option maxHeartbeats 1600000 in
theorem recv_2 (h : NdAt w B g st) (hst : st.dec = [] ∧ (∀ k, st.acc k = noAc) ∧ st.id < 7 ∧ st.bid = none ∧ st.wait = [] ∧ gnb g < 1000000000000000) (fr : Nat) (hn7 : st.n ≤ 7) (hf : ¬ (fr : Int) < 0) (hn : ¬ (st.n : Int) ≤ fr) (he : ((fr : Int) == (st.id : Int)) = false) (x : Option Addr) (nn c : Nat) (l : List Nat) (hl : Fl.Sl w x nn c l) (hnn : nn ≤ 140737488351232) (num kn : Nat) (p1 p2 a1 a2 : Int) (d : List Nat) (L : List Dc) (hd : decM st.n fr l = some ⟨2, num, ⟨(p1, p2), (a1, a2), d⟩, kn, L⟩) : Calls Try.prog 22 #[.pointer (some ⟨g.p, 0, none⟩), .int .i64 fr, .slice x nn c] w fun e w' => ∃ z m cz, e = .returned (.tuple #[.slice z m cz, .int .i64 0]) ∧ Hid (∃ st', Goes w w' B g st' 1 ∧ Idle st st') := by
  have hM := made_yes h
  have c0 := h.c0
  have c1 := h.c1
  obtain ⟨hB, hmay⟩ := decM_mb hn7 hd
  obtain ⟨dn, hdn⟩ : ∃ dn, dn = d.length := ⟨_, rfl⟩
  obtain ⟨dl, hdl⟩ : ∃ dl, dl = L.length := ⟨_, rfl⟩
  have hD : Calls Try.prog 29 #[.slice x nn c, .int .i64 fr, .int .i64 st.n] w fun e w' => ∃ X C Y CY, e = .returned (.tuple #[.agg #[.int .i64 2, .int .i64 num, .int .i64 p1, .int .i64 p2, .int .i64 a1, .int .i64 a2, .slice X dn C, .int .i64 kn, .slice Y dl CY], .bool true]) ∧ Hid (Below w.heap.size w w' ∧ Sv w' X dn C d ∧ L.length = dl ∧ DcsAt w' Y L ∧ (∀ a, Y = some a → w.heap.size ≤ a.block)) := by
    have q := decode_any x nn c l st.n fr hn7 w hl hnn
    rw [hd] at q
    refine q.mono ?_
    rintro e w' ⟨X, C, Y, CY, he, H⟩
    refine ⟨X, C, Y, CY, ?_, H.out.1, ⟨?_, ?_, fun a ha => (H.out.2.tb a ha).2⟩, hdl.symm, (own_dcs H.out.2.own).2, fun a ha => ?_⟩
    · rw [he, hdn, hdl]
      rfl
    · rw [hdn]
      exact H.out.2.sl
    · have := hB.len
      rw [hdn]
      exact Nat.le_trans this (by omega)
    · obtain ⟨x9, c9, e9, _, _, q9⟩ := H.out.2.own.form
      injection e9 with e9
      obtain ⟨k9, hk9, h9, _⟩ := q9 a (e9 ▸ ha)
      rw [hk9]
      exact h9
  have HC : Hid (∀ (W : World) (X : Option Addr) (C : Nat) (Y : Option Addr) (CY : Nat), Below w.heap.size w W → Sv W X dn C d → L.length = dl → DcsAt W Y L → (∀ a, Y = some a → w.heap.size ≤ a.block) → Calls Try.prog 30 #[.pointer (some ⟨g.p, 0, none⟩), .int .i64 fr, .agg #[.int .i64 2, .int .i64 num, .int .i64 p1, .int .i64 p2, .int .i64 a1, .int .i64 a2, .slice X dn C, .int .i64 kn, .slice Y dl CY]] W fun e w' => ∃ z m cz, e = .returned (.slice z m cz) ∧ Hid (∃ st', Goes W w' B g st' 1 ∧ Idle st st')) := by
    intro W X C Y CY bb hsv hLl hdc hy
    have hk := h.below bb
    obtain ⟨s1, s2, s3, s4, s5, s6⟩ := hst
    have hnum : 1 ≤ num := by
      unfold mayM at hmay
      simp at hmay
      omega
    cases hfr : freeb z0 z0 0 (p1, p2) with
    | true =>
      refine (answer_2_yes hk s1 s2 s3 fr num kn dn C dl CY p1 p2 a1 a2 X Y d hnum hB.num hsv hB.pok hB.pwf hfr s6).mono ?_
      rintro e w' ⟨z, m, cz, he, H⟩
      obtain ⟨M, hM⟩ := H.out
      exact ⟨z, m, cz, he, _, hM, s4, s5, rfl, rfl, rfl⟩
    | false =>
      refine (answer_2_no hk s1 s2 s3 fr num kn dn C dl CY p1 p2 a1 a2 X Y d hnum hB.num hsv hB.pok hB.pwf hfr s6).mono ?_
      rintro e w' ⟨z, m, cz, he, H⟩
      obtain ⟨M, hM⟩ := H.out
      exact ⟨z, m, cz, he, _, hM, s4, s5, rfl, rfl, rfl⟩
  have HG : Hid (∀ W wF st', Below w.heap.size w W → Goes W wF B g st' 1 → Goes w wF B g st' 1) := fun W wF st' bb hG => (Goes.trans (k1 := 0) rfl (Turns.of_below bb) (Nat.le_refl _) (fun k hk => .inl hk) hG).mono (by omega)
  have HS : Hid (∀ W wF, Below w.heap.size w W → Below W.heap.size W wF → ∃ st', Goes w wF B g st' 1 ∧ Idle st st') := fun W wF bb b2 => ⟨st, (Goes.same h (on bb b2)).mono (by omega), hst.2.2.2.1, hst.2.2.2.2.1, rfl, rfl, rfl⟩
  clear h hl hd hB hmay hst hdn hdl
  go_enter Try.func22, Try.ntmps22
  go_wp2_with (first
    | (
       go_at_call 26; refine hM.mono ?_; rintro e w1 ⟨rfl, hw1⟩; subst w1; clear hM)
    | (
       go_at_call 29; refine hD.mono ?_; rintro e w2 ⟨X, C, Y, CY, rfl, H2⟩; clear hD
       have b3 := al w2 (.cells #[.int .i64 2, .int .i64 num, .int .i64 p1, .int .i64 p2, .int .i64 a1, .int .i64 a2, .slice X dn C, .int .i64 kn, .slice Y dl CY] 76)
       have hC := HC.out _ X C Y CY (on H2.out.1 b3) (H2.out.2.1.below b3) H2.out.2.2.1 (H2.out.2.2.2.1.below b3) H2.out.2.2.2.2
       have B3 : Hid (Below w.heap.size w (w2.alloc (.cells #[.int .i64 2, .int .i64 num, .int .i64 p1, .int .i64 p2, .int .i64 a1, .int .i64 a2, .slice X dn C, .int .i64 kn, .slice Y dl CY] 76))) := on H2.out.1 b3
       clear HC b3)
    | (
       go_at_call 30; refine hC.mono ?_; rintro e w3 ⟨z3, m3, cz3, rfl, H3⟩; clear hC))
  go_ret2
  obtain ⟨st', hG, hI⟩ := H3.out
  exact ⟨_, _, _, rfl, st', HG.out _ _ _ B3.out hG, hI⟩

set_option maxHeartbeats 1600000 in
theorem recv_3 (h : NdAt w B g st) (hst : st.dec = [] ∧ (∀ k, st.acc k = noAc) ∧ st.id < 7 ∧ st.bid = none ∧ st.wait = [] ∧ gnb g < 1000000000000000) (fr : Nat) (hn7 : st.n ≤ 7) (hf : ¬ (fr : Int) < 0) (hn : ¬ (st.n : Int) ≤ fr) (he : ((fr : Int) == (st.id : Int)) = false) (x : Option Addr) (nn c : Nat) (l : List Nat) (hl : Fl.Sl w x nn c l) (hnn : nn ≤ 140737488351232) (num kn : Nat) (p1 p2 a1 a2 : Int) (d : List Nat) (L : List Dc) (hd : decM st.n fr l = some ⟨3, num, ⟨(p1, p2), (a1, a2), d⟩, kn, L⟩) : Calls Try.prog 22 #[.pointer (some ⟨g.p, 0, none⟩), .int .i64 fr, .slice x nn c] w fun e w' => ∃ z m cz, e = .returned (.tuple #[.slice z m cz, .int .i64 0]) ∧ Hid (∃ st', Goes w w' B g st' 1 ∧ Idle st st') := by
  have hM := made_yes h
  have c0 := h.c0
  have c1 := h.c1
  obtain ⟨hB, hmay⟩ := decM_mb hn7 hd
  obtain ⟨dn, hdn⟩ : ∃ dn, dn = d.length := ⟨_, rfl⟩
  obtain ⟨dl, hdl⟩ : ∃ dl, dl = L.length := ⟨_, rfl⟩
  have hD : Calls Try.prog 29 #[.slice x nn c, .int .i64 fr, .int .i64 st.n] w fun e w' => ∃ X C Y CY, e = .returned (.tuple #[.agg #[.int .i64 3, .int .i64 num, .int .i64 p1, .int .i64 p2, .int .i64 a1, .int .i64 a2, .slice X dn C, .int .i64 kn, .slice Y dl CY], .bool true]) ∧ Hid (Below w.heap.size w w' ∧ Sv w' X dn C d ∧ L.length = dl ∧ DcsAt w' Y L ∧ (∀ a, Y = some a → w.heap.size ≤ a.block)) := by
    have q := decode_any x nn c l st.n fr hn7 w hl hnn
    rw [hd] at q
    refine q.mono ?_
    rintro e w' ⟨X, C, Y, CY, he, H⟩
    refine ⟨X, C, Y, CY, ?_, H.out.1, ⟨?_, ?_, fun a ha => (H.out.2.tb a ha).2⟩, hdl.symm, (own_dcs H.out.2.own).2, fun a ha => ?_⟩
    · rw [he, hdn, hdl]
      rfl
    · rw [hdn]
      exact H.out.2.sl
    · have := hB.len
      rw [hdn]
      exact Nat.le_trans this (by omega)
    · obtain ⟨x9, c9, e9, _, _, q9⟩ := H.out.2.own.form
      injection e9 with e9
      obtain ⟨k9, hk9, h9, _⟩ := q9 a (e9 ▸ ha)
      rw [hk9]
      exact h9
  have HC : Hid (∀ (W : World) (X : Option Addr) (C : Nat) (Y : Option Addr) (CY : Nat), Below w.heap.size w W → Sv W X dn C d → L.length = dl → DcsAt W Y L → (∀ a, Y = some a → w.heap.size ≤ a.block) → Calls Try.prog 31 #[.pointer (some ⟨g.p, 0, none⟩), .int .i64 fr, .agg #[.int .i64 3, .int .i64 num, .int .i64 p1, .int .i64 p2, .int .i64 a1, .int .i64 a2, .slice X dn C, .int .i64 kn, .slice Y dl CY]] W fun e w' => ∃ z m cz, e = .returned (.slice z m cz) ∧ Hid (∃ st', Goes W w' B g st' 1 ∧ Idle st st')) := by
    intro W X C Y CY bb hsv hLl hdc hy
    have hk := h.below bb
    refine (hear_idle hk hst.2.2.2.1 fr _ _ _ _ _ _ _ _ _).mono ?_
    rintro e w' ⟨he, H⟩
    exact ⟨none, 0, 0, he, st, (Goes.same hk H.out).mono (by omega), hst.2.2.2.1, hst.2.2.2.2.1, rfl, rfl, rfl⟩
  have HG : Hid (∀ W wF st', Below w.heap.size w W → Goes W wF B g st' 1 → Goes w wF B g st' 1) := fun W wF st' bb hG => (Goes.trans (k1 := 0) rfl (Turns.of_below bb) (Nat.le_refl _) (fun k hk => .inl hk) hG).mono (by omega)
  have HS : Hid (∀ W wF, Below w.heap.size w W → Below W.heap.size W wF → ∃ st', Goes w wF B g st' 1 ∧ Idle st st') := fun W wF bb b2 => ⟨st, (Goes.same h (on bb b2)).mono (by omega), hst.2.2.2.1, hst.2.2.2.2.1, rfl, rfl, rfl⟩
  clear h hl hd hB hmay hst hdn hdl
  go_enter Try.func22, Try.ntmps22
  go_wp2_with (first
    | (
       go_at_call 26; refine hM.mono ?_; rintro e w1 ⟨rfl, hw1⟩; subst w1; clear hM)
    | (
       go_at_call 29; refine hD.mono ?_; rintro e w2 ⟨X, C, Y, CY, rfl, H2⟩; clear hD
       have b3 := al w2 (.cells #[.int .i64 3, .int .i64 num, .int .i64 p1, .int .i64 p2, .int .i64 a1, .int .i64 a2, .slice X dn C, .int .i64 kn, .slice Y dl CY] 76)
       have hC := HC.out _ X C Y CY (on H2.out.1 b3) (H2.out.2.1.below b3) H2.out.2.2.1 (H2.out.2.2.2.1.below b3) H2.out.2.2.2.2
       have B3 : Hid (Below w.heap.size w (w2.alloc (.cells #[.int .i64 3, .int .i64 num, .int .i64 p1, .int .i64 p2, .int .i64 a1, .int .i64 a2, .slice X dn C, .int .i64 kn, .slice Y dl CY] 76))) := on H2.out.1 b3
       clear HC b3)
    | (
       go_at_call 31; refine hC.mono ?_; rintro e w3 ⟨z3, m3, cz3, rfl, H3⟩; clear hC))
  go_ret2
  obtain ⟨st', hG, hI⟩ := H3.out
  exact ⟨_, _, _, rfl, st', HG.out _ _ _ B3.out hG, hI⟩

set_option maxHeartbeats 1600000 in
theorem recv_4 (h : NdAt w B g st) (hst : st.dec = [] ∧ (∀ k, st.acc k = noAc) ∧ st.id < 7 ∧ st.bid = none ∧ st.wait = [] ∧ gnb g < 1000000000000000) (fr : Nat) (hn7 : st.n ≤ 7) (hf : ¬ (fr : Int) < 0) (hn : ¬ (st.n : Int) ≤ fr) (he : ((fr : Int) == (st.id : Int)) = false) (x : Option Addr) (nn c : Nat) (l : List Nat) (hl : Fl.Sl w x nn c l) (hnn : nn ≤ 140737488351232) (num kn : Nat) (p1 p2 a1 a2 : Int) (d : List Nat) (L : List Dc) (hd : decM st.n fr l = some ⟨4, num, ⟨(p1, p2), (a1, a2), d⟩, kn, L⟩) : Calls Try.prog 22 #[.pointer (some ⟨g.p, 0, none⟩), .int .i64 fr, .slice x nn c] w fun e w' => ∃ z m cz, e = .returned (.tuple #[.slice z m cz, .int .i64 0]) ∧ Hid (∃ st', Goes w w' B g st' 1 ∧ Idle st st') := by
  have hM := made_yes h
  have c0 := h.c0
  have c1 := h.c1
  obtain ⟨hB, hmay⟩ := decM_mb hn7 hd
  obtain ⟨dn, hdn⟩ : ∃ dn, dn = d.length := ⟨_, rfl⟩
  obtain ⟨dl, hdl⟩ : ∃ dl, dl = L.length := ⟨_, rfl⟩
  have hD : Calls Try.prog 29 #[.slice x nn c, .int .i64 fr, .int .i64 st.n] w fun e w' => ∃ X C Y CY, e = .returned (.tuple #[.agg #[.int .i64 4, .int .i64 num, .int .i64 p1, .int .i64 p2, .int .i64 a1, .int .i64 a2, .slice X dn C, .int .i64 kn, .slice Y dl CY], .bool true]) ∧ Hid (Below w.heap.size w w' ∧ Sv w' X dn C d ∧ L.length = dl ∧ DcsAt w' Y L ∧ (∀ a, Y = some a → w.heap.size ≤ a.block)) := by
    have q := decode_any x nn c l st.n fr hn7 w hl hnn
    rw [hd] at q
    refine q.mono ?_
    rintro e w' ⟨X, C, Y, CY, he, H⟩
    refine ⟨X, C, Y, CY, ?_, H.out.1, ⟨?_, ?_, fun a ha => (H.out.2.tb a ha).2⟩, hdl.symm, (own_dcs H.out.2.own).2, fun a ha => ?_⟩
    · rw [he, hdn, hdl]
      rfl
    · rw [hdn]
      exact H.out.2.sl
    · have := hB.len
      rw [hdn]
      exact Nat.le_trans this (by omega)
    · obtain ⟨x9, c9, e9, _, _, q9⟩ := H.out.2.own.form
      injection e9 with e9
      obtain ⟨k9, hk9, h9, _⟩ := q9 a (e9 ▸ ha)
      rw [hk9]
      exact h9
  have HC : Hid (∀ (W : World) (X : Option Addr) (C : Nat) (Y : Option Addr) (CY : Nat), Below w.heap.size w W → Sv W X dn C d → L.length = dl → DcsAt W Y L → (∀ a, Y = some a → w.heap.size ≤ a.block) → Calls Try.prog 32 #[.pointer (some ⟨g.p, 0, none⟩), .int .i64 fr, .int .i64 num] W fun e w' => ∃ z m cz, e = .returned (.slice z m cz) ∧ Hid (∃ st', Goes W w' B g st' 1 ∧ Idle st st')) := by
    intro W X C Y CY bb hsv hLl hdc hy
    have hk := h.below bb
    refine (compare_fresh hk hst.1 hst.2.2.1 fr num).mono ?_
    rintro e w' ⟨z, m, cz, he, H⟩
    exact ⟨z, m, cz, he, st, (Goes.same hk H.out).mono (by omega), hst.2.2.2.1, hst.2.2.2.2.1, rfl, rfl, rfl⟩
  have HG : Hid (∀ W wF st', Below w.heap.size w W → Goes W wF B g st' 1 → Goes w wF B g st' 1) := fun W wF st' bb hG => (Goes.trans (k1 := 0) rfl (Turns.of_below bb) (Nat.le_refl _) (fun k hk => .inl hk) hG).mono (by omega)
  have HS : Hid (∀ W wF, Below w.heap.size w W → Below W.heap.size W wF → ∃ st', Goes w wF B g st' 1 ∧ Idle st st') := fun W wF bb b2 => ⟨st, (Goes.same h (on bb b2)).mono (by omega), hst.2.2.2.1, hst.2.2.2.2.1, rfl, rfl, rfl⟩
  clear h hl hd hB hmay hst hdn hdl
  go_enter Try.func22, Try.ntmps22
  go_wp2_with (first
    | (
       go_at_call 26; refine hM.mono ?_; rintro e w1 ⟨rfl, hw1⟩; subst w1; clear hM)
    | (
       go_at_call 29; refine hD.mono ?_; rintro e w2 ⟨X, C, Y, CY, rfl, H2⟩; clear hD
       have b3 := al w2 (.cells #[.int .i64 4, .int .i64 num, .int .i64 p1, .int .i64 p2, .int .i64 a1, .int .i64 a2, .slice X dn C, .int .i64 kn, .slice Y dl CY] 76)
       have hC := HC.out _ X C Y CY (on H2.out.1 b3) (H2.out.2.1.below b3) H2.out.2.2.1 (H2.out.2.2.2.1.below b3) H2.out.2.2.2.2
       have B3 : Hid (Below w.heap.size w (w2.alloc (.cells #[.int .i64 4, .int .i64 num, .int .i64 p1, .int .i64 p2, .int .i64 a1, .int .i64 a2, .slice X dn C, .int .i64 kn, .slice Y dl CY] 76))) := on H2.out.1 b3
       clear HC b3)
    | (
       go_at_call 32; refine hC.mono ?_; rintro e w3 ⟨z3, m3, cz3, rfl, H3⟩; clear hC))
  go_ret2
  obtain ⟨st', hG, hI⟩ := H3.out
  exact ⟨_, _, _, rfl, st', HG.out _ _ _ B3.out hG, hI⟩

set_option maxHeartbeats 1600000 in
theorem recv_5 (h : NdAt w B g st) (hst : st.dec = [] ∧ (∀ k, st.acc k = noAc) ∧ st.id < 7 ∧ st.bid = none ∧ st.wait = [] ∧ gnb g < 1000000000000000) (fr : Nat) (hn7 : st.n ≤ 7) (hf : ¬ (fr : Int) < 0) (hn : ¬ (st.n : Int) ≤ fr) (he : ((fr : Int) == (st.id : Int)) = false) (x : Option Addr) (nn c : Nat) (l : List Nat) (hl : Fl.Sl w x nn c l) (hnn : nn ≤ 140737488351232) (num kn : Nat) (p1 p2 a1 a2 : Int) (d : List Nat) (L : List Dc) (hd : decM st.n fr l = some ⟨5, num, ⟨(p1, p2), (a1, a2), d⟩, kn, L⟩) : Calls Try.prog 22 #[.pointer (some ⟨g.p, 0, none⟩), .int .i64 fr, .slice x nn c] w fun e w' => ∃ z m cz, e = .returned (.tuple #[.slice z m cz, .int .i64 0]) ∧ Hid (∃ st', Goes w w' B g st' 1 ∧ Idle st st') := by
  have hM := made_yes h
  have c0 := h.c0
  have c1 := h.c1
  obtain ⟨hB, hmay⟩ := decM_mb hn7 hd
  obtain ⟨dn, hdn⟩ : ∃ dn, dn = d.length := ⟨_, rfl⟩
  obtain ⟨dl, hdl⟩ : ∃ dl, dl = L.length := ⟨_, rfl⟩
  have hD : Calls Try.prog 29 #[.slice x nn c, .int .i64 fr, .int .i64 st.n] w fun e w' => ∃ X C Y CY, e = .returned (.tuple #[.agg #[.int .i64 5, .int .i64 num, .int .i64 p1, .int .i64 p2, .int .i64 a1, .int .i64 a2, .slice X dn C, .int .i64 kn, .slice Y dl CY], .bool true]) ∧ Hid (Below w.heap.size w w' ∧ Sv w' X dn C d ∧ L.length = dl ∧ DcsAt w' Y L ∧ (∀ a, Y = some a → w.heap.size ≤ a.block)) := by
    have q := decode_any x nn c l st.n fr hn7 w hl hnn
    rw [hd] at q
    refine q.mono ?_
    rintro e w' ⟨X, C, Y, CY, he, H⟩
    refine ⟨X, C, Y, CY, ?_, H.out.1, ⟨?_, ?_, fun a ha => (H.out.2.tb a ha).2⟩, hdl.symm, (own_dcs H.out.2.own).2, fun a ha => ?_⟩
    · rw [he, hdn, hdl]
      rfl
    · rw [hdn]
      exact H.out.2.sl
    · have := hB.len
      rw [hdn]
      exact Nat.le_trans this (by omega)
    · obtain ⟨x9, c9, e9, _, _, q9⟩ := H.out.2.own.form
      injection e9 with e9
      obtain ⟨k9, hk9, h9, _⟩ := q9 a (e9 ▸ ha)
      rw [hk9]
      exact h9
  have HC : Hid (∀ (W : World) (X : Option Addr) (C : Nat) (Y : Option Addr) (CY : Nat), Below w.heap.size w W → Sv W X dn C d → L.length = dl → DcsAt W Y L → (∀ a, Y = some a → w.heap.size ≤ a.block) → Calls Try.prog 33 #[.pointer (some ⟨g.p, 0, none⟩), .int .i64 fr, .agg #[.int .i64 5, .int .i64 num, .int .i64 p1, .int .i64 p2, .int .i64 a1, .int .i64 a2, .slice X dn C, .int .i64 kn, .slice Y dl CY]] W fun e w' => ∃ z m cz, e = .returned (.slice z m cz) ∧ Hid (∃ st', Goes W w' B g st' 1 ∧ Idle st st')) := by
    intro W X C Y CY bb hsv hLl hdc hy
    have hk := h.below bb
    have hlow : ∀ a, Y = some a → ¬ fp g a.block := fun a ha hf => by
      have h1 := hy a ha
      have h2 := (h.u8 _ hf).1
      omega
    refine (take_idle hk hst.2.2.2.1 hst.2.2.2.2.1 hst.2.2.1 (by rw [hst.1]; show 0 ≤ 1000; omega) fr _ _ _ _ _ _ num kn dl CY Y L hLl hdc hlow hB.dok hB.num hB.known (by rw [hdl]; exact hB.dl)).mono ?_
    rintro e w' ⟨z, m, cz, he, H⟩
    obtain ⟨st', hG, hI⟩ := H.out
    exact ⟨z, m, cz, he, st', hG.mono (by omega), hI⟩
  have HG : Hid (∀ W wF st', Below w.heap.size w W → Goes W wF B g st' 1 → Goes w wF B g st' 1) := fun W wF st' bb hG => (Goes.trans (k1 := 0) rfl (Turns.of_below bb) (Nat.le_refl _) (fun k hk => .inl hk) hG).mono (by omega)
  have HS : Hid (∀ W wF, Below w.heap.size w W → Below W.heap.size W wF → ∃ st', Goes w wF B g st' 1 ∧ Idle st st') := fun W wF bb b2 => ⟨st, (Goes.same h (on bb b2)).mono (by omega), hst.2.2.2.1, hst.2.2.2.2.1, rfl, rfl, rfl⟩
  clear h hl hd hB hmay hst hdn hdl
  go_enter Try.func22, Try.ntmps22
  go_wp2_with (first
    | (
       go_at_call 26; refine hM.mono ?_; rintro e w1 ⟨rfl, hw1⟩; subst w1; clear hM)
    | (
       go_at_call 29; refine hD.mono ?_; rintro e w2 ⟨X, C, Y, CY, rfl, H2⟩; clear hD
       have b3 := al w2 (.cells #[.int .i64 5, .int .i64 num, .int .i64 p1, .int .i64 p2, .int .i64 a1, .int .i64 a2, .slice X dn C, .int .i64 kn, .slice Y dl CY] 76)
       have hC := HC.out _ X C Y CY (on H2.out.1 b3) (H2.out.2.1.below b3) H2.out.2.2.1 (H2.out.2.2.2.1.below b3) H2.out.2.2.2.2
       have B3 : Hid (Below w.heap.size w (w2.alloc (.cells #[.int .i64 5, .int .i64 num, .int .i64 p1, .int .i64 p2, .int .i64 a1, .int .i64 a2, .slice X dn C, .int .i64 kn, .slice Y dl CY] 76))) := on H2.out.1 b3
       clear HC b3)
    | (
       go_at_call 33; refine hC.mono ?_; rintro e w3 ⟨z3, m3, cz3, rfl, H3⟩; clear hC))
  go_ret2
  obtain ⟨st', hG, hI⟩ := H3.out
  exact ⟨_, _, _, rfl, st', HG.out _ _ _ B3.out hG, hI⟩

theorem recv_ok (h : NdAt w B g st) (hst : st.dec = [] ∧ (∀ k, st.acc k = noAc) ∧ st.id < 7 ∧ st.bid = none ∧ st.wait = [] ∧ gnb g < 1000000000000000) (fr : Nat) (hn7 : st.n ≤ 7) (hf : ¬ (fr : Int) < 0) (hn : ¬ (st.n : Int) ≤ fr) (he : ((fr : Int) == (st.id : Int)) = false) (x : Option Addr) (nn c : Nat) (l : List Nat) (hl : Fl.Sl w x nn c l) (hnn : nn ≤ 140737488351232) (M : Ms) (hd : decM st.n fr l = some M) : Calls Try.prog 22 #[.pointer (some ⟨g.p, 0, none⟩), .int .i64 fr, .slice x nn c] w fun e w' => ∃ z m cz, e = .returned (.tuple #[.slice z m cz, .int .i64 0]) ∧ Hid (∃ st', Goes w w' B g st' 1 ∧ Idle st st') := by
  obtain ⟨hB, hmay⟩ := decM_mb hn7 hd
  obtain ⟨k, num, ⟨⟨p1, p2⟩, ⟨a1, a2⟩, d⟩, kn, L⟩ := M
  have hk : k ≤ 5 := hB.kind
  have hk' : k = 0 ∨ k = 1 ∨ k = 2 ∨ k = 3 ∨ k = 4 ∨ k = 5 := by omega
  rcases hk' with rfl | rfl | rfl | rfl | rfl | rfl
  · exfalso
    simp [mayM] at hmay
  · exact recv_1 h hst fr hn7 hf hn he x nn c l hl hnn num kn p1 p2 a1 a2 d L hd
  · exact recv_2 h hst fr hn7 hf hn he x nn c l hl hnn num kn p1 p2 a1 a2 d L hd
  · exact recv_3 h hst fr hn7 hf hn he x nn c l hl hnn num kn p1 p2 a1 a2 d L hd
  · exact recv_4 h hst fr hn7 hf hn he x nn c l hl hnn num kn p1 p2 a1 a2 d L hd
  · exact recv_5 h hst fr hn7 hf hn he x nn c l hl hnn num kn p1 p2 a1 a2 d L hd

end

end Go.Proofs.Ytdbahebhodoooaa.Px

/-
  A place of a group, as the law counts it; a row of bytes that is made.
  Conditions: none.
-/
namespace Go.Proofs.Ytdbahebhodoooaa.Px
open Go.RowKit Wi By Fl Ba
set_option linter.unusedVariables false
set_option linter.unusedSimpArgs false
set_option maxRecDepth 100000

theorem at_any (a n : Nat) (h1 : 1 ≤ n) (h2 : n ≤ 7) (ha : a ≤ 1000) (w : World) : Calls Try.prog 9 #[.int .i64 a, .int .i64 n] w fun e w' => e = .returned (.int .i64 ((a % n : Nat) : Int)) ∧ w' = w := by
  have e0 : ((n : Int) == 0) = false := by simp; omega
  have e1 : (a : Int).tmod (n : Int) = ((a % n : Nat) : Int) := (Int.ofNat_tmod a n).symm
  have hl : a % n < n := Nat.mod_lt _ (by omega)
  have e2 : ¬ ((a % n : Nat) : Int) < 0 := by omega
  have hn0 : ¬ (n : Int) = 0 := by omega
  generalize a % n = q at *
  go_enter Try.func9, Try.ntmps9
  go_wp2_with fail
  go_ret
  exact ⟨rfl, rfl⟩

def zeros (m : Nat) : Array Value := madeCells #[.int .u8 0] m

theorem make_b (m : Nat) (hm : m ≤ 5000) (w : World) : (Instr.makeSlice 35 (.int .i64 (m : Int)) (.int .i64 (m : Int))).run Try.prog w = .ok (.slice (some ⟨w.heap.size, 0, none⟩) m m) (w.alloc (.cells (zeros m) 5)) := by
  have hi : (Try.prog.info? 5).map (fun i => (i.zero, i.size, i.bytes)) = some (some (.int .u8 0), 1, 1) := by kernel_rfl
  exact run_make_row' (P := Try.prog) 35 5 (.int .u8 0) 1 Try.underlying35 hi rfl .i64 .i64 m (by omega) (by omega) w

theorem made_sl (m : Nat) (w : World) : Fl.Sl (w.alloc (.cells (zeros m) 5)) (some ⟨w.heap.size, 0, none⟩) m m (List.replicate m 0) := by
  have hh : (w.alloc (.cells (zeros m) 5)).heap[w.heap.size]? = some (.cells (zeros m) 5 (0, 0)) := heap_alloc_new _ _
  refine ⟨by simp, Nat.le_refl _, (fun e => by cases e), .inr ⟨w.heap.size, 0, rfl, by simp, fun i hi => ?_⟩, fun u hu => by rw [List.eq_of_mem_replicate hu]; decide⟩
  have e : Fl.gl (List.replicate m 0) i = 0 := by unfold Fl.gl; simp [hi]
  rw [e]
  simp only [World.cell?, hh]
  unfold zeros madeCells
  simp [hi, Nat.mod_one]

end Go.Proofs.Ytdbahebhodoooaa.Px

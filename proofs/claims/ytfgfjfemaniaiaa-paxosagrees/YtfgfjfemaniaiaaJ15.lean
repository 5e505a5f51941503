/-
  5 texts of this proof, one behind the other: PxDecode3, PxBound, PxBack, PxAsk1, PxAsk2.
-/
import Derived.Test.YtfgfjfemaniaiaaJ14
import Derived.Test.YtfgfjfemaniaiaaJ09
import Derived.Test.YtfgfjfemaniaiaaJ01
import Derived.Test.YtfgfjfemaniaiaaJ12
import Derived.Test.YtfgfjfemaniaiaaJ11
/-
  Package paxos: decode, whatever the bytes are.
  Conditions: the bytes lie in memory.
-/
namespace Go.Proofs.Ytfgfjfemaniaiaa.Px
open Go.RowKit Wi By Fl Ba
set_option linter.unusedVariables false
set_option linter.unusedSimpArgs false
set_option maxRecDepth 100000

theorem dec_unsealed (x : Option Addr) (nn c : Nat) (l : List Nat) (n fr : Nat) (w : World) (hl : Fl.Sl w x nn c l) (hnn : nn ≤ 140737488351232) (hse : isSealed l = false) :
    Calls Try.prog 29 #[.slice x nn c, .int .i64 fr, .int .i64 n] w fun e w' => e = .returned (.tuple #[mv noMs none 0 none 0, .bool false]) ∧ Hid (Below w.heap.size w w') := by
  have hUn := fun (W : World) (h : Below w.heap.size w W) => unsealed_any x nn c l W (hl.below h) hnn
  rw [hse] at hUn
  clear hl hse hnn
  go_enter Try.func29, Try.ntmps29
  go_wp2_with (first
    | (
       go_at_call 38; refine (hUn _ (al _ _)).mono ?_; rintro e w1 ⟨y1, m1, c1, rfl, H1⟩; clear hUn
       have r0 := keep H1.out.1 (b := w.heap.size) (o := 0) (x := .int .i64 0) (by first | assumption | go_simp)
       have r1 := keep H1.out.1 (b := w.heap.size) (o := 1) (x := .int .i64 0) (by first | assumption | go_simp)
       have r2 := keep H1.out.1 (b := w.heap.size) (o := 2) (x := .int .i64 0) (by first | assumption | go_simp)
       have r3 := keep H1.out.1 (b := w.heap.size) (o := 3) (x := .int .i64 0) (by first | assumption | go_simp)
       have r4 := keep H1.out.1 (b := w.heap.size) (o := 4) (x := .int .i64 0) (by first | assumption | go_simp)
       have r5 := keep H1.out.1 (b := w.heap.size) (o := 5) (x := .int .i64 0) (by first | assumption | go_simp)
       have r6 := keep H1.out.1 (b := w.heap.size) (o := 6) (x := .slice none 0 0) (by first | assumption | go_simp)
       have r7 := keep H1.out.1 (b := w.heap.size) (o := 7) (x := .int .i64 0) (by first | assumption | go_simp)
       have r8 := keep H1.out.1 (b := w.heap.size) (o := 8) (x := .slice none 0 0) (by first | assumption | go_simp)
       have f0 := keepf H1.out.1 (b := w.heap.size) (o := 0) (by first | (simp <;> omega) | exact cell_lt' (a := ⟨w.heap.size, 0, none⟩) (by assumption) | (simp; exact cell_lt' (a := ⟨w.heap.size, 0, none⟩) (by assumption))) (by first | assumption | go_simp)
       have f1 := keepf H1.out.1 (b := w.heap.size) (o := 1) (by first | (simp <;> omega) | exact cell_lt' (a := ⟨w.heap.size, 1, none⟩) (by assumption) | (simp; exact cell_lt' (a := ⟨w.heap.size, 1, none⟩) (by assumption))) (by first | assumption | go_simp)
       have f2 := keepf H1.out.1 (b := w.heap.size) (o := 2) (by first | (simp <;> omega) | exact cell_lt' (a := ⟨w.heap.size, 2, none⟩) (by assumption) | (simp; exact cell_lt' (a := ⟨w.heap.size, 2, none⟩) (by assumption))) (by first | assumption | go_simp)
       have f3 := keepf H1.out.1 (b := w.heap.size) (o := 3) (by first | (simp <;> omega) | exact cell_lt' (a := ⟨w.heap.size, 3, none⟩) (by assumption) | (simp; exact cell_lt' (a := ⟨w.heap.size, 3, none⟩) (by assumption))) (by first | assumption | go_simp)
       have f4 := keepf H1.out.1 (b := w.heap.size) (o := 4) (by first | (simp <;> omega) | exact cell_lt' (a := ⟨w.heap.size, 4, none⟩) (by assumption) | (simp; exact cell_lt' (a := ⟨w.heap.size, 4, none⟩) (by assumption))) (by first | assumption | go_simp)
       have f5 := keepf H1.out.1 (b := w.heap.size) (o := 5) (by first | (simp <;> omega) | exact cell_lt' (a := ⟨w.heap.size, 5, none⟩) (by assumption) | (simp; exact cell_lt' (a := ⟨w.heap.size, 5, none⟩) (by assumption))) (by first | assumption | go_simp)
       have f6 := keepf H1.out.1 (b := w.heap.size) (o := 6) (by first | (simp <;> omega) | exact cell_lt' (a := ⟨w.heap.size, 6, none⟩) (by assumption) | (simp; exact cell_lt' (a := ⟨w.heap.size, 6, none⟩) (by assumption))) (by first | assumption | go_simp)
       have f7 := keepf H1.out.1 (b := w.heap.size) (o := 7) (by first | (simp <;> omega) | exact cell_lt' (a := ⟨w.heap.size, 7, none⟩) (by assumption) | (simp; exact cell_lt' (a := ⟨w.heap.size, 7, none⟩) (by assumption))) (by first | assumption | go_simp)
       have f8 := keepf H1.out.1 (b := w.heap.size) (o := 8) (by first | (simp <;> omega) | exact cell_lt' (a := ⟨w.heap.size, 8, none⟩) (by assumption) | (simp; exact cell_lt' (a := ⟨w.heap.size, 8, none⟩) (by assumption))) (by first | assumption | go_simp)
       have B1 := on (al _ _) H1.out.1))
  refine bodyPost_ret (v := .tuple #[mv noMs none 0 none 0, .bool false]) ?_ rfl ⟨rfl, ?_⟩
  · rw [results_cell2 rfl]
    dsimp only [mv, noMs, noAc, z0, List.length_nil]
    go_simp
  · show Below _ _ _
    repeat (first | with_reducible exact B1 | (with_reducible refine Below.setCell ?_ (by first | (simp; done) | (simp; omega) | omega) _) | (with_reducible refine Below.alloc ?_ (by first | (simp; done) | (simp; omega) | omega) _))

theorem rNum_b (t : Nat) (l : List Nat) (e : Nat) : (rNum (t : Int) l e).1 ≤ t := by
  have := rNum_le (t : Int) l e
  omega

theorem decode_any (x : Option Addr) (nn c : Nat) (l : List Nat) (n fr : Nat) (hn7 : n ≤ 7) (w : World) (hl : Fl.Sl w x nn c l) (hnn : nn ≤ 140737488351232) :
    Calls Try.prog 29 #[.slice x nn c, .int .i64 fr, .int .i64 n] w fun e w' =>
      match decM n fr l with
      | none => e = .returned (.tuple #[mv noMs none 0 none 0, .bool false]) ∧ Hid (Below w.heap.size w w')
      | some m => ∃ x c y cy, e = .returned (.tuple #[mv m x c y cy, .bool true]) ∧ Hid (Below w.heap.size w w' ∧ MGot w w' m x c y cy) := by
  have hlen := hl.len
  unfold decM
  rw [hlen]
  cases hse : isSealed l with
  | false =>
    rw [if_neg (fun h => by cases h.1)]
    exact dec_unsealed x nn c l n fr w hl hnn hse
  | true =>
    unfold rMsg
    dsimp only
    generalize hA : rNum ((n : Int) - 1) (l.take (nn - 8)) 0 = A
    generalize hK : rNum 5 A.2.1 A.2.2 = K
    generalize hU : rNum 2147483647 K.2.1 K.2.2 = U
    have hUb : U.1 ≤ 2147483647 := by rw [← hU]; exact rNum_b 2147483647 _ _
    unfold rRest
    have neq : ∀ {o : Nat}, o ≠ 0 → ((o : Int) != 0) = true := fun {o} h => by simp; omega
    have neqf : ∀ {a : Nat}, a ≠ fr → (((a : Nat) : Int) != (fr : Int)) = true := fun {a} h => by simp; omega
    by_cases h4 : K.1 = 4
    · rw [if_pos h4, h4]
      dsimp only
      by_cases ho : rDone U.2.1 U.2.2 = 0
      · by_cases hf : A.1 = fr
        · cases hm : mayM ⟨4, U.1, noAc, 0, []⟩ fr n with
          | true =>
            rw [if_pos ⟨rfl, ho, hf, rfl⟩]
            exact dec_k4_yes x nn c l n fr hn7 w hl hnn hse A hA K hK U hU hUb h4 ho hf hm
          | false =>
            rw [if_neg (fun h => by cases h.2.2.2)]
            exact dec_k4_may x nn c l n fr hn7 w hl hnn hse A hA K hK U hU hUb h4 ho hf hm
        · rw [if_neg (fun h => hf h.2.2.1)]
          exact dec_k4_from x nn c l n fr hn7 w hl hnn hse A hA K hK U hU hUb h4 ho (neqf hf)
      · rw [if_neg (fun h => ho h.2.1)]
        exact dec_k4_done x nn c l n fr hn7 w hl hnn hse A hA K hK U hU hUb h4 _ rfl (neq ho)
    · rw [if_neg h4]
      by_cases h5 : K.1 = 5
      · rw [if_pos h5, h5]
        generalize hT : rNum 2147483647 U.2.1 U.2.2 = T
        have hTb : T.1 ≤ 2147483647 := by rw [← hT]; exact rNum_b 2147483647 _ _
        generalize hQ : rDcs n (told U.1 T.1).toNat T.2.1 T.2.2 = Q
        have hQl : Q.1.length ≤ 64 := by
          rw [← hQ]
          have := rDcs_len n (told U.1 T.1).toNat T.2.1 T.2.2
          have h6 : told U.1 T.1 ≤ 64 := by unfold told; omega
          omega
        dsimp only
        by_cases ho : rDone Q.2.1 Q.2.2 = 0
        · by_cases hf : A.1 = fr
          · cases hm : mayM ⟨5, U.1, noAc, T.1, Q.1⟩ fr n with
            | true =>
              rw [if_pos ⟨rfl, ho, hf, rfl⟩]
              exact dec_k5_yes x nn c l n fr hn7 w hl hnn hse A hA K hK U hU hUb T hT hTb Q hQ hQl h5 ho hf hm
            | false =>
              rw [if_neg (fun h => by cases h.2.2.2)]
              exact dec_k5_may x nn c l n fr hn7 w hl hnn hse A hA K hK U hU hUb T hT hTb Q hQ hQl h5 ho hf hm
          · rw [if_neg (fun h => hf h.2.2.1)]
            exact dec_k5_from x nn c l n fr hn7 w hl hnn hse A hA K hK U hU hUb T hT hTb Q hQ hQl h5 ho (neqf hf)
        · rw [if_neg (fun h => ho h.2.1)]
          exact dec_k5_done x nn c l n fr hn7 w hl hnn hse A hA K hK U hU hUb T hT hTb Q hQ hQl h5 _ rfl (neq ho)
      · rw [if_neg h5]
        generalize hP : rBal n U.2.1 U.2.2 = P
        generalize hR : rBal n P.2.1 P.2.2 = R
        generalize hY : rBy 4104 R.2.1 R.2.2 = Y
        have hYl : Y.1.length ≤ 4104 := by rw [← hY]; exact rBy_len 4104 _ _
        have k4 : ((K.1 : Int) == 4) = false := by simp; omega
        have k5 : ((K.1 : Int) == 5) = false := by simp; omega
        dsimp only
        by_cases ho : rDone Y.2.1 Y.2.2 = 0
        · by_cases hf : A.1 = fr
          · cases hm : mayM ⟨K.1, U.1, ⟨P.1, R.1, Y.1⟩, 0, []⟩ fr n with
            | true =>
              rw [if_pos ⟨rfl, ho, hf, rfl⟩]
              exact dec_ko_yes x nn c l n fr hn7 w hl hnn hse A hA K hK U hU hUb K.1 k4 k5 rfl P hP R hR Y hY hYl ho hf hm
            | false =>
              rw [if_neg (fun h => by cases h.2.2.2)]
              exact dec_ko_may x nn c l n fr hn7 w hl hnn hse A hA K hK U hU hUb K.1 k4 k5 rfl P hP R hR Y hY hYl ho hf hm
          · rw [if_neg (fun h => hf h.2.2.1)]
            exact dec_ko_from x nn c l n fr hn7 w hl hnn hse A hA K hK U hU hUb K.1 k4 k5 rfl P hP R hR Y hY hYl ho (neqf hf)
        · rw [if_neg (fun h => ho h.2.1)]
          exact dec_ko_done x nn c l n fr hn7 w hl hnn hse A hA K hK U hU hUb K.1 k4 k5 rfl P hP R hR Y hY hYl _ rfl (neq ho)

end Go.Proofs.Ytfgfjfemaniaiaa.Px

/-
  What a message that was read can be.
  Conditions: none.
-/
namespace Go.Proofs.Ytfgfjfemaniaiaa.Px
open Go.RowKit Wi By Fl Ba
set_option linter.unusedVariables false
set_option linter.unusedSimpArgs false
set_option maxRecDepth 100000

structure MB (m : Ms) : Prop where
  kind : m.kind ≤ 5
  num : m.num ≤ 2147483647
  known : m.known ≤ 2147483647
  dl : m.decs.length ≤ 64
  dok : ∀ d ∈ m.decs, DOk d
  pok : BOk m.st.p
  pwf : bwf m.st.p
  aok : BOk m.st.a
  awf : bwf m.st.a
  len : m.st.d.length ≤ 4104

theorem rNum_n (n : Nat) (h : n ≤ 7) (l : List Nat) (e : Nat) : (rNum ((n : Int) - 1) l e).1 ≤ 6 := by
  have := rNum_le ((n : Int) - 1) l e
  omega

theorem rDc_ok (n : Nat) (h : n ≤ 7) (l : List Nat) (e : Nat) : DOk (rDc n l e).1 := by
  unfold rDc
  refine ⟨?_, ?_, ?_⟩
  · exact Nat.lt_of_le_of_lt (rNum_n n h l e) (by decide)
  · exact Nat.lt_of_le_of_lt (rNum_b 2147483647 _ _) (by decide)
  · show (str _).size ≤ 4096
    rw [str_size]
    exact rBy_len 4096 _ _

theorem rDcs_okd (n : Nat) (h : n ≤ 7) : ∀ (k : Nat) (l : List Nat) (e : Nat), ∀ d ∈ (rDcs n k l e).1, DOk d
  | 0, l, e, d, hd => by cases hd
  | k + 1, l, e, d, hd => by
    unfold rDcs at hd
    split at hd
    · rcases List.mem_cons.1 hd with rfl | hd
      · exact rDc_ok n h _ _
      · exact rDcs_okd n h k _ _ d hd
    · cases hd

theorem bok_of {a b : Nat} (ha : a ≤ 2147483647) (hb : b ≤ 6) : BOk ((a : Int), (b : Int)) ∧ bwf ((a : Int), (b : Int)) :=
  ⟨⟨by show (0 : Int) ≤ a; omega, by show (a : Int) < _; omega, by show (0 : Int) ≤ b; omega, by show (b : Int) < _; omega⟩, wfi_all (a := (a : Int)) (by omega) (by omega), wfi_all (a := (b : Int)) (by omega) (by omega)⟩

theorem rBal_ok (n : Nat) (h : n ≤ 7) (l : List Nat) (e : Nat) : BOk (rBal n l e).1 ∧ bwf (rBal n l e).1 := bok_of (rNum_b 2147483647 _ _) (rNum_n n h _ _)

theorem z0_ok : BOk z0 ∧ bwf z0 := bok_of (a := 0) (b := 0) (by omega) (by omega)

theorem rRest_mb (n : Nat) (h : n ≤ 7) (k u : Nat) (hk : k ≤ 5) (hu : u ≤ 2147483647) (l : List Nat) (e : Nat) : MB (rRest n k u l e).1 := by
  unfold rRest
  split
  · exact ⟨hk, hu, by show 0 ≤ _; omega, by show 0 ≤ _; omega, (fun d hd => by cases hd), z0_ok.1, z0_ok.2, z0_ok.1, z0_ok.2, by show 0 ≤ _; omega⟩
  · split
    · refine ⟨hk, hu, rNum_b 2147483647 _ _, ?_, rDcs_okd n h _ _ _, z0_ok.1, z0_ok.2, z0_ok.1, z0_ok.2, by show 0 ≤ _; omega⟩
      have h1 := rDcs_len n (told u (rNum 2147483647 l e).1).toNat (rNum 2147483647 l e).2.1 (rNum 2147483647 l e).2.2
      have h6 : told u (rNum 2147483647 l e).1 ≤ 64 := by unfold told; omega
      show (rDcs n _ _ _).1.length ≤ 64
      omega
    · exact ⟨hk, hu, by show 0 ≤ _; omega, by show 0 ≤ _; omega, (fun d hd => by cases hd), (rBal_ok n h _ _).1, (rBal_ok n h _ _).2, (rBal_ok n h _ _).1, (rBal_ok n h _ _).2, rBy_len 4104 _ _⟩

theorem decM_mb {n fr : Nat} (h : n ≤ 7) {l : List Nat} {m : Ms} (hm : decM n fr l = some m) : MB m ∧ mayM m fr n = true := by
  unfold decM at hm
  split at hm
  · rename_i q
    injection hm with hm
    rw [← hm]
    exact ⟨rRest_mb n h _ _ (rNum_b 5 _ _) (rNum_b 2147483647 _ _) _ _, q.2.2.2⟩
  · cases hm

end Go.Proofs.Ytfgfjfemaniaiaa.Px

/-
  What is read of a message that was written is that message.
  Conditions: the message is one that a monitor sends ('Sent').
-/
namespace Go.Proofs.Ytfgfjfemaniaiaa.Px
open Go.RowKit Wi By Fl Ba
set_option linter.unusedVariables false
set_option linter.unusedSimpArgs false
set_option maxRecDepth 100000

theorem rUv_w {N : Nat} (hN : N < 18446744073709551616) (r : List Nat) : rUv (uv N ++ r) 0 = (N, r, 0) := by
  rw [rUv_yes (lead_uv hN r), List.drop_left]

theorem rNum_w (t : Int) (N : Nat) (h : (N : Int) ≤ t) (hN : N < 18446744073709551616) (r : List Nat) : rNum t (uv N ++ r) 0 = (N, r, 0) := by
  unfold rNum
  rw [rUv_w hN, if_neg (by omega), if_neg (by simp), if_neg (by simp only; omega)]

theorem rBy_w (t : Int) (k r : List Nat) (h : (k.length : Int) ≤ t) (hk : k.length < 18446744073709551616) : rBy t (uv k.length ++ k ++ r) 0 = (k, r, 0) := by
  have e : rNum t (uv k.length ++ k ++ r) 0 = (k.length, k ++ r, 0) := by rw [List.append_assoc]; exact rNum_w t _ h hk _
  rw [rBy_yes (by rw [e]) (by rw [e]; simp), e]
  simp

/- A decree that can be sent among n. -/
structure Sd (n : Nat) (d : Dc) : Prop where
  mon : d.mon < n
  ser : d.ser ≤ 2147483647
  val : d.val.size ≤ 4096

theorem rDc_w (n : Nat) (hn : n ≤ 7) (d : Dc) (h : Sd n d) (r : List Nat) : rDc n (dbytes d ++ r) 0 = (d, r, 0) := by
  have e0 : dbytes d ++ r = uv d.mon ++ (uv d.ser ++ (uv (nat d.val).length ++ nat d.val ++ r)) := by
    unfold dbytes
    rw [nat_length]
    simp only [List.append_assoc]
  have h1 := h.mon
  have h2 := h.ser
  have h3 := h.val
  have a1 := rNum_w ((n : Int) - 1) d.mon (by omega) (by omega) (uv d.ser ++ (uv (nat d.val).length ++ nat d.val ++ r))
  have a2 := rNum_w 2147483647 d.ser (by omega) (by omega) (uv (nat d.val).length ++ nat d.val ++ r)
  have a3 := rBy_w 4096 (nat d.val) r (by rw [nat_length]; omega) (by rw [nat_length]; omega)
  unfold rDc
  rw [e0, a1]
  simp only
  rw [a2]
  simp only
  rw [a3]
  simp only
  rw [str_nat]

theorem dOf_w (n : Nat) (hn : n ≤ 7) (d : Dc) (h : Sd n d) (hs : 1 ≤ d.ser) : dOf n (dbytes d) = some d := by
  have e := rDc_w n hn d h []
  rw [List.append_nil] at e
  unfold dOf
  rw [e]
  rw [if_pos ⟨by simp [rDone], hs⟩]

theorem dbytes_inj {n : Nat} (hn : n ≤ 7) {d d' : Dc} (h : Sd n d) (h' : Sd n d') (e : dbytes d = dbytes d') : d = d' := by
  have a := rDc_w n hn d h []
  have b := rDc_w n hn d' h' []
  rw [e, b] at a
  injection a with a
  exact a.symm

theorem rDcs_w (n : Nat) (hn : n ≤ 7) : ∀ (L : List Dc) (r : List Nat), (∀ d ∈ L, Sd n d) → rDcs n L.length (dcs L ++ r) 0 = (L, r, 0)
  | [], r, _ => by simp [rDcs, dcs]
  | d :: L, r, h => by
    have e : dcs (d :: L) ++ r = dbytes d ++ (dcs L ++ r) := by simp [dcs]
    rw [e, List.length_cons, rDcs_ok, rDc_w n hn d (h d (List.mem_cons_self ..))]
    simp only
    rw [rDcs_w n hn L r (fun c hc => h c (List.mem_cons_of_mem _ hc))]

structure Sb (n : Nat) (b : Bt) : Prop where
  r0 : 0 ≤ b.1
  r1 : b.1 ≤ 2147483647
  m0 : 0 ≤ b.2
  m1 : b.2 < (n : Int)

theorem rBal_w (n : Nat) (hn : n ≤ 7) (b : Bt) (h : Sb n b) (r : List Nat) : rBal n (wBal b ++ r) 0 = (b, r, 0) := by
  obtain ⟨x, y⟩ := b
  obtain ⟨h1, h2, h3, h4⟩ := h
  dsimp only at h1 h2 h3 h4
  have e0 : wBal (x, y) ++ r = uv x.toNat ++ (uv y.toNat ++ r) := by
    unfold wBal
    rw [List.append_assoc]
  have a1 := rNum_w 2147483647 x.toNat (by omega) (by omega) (uv y.toNat ++ r)
  have a2 := rNum_w ((n : Int) - 1) y.toNat (by omega) (by omega) r
  unfold rBal
  rw [e0, a1]
  simp only
  rw [a2]
  simp only
  rw [Int.toNat_of_nonneg h1, Int.toNat_of_nonneg h3]

theorem sealed_is (l : List Nat) : isSealed (sealed l) = true ∧ (sealed l).take ((sealed l).length - 8) = l := by
  have hl : (sealed l).length = l.length + 8 := by unfold sealed; rw [List.length_append, fx_len]
  have ht : (sealed l).take ((sealed l).length - 8) = l := by
    rw [hl, Nat.add_sub_cancel]
    unfold sealed
    exact List.take_left
  refine ⟨?_, ht⟩
  unfold isSealed
  rw [ht, hl]
  simp

/- A message that a monitor sends. -/
structure Sent (n fr : Nat) (m : Ms) : Prop where
  from_ : fr < n
  num : m.num ≤ 2147483647
  may : mayM m fr n = true
  k4 : m.kind = 4 → m.st = noAc ∧ m.known = 0 ∧ m.decs = []
  k5 : m.kind = 5 → m.st = noAc ∧ m.known ≤ 2147483647 ∧ told m.num m.known = (m.decs.length : Int) ∧ ∀ d ∈ m.decs, Sd n d
  ko : m.kind ≠ 4 → m.kind ≠ 5 → m.known = 0 ∧ m.decs = [] ∧ Sb n m.st.p ∧ Sb n m.st.a ∧ m.st.d.length ≤ 4104

theorem mayM_kind {m : Ms} {fr n : Nat} (h : mayM m fr n = true) : m.kind ≤ 5 := by
  unfold mayM at h
  by_cases h1 : m.kind = 1
  · omega
  · by_cases h2 : m.kind = 2
    · omega
    · by_cases h3 : m.kind = 3
      · omega
      · by_cases h4 : m.kind = 4
        · omega
        · by_cases h5 : m.kind = 5
          · omega
          · simp [h1, h2, h3, h4, h5] at h

theorem rMsg_w {n fr : Nat} (hn : n ≤ 7) {m : Ms} (h : Sent n fr m) : rMsg n (body m fr) = (fr, m, [], 0) := by
  have hk := mayM_kind h.may
  have hf := h.from_
  have hnum := h.num
  obtain ⟨R, hR⟩ : ∃ R, R = (if m.kind = 4 then [] else if m.kind = 5 then uv m.known ++ dcs m.decs else wBal m.st.p ++ wBal m.st.a ++ (uv m.st.d.length ++ m.st.d)) := ⟨_, rfl⟩
  have e0 : body m fr = uv fr ++ (uv m.kind ++ (uv m.num ++ R)) := by
    unfold body
    rw [hR]
    simp only [List.append_assoc]
  have a1 := rNum_w ((n : Int) - 1) fr (by omega) (by omega) (uv m.kind ++ (uv m.num ++ R))
  have a2 := rNum_w 5 m.kind (by omega) (by omega) (uv m.num ++ R)
  have a3 := rNum_w 2147483647 m.num (by omega) (by omega) R
  unfold rMsg
  rw [e0, a1]
  simp only
  rw [a2]
  simp only
  rw [a3]
  simp only
  suffices hs : rRest n m.kind m.num R 0 = (m, [], 0) by rw [hs]
  obtain ⟨k, num, ⟨p, a, d⟩, known, decs⟩ := m
  dsimp only at hR
  unfold rRest
  dsimp only
  by_cases h4 : k = 4
  · obtain ⟨q1, q2, q3⟩ := h.k4 h4
    dsimp only at q1 q2 q3
    rw [if_pos h4, hR, if_pos h4, q1, q2, q3]
  · rw [if_neg h4, hR, if_neg h4]
    by_cases h5 : k = 5
    · obtain ⟨q1, q2, q3, q4⟩ := h.k5 h5
      dsimp only at q1 q2 q3 q4
      rw [if_pos h5, if_pos h5, rNum_w 2147483647 known (by omega) (by omega)]
      simp only
      have e := rDcs_w n hn decs [] q4
      rw [List.append_nil] at e
      rw [q3, Int.toNat_natCast, e, q1]
    · obtain ⟨q1, q2, q3, q4, q5⟩ := h.ko h4 h5
      dsimp only at q1 q2 q3 q4 q5
      rw [if_neg h5, if_neg h5, List.append_assoc, rBal_w n hn p q3]
      simp only
      rw [rBal_w n hn a q4]
      simp only
      have e := rBy_w 4104 d [] (by omega) (by omega)
      rw [List.append_nil] at e
      rw [e, q1, q2]

theorem decM_back {n fr : Nat} (hn : n ≤ 7) {m : Ms} (h : Sent n fr m) : decM n fr (encM m fr) = some m := by
  unfold decM encM
  rw [(sealed_is (body m fr)).2, rMsg_w hn h]
  rw [if_pos ⟨(sealed_is _).1, by simp [rDone], rfl, h.may⟩]

end Go.Proofs.Ytfgfjfemaniaiaa.Px

/-
  What a bid asks the others, and whether one of them did it.
  Conditions: the bid lies in memory ('BdAt').
-/
namespace Go.Proofs.Ytfgfjfemaniaiaa.Px
open Go.RowKit Wi By Fl Ba
set_option linter.unusedVariables false
set_option linter.unusedSimpArgs false
set_option maxRecDepth 100000

section
variable {w : World} {l : Lb} {b : Bd}

theorem BdAt.c0 (h : BdAt w l b) : w.cell? ⟨l.bp, 0, none⟩ = some (.int .i64 b.num) := h.obj.cell (k := 0) (by omega)
theorem BdAt.c1 (h : BdAt w l b) : w.cell? ⟨l.bp, 1, none⟩ = some (.int .i64 b.bal.1) := h.obj.cell (k := 1) (by omega)
theorem BdAt.c2 (h : BdAt w l b) : w.cell? ⟨l.bp, 2, none⟩ = some (.int .i64 b.bal.2) := h.obj.cell (k := 2) (by omega)
theorem BdAt.c3 (h : BdAt w l b) : w.cell? ⟨l.bp, 3, none⟩ = some (.slice l.x l.n l.c) := h.obj.cell (k := 3) (by omega)
theorem BdAt.c4 (h : BdAt w l b) : w.cell? ⟨l.bp, 4, none⟩ = some (.map (some l.tb)) := h.obj.cell (k := 4) (by omega)

set_option maxHeartbeats 1600000 in
theorem request_prep (h : BdAt w l b) (num : Nat) (x y : Int) (hnum : b.num = num) (hbal : b.bal = (x, y)) (hv : b.val = []) :
    Calls Try.prog 56 #[.pointer (some ⟨l.bp, 0, none⟩)] w fun e w' => e = .returned (.agg #[.int .i64 1, .int .i64 num, .int .i64 x, .int .i64 y, .int .i64 0, .int .i64 0, .slice none 0 0, .int .i64 0, .slice none 0 0]) ∧ Hid (Below w.heap.size w w') := by
  have d0 := h.c0
  have d1 := h.c1
  have d2 := h.c2
  have d3 := h.c3
  rw [hnum] at d0
  rw [hbal] at d1 d2
  dsimp only at d1 d2
  have hn : l.n = 0 := by rw [← h.val.sl.len, hv]; rfl
  rw [hn] at d3
  clear hn hv
  have hpl := h.obj.lt
  clear h hnum hbal
  generalize l.bp = p at *
  generalize l.x = lx at *
  generalize l.c = lc at *
  have bW : Below w.heap.size w ((w.alloc (.cells #[.int .i64 0, .int .i64 0, .int .i64 0, .int .i64 0, .int .i64 0, .int .i64 0, .slice none 0 0, .int .i64 0, .slice none 0 0] 76)).alloc (.cells #[.int .i64 x, .int .i64 y, .int .i64 0, .int .i64 0, .slice none 0 0] 74)).drew := on (on (al _ _) (al _ _)) (Below.refl _ _).drew
  have e0 := keep bW d0
  have a0 : ((w.alloc (.cells #[.int .i64 0, .int .i64 0, .int .i64 0, .int .i64 0, .int .i64 0, .int .i64 0, .slice none 0 0, .int .i64 0, .slice none 0 0] 76)).alloc (.cells #[.int .i64 x, .int .i64 y, .int .i64 0, .int .i64 0, .slice none 0 0] 74)).drew.cell? ⟨w.heap.size + 1, 0, none⟩ = some (.int .i64 x) := by go_simp
  have a1 : ((w.alloc (.cells #[.int .i64 0, .int .i64 0, .int .i64 0, .int .i64 0, .int .i64 0, .int .i64 0, .slice none 0 0, .int .i64 0, .slice none 0 0] 76)).alloc (.cells #[.int .i64 x, .int .i64 y, .int .i64 0, .int .i64 0, .slice none 0 0] 74)).drew.cell? ⟨w.heap.size + 1, 1, none⟩ = some (.int .i64 y) := by go_simp
  have a2 : ((w.alloc (.cells #[.int .i64 0, .int .i64 0, .int .i64 0, .int .i64 0, .int .i64 0, .int .i64 0, .slice none 0 0, .int .i64 0, .slice none 0 0] 76)).alloc (.cells #[.int .i64 x, .int .i64 y, .int .i64 0, .int .i64 0, .slice none 0 0] 74)).drew.cell? ⟨w.heap.size + 1, 2, none⟩ = some (.int .i64 0) := by go_simp
  have a3 : ((w.alloc (.cells #[.int .i64 0, .int .i64 0, .int .i64 0, .int .i64 0, .int .i64 0, .int .i64 0, .slice none 0 0, .int .i64 0, .slice none 0 0] 76)).alloc (.cells #[.int .i64 x, .int .i64 y, .int .i64 0, .int .i64 0, .slice none 0 0] 74)).drew.cell? ⟨w.heap.size + 1, 3, none⟩ = some (.int .i64 0) := by go_simp
  have a4 : ((w.alloc (.cells #[.int .i64 0, .int .i64 0, .int .i64 0, .int .i64 0, .int .i64 0, .int .i64 0, .slice none 0 0, .int .i64 0, .slice none 0 0] 76)).alloc (.cells #[.int .i64 x, .int .i64 y, .int .i64 0, .int .i64 0, .slice none 0 0] 74)).drew.cell? ⟨w.heap.size + 1, 4, none⟩ = some (.slice none 0 0) := by go_simp
  have r0 : ((w.alloc (.cells #[.int .i64 0, .int .i64 0, .int .i64 0, .int .i64 0, .int .i64 0, .int .i64 0, .slice none 0 0, .int .i64 0, .slice none 0 0] 76)).alloc (.cells #[.int .i64 x, .int .i64 y, .int .i64 0, .int .i64 0, .slice none 0 0] 74)).drew.cell? ⟨w.heap.size, 0, none⟩ = some (.int .i64 0) := by go_simp
  have f0 : ((w.alloc (.cells #[.int .i64 0, .int .i64 0, .int .i64 0, .int .i64 0, .int .i64 0, .int .i64 0, .slice none 0 0, .int .i64 0, .slice none 0 0] 76)).alloc (.cells #[.int .i64 x, .int .i64 y, .int .i64 0, .int .i64 0, .slice none 0 0] 74)).drew.frozen? ⟨w.heap.size, 0, none⟩ = false := by go_simp
  have r1 : ((w.alloc (.cells #[.int .i64 0, .int .i64 0, .int .i64 0, .int .i64 0, .int .i64 0, .int .i64 0, .slice none 0 0, .int .i64 0, .slice none 0 0] 76)).alloc (.cells #[.int .i64 x, .int .i64 y, .int .i64 0, .int .i64 0, .slice none 0 0] 74)).drew.cell? ⟨w.heap.size, 1, none⟩ = some (.int .i64 0) := by go_simp
  have f1 : ((w.alloc (.cells #[.int .i64 0, .int .i64 0, .int .i64 0, .int .i64 0, .int .i64 0, .int .i64 0, .slice none 0 0, .int .i64 0, .slice none 0 0] 76)).alloc (.cells #[.int .i64 x, .int .i64 y, .int .i64 0, .int .i64 0, .slice none 0 0] 74)).drew.frozen? ⟨w.heap.size, 1, none⟩ = false := by go_simp
  have r2 : ((w.alloc (.cells #[.int .i64 0, .int .i64 0, .int .i64 0, .int .i64 0, .int .i64 0, .int .i64 0, .slice none 0 0, .int .i64 0, .slice none 0 0] 76)).alloc (.cells #[.int .i64 x, .int .i64 y, .int .i64 0, .int .i64 0, .slice none 0 0] 74)).drew.cell? ⟨w.heap.size, 2, none⟩ = some (.int .i64 0) := by go_simp
  have f2 : ((w.alloc (.cells #[.int .i64 0, .int .i64 0, .int .i64 0, .int .i64 0, .int .i64 0, .int .i64 0, .slice none 0 0, .int .i64 0, .slice none 0 0] 76)).alloc (.cells #[.int .i64 x, .int .i64 y, .int .i64 0, .int .i64 0, .slice none 0 0] 74)).drew.frozen? ⟨w.heap.size, 2, none⟩ = false := by go_simp
  have r3 : ((w.alloc (.cells #[.int .i64 0, .int .i64 0, .int .i64 0, .int .i64 0, .int .i64 0, .int .i64 0, .slice none 0 0, .int .i64 0, .slice none 0 0] 76)).alloc (.cells #[.int .i64 x, .int .i64 y, .int .i64 0, .int .i64 0, .slice none 0 0] 74)).drew.cell? ⟨w.heap.size, 3, none⟩ = some (.int .i64 0) := by go_simp
  have f3 : ((w.alloc (.cells #[.int .i64 0, .int .i64 0, .int .i64 0, .int .i64 0, .int .i64 0, .int .i64 0, .slice none 0 0, .int .i64 0, .slice none 0 0] 76)).alloc (.cells #[.int .i64 x, .int .i64 y, .int .i64 0, .int .i64 0, .slice none 0 0] 74)).drew.frozen? ⟨w.heap.size, 3, none⟩ = false := by go_simp
  have r4 : ((w.alloc (.cells #[.int .i64 0, .int .i64 0, .int .i64 0, .int .i64 0, .int .i64 0, .int .i64 0, .slice none 0 0, .int .i64 0, .slice none 0 0] 76)).alloc (.cells #[.int .i64 x, .int .i64 y, .int .i64 0, .int .i64 0, .slice none 0 0] 74)).drew.cell? ⟨w.heap.size, 4, none⟩ = some (.int .i64 0) := by go_simp
  have f4 : ((w.alloc (.cells #[.int .i64 0, .int .i64 0, .int .i64 0, .int .i64 0, .int .i64 0, .int .i64 0, .slice none 0 0, .int .i64 0, .slice none 0 0] 76)).alloc (.cells #[.int .i64 x, .int .i64 y, .int .i64 0, .int .i64 0, .slice none 0 0] 74)).drew.frozen? ⟨w.heap.size, 4, none⟩ = false := by go_simp
  have r5 : ((w.alloc (.cells #[.int .i64 0, .int .i64 0, .int .i64 0, .int .i64 0, .int .i64 0, .int .i64 0, .slice none 0 0, .int .i64 0, .slice none 0 0] 76)).alloc (.cells #[.int .i64 x, .int .i64 y, .int .i64 0, .int .i64 0, .slice none 0 0] 74)).drew.cell? ⟨w.heap.size, 5, none⟩ = some (.int .i64 0) := by go_simp
  have f5 : ((w.alloc (.cells #[.int .i64 0, .int .i64 0, .int .i64 0, .int .i64 0, .int .i64 0, .int .i64 0, .slice none 0 0, .int .i64 0, .slice none 0 0] 76)).alloc (.cells #[.int .i64 x, .int .i64 y, .int .i64 0, .int .i64 0, .slice none 0 0] 74)).drew.frozen? ⟨w.heap.size, 5, none⟩ = false := by go_simp
  have r6 : ((w.alloc (.cells #[.int .i64 0, .int .i64 0, .int .i64 0, .int .i64 0, .int .i64 0, .int .i64 0, .slice none 0 0, .int .i64 0, .slice none 0 0] 76)).alloc (.cells #[.int .i64 x, .int .i64 y, .int .i64 0, .int .i64 0, .slice none 0 0] 74)).drew.cell? ⟨w.heap.size, 6, none⟩ = some (.slice none 0 0) := by go_simp
  have f6 : ((w.alloc (.cells #[.int .i64 0, .int .i64 0, .int .i64 0, .int .i64 0, .int .i64 0, .int .i64 0, .slice none 0 0, .int .i64 0, .slice none 0 0] 76)).alloc (.cells #[.int .i64 x, .int .i64 y, .int .i64 0, .int .i64 0, .slice none 0 0] 74)).drew.frozen? ⟨w.heap.size, 6, none⟩ = false := by go_simp
  have r7 : ((w.alloc (.cells #[.int .i64 0, .int .i64 0, .int .i64 0, .int .i64 0, .int .i64 0, .int .i64 0, .slice none 0 0, .int .i64 0, .slice none 0 0] 76)).alloc (.cells #[.int .i64 x, .int .i64 y, .int .i64 0, .int .i64 0, .slice none 0 0] 74)).drew.cell? ⟨w.heap.size, 7, none⟩ = some (.int .i64 0) := by go_simp
  have f7 : ((w.alloc (.cells #[.int .i64 0, .int .i64 0, .int .i64 0, .int .i64 0, .int .i64 0, .int .i64 0, .slice none 0 0, .int .i64 0, .slice none 0 0] 76)).alloc (.cells #[.int .i64 x, .int .i64 y, .int .i64 0, .int .i64 0, .slice none 0 0] 74)).drew.frozen? ⟨w.heap.size, 7, none⟩ = false := by go_simp
  have r8 : ((w.alloc (.cells #[.int .i64 0, .int .i64 0, .int .i64 0, .int .i64 0, .int .i64 0, .int .i64 0, .slice none 0 0, .int .i64 0, .slice none 0 0] 76)).alloc (.cells #[.int .i64 x, .int .i64 y, .int .i64 0, .int .i64 0, .slice none 0 0] 74)).drew.cell? ⟨w.heap.size, 8, none⟩ = some (.slice none 0 0) := by go_simp
  have f8 : ((w.alloc (.cells #[.int .i64 0, .int .i64 0, .int .i64 0, .int .i64 0, .int .i64 0, .int .i64 0, .slice none 0 0, .int .i64 0, .slice none 0 0] 76)).alloc (.cells #[.int .i64 x, .int .i64 y, .int .i64 0, .int .i64 0, .slice none 0 0] 74)).drew.frozen? ⟨w.heap.size, 8, none⟩ = false := by go_simp
  have lt0 : w.heap.size + 1 < ((w.alloc (.cells #[.int .i64 0, .int .i64 0, .int .i64 0, .int .i64 0, .int .i64 0, .int .i64 0, .slice none 0 0, .int .i64 0, .slice none 0 0] 76)).alloc (.cells #[.int .i64 x, .int .i64 y, .int .i64 0, .int .i64 0, .slice none 0 0] 74)).drew.heap.size := by go_simp
  have lt1 : w.heap.size < ((w.alloc (.cells #[.int .i64 0, .int .i64 0, .int .i64 0, .int .i64 0, .int .i64 0, .int .i64 0, .slice none 0 0, .int .i64 0, .slice none 0 0] 76)).alloc (.cells #[.int .i64 x, .int .i64 y, .int .i64 0, .int .i64 0, .slice none 0 0] 74)).drew.heap.size := by omega
  have HB : Hid (Below w.heap.size w ((w.alloc (.cells #[.int .i64 0, .int .i64 0, .int .i64 0, .int .i64 0, .int .i64 0, .int .i64 0, .slice none 0 0, .int .i64 0, .slice none 0 0] 76)).alloc (.cells #[.int .i64 x, .int .i64 y, .int .i64 0, .int .i64 0, .slice none 0 0] 74)).drew) := bW
  clear bW
  go_enter Try.func56, Try.ntmps56
  go_wp2_with fail
  refine wp_region_held_drew (S := fun q => q.cell? ⟨p, 0, none⟩ = some (.int .i64 num) ∧ q.cell? ⟨w.heap.size + 1, 0, none⟩ = some (.int .i64 x) ∧ q.cell? ⟨w.heap.size + 1, 1, none⟩ = some (.int .i64 y) ∧ q.cell? ⟨w.heap.size + 1, 2, none⟩ = some (.int .i64 0) ∧ q.cell? ⟨w.heap.size + 1, 3, none⟩ = some (.int .i64 0) ∧ q.cell? ⟨w.heap.size + 1, 4, none⟩ = some (.slice none 0 0)) (by kernel_rfl) ⟨e0, a0, a1, a2, a3, a4⟩ (fun hHeld => ?_)
  generalize ((w.alloc (.cells #[.int .i64 0, .int .i64 0, .int .i64 0, .int .i64 0, .int .i64 0, .int .i64 0, .slice none 0 0, .int .i64 0, .slice none 0 0] 76)).alloc (.cells #[.int .i64 x, .int .i64 y, .int .i64 0, .int .i64 0, .slice none 0 0] 74)).drew = wD at *
  refine By.hk 0 ?_
  refine By.hk 1 ?_
  refine By.hk 2 ?_
  refine By.hk 3 ?_
  refine By.hk 4 ?_
  refine By.hk 5 ?_
  refine wpAnyH_ready (rs := [6]) (by kernel_rfl) (by simp) ?_
  refine AllReadyH.cons rfl (fun K hK => ?_) AllReadyH.nil
  go_simp
  refine hK.out _ _ ⟨by go_simp, by go_simp, by go_simp, by go_simp, by go_simp, by go_simp⟩ (fun hHeld => ?_)
  clear hK K
  refine wpAnyH_done (by kernel_rfl) ?_ _
  clear hHeld
  go_wp2_with fail
  refine bodyPost_ret (v := .agg #[.int .i64 1, .int .i64 num, .int .i64 x, .int .i64 y, .int .i64 0, .int .i64 0, .slice none 0 0, .int .i64 0, .slice none 0 0]) ?_ rfl ⟨rfl, ?_⟩
  · rw [results_cell1 rfl]
    go_simp
  · show Below _ _ _
    repeat (first | with_reducible exact HB.out | (with_reducible refine Below.setCell ?_ (by first | (simp; done) | (simp; omega) | omega) _) | (with_reducible refine Below.alloc ?_ (by first | (simp; done) | (simp; omega) | omega) _))

end

end Go.Proofs.Ytfgfjfemaniaiaa.Px

/-
  Package paxos: request, of a bid with a value.
  Conditions: none.
-/
namespace Go.Proofs.Ytfgfjfemaniaiaa.Px
open Go.RowKit Wi By Fl Ba
set_option linter.unusedVariables false
set_option linter.unusedSimpArgs false
set_option maxRecDepth 100000

section
variable {w : World} {l : Lb} {b : Bd}

set_option maxHeartbeats 3200000 in
theorem request_acc (h : BdAt w l b) (num : Nat) (x y : Int) (hnum : b.num = num) (hbal : b.bal = (x, y)) (hv : b.val ≠ []) :
    Calls Try.prog 56 #[.pointer (some ⟨l.bp, 0, none⟩)] w fun e w' => e = .returned (.agg #[.int .i64 2, .int .i64 (num : Int), .int .i64 x, .int .i64 y, .int .i64 x, .int .i64 y, .slice l.x l.n l.c, .int .i64 0, .slice none 0 0]) ∧ Hid (Below w.heap.size w w') := by
  have d0 := h.c0
  have d1 := h.c1
  have d2 := h.c2
  have d3 := h.c3
  rw [hnum] at d0
  rw [hbal] at d1 d2
  dsimp only at d1 d2
  have hn : ¬ (l.n : Int) = 0 := fun e => hv (List.eq_nil_of_length_eq_zero (by rw [h.val.sl.len]; omega))
  have hpl := h.obj.lt
  clear h hnum hbal hv
  generalize l.bp = p at *
  generalize l.x = lx at *
  generalize l.c = lc at *
  generalize l.n = ln at *
  have bW : Below w.heap.size w ((w.alloc (.cells #[.int .i64 0, .int .i64 0, .int .i64 0, .int .i64 0, .int .i64 0, .int .i64 0, .slice none 0 0, .int .i64 0, .slice none 0 0] 76)).alloc (.cells #[.int .i64 x, .int .i64 y, .int .i64 0, .int .i64 0, .slice none 0 0] 74)).drew := on (on (al _ _) (al _ _)) (Below.refl _ _).drew
  have e0 := keep bW d0
  have e1 := keep bW d1
  have e2 := keep bW d2
  have e3 := keep bW d3
  have a0 : ((w.alloc (.cells #[.int .i64 0, .int .i64 0, .int .i64 0, .int .i64 0, .int .i64 0, .int .i64 0, .slice none 0 0, .int .i64 0, .slice none 0 0] 76)).alloc (.cells #[.int .i64 x, .int .i64 y, .int .i64 0, .int .i64 0, .slice none 0 0] 74)).drew.cell? ⟨w.heap.size + 1, 0, none⟩ = some (.int .i64 x) := by go_simp
  have a1 : ((w.alloc (.cells #[.int .i64 0, .int .i64 0, .int .i64 0, .int .i64 0, .int .i64 0, .int .i64 0, .slice none 0 0, .int .i64 0, .slice none 0 0] 76)).alloc (.cells #[.int .i64 x, .int .i64 y, .int .i64 0, .int .i64 0, .slice none 0 0] 74)).drew.cell? ⟨w.heap.size + 1, 1, none⟩ = some (.int .i64 y) := by go_simp
  have a2 : ((w.alloc (.cells #[.int .i64 0, .int .i64 0, .int .i64 0, .int .i64 0, .int .i64 0, .int .i64 0, .slice none 0 0, .int .i64 0, .slice none 0 0] 76)).alloc (.cells #[.int .i64 x, .int .i64 y, .int .i64 0, .int .i64 0, .slice none 0 0] 74)).drew.cell? ⟨w.heap.size + 1, 2, none⟩ = some (.int .i64 0) := by go_simp
  have a3 : ((w.alloc (.cells #[.int .i64 0, .int .i64 0, .int .i64 0, .int .i64 0, .int .i64 0, .int .i64 0, .slice none 0 0, .int .i64 0, .slice none 0 0] 76)).alloc (.cells #[.int .i64 x, .int .i64 y, .int .i64 0, .int .i64 0, .slice none 0 0] 74)).drew.cell? ⟨w.heap.size + 1, 3, none⟩ = some (.int .i64 0) := by go_simp
  have a4 : ((w.alloc (.cells #[.int .i64 0, .int .i64 0, .int .i64 0, .int .i64 0, .int .i64 0, .int .i64 0, .slice none 0 0, .int .i64 0, .slice none 0 0] 76)).alloc (.cells #[.int .i64 x, .int .i64 y, .int .i64 0, .int .i64 0, .slice none 0 0] 74)).drew.cell? ⟨w.heap.size + 1, 4, none⟩ = some (.slice none 0 0) := by go_simp
  have g0 : ((w.alloc (.cells #[.int .i64 0, .int .i64 0, .int .i64 0, .int .i64 0, .int .i64 0, .int .i64 0, .slice none 0 0, .int .i64 0, .slice none 0 0] 76)).alloc (.cells #[.int .i64 x, .int .i64 y, .int .i64 0, .int .i64 0, .slice none 0 0] 74)).drew.frozen? ⟨w.heap.size + 1, 0, none⟩ = false := by go_simp
  have g1 : ((w.alloc (.cells #[.int .i64 0, .int .i64 0, .int .i64 0, .int .i64 0, .int .i64 0, .int .i64 0, .slice none 0 0, .int .i64 0, .slice none 0 0] 76)).alloc (.cells #[.int .i64 x, .int .i64 y, .int .i64 0, .int .i64 0, .slice none 0 0] 74)).drew.frozen? ⟨w.heap.size + 1, 1, none⟩ = false := by go_simp
  have g2 : ((w.alloc (.cells #[.int .i64 0, .int .i64 0, .int .i64 0, .int .i64 0, .int .i64 0, .int .i64 0, .slice none 0 0, .int .i64 0, .slice none 0 0] 76)).alloc (.cells #[.int .i64 x, .int .i64 y, .int .i64 0, .int .i64 0, .slice none 0 0] 74)).drew.frozen? ⟨w.heap.size + 1, 2, none⟩ = false := by go_simp
  have g3 : ((w.alloc (.cells #[.int .i64 0, .int .i64 0, .int .i64 0, .int .i64 0, .int .i64 0, .int .i64 0, .slice none 0 0, .int .i64 0, .slice none 0 0] 76)).alloc (.cells #[.int .i64 x, .int .i64 y, .int .i64 0, .int .i64 0, .slice none 0 0] 74)).drew.frozen? ⟨w.heap.size + 1, 3, none⟩ = false := by go_simp
  have g4 : ((w.alloc (.cells #[.int .i64 0, .int .i64 0, .int .i64 0, .int .i64 0, .int .i64 0, .int .i64 0, .slice none 0 0, .int .i64 0, .slice none 0 0] 76)).alloc (.cells #[.int .i64 x, .int .i64 y, .int .i64 0, .int .i64 0, .slice none 0 0] 74)).drew.frozen? ⟨w.heap.size + 1, 4, none⟩ = false := by go_simp
  have r0 : ((w.alloc (.cells #[.int .i64 0, .int .i64 0, .int .i64 0, .int .i64 0, .int .i64 0, .int .i64 0, .slice none 0 0, .int .i64 0, .slice none 0 0] 76)).alloc (.cells #[.int .i64 x, .int .i64 y, .int .i64 0, .int .i64 0, .slice none 0 0] 74)).drew.cell? ⟨w.heap.size, 0, none⟩ = some (.int .i64 0) := by go_simp
  have r1 : ((w.alloc (.cells #[.int .i64 0, .int .i64 0, .int .i64 0, .int .i64 0, .int .i64 0, .int .i64 0, .slice none 0 0, .int .i64 0, .slice none 0 0] 76)).alloc (.cells #[.int .i64 x, .int .i64 y, .int .i64 0, .int .i64 0, .slice none 0 0] 74)).drew.cell? ⟨w.heap.size, 1, none⟩ = some (.int .i64 0) := by go_simp
  have r2 : ((w.alloc (.cells #[.int .i64 0, .int .i64 0, .int .i64 0, .int .i64 0, .int .i64 0, .int .i64 0, .slice none 0 0, .int .i64 0, .slice none 0 0] 76)).alloc (.cells #[.int .i64 x, .int .i64 y, .int .i64 0, .int .i64 0, .slice none 0 0] 74)).drew.cell? ⟨w.heap.size, 2, none⟩ = some (.int .i64 0) := by go_simp
  have r3 : ((w.alloc (.cells #[.int .i64 0, .int .i64 0, .int .i64 0, .int .i64 0, .int .i64 0, .int .i64 0, .slice none 0 0, .int .i64 0, .slice none 0 0] 76)).alloc (.cells #[.int .i64 x, .int .i64 y, .int .i64 0, .int .i64 0, .slice none 0 0] 74)).drew.cell? ⟨w.heap.size, 3, none⟩ = some (.int .i64 0) := by go_simp
  have r4 : ((w.alloc (.cells #[.int .i64 0, .int .i64 0, .int .i64 0, .int .i64 0, .int .i64 0, .int .i64 0, .slice none 0 0, .int .i64 0, .slice none 0 0] 76)).alloc (.cells #[.int .i64 x, .int .i64 y, .int .i64 0, .int .i64 0, .slice none 0 0] 74)).drew.cell? ⟨w.heap.size, 4, none⟩ = some (.int .i64 0) := by go_simp
  have r5 : ((w.alloc (.cells #[.int .i64 0, .int .i64 0, .int .i64 0, .int .i64 0, .int .i64 0, .int .i64 0, .slice none 0 0, .int .i64 0, .slice none 0 0] 76)).alloc (.cells #[.int .i64 x, .int .i64 y, .int .i64 0, .int .i64 0, .slice none 0 0] 74)).drew.cell? ⟨w.heap.size, 5, none⟩ = some (.int .i64 0) := by go_simp
  have r6 : ((w.alloc (.cells #[.int .i64 0, .int .i64 0, .int .i64 0, .int .i64 0, .int .i64 0, .int .i64 0, .slice none 0 0, .int .i64 0, .slice none 0 0] 76)).alloc (.cells #[.int .i64 x, .int .i64 y, .int .i64 0, .int .i64 0, .slice none 0 0] 74)).drew.cell? ⟨w.heap.size, 6, none⟩ = some (.slice none 0 0) := by go_simp
  have r7 : ((w.alloc (.cells #[.int .i64 0, .int .i64 0, .int .i64 0, .int .i64 0, .int .i64 0, .int .i64 0, .slice none 0 0, .int .i64 0, .slice none 0 0] 76)).alloc (.cells #[.int .i64 x, .int .i64 y, .int .i64 0, .int .i64 0, .slice none 0 0] 74)).drew.cell? ⟨w.heap.size, 7, none⟩ = some (.int .i64 0) := by go_simp
  have r8 : ((w.alloc (.cells #[.int .i64 0, .int .i64 0, .int .i64 0, .int .i64 0, .int .i64 0, .int .i64 0, .slice none 0 0, .int .i64 0, .slice none 0 0] 76)).alloc (.cells #[.int .i64 x, .int .i64 y, .int .i64 0, .int .i64 0, .slice none 0 0] 74)).drew.cell? ⟨w.heap.size, 8, none⟩ = some (.slice none 0 0) := by go_simp
  have f0 : ((w.alloc (.cells #[.int .i64 0, .int .i64 0, .int .i64 0, .int .i64 0, .int .i64 0, .int .i64 0, .slice none 0 0, .int .i64 0, .slice none 0 0] 76)).alloc (.cells #[.int .i64 x, .int .i64 y, .int .i64 0, .int .i64 0, .slice none 0 0] 74)).drew.frozen? ⟨w.heap.size, 0, none⟩ = false := by go_simp
  have f1 : ((w.alloc (.cells #[.int .i64 0, .int .i64 0, .int .i64 0, .int .i64 0, .int .i64 0, .int .i64 0, .slice none 0 0, .int .i64 0, .slice none 0 0] 76)).alloc (.cells #[.int .i64 x, .int .i64 y, .int .i64 0, .int .i64 0, .slice none 0 0] 74)).drew.frozen? ⟨w.heap.size, 1, none⟩ = false := by go_simp
  have f2 : ((w.alloc (.cells #[.int .i64 0, .int .i64 0, .int .i64 0, .int .i64 0, .int .i64 0, .int .i64 0, .slice none 0 0, .int .i64 0, .slice none 0 0] 76)).alloc (.cells #[.int .i64 x, .int .i64 y, .int .i64 0, .int .i64 0, .slice none 0 0] 74)).drew.frozen? ⟨w.heap.size, 2, none⟩ = false := by go_simp
  have f3 : ((w.alloc (.cells #[.int .i64 0, .int .i64 0, .int .i64 0, .int .i64 0, .int .i64 0, .int .i64 0, .slice none 0 0, .int .i64 0, .slice none 0 0] 76)).alloc (.cells #[.int .i64 x, .int .i64 y, .int .i64 0, .int .i64 0, .slice none 0 0] 74)).drew.frozen? ⟨w.heap.size, 3, none⟩ = false := by go_simp
  have f4 : ((w.alloc (.cells #[.int .i64 0, .int .i64 0, .int .i64 0, .int .i64 0, .int .i64 0, .int .i64 0, .slice none 0 0, .int .i64 0, .slice none 0 0] 76)).alloc (.cells #[.int .i64 x, .int .i64 y, .int .i64 0, .int .i64 0, .slice none 0 0] 74)).drew.frozen? ⟨w.heap.size, 4, none⟩ = false := by go_simp
  have f5 : ((w.alloc (.cells #[.int .i64 0, .int .i64 0, .int .i64 0, .int .i64 0, .int .i64 0, .int .i64 0, .slice none 0 0, .int .i64 0, .slice none 0 0] 76)).alloc (.cells #[.int .i64 x, .int .i64 y, .int .i64 0, .int .i64 0, .slice none 0 0] 74)).drew.frozen? ⟨w.heap.size, 5, none⟩ = false := by go_simp
  have f6 : ((w.alloc (.cells #[.int .i64 0, .int .i64 0, .int .i64 0, .int .i64 0, .int .i64 0, .int .i64 0, .slice none 0 0, .int .i64 0, .slice none 0 0] 76)).alloc (.cells #[.int .i64 x, .int .i64 y, .int .i64 0, .int .i64 0, .slice none 0 0] 74)).drew.frozen? ⟨w.heap.size, 6, none⟩ = false := by go_simp
  have f7 : ((w.alloc (.cells #[.int .i64 0, .int .i64 0, .int .i64 0, .int .i64 0, .int .i64 0, .int .i64 0, .slice none 0 0, .int .i64 0, .slice none 0 0] 76)).alloc (.cells #[.int .i64 x, .int .i64 y, .int .i64 0, .int .i64 0, .slice none 0 0] 74)).drew.frozen? ⟨w.heap.size, 7, none⟩ = false := by go_simp
  have f8 : ((w.alloc (.cells #[.int .i64 0, .int .i64 0, .int .i64 0, .int .i64 0, .int .i64 0, .int .i64 0, .slice none 0 0, .int .i64 0, .slice none 0 0] 76)).alloc (.cells #[.int .i64 x, .int .i64 y, .int .i64 0, .int .i64 0, .slice none 0 0] 74)).drew.frozen? ⟨w.heap.size, 8, none⟩ = false := by go_simp
  have lt0 : w.heap.size + 1 < ((w.alloc (.cells #[.int .i64 0, .int .i64 0, .int .i64 0, .int .i64 0, .int .i64 0, .int .i64 0, .slice none 0 0, .int .i64 0, .slice none 0 0] 76)).alloc (.cells #[.int .i64 x, .int .i64 y, .int .i64 0, .int .i64 0, .slice none 0 0] 74)).drew.heap.size := by go_simp
  have lt1 : w.heap.size < ((w.alloc (.cells #[.int .i64 0, .int .i64 0, .int .i64 0, .int .i64 0, .int .i64 0, .int .i64 0, .slice none 0 0, .int .i64 0, .slice none 0 0] 76)).alloc (.cells #[.int .i64 x, .int .i64 y, .int .i64 0, .int .i64 0, .slice none 0 0] 74)).drew.heap.size := by omega
  have HB : Hid (Below w.heap.size w ((w.alloc (.cells #[.int .i64 0, .int .i64 0, .int .i64 0, .int .i64 0, .int .i64 0, .int .i64 0, .slice none 0 0, .int .i64 0, .slice none 0 0] 76)).alloc (.cells #[.int .i64 x, .int .i64 y, .int .i64 0, .int .i64 0, .slice none 0 0] 74)).drew) := bW
  have hp1 : p ≠ w.heap.size + 1 := by omega
  have hp2 : p ≠ w.heap.size := by omega
  clear bW
  go_enter Try.func56, Try.ntmps56
  go_wp2_with fail
  refine wp_region_held_drew (S := fun q => q.cell? ⟨p, 1, none⟩ = some (.int .i64 x) ∧ q.cell? ⟨p, 2, none⟩ = some (.int .i64 y) ∧ q.cell? ⟨p, 3, none⟩ = some (.slice lx ln lc)) (by kernel_rfl) ⟨e1, e2, e3⟩ (fun hHeld => ?_)
  generalize ((w.alloc (.cells #[.int .i64 0, .int .i64 0, .int .i64 0, .int .i64 0, .int .i64 0, .int .i64 0, .slice none 0 0, .int .i64 0, .slice none 0 0] 76)).alloc (.cells #[.int .i64 x, .int .i64 y, .int .i64 0, .int .i64 0, .slice none 0 0] 74)).drew = wD at *
  refine By.hk 0 ?_
  refine By.hk 1 ?_
  refine By.hk 2 ?_
  refine By.hk 3 ?_
  refine By.hk 4 ?_
  refine By.hk 5 ?_
  refine By.hk 6 ?_
  refine By.hk 7 ?_
  refine By.hk 8 ?_
  refine wpAnyH_ready (rs := [9]) (by kernel_rfl) (by simp) ?_
  refine AllReadyH.cons rfl (fun K hK => ?_) AllReadyH.nil
  go_simp
  refine hK.out _ _ ⟨by go_simp, by go_simp, by go_simp⟩ (fun hHeld => ?_)
  clear hK K
  refine By.hk 10 ?_
  refine wpAnyH_ready (rs := [11]) (by kernel_rfl) (by simp) ?_
  refine AllReadyH.cons rfl (fun K hK => ?_) AllReadyH.nil
  go_simp
  refine hK.out _ _ ⟨by go_simp, by go_simp, by go_simp⟩ (fun hHeld => ?_)
  clear hK K
  refine wpAnyH_done (by kernel_rfl) ?_ _
  clear hHeld
  have BE : Below w.heap.size w (((wD.setCell ⟨w.heap.size + 1, 2, none⟩ (.int .i64 x)).setCell ⟨w.heap.size + 1, 3, none⟩ (.int .i64 y)).setCell ⟨w.heap.size + 1, 4, none⟩ (.slice lx ln lc)).drew := by
    refine Below.drew ?_
    repeat (first | with_reducible exact HB.out | (with_reducible refine Below.setCell ?_ (by first | (simp; done) | (simp; omega) | omega) _) | (with_reducible refine Below.alloc ?_ (by first | (simp; done) | (simp; omega) | omega) _))
  have k0 : (((wD.setCell ⟨w.heap.size + 1, 2, none⟩ (.int .i64 x)).setCell ⟨w.heap.size + 1, 3, none⟩ (.int .i64 y)).setCell ⟨w.heap.size + 1, 4, none⟩ (.slice lx ln lc)).drew.cell? ⟨p, 0, none⟩ = some (.int .i64 (num : Int)) := by go_simp
  have m0 : (((wD.setCell ⟨w.heap.size + 1, 2, none⟩ (.int .i64 x)).setCell ⟨w.heap.size + 1, 3, none⟩ (.int .i64 y)).setCell ⟨w.heap.size + 1, 4, none⟩ (.slice lx ln lc)).drew.cell? ⟨w.heap.size + 1, 0, none⟩ = some (.int .i64 x) := by go_simp
  have m1 : (((wD.setCell ⟨w.heap.size + 1, 2, none⟩ (.int .i64 x)).setCell ⟨w.heap.size + 1, 3, none⟩ (.int .i64 y)).setCell ⟨w.heap.size + 1, 4, none⟩ (.slice lx ln lc)).drew.cell? ⟨w.heap.size + 1, 1, none⟩ = some (.int .i64 y) := by go_simp
  have m2 : (((wD.setCell ⟨w.heap.size + 1, 2, none⟩ (.int .i64 x)).setCell ⟨w.heap.size + 1, 3, none⟩ (.int .i64 y)).setCell ⟨w.heap.size + 1, 4, none⟩ (.slice lx ln lc)).drew.cell? ⟨w.heap.size + 1, 2, none⟩ = some (.int .i64 x) := by go_simp
  have m3 : (((wD.setCell ⟨w.heap.size + 1, 2, none⟩ (.int .i64 x)).setCell ⟨w.heap.size + 1, 3, none⟩ (.int .i64 y)).setCell ⟨w.heap.size + 1, 4, none⟩ (.slice lx ln lc)).drew.cell? ⟨w.heap.size + 1, 3, none⟩ = some (.int .i64 y) := by go_simp
  have m4 : (((wD.setCell ⟨w.heap.size + 1, 2, none⟩ (.int .i64 x)).setCell ⟨w.heap.size + 1, 3, none⟩ (.int .i64 y)).setCell ⟨w.heap.size + 1, 4, none⟩ (.slice lx ln lc)).drew.cell? ⟨w.heap.size + 1, 4, none⟩ = some (.slice lx ln lc) := by go_simp
  have s0 : (((wD.setCell ⟨w.heap.size + 1, 2, none⟩ (.int .i64 x)).setCell ⟨w.heap.size + 1, 3, none⟩ (.int .i64 y)).setCell ⟨w.heap.size + 1, 4, none⟩ (.slice lx ln lc)).drew.cell? ⟨w.heap.size, 0, none⟩ = some (.int .i64 0) := by go_simp
  have s1 : (((wD.setCell ⟨w.heap.size + 1, 2, none⟩ (.int .i64 x)).setCell ⟨w.heap.size + 1, 3, none⟩ (.int .i64 y)).setCell ⟨w.heap.size + 1, 4, none⟩ (.slice lx ln lc)).drew.cell? ⟨w.heap.size, 1, none⟩ = some (.int .i64 0) := by go_simp
  have s2 : (((wD.setCell ⟨w.heap.size + 1, 2, none⟩ (.int .i64 x)).setCell ⟨w.heap.size + 1, 3, none⟩ (.int .i64 y)).setCell ⟨w.heap.size + 1, 4, none⟩ (.slice lx ln lc)).drew.cell? ⟨w.heap.size, 2, none⟩ = some (.int .i64 0) := by go_simp
  have s3 : (((wD.setCell ⟨w.heap.size + 1, 2, none⟩ (.int .i64 x)).setCell ⟨w.heap.size + 1, 3, none⟩ (.int .i64 y)).setCell ⟨w.heap.size + 1, 4, none⟩ (.slice lx ln lc)).drew.cell? ⟨w.heap.size, 3, none⟩ = some (.int .i64 0) := by go_simp
  have s4 : (((wD.setCell ⟨w.heap.size + 1, 2, none⟩ (.int .i64 x)).setCell ⟨w.heap.size + 1, 3, none⟩ (.int .i64 y)).setCell ⟨w.heap.size + 1, 4, none⟩ (.slice lx ln lc)).drew.cell? ⟨w.heap.size, 4, none⟩ = some (.int .i64 0) := by go_simp
  have s5 : (((wD.setCell ⟨w.heap.size + 1, 2, none⟩ (.int .i64 x)).setCell ⟨w.heap.size + 1, 3, none⟩ (.int .i64 y)).setCell ⟨w.heap.size + 1, 4, none⟩ (.slice lx ln lc)).drew.cell? ⟨w.heap.size, 5, none⟩ = some (.int .i64 0) := by go_simp
  have s6 : (((wD.setCell ⟨w.heap.size + 1, 2, none⟩ (.int .i64 x)).setCell ⟨w.heap.size + 1, 3, none⟩ (.int .i64 y)).setCell ⟨w.heap.size + 1, 4, none⟩ (.slice lx ln lc)).drew.cell? ⟨w.heap.size, 6, none⟩ = some (.slice none 0 0) := by go_simp
  have s7 : (((wD.setCell ⟨w.heap.size + 1, 2, none⟩ (.int .i64 x)).setCell ⟨w.heap.size + 1, 3, none⟩ (.int .i64 y)).setCell ⟨w.heap.size + 1, 4, none⟩ (.slice lx ln lc)).drew.cell? ⟨w.heap.size, 7, none⟩ = some (.int .i64 0) := by go_simp
  have s8 : (((wD.setCell ⟨w.heap.size + 1, 2, none⟩ (.int .i64 x)).setCell ⟨w.heap.size + 1, 3, none⟩ (.int .i64 y)).setCell ⟨w.heap.size + 1, 4, none⟩ (.slice lx ln lc)).drew.cell? ⟨w.heap.size, 8, none⟩ = some (.slice none 0 0) := by go_simp
  have z0 : (((wD.setCell ⟨w.heap.size + 1, 2, none⟩ (.int .i64 x)).setCell ⟨w.heap.size + 1, 3, none⟩ (.int .i64 y)).setCell ⟨w.heap.size + 1, 4, none⟩ (.slice lx ln lc)).drew.frozen? ⟨w.heap.size, 0, none⟩ = false := by go_simp
  have z1 : (((wD.setCell ⟨w.heap.size + 1, 2, none⟩ (.int .i64 x)).setCell ⟨w.heap.size + 1, 3, none⟩ (.int .i64 y)).setCell ⟨w.heap.size + 1, 4, none⟩ (.slice lx ln lc)).drew.frozen? ⟨w.heap.size, 1, none⟩ = false := by go_simp
  have z2 : (((wD.setCell ⟨w.heap.size + 1, 2, none⟩ (.int .i64 x)).setCell ⟨w.heap.size + 1, 3, none⟩ (.int .i64 y)).setCell ⟨w.heap.size + 1, 4, none⟩ (.slice lx ln lc)).drew.frozen? ⟨w.heap.size, 2, none⟩ = false := by go_simp
  have z3 : (((wD.setCell ⟨w.heap.size + 1, 2, none⟩ (.int .i64 x)).setCell ⟨w.heap.size + 1, 3, none⟩ (.int .i64 y)).setCell ⟨w.heap.size + 1, 4, none⟩ (.slice lx ln lc)).drew.frozen? ⟨w.heap.size, 3, none⟩ = false := by go_simp
  have z4 : (((wD.setCell ⟨w.heap.size + 1, 2, none⟩ (.int .i64 x)).setCell ⟨w.heap.size + 1, 3, none⟩ (.int .i64 y)).setCell ⟨w.heap.size + 1, 4, none⟩ (.slice lx ln lc)).drew.frozen? ⟨w.heap.size, 4, none⟩ = false := by go_simp
  have z5 : (((wD.setCell ⟨w.heap.size + 1, 2, none⟩ (.int .i64 x)).setCell ⟨w.heap.size + 1, 3, none⟩ (.int .i64 y)).setCell ⟨w.heap.size + 1, 4, none⟩ (.slice lx ln lc)).drew.frozen? ⟨w.heap.size, 5, none⟩ = false := by go_simp
  have z6 : (((wD.setCell ⟨w.heap.size + 1, 2, none⟩ (.int .i64 x)).setCell ⟨w.heap.size + 1, 3, none⟩ (.int .i64 y)).setCell ⟨w.heap.size + 1, 4, none⟩ (.slice lx ln lc)).drew.frozen? ⟨w.heap.size, 6, none⟩ = false := by go_simp
  have z7 : (((wD.setCell ⟨w.heap.size + 1, 2, none⟩ (.int .i64 x)).setCell ⟨w.heap.size + 1, 3, none⟩ (.int .i64 y)).setCell ⟨w.heap.size + 1, 4, none⟩ (.slice lx ln lc)).drew.frozen? ⟨w.heap.size, 7, none⟩ = false := by go_simp
  have z8 : (((wD.setCell ⟨w.heap.size + 1, 2, none⟩ (.int .i64 x)).setCell ⟨w.heap.size + 1, 3, none⟩ (.int .i64 y)).setCell ⟨w.heap.size + 1, 4, none⟩ (.slice lx ln lc)).drew.frozen? ⟨w.heap.size, 8, none⟩ = false := by go_simp
  have lt2 : w.heap.size < (((wD.setCell ⟨w.heap.size + 1, 2, none⟩ (.int .i64 x)).setCell ⟨w.heap.size + 1, 3, none⟩ (.int .i64 y)).setCell ⟨w.heap.size + 1, 4, none⟩ (.slice lx ln lc)).drew.heap.size := by go_simp
  clear e0 e1 e2 e3 a0 a1 a2 a3 a4 g0 g1 g2 g3 g4 r0 r1 r2 r3 r4 r5 r6 r7 r8 f0 f1 f2 f3 f4 f5 f6 f7 f8 d0 d1 d2 d3
  go_wp2_with fail
  refine wp_region_held_drew (S := fun q => q.cell? ⟨p, 0, none⟩ = some (.int .i64 (num : Int)) ∧ q.cell? ⟨w.heap.size + 1, 0, none⟩ = some (.int .i64 x) ∧ q.cell? ⟨w.heap.size + 1, 1, none⟩ = some (.int .i64 y) ∧ q.cell? ⟨w.heap.size + 1, 2, none⟩ = some (.int .i64 x) ∧ q.cell? ⟨w.heap.size + 1, 3, none⟩ = some (.int .i64 y) ∧ q.cell? ⟨w.heap.size + 1, 4, none⟩ = some (.slice lx ln lc)) (by kernel_rfl) ⟨k0, m0, m1, m2, m3, m4⟩ (fun hHeld => ?_)
  generalize (((wD.setCell ⟨w.heap.size + 1, 2, none⟩ (.int .i64 x)).setCell ⟨w.heap.size + 1, 3, none⟩ (.int .i64 y)).setCell ⟨w.heap.size + 1, 4, none⟩ (.slice lx ln lc)).drew = wE at *
  refine By.hk 0 ?_
  refine By.hk 1 ?_
  refine By.hk 2 ?_
  refine By.hk 3 ?_
  refine By.hk 4 ?_
  refine By.hk 5 ?_
  refine wpAnyH_ready (rs := [6]) (by kernel_rfl) (by simp) ?_
  refine AllReadyH.cons rfl (fun K hK => ?_) AllReadyH.nil
  go_simp
  refine hK.out _ _ ⟨by go_simp, by go_simp, by go_simp, by go_simp, by go_simp, by go_simp⟩ (fun hHeld => ?_)
  clear hK K
  refine wpAnyH_done (by kernel_rfl) ?_ _
  clear hHeld
  go_wp2_with fail
  refine bodyPost_ret (v := .agg #[.int .i64 2, .int .i64 (num : Int), .int .i64 x, .int .i64 y, .int .i64 x, .int .i64 y, .slice lx ln lc, .int .i64 0, .slice none 0 0]) ?_ rfl ⟨rfl, ?_⟩
  · rw [results_cell1 rfl]
    go_simp
  · show Below _ _ _
    repeat (first | with_reducible exact BE | (with_reducible refine Below.setCell ?_ (by first | (simp; done) | (simp; omega) | omega) _) | (with_reducible refine Below.alloc ?_ (by first | (simp; done) | (simp; omega) | omega) _))

end

end Go.Proofs.Ytfgfjfemaniaiaa.Px

/-
  3 texts of this proof, one behind the other: PxEnc2, PxMay, PxDecode.
-/
import Derived.Test.YtdbahebhodoooaaJ09
/-
  Package paxos: the bytes of a message that tells decrees; any message's.
  Conditions: the message lies in memory.
-/
namespace Go.Proofs.Ytdbahebhodoooaa.Px
open Go.RowKit Wi By Fl Ba
set_option linter.unusedVariables false
set_option linter.unusedSimpArgs false
set_option maxRecDepth 100000

theorem dcs_snoc (L : List Dc) (d : Dc) : dcs (L ++ [d]) = dcs L ++ dbytes d := by simp [dcs]

structure ESt (w wr : World) (R : Value) (pre : List Nat) (L : List Dc) : Prop where
  own : OwnL wr w.heap.size R (pre ++ dcs L)
  bel : Below w.heap.size w wr
  lt : ∀ u ∈ pre ++ dcs L, u < 256
  len : (pre ++ dcs L).length ≤ 100 + 5000 * L.length

theorem ESt.sl {w wr : World} {R : Value} {pre : List Nat} {L : List Dc} (h : ESt w wr R pre L) : ∃ x c, R = .slice x (pre ++ dcs L).length c ∧ Fl.Sl wr x (pre ++ dcs L).length c (pre ++ dcs L) := by
  obtain ⟨x, c, h1, h2, _⟩ := h.own.sl h.lt
  exact ⟨x, c, h1, ofW h2⟩

theorem ESt.step {w wr w1 : World} {R : Value} {pre : List Nat} {L : List Dc} {d : Dc} (h : ESt w wr R pre L) (y : Option Addr) (m cy : Nat) (hL : L.length ≤ 64) (hm : m ≤ 5000) (hv : Vl wr w1 y m cy (dbytes d)) :
    ∃ R' w2, (Builtin.append_ #[35, 35] 35 #[R, .slice y m cy]).run Try.prog w1 = .ok R' w2 ∧ Hid (ESt w w2 R' pre (L ++ [d])) := by
  have hlen := h.len
  obtain ⟨R', w2, h1, h2, h3⟩ := push_list w1 w w.heap.size R (pre ++ dcs L) (h.own.below hv.1) (Nat.le_trans h.bel.size hv.1.size) (on h.bel hv.1) y m cy (dbytes d) (toW hv.2.1) (by omega)
  refine ⟨R', w2, h1, ?_, h3, ?_, ?_⟩
  · rw [dcs_snoc, ← List.append_assoc]
    exact h2
  · rw [dcs_snoc, ← List.append_assoc]
    exact app_lt h.lt (dbytes_lt d)
  · rw [dcs_snoc, ← List.append_assoc, List.length_append, hv.2.1.len]
    have e1 : (L ++ [d]).length = L.length + 1 := by simp
    rw [e1]
    omega

set_option maxHeartbeats 3200000 in
theorem enc_tell (m : Ms) (x y : Option Addr) (c cy fr : Nat) (w : World) (h : MOk w m x c y) (hk : m.kind = 5) (hf : fr < 9223372036854775808) :
    Calls Try.prog 69 #[mv m x c y cy, .int .i64 fr] w fun e w' => ∃ z l cz, e = .returned (.slice z l cz) ∧ Hid (l ≤ 500000 ∧ Vl w w' z l cz (encM m fr)) := by
  have HE : Hid (encM m fr = sealed (uv fr ++ uv 5 ++ uv m.num ++ uv m.known ++ dcs m.decs)) := by
    show encM m fr = _
    unfold encM body
    rw [hk, if_neg (by omega), if_pos rfl]
    simp
  have hnum := h.num
  have hkn := h.known
  have HD : Hid (DcsAt w y m.decs ∧ m.decs.length ≤ 64 ∧ ∀ d ∈ m.decs, DOk d) := ⟨h.dcs, h.few, h.ok⟩
  dsimp only [mv]
  rw [hk]
  clear h hk
  generalize m.num = num at *
  generalize m.st.p.1 = p1 at *
  generalize m.st.p.2 = p2 at *
  generalize m.st.a.1 = a1 at *
  generalize m.st.a.2 = a2 at *
  generalize m.st.d.length = dn at *
  generalize m.known = kn at *
  generalize hL : m.decs = L at *
  clear hL
  obtain ⟨dl, hdl⟩ : ∃ dl, dl = L.length := ⟨_, rfl⟩
  rw [← hdl]
  have Hdl : Hid (dl = L.length) := hdl
  clear hdl
  have hd64 : dl ≤ 64 := by rw [Hdl.out]; exact HD.out.2.1
  have i1 : (fr : Int) < 9223372036854775808 := by omega
  have i2 : (num : Int) < 9223372036854775808 := by omega
  have i3 : (kn : Int) < 9223372036854775808 := by omega
  have HU : Hid ((uv fr).length ≤ 10 ∧ (uv 5).length ≤ 10 ∧ (uv num).length ≤ 10 ∧ (uv kn).length ≤ 10) := ⟨uv_ten (by omega), uv_ten (by omega), uv_ten (by omega), uv_ten (by omega)⟩
  have hU1 := fun W => uvW none 0 0 [] fr W (Fl.Sl.empty W) (by omega) (by omega)
  go_enter Try.func69, Try.ntmps69
  go_wp2_with (first
    | (
       go_at_call 85; refine (hU1 _).mono ?_; rintro e w1 ⟨y1, m1, c1, rfl, H1⟩; clear hU1
       have k0 := keep H1.out.2.1 (b := w.heap.size) (o := 0) (x := .int .i64 5) (by first | assumption | go_simp)
       have k1 := keep H1.out.2.1 (b := w.heap.size) (o := 1) (x := .int .i64 num) (by first | assumption | go_simp)
       have k7 := keep H1.out.2.1 (b := w.heap.size) (o := 7) (x := .int .i64 kn) (by first | assumption | go_simp)
       have k8 := keep H1.out.2.1 (b := w.heap.size) (o := 8) (x := .slice y dl cy) (by first | assumption | go_simp)
       have hU2 := uvW y1 m1 c1 _ 5 w1 H1.out.2.2.1 (by omega) (by have := H1.out.1; have := HU.out.1; omega)
       have B1 := on (al _ _) H1.out.2.1)
    | (
       go_at_call 85; refine hU2.mono ?_; rintro e w2 ⟨y2, m2, c2, rfl, H2⟩; clear hU2
       have k0 := keep H2.out.2.1 (b := w.heap.size) (o := 0) (x := .int .i64 5) (by first | assumption | go_simp)
       have k1 := keep H2.out.2.1 (b := w.heap.size) (o := 1) (x := .int .i64 num) (by first | assumption | go_simp)
       have k7 := keep H2.out.2.1 (b := w.heap.size) (o := 7) (x := .int .i64 kn) (by first | assumption | go_simp)
       have k8 := keep H2.out.2.1 (b := w.heap.size) (o := 8) (x := .slice y dl cy) (by first | assumption | go_simp)
       have hU3 := uvW y2 m2 c2 _ num w2 H2.out.2.2.1 (by omega) (by have := H1.out.1; have := HU.out.1; have := H2.out.1; have := HU.out.2.1; omega)
       have B2 := on B1 H2.out.2.1)
    | (
       go_at_call 85; refine hU3.mono ?_; rintro e w3 ⟨y3, m3, c3, rfl, H3⟩; clear hU3
       have k0 := keep H3.out.2.1 (b := w.heap.size) (o := 0) (x := .int .i64 5) (by first | assumption | go_simp)
       have k1 := keep H3.out.2.1 (b := w.heap.size) (o := 1) (x := .int .i64 num) (by first | assumption | go_simp)
       have k7 := keep H3.out.2.1 (b := w.heap.size) (o := 7) (x := .int .i64 kn) (by first | assumption | go_simp)
       have k8 := keep H3.out.2.1 (b := w.heap.size) (o := 8) (x := .slice y dl cy) (by first | assumption | go_simp)
       have B3 := on B2 H3.out.2.1
       have HL : Hid (m3 ≤ 30) := by show m3 ≤ 30; have := H1.out.1; have := H2.out.1; have := H3.out.1; have := HU.out; omega
       have hU4 : Calls Try.prog 85 #[.slice y3 m3 c3, .int .u64 kn] w3 fun e w' => ∃ R, e = .returned R ∧ Hid (Below w3.heap.size w3 w' ∧ ESt w w' R (uv fr ++ uv 5 ++ uv num ++ uv kn) []) :=
         (uvarint_any y3 m3 c3 _ kn w3 (toW H3.out.2.2.1) (by omega) (by have := HL.out; omega)).mono fun e w' ⟨R, q1, q2, q3⟩ => by
           have q5 : ([] : List Nat) ++ uv fr ++ uv 5 ++ uv num ++ uv kn = uv fr ++ uv 5 ++ uv num ++ uv kn ++ dcs [] := by simp [dcs]
           rw [q5] at q2
           refine ⟨R, q1, q3, q2.mono B3.size, on B3 q3, ?_, ?_⟩
           · rw [← q5]
             exact app_lt H3.out.2.2.1.lt (uv_lt kn)
           · have := HU.out
             simp [dcs]
             omega)
    | (
       go_at_call 85; refine hU4.mono ?_; rintro e w4 ⟨R4, rfl, H4⟩; clear hU4
       have k0 := keep H4.out.1 (b := w.heap.size) (o := 0) (x := .int .i64 5) (by first | assumption | go_simp)
       have k1 := keep H4.out.1 (b := w.heap.size) (o := 1) (x := .int .i64 num) (by first | assumption | go_simp)
       have k7 := keep H4.out.1 (b := w.heap.size) (o := 7) (x := .int .i64 kn) (by first | assumption | go_simp)
       have k8 := keep H4.out.1 (b := w.heap.size) (o := 8) (x := .slice y dl cy) (by first | assumption | go_simp)
       skip))
  go_loopw [5, 7, 50] (fun b _ i wr => ∃ (k : Nat), k ≤ dl ∧ i = .int .i64 k ∧ Hid (ESt w wr b (uv fr ++ uv 5 ++ uv num ++ uv kn) (L.take k))) (fun _ _ i _ => dl - (intOf i).toNat)
  case atStart => exact ⟨0, by omega, rfl, H4.out.2⟩
  case round =>
    obtain ⟨k, hk, rfl, HR⟩ := hrel
    clear H4
    by_cases hlt : k < dl
    · have hkn : (k : Int) < (dl : Int) := by omega
      have hA := HD.out.1.below HR.out.bel
      obtain ⟨b, o, rfl, hb, hc⟩ := hA.resolve_left (by have := Hdl.out; omega)
      obtain ⟨d, hd⟩ : ∃ d, L[k]? = some d := ⟨L[k]'(by have := Hdl.out; omega), List.getElem?_eq_getElem (by have := Hdl.out; omega)⟩
      obtain ⟨q0, q1, q2⟩ := hc k d hd
      have HT : Hid (L.take (k + 1) = L.take k ++ [d]) := by
        show L.take (k + 1) = L.take k ++ [d]
        rw [List.take_add_one, hd]
        rfl
      have hB := fun W => dbytes_any d (HD.out.2.2 d (List.mem_of_getElem? hd)) W
      have HX : Hid (∀ W w1 z mz cz, Below wr.heap.size wr W → Hid (mz ≤ 5000 ∧ Vl W w1 z mz cz (dbytes d)) → ∃ R' w2, (Builtin.append_ #[35, 35] 35 #[u5, .slice z mz cz]).run Try.prog w1 = .ok R' w2 ∧ Hid (ESt w w2 R' (uv fr ++ uv 5 ++ uv num ++ uv kn) (L.take (k + 1)))) := fun W w1 z mz cz hW H1 => by
        rw [HT.out]
        exact HR.out.step z mz cz (by rw [List.length_take]; omega) H1.out.1 (Vl.on hW H1.out.2)
      clear hA hc hb hd HT HD Hdl
      obtain ⟨mon, ser, s⟩ := d
      dsimp only [dv] at *
      go_wp2_with (first
        | (
           go_at_call 86; refine (hB _).mono ?_; rintro e w5 ⟨z, mz, cz, rfl, H5⟩; clear hB
           obtain ⟨R6, w6, hap, H6⟩ := HX.out _ w5 z mz cz (al _ _) H5
           clear HX)
        | (
           at_builtin; refine wpList_append_run rfl _ _ 35 rfl _ _ rfl rfl hap ?_; clear hap))
      go_roundw
      case rel => exact ⟨k + 1, by omega, by go_num, H6.out⟩
      case measure => simp [intOf]; omega
    · obtain rfl : k = dl := by omega
      have HQ : Hid (ESt w wr u5 (uv fr ++ uv 5 ++ uv num ++ uv kn) L) := by
        have := HR.out
        rw [List.take_of_length_le (by rw [← Hdl.out]; exact Nat.le_refl _)] at this
        exact this
      obtain ⟨x5, c5, hu5, hs5⟩ := HQ.out.sl
      have hz := HQ.out.len
      have HZ : Hid ((uv fr ++ uv 5 ++ uv num ++ uv kn ++ dcs L).length ≤ 400000) := by
        show _ ≤ 400000
        have := HD.out.2.1
        omega
      have hS := sealed_any x5 _ c5 _ wr hs5 (by have := HZ.out; omega)
      have HB : Hid (Below w.heap.size w wr) := HQ.out.bel
      clear HQ HR hz hs5 HD
      subst hu5
      generalize (uv fr ++ uv 5 ++ uv num ++ uv kn ++ dcs L).length = ln at *
      generalize (uv fr ++ uv 5 ++ uv num ++ uv kn ++ dcs L) = bb at *
      go_wp2_with (first
        | (
           go_at_call 59; refine hS.mono ?_; rintro e w7 ⟨y7, m7, c7, rfl, H7⟩; clear hS))
      go_ret
      refine ⟨y7, m7, c7, rfl, ?_, ?_⟩
      · have := H7.out.1; have := HZ.out; omega
      · rw [HE.out]
        exact Vl.on HB.out H7.out.2

theorem enc_any (m : Ms) (x y : Option Addr) (c cy fr : Nat) (w : World) (h : MOk w m x c y) (hf : fr < 9223372036854775808) :
    Calls Try.prog 69 #[mv m x c y cy, .int .i64 fr] w fun e w' => ∃ z l cz, e = .returned (.slice z l cz) ∧ Hid (l ≤ 500000 ∧ Vl w w' z l cz (encM m fr)) := by
  by_cases h4 : m.kind = 4
  · exact enc_know m x y c cy fr w h h4 hf
  · by_cases h5 : m.kind = 5
    · exact enc_tell m x y c cy fr w h h5 hf
    · exact enc_state m x y c cy fr w h h4 h5 hf

end Go.Proofs.Ytdbahebhodoooaa.Px

/-
  Package paxos: unsealed; which messages may be.
  Conditions: the bytes lie in memory.
-/
namespace Go.Proofs.Ytdbahebhodoooaa.Px
open Go.RowKit Wi By Fl Ba
set_option linter.unusedVariables false
set_option linter.unusedSimpArgs false
set_option maxRecDepth 100000

theorem Sl.headF {w : World} {x : Option Addr} {n c : Nat} {l : List Nat} (h : Fl.Sl w x n c l) (m : Nat) (hm : m ≤ n) : Fl.Sl w x m c (l.take m) := ofW ((toW h).head m hm)

theorem gl_eq_of {l k : List Nat} (hl : l.length = k.length) (h : ∀ i, i < l.length → Fl.gl l i = Fl.gl k i) : l = k := by
  apply List.ext_getElem hl
  intro i h1 h2
  have := h i h1
  simpa [Fl.gl, h1, h2] using this

theorem unsealed_any (x : Option Addr) (n c : Nat) (l : List Nat) (w : World) (hl : Fl.Sl w x n c l) (hn : n ≤ 140737488351232) :
    Calls Try.prog 38 #[.slice x n c] w fun e w' => ∃ y m cy, e = .returned (.tuple #[.slice y m cy, .bool (isSealed l)]) ∧ Hid (Below w.heap.size w w' ∧ (isSealed l = true → m = n - 8 ∧ Fl.Sl w' y m cy (l.take (n - 8)))) := by
  by_cases h8 : n < 8
  · have e0 : isSealed l = false := by
      unfold isSealed
      rw [hl.len]
      simp
      omega
    rw [e0]
    have h8' : (n : Int) < 8 := by omega
    clear hl
    go_enter Try.func38, Try.ntmps38
    go_wp2_with fail
    go_ret2
    exact ⟨none, 0, 0, rfl, Below.refl _ _, fun h => by cases h⟩
  · obtain ⟨m, rfl⟩ : ∃ m, n = m + 8 := ⟨n - 8, by omega⟩
    have hle := hl.le
    have h1 := Sl.headF hl m (by omega)
    have hS := sealed_any x m c (l.take m) w h1 (by omega)
    have hcut := fun v => cut_head x (m + 8) c m v (by omega)
    have hE : ∀ (w1 : World) (y : Option Addr) (my cy : Nat), Hid (my = m + 8 ∧ Vl w w1 y my cy (sealed (l.take m))) → Calls Try.prog 58 #[.slice y my cy, .slice x (m + 8) c] w1 fun e w' => e = .returned (.bool (isSealed l)) ∧ w' = w1 := fun w1 y my cy H => by
      obtain ⟨rfl, hv⟩ := H.out
      have hll := hl.len
      have hsl := hv.2.1.len
      refine bequal_any y x _ _ _ _ _ (Fl.gl (sealed (l.take m))) (Fl.gl l) w1 (fun i => Fl.gl_lt hv.2.1.lt i) (fun i => Fl.gl_lt hl.lt i) hv.2.1.row (hl.below hv.1).row (fun _ he => ?_) (fun he => ?_)
      · have e1 : sealed (l.take m) = l := gl_eq_of (by omega) (fun i hi => he i (by omega))
        unfold isSealed
        rw [hll, show m + 8 - 8 = m by omega, e1]
        simp
      · unfold isSealed
        rw [hll, show m + 8 - 8 = m by omega]
        simp only [Bool.and_eq_false_iff, decide_eq_false_iff_not]
        right
        intro e1
        exact he ⟨rfl, fun i _ => by rw [e1]⟩
    have HF : Hid (∀ w1, Below w.heap.size w w1 → Below w.heap.size w w1 ∧ (isSealed l = true → m = m + 8 - 8 ∧ Fl.Sl w1 x m c (l.take (m + 8 - 8)))) := fun w1 hb => ⟨hb, fun _ => ⟨by omega, by rw [show m + 8 - 8 = m by omega]; exact h1.below hb⟩⟩
    have i0 : ¬ (m : Int) + 8 < 8 := by omega
    have i1 : (m : Int) + 8 - 8 = m := by omega
    have i2 : (m : Int) + 8 ≤ 140737488351232 := by omega
    have hmc : m ≤ c := by omega
    generalize isSealed l = t at *
    clear hl h1 hn h8
    obtain ⟨q, hq⟩ : ∃ q, q = m + 8 := ⟨_, rfl⟩
    have hqi : (q : Int) - 8 = m := by omega
    have hqn : ¬ (q : Int) < 8 := by omega
    have hqb : (q : Int) ≤ 140737488351232 := by omega
    rw [← hq] at hcut hE hS ⊢
    rw [← hq] at HF
    clear i0 i1 i2 hq hle
    go_enter Try.func38, Try.ntmps38
    go_wp2_with (first
      | (
         go_at_call 59; refine hS.mono ?_; rintro e w1 ⟨y1, m1, c1, rfl, H1⟩; clear hS
         have hE1 := hE w1 y1 m1 c1 H1
         clear hE)
      | (
         go_at_call 58; refine hE1.mono ?_; rintro e w2 ⟨rfl, hw2⟩; subst w2; clear hE1))
    go_ret2
    exact ⟨x, m, c, rfl, HF.out _ H1.out.2.1⟩

set_option maxHeartbeats 1600000 in
theorem mmay1 (num kn fr n dn c dl cy : Nat) (p1 p2 a1 a2 : Int) (x y : Option Addr) (ts td : Bool) (w : World)
    (hS : ∀ W, Below w.heap.size w W → Calls Try.prog 66 #[.agg #[.int .i64 p1, .int .i64 p2, .int .i64 a1, .int .i64 a2, .slice x dn c], .int .i64 n] W fun e w' => e = .returned (.bool ts) ∧ Hid (Below W.heap.size W w'))
    (hA : ∀ W, Below w.heap.size w W → Calls Try.prog 67 #[.slice y dl cy] W fun e w' => e = .returned (.bool td) ∧ Hid (Below W.heap.size W w')) :
    Calls Try.prog 46 #[.agg #[.int .i64 1, .int .i64 num, .int .i64 p1, .int .i64 p2, .int .i64 a1, .int .i64 a2, .slice x dn c, .int .i64 kn, .slice y dl cy], .int .i64 fr, .int .i64 n] w fun e w' => e = .returned (.bool (decide (1 ≤ num) && ts && decide (p2 = (fr : Int)) && (decide (a1 = 0) && decide (a2 = 0)))) ∧ Hid (Below w.heap.size w w') := by
  have hE := fun W => eq_bt a1 a2 0 0 W
  have hF := fun W => eq_bt a1 a2 p1 p2 W
  by_cases hn : 1 ≤ num
  · have i1 : (1 : Int) ≤ (num : Int) := by omega
    cases ts with
    | true =>
      by_cases ho : p2 = (fr : Int)
      · subst ho
        go_enter Try.func46, Try.ntmps46
        go_wp2_with (first
          | (
             go_at_call 66; refine (hS _ (al _ _)).mono ?_; rintro e w1 ⟨rfl, H1⟩; clear hS
             have k0 := keep H1.out (b := w.heap.size) (o := 0) (x := .int .i64 1) (by first | assumption | go_simp)
             have k1 := keep H1.out (b := w.heap.size) (o := 1) (x := .int .i64 num) (by first | assumption | go_simp)
             have k2 := keep H1.out (b := w.heap.size) (o := 2) (x := .int .i64 p1) (by first | assumption | go_simp)
             have k3 := keep H1.out (b := w.heap.size) (o := 3) (x := .int .i64 (fr : Int)) (by first | assumption | go_simp)
             have k4 := keep H1.out (b := w.heap.size) (o := 4) (x := .int .i64 a1) (by first | assumption | go_simp)
             have k5 := keep H1.out (b := w.heap.size) (o := 5) (x := .int .i64 a2) (by first | assumption | go_simp)
             have k6 := keep H1.out (b := w.heap.size) (o := 6) (x := .slice x dn c) (by first | assumption | go_simp)
             have k7 := keep H1.out (b := w.heap.size) (o := 7) (x := .int .i64 kn) (by first | assumption | go_simp)
             have k8 := keep H1.out (b := w.heap.size) (o := 8) (x := .slice y dl cy) (by first | assumption | go_simp)
             have B1 := on (al _ _) H1.out))
        go_ret
        exact ⟨by simp_all, B1⟩
      · have ho2 : (p2 == (fr : Int)) = false := by simp [ho]
        clear ho
        go_enter Try.func46, Try.ntmps46
        go_wp2_with (first
          | (
             go_at_call 66; refine (hS _ (al _ _)).mono ?_; rintro e w1 ⟨rfl, H1⟩; clear hS
             have k0 := keep H1.out (b := w.heap.size) (o := 0) (x := .int .i64 1) (by first | assumption | go_simp)
             have k1 := keep H1.out (b := w.heap.size) (o := 1) (x := .int .i64 num) (by first | assumption | go_simp)
             have k2 := keep H1.out (b := w.heap.size) (o := 2) (x := .int .i64 p1) (by first | assumption | go_simp)
             have k3 := keep H1.out (b := w.heap.size) (o := 3) (x := .int .i64 p2) (by first | assumption | go_simp)
             have k4 := keep H1.out (b := w.heap.size) (o := 4) (x := .int .i64 a1) (by first | assumption | go_simp)
             have k5 := keep H1.out (b := w.heap.size) (o := 5) (x := .int .i64 a2) (by first | assumption | go_simp)
             have k6 := keep H1.out (b := w.heap.size) (o := 6) (x := .slice x dn c) (by first | assumption | go_simp)
             have k7 := keep H1.out (b := w.heap.size) (o := 7) (x := .int .i64 kn) (by first | assumption | go_simp)
             have k8 := keep H1.out (b := w.heap.size) (o := 8) (x := .slice y dl cy) (by first | assumption | go_simp)
             have B1 := on (al _ _) H1.out))
        go_ret
        exact ⟨by simp_all, B1⟩
    | false =>
      go_enter Try.func46, Try.ntmps46
      go_wp2_with (first
        | (
           go_at_call 66; refine (hS _ (al _ _)).mono ?_; rintro e w1 ⟨rfl, H1⟩; clear hS
           have k0 := keep H1.out (b := w.heap.size) (o := 0) (x := .int .i64 1) (by first | assumption | go_simp)
           have k1 := keep H1.out (b := w.heap.size) (o := 1) (x := .int .i64 num) (by first | assumption | go_simp)
           have k2 := keep H1.out (b := w.heap.size) (o := 2) (x := .int .i64 p1) (by first | assumption | go_simp)
           have k3 := keep H1.out (b := w.heap.size) (o := 3) (x := .int .i64 p2) (by first | assumption | go_simp)
           have k4 := keep H1.out (b := w.heap.size) (o := 4) (x := .int .i64 a1) (by first | assumption | go_simp)
           have k5 := keep H1.out (b := w.heap.size) (o := 5) (x := .int .i64 a2) (by first | assumption | go_simp)
           have k6 := keep H1.out (b := w.heap.size) (o := 6) (x := .slice x dn c) (by first | assumption | go_simp)
           have k7 := keep H1.out (b := w.heap.size) (o := 7) (x := .int .i64 kn) (by first | assumption | go_simp)
           have k8 := keep H1.out (b := w.heap.size) (o := 8) (x := .slice y dl cy) (by first | assumption | go_simp)
           have B1 := on (al _ _) H1.out))
      go_ret
      exact ⟨by simp_all, B1⟩
  · have i1 : ¬ (1 : Int) ≤ (num : Int) := by omega
    have i2 : num = 0 := by omega
    subst i2
    go_enter Try.func46, Try.ntmps46
    go_wp2_with fail
    go_ret
    exact ⟨by simp_all, al _ _⟩

set_option maxHeartbeats 1600000 in
theorem mmay2 (num kn fr n dn c dl cy : Nat) (p1 p2 a1 a2 : Int) (x y : Option Addr) (ts td : Bool) (w : World)
    (hS : ∀ W, Below w.heap.size w W → Calls Try.prog 66 #[.agg #[.int .i64 p1, .int .i64 p2, .int .i64 a1, .int .i64 a2, .slice x dn c], .int .i64 n] W fun e w' => e = .returned (.bool ts) ∧ Hid (Below W.heap.size W w'))
    (hA : ∀ W, Below w.heap.size w W → Calls Try.prog 67 #[.slice y dl cy] W fun e w' => e = .returned (.bool td) ∧ Hid (Below W.heap.size W w')) :
    Calls Try.prog 46 #[.agg #[.int .i64 2, .int .i64 num, .int .i64 p1, .int .i64 p2, .int .i64 a1, .int .i64 a2, .slice x dn c, .int .i64 kn, .slice y dl cy], .int .i64 fr, .int .i64 n] w fun e w' => e = .returned (.bool (decide (1 ≤ num) && ts && decide (p2 = (fr : Int)) && (decide (a1 = p1) && decide (a2 = p2)))) ∧ Hid (Below w.heap.size w w') := by
  have hE := fun W => eq_bt a1 a2 0 0 W
  have hF := fun W => eq_bt a1 a2 p1 p2 W
  by_cases hn : 1 ≤ num
  · have i1 : (1 : Int) ≤ (num : Int) := by omega
    cases ts with
    | true =>
      by_cases ho : p2 = (fr : Int)
      · subst ho
        go_enter Try.func46, Try.ntmps46
        go_wp2_with (first
          | (
             go_at_call 66; refine (hS _ (al _ _)).mono ?_; rintro e w1 ⟨rfl, H1⟩; clear hS
             have k0 := keep H1.out (b := w.heap.size) (o := 0) (x := .int .i64 2) (by first | assumption | go_simp)
             have k1 := keep H1.out (b := w.heap.size) (o := 1) (x := .int .i64 num) (by first | assumption | go_simp)
             have k2 := keep H1.out (b := w.heap.size) (o := 2) (x := .int .i64 p1) (by first | assumption | go_simp)
             have k3 := keep H1.out (b := w.heap.size) (o := 3) (x := .int .i64 (fr : Int)) (by first | assumption | go_simp)
             have k4 := keep H1.out (b := w.heap.size) (o := 4) (x := .int .i64 a1) (by first | assumption | go_simp)
             have k5 := keep H1.out (b := w.heap.size) (o := 5) (x := .int .i64 a2) (by first | assumption | go_simp)
             have k6 := keep H1.out (b := w.heap.size) (o := 6) (x := .slice x dn c) (by first | assumption | go_simp)
             have k7 := keep H1.out (b := w.heap.size) (o := 7) (x := .int .i64 kn) (by first | assumption | go_simp)
             have k8 := keep H1.out (b := w.heap.size) (o := 8) (x := .slice y dl cy) (by first | assumption | go_simp)
             have B1 := on (al _ _) H1.out))
        go_ret
        exact ⟨by simp_all, B1⟩
      · have ho2 : (p2 == (fr : Int)) = false := by simp [ho]
        clear ho
        go_enter Try.func46, Try.ntmps46
        go_wp2_with (first
          | (
             go_at_call 66; refine (hS _ (al _ _)).mono ?_; rintro e w1 ⟨rfl, H1⟩; clear hS
             have k0 := keep H1.out (b := w.heap.size) (o := 0) (x := .int .i64 2) (by first | assumption | go_simp)
             have k1 := keep H1.out (b := w.heap.size) (o := 1) (x := .int .i64 num) (by first | assumption | go_simp)
             have k2 := keep H1.out (b := w.heap.size) (o := 2) (x := .int .i64 p1) (by first | assumption | go_simp)
             have k3 := keep H1.out (b := w.heap.size) (o := 3) (x := .int .i64 p2) (by first | assumption | go_simp)
             have k4 := keep H1.out (b := w.heap.size) (o := 4) (x := .int .i64 a1) (by first | assumption | go_simp)
             have k5 := keep H1.out (b := w.heap.size) (o := 5) (x := .int .i64 a2) (by first | assumption | go_simp)
             have k6 := keep H1.out (b := w.heap.size) (o := 6) (x := .slice x dn c) (by first | assumption | go_simp)
             have k7 := keep H1.out (b := w.heap.size) (o := 7) (x := .int .i64 kn) (by first | assumption | go_simp)
             have k8 := keep H1.out (b := w.heap.size) (o := 8) (x := .slice y dl cy) (by first | assumption | go_simp)
             have B1 := on (al _ _) H1.out))
        go_ret
        exact ⟨by simp_all, B1⟩
    | false =>
      go_enter Try.func46, Try.ntmps46
      go_wp2_with (first
        | (
           go_at_call 66; refine (hS _ (al _ _)).mono ?_; rintro e w1 ⟨rfl, H1⟩; clear hS
           have k0 := keep H1.out (b := w.heap.size) (o := 0) (x := .int .i64 2) (by first | assumption | go_simp)
           have k1 := keep H1.out (b := w.heap.size) (o := 1) (x := .int .i64 num) (by first | assumption | go_simp)
           have k2 := keep H1.out (b := w.heap.size) (o := 2) (x := .int .i64 p1) (by first | assumption | go_simp)
           have k3 := keep H1.out (b := w.heap.size) (o := 3) (x := .int .i64 p2) (by first | assumption | go_simp)
           have k4 := keep H1.out (b := w.heap.size) (o := 4) (x := .int .i64 a1) (by first | assumption | go_simp)
           have k5 := keep H1.out (b := w.heap.size) (o := 5) (x := .int .i64 a2) (by first | assumption | go_simp)
           have k6 := keep H1.out (b := w.heap.size) (o := 6) (x := .slice x dn c) (by first | assumption | go_simp)
           have k7 := keep H1.out (b := w.heap.size) (o := 7) (x := .int .i64 kn) (by first | assumption | go_simp)
           have k8 := keep H1.out (b := w.heap.size) (o := 8) (x := .slice y dl cy) (by first | assumption | go_simp)
           have B1 := on (al _ _) H1.out))
      go_ret
      exact ⟨by simp_all, B1⟩
  · have i1 : ¬ (1 : Int) ≤ (num : Int) := by omega
    have i2 : num = 0 := by omega
    subst i2
    go_enter Try.func46, Try.ntmps46
    go_wp2_with fail
    go_ret
    exact ⟨by simp_all, al _ _⟩

set_option maxHeartbeats 1600000 in
theorem mmay3 (num kn fr n dn c dl cy : Nat) (p1 p2 a1 a2 : Int) (x y : Option Addr) (ts td : Bool) (w : World)
    (hS : ∀ W, Below w.heap.size w W → Calls Try.prog 66 #[.agg #[.int .i64 p1, .int .i64 p2, .int .i64 a1, .int .i64 a2, .slice x dn c], .int .i64 n] W fun e w' => e = .returned (.bool ts) ∧ Hid (Below W.heap.size W w'))
    (hA : ∀ W, Below w.heap.size w W → Calls Try.prog 67 #[.slice y dl cy] W fun e w' => e = .returned (.bool td) ∧ Hid (Below W.heap.size W w')) :
    Calls Try.prog 46 #[.agg #[.int .i64 3, .int .i64 num, .int .i64 p1, .int .i64 p2, .int .i64 a1, .int .i64 a2, .slice x dn c, .int .i64 kn, .slice y dl cy], .int .i64 fr, .int .i64 n] w fun e w' => e = .returned (.bool (decide (1 ≤ num) && ts)) ∧ Hid (Below w.heap.size w w') := by
  have hE := fun W => eq_bt a1 a2 0 0 W
  have hF := fun W => eq_bt a1 a2 p1 p2 W
  by_cases hn : 1 ≤ num
  · have i1 : (1 : Int) ≤ (num : Int) := by omega
    cases ts with
    | true =>
      go_enter Try.func46, Try.ntmps46
      go_wp2_with (first
        | (
           go_at_call 66; refine (hS _ (al _ _)).mono ?_; rintro e w1 ⟨rfl, H1⟩; clear hS
           have k0 := keep H1.out (b := w.heap.size) (o := 0) (x := .int .i64 3) (by first | assumption | go_simp)
           have k1 := keep H1.out (b := w.heap.size) (o := 1) (x := .int .i64 num) (by first | assumption | go_simp)
           have k2 := keep H1.out (b := w.heap.size) (o := 2) (x := .int .i64 p1) (by first | assumption | go_simp)
           have k3 := keep H1.out (b := w.heap.size) (o := 3) (x := .int .i64 p2) (by first | assumption | go_simp)
           have k4 := keep H1.out (b := w.heap.size) (o := 4) (x := .int .i64 a1) (by first | assumption | go_simp)
           have k5 := keep H1.out (b := w.heap.size) (o := 5) (x := .int .i64 a2) (by first | assumption | go_simp)
           have k6 := keep H1.out (b := w.heap.size) (o := 6) (x := .slice x dn c) (by first | assumption | go_simp)
           have k7 := keep H1.out (b := w.heap.size) (o := 7) (x := .int .i64 kn) (by first | assumption | go_simp)
           have k8 := keep H1.out (b := w.heap.size) (o := 8) (x := .slice y dl cy) (by first | assumption | go_simp)
           have B1 := on (al _ _) H1.out))
      go_ret
      exact ⟨by simp_all, B1⟩
    | false =>
      go_enter Try.func46, Try.ntmps46
      go_wp2_with (first
        | (
           go_at_call 66; refine (hS _ (al _ _)).mono ?_; rintro e w1 ⟨rfl, H1⟩; clear hS
           have k0 := keep H1.out (b := w.heap.size) (o := 0) (x := .int .i64 3) (by first | assumption | go_simp)
           have k1 := keep H1.out (b := w.heap.size) (o := 1) (x := .int .i64 num) (by first | assumption | go_simp)
           have k2 := keep H1.out (b := w.heap.size) (o := 2) (x := .int .i64 p1) (by first | assumption | go_simp)
           have k3 := keep H1.out (b := w.heap.size) (o := 3) (x := .int .i64 p2) (by first | assumption | go_simp)
           have k4 := keep H1.out (b := w.heap.size) (o := 4) (x := .int .i64 a1) (by first | assumption | go_simp)
           have k5 := keep H1.out (b := w.heap.size) (o := 5) (x := .int .i64 a2) (by first | assumption | go_simp)
           have k6 := keep H1.out (b := w.heap.size) (o := 6) (x := .slice x dn c) (by first | assumption | go_simp)
           have k7 := keep H1.out (b := w.heap.size) (o := 7) (x := .int .i64 kn) (by first | assumption | go_simp)
           have k8 := keep H1.out (b := w.heap.size) (o := 8) (x := .slice y dl cy) (by first | assumption | go_simp)
           have B1 := on (al _ _) H1.out))
      go_ret
      exact ⟨by simp_all, B1⟩
  · have i1 : ¬ (1 : Int) ≤ (num : Int) := by omega
    have i2 : num = 0 := by omega
    subst i2
    go_enter Try.func46, Try.ntmps46
    go_wp2_with fail
    go_ret
    exact ⟨by simp_all, al _ _⟩

set_option maxHeartbeats 1600000 in
theorem mmay4 (num kn fr n dn c dl cy : Nat) (p1 p2 a1 a2 : Int) (x y : Option Addr) (ts td : Bool) (w : World)
    (hS : ∀ W, Below w.heap.size w W → Calls Try.prog 66 #[.agg #[.int .i64 p1, .int .i64 p2, .int .i64 a1, .int .i64 a2, .slice x dn c], .int .i64 n] W fun e w' => e = .returned (.bool ts) ∧ Hid (Below W.heap.size W w'))
    (hA : ∀ W, Below w.heap.size w W → Calls Try.prog 67 #[.slice y dl cy] W fun e w' => e = .returned (.bool td) ∧ Hid (Below W.heap.size W w')) :
    Calls Try.prog 46 #[.agg #[.int .i64 4, .int .i64 num, .int .i64 p1, .int .i64 p2, .int .i64 a1, .int .i64 a2, .slice x dn c, .int .i64 kn, .slice y dl cy], .int .i64 fr, .int .i64 n] w fun e w' => e = .returned (.bool (true)) ∧ Hid (Below w.heap.size w w') := by
  have hE := fun W => eq_bt a1 a2 0 0 W
  have hF := fun W => eq_bt a1 a2 p1 p2 W
  by_cases hn : 1 ≤ num
  · have i1 : (1 : Int) ≤ (num : Int) := by omega
    cases ts with
    | true =>
      go_enter Try.func46, Try.ntmps46
      go_wp2_with (first
        | (
           go_at_call 66; refine (hS _ (al _ _)).mono ?_; rintro e w1 ⟨rfl, H1⟩; clear hS
           have k0 := keep H1.out (b := w.heap.size) (o := 0) (x := .int .i64 4) (by first | assumption | go_simp)
           have k1 := keep H1.out (b := w.heap.size) (o := 1) (x := .int .i64 num) (by first | assumption | go_simp)
           have k2 := keep H1.out (b := w.heap.size) (o := 2) (x := .int .i64 p1) (by first | assumption | go_simp)
           have k3 := keep H1.out (b := w.heap.size) (o := 3) (x := .int .i64 p2) (by first | assumption | go_simp)
           have k4 := keep H1.out (b := w.heap.size) (o := 4) (x := .int .i64 a1) (by first | assumption | go_simp)
           have k5 := keep H1.out (b := w.heap.size) (o := 5) (x := .int .i64 a2) (by first | assumption | go_simp)
           have k6 := keep H1.out (b := w.heap.size) (o := 6) (x := .slice x dn c) (by first | assumption | go_simp)
           have k7 := keep H1.out (b := w.heap.size) (o := 7) (x := .int .i64 kn) (by first | assumption | go_simp)
           have k8 := keep H1.out (b := w.heap.size) (o := 8) (x := .slice y dl cy) (by first | assumption | go_simp)
           have B1 := on (al _ _) H1.out))
      go_ret
      exact ⟨by simp_all, B1⟩
    | false =>
      go_enter Try.func46, Try.ntmps46
      go_wp2_with (first
        | (
           go_at_call 66; refine (hS _ (al _ _)).mono ?_; rintro e w1 ⟨rfl, H1⟩; clear hS
           have k0 := keep H1.out (b := w.heap.size) (o := 0) (x := .int .i64 4) (by first | assumption | go_simp)
           have k1 := keep H1.out (b := w.heap.size) (o := 1) (x := .int .i64 num) (by first | assumption | go_simp)
           have k2 := keep H1.out (b := w.heap.size) (o := 2) (x := .int .i64 p1) (by first | assumption | go_simp)
           have k3 := keep H1.out (b := w.heap.size) (o := 3) (x := .int .i64 p2) (by first | assumption | go_simp)
           have k4 := keep H1.out (b := w.heap.size) (o := 4) (x := .int .i64 a1) (by first | assumption | go_simp)
           have k5 := keep H1.out (b := w.heap.size) (o := 5) (x := .int .i64 a2) (by first | assumption | go_simp)
           have k6 := keep H1.out (b := w.heap.size) (o := 6) (x := .slice x dn c) (by first | assumption | go_simp)
           have k7 := keep H1.out (b := w.heap.size) (o := 7) (x := .int .i64 kn) (by first | assumption | go_simp)
           have k8 := keep H1.out (b := w.heap.size) (o := 8) (x := .slice y dl cy) (by first | assumption | go_simp)
           have B1 := on (al _ _) H1.out))
      go_ret
      exact ⟨by simp_all, B1⟩
  · have i1 : ¬ (1 : Int) ≤ (num : Int) := by omega
    have i2 : num = 0 := by omega
    subst i2
    go_enter Try.func46, Try.ntmps46
    go_wp2_with fail
    go_ret
    exact ⟨by simp_all, al _ _⟩

set_option maxHeartbeats 1600000 in
theorem mmay5 (num kn fr n dn c dl cy : Nat) (p1 p2 a1 a2 : Int) (x y : Option Addr) (ts td : Bool) (w : World)
    (hS : ∀ W, Below w.heap.size w W → Calls Try.prog 66 #[.agg #[.int .i64 p1, .int .i64 p2, .int .i64 a1, .int .i64 a2, .slice x dn c], .int .i64 n] W fun e w' => e = .returned (.bool ts) ∧ Hid (Below W.heap.size W w'))
    (hA : ∀ W, Below w.heap.size w W → Calls Try.prog 67 #[.slice y dl cy] W fun e w' => e = .returned (.bool td) ∧ Hid (Below W.heap.size W w')) :
    Calls Try.prog 46 #[.agg #[.int .i64 5, .int .i64 num, .int .i64 p1, .int .i64 p2, .int .i64 a1, .int .i64 a2, .slice x dn c, .int .i64 kn, .slice y dl cy], .int .i64 fr, .int .i64 n] w fun e w' => e = .returned (.bool (decide (1 ≤ num) && decide (0 < dl) && td)) ∧ Hid (Below w.heap.size w w') := by
  have hE := fun W => eq_bt a1 a2 0 0 W
  have hF := fun W => eq_bt a1 a2 p1 p2 W
  by_cases hn : 1 ≤ num
  · have i1 : (1 : Int) ≤ (num : Int) := by omega
    cases ts with
    | true =>
      by_cases hd : 0 < dl
      · have i2 : (0 : Int) < (dl : Int) := by omega
        go_enter Try.func46, Try.ntmps46
        go_wp2_with (first
          | (
             go_at_call 66; refine (hS _ (al _ _)).mono ?_; rintro e w1 ⟨rfl, H1⟩; clear hS
             have k0 := keep H1.out (b := w.heap.size) (o := 0) (x := .int .i64 5) (by first | assumption | go_simp)
             have k1 := keep H1.out (b := w.heap.size) (o := 1) (x := .int .i64 num) (by first | assumption | go_simp)
             have k2 := keep H1.out (b := w.heap.size) (o := 2) (x := .int .i64 p1) (by first | assumption | go_simp)
             have k3 := keep H1.out (b := w.heap.size) (o := 3) (x := .int .i64 p2) (by first | assumption | go_simp)
             have k4 := keep H1.out (b := w.heap.size) (o := 4) (x := .int .i64 a1) (by first | assumption | go_simp)
             have k5 := keep H1.out (b := w.heap.size) (o := 5) (x := .int .i64 a2) (by first | assumption | go_simp)
             have k6 := keep H1.out (b := w.heap.size) (o := 6) (x := .slice x dn c) (by first | assumption | go_simp)
             have k7 := keep H1.out (b := w.heap.size) (o := 7) (x := .int .i64 kn) (by first | assumption | go_simp)
             have k8 := keep H1.out (b := w.heap.size) (o := 8) (x := .slice y dl cy) (by first | assumption | go_simp)
             have B1 := on (al _ _) H1.out)
          | (
             go_at_call 67; refine (hA _ B1).mono ?_; rintro e w2 ⟨rfl, H2⟩; clear hA))
        go_ret
        exact ⟨by simp_all, on B1 H2.out⟩
      · have i2 : ¬ (0 : Int) < (dl : Int) := by omega
        go_enter Try.func46, Try.ntmps46
        go_wp2_with (first
          | (
             go_at_call 66; refine (hS _ (al _ _)).mono ?_; rintro e w1 ⟨rfl, H1⟩; clear hS
             have k0 := keep H1.out (b := w.heap.size) (o := 0) (x := .int .i64 5) (by first | assumption | go_simp)
             have k1 := keep H1.out (b := w.heap.size) (o := 1) (x := .int .i64 num) (by first | assumption | go_simp)
             have k2 := keep H1.out (b := w.heap.size) (o := 2) (x := .int .i64 p1) (by first | assumption | go_simp)
             have k3 := keep H1.out (b := w.heap.size) (o := 3) (x := .int .i64 p2) (by first | assumption | go_simp)
             have k4 := keep H1.out (b := w.heap.size) (o := 4) (x := .int .i64 a1) (by first | assumption | go_simp)
             have k5 := keep H1.out (b := w.heap.size) (o := 5) (x := .int .i64 a2) (by first | assumption | go_simp)
             have k6 := keep H1.out (b := w.heap.size) (o := 6) (x := .slice x dn c) (by first | assumption | go_simp)
             have k7 := keep H1.out (b := w.heap.size) (o := 7) (x := .int .i64 kn) (by first | assumption | go_simp)
             have k8 := keep H1.out (b := w.heap.size) (o := 8) (x := .slice y dl cy) (by first | assumption | go_simp)
             have B1 := on (al _ _) H1.out))
        go_ret
        exact ⟨by simp_all, B1⟩
    | false =>
      by_cases hd : 0 < dl
      · have i2 : (0 : Int) < (dl : Int) := by omega
        go_enter Try.func46, Try.ntmps46
        go_wp2_with (first
          | (
             go_at_call 66; refine (hS _ (al _ _)).mono ?_; rintro e w1 ⟨rfl, H1⟩; clear hS
             have k0 := keep H1.out (b := w.heap.size) (o := 0) (x := .int .i64 5) (by first | assumption | go_simp)
             have k1 := keep H1.out (b := w.heap.size) (o := 1) (x := .int .i64 num) (by first | assumption | go_simp)
             have k2 := keep H1.out (b := w.heap.size) (o := 2) (x := .int .i64 p1) (by first | assumption | go_simp)
             have k3 := keep H1.out (b := w.heap.size) (o := 3) (x := .int .i64 p2) (by first | assumption | go_simp)
             have k4 := keep H1.out (b := w.heap.size) (o := 4) (x := .int .i64 a1) (by first | assumption | go_simp)
             have k5 := keep H1.out (b := w.heap.size) (o := 5) (x := .int .i64 a2) (by first | assumption | go_simp)
             have k6 := keep H1.out (b := w.heap.size) (o := 6) (x := .slice x dn c) (by first | assumption | go_simp)
             have k7 := keep H1.out (b := w.heap.size) (o := 7) (x := .int .i64 kn) (by first | assumption | go_simp)
             have k8 := keep H1.out (b := w.heap.size) (o := 8) (x := .slice y dl cy) (by first | assumption | go_simp)
             have B1 := on (al _ _) H1.out)
          | (
             go_at_call 67; refine (hA _ B1).mono ?_; rintro e w2 ⟨rfl, H2⟩; clear hA))
        go_ret
        exact ⟨by simp_all, on B1 H2.out⟩
      · have i2 : ¬ (0 : Int) < (dl : Int) := by omega
        go_enter Try.func46, Try.ntmps46
        go_wp2_with (first
          | (
             go_at_call 66; refine (hS _ (al _ _)).mono ?_; rintro e w1 ⟨rfl, H1⟩; clear hS
             have k0 := keep H1.out (b := w.heap.size) (o := 0) (x := .int .i64 5) (by first | assumption | go_simp)
             have k1 := keep H1.out (b := w.heap.size) (o := 1) (x := .int .i64 num) (by first | assumption | go_simp)
             have k2 := keep H1.out (b := w.heap.size) (o := 2) (x := .int .i64 p1) (by first | assumption | go_simp)
             have k3 := keep H1.out (b := w.heap.size) (o := 3) (x := .int .i64 p2) (by first | assumption | go_simp)
             have k4 := keep H1.out (b := w.heap.size) (o := 4) (x := .int .i64 a1) (by first | assumption | go_simp)
             have k5 := keep H1.out (b := w.heap.size) (o := 5) (x := .int .i64 a2) (by first | assumption | go_simp)
             have k6 := keep H1.out (b := w.heap.size) (o := 6) (x := .slice x dn c) (by first | assumption | go_simp)
             have k7 := keep H1.out (b := w.heap.size) (o := 7) (x := .int .i64 kn) (by first | assumption | go_simp)
             have k8 := keep H1.out (b := w.heap.size) (o := 8) (x := .slice y dl cy) (by first | assumption | go_simp)
             have B1 := on (al _ _) H1.out))
        go_ret
        exact ⟨by simp_all, B1⟩
  · have i1 : ¬ (1 : Int) ≤ (num : Int) := by omega
    have i2 : num = 0 := by omega
    subst i2
    go_enter Try.func46, Try.ntmps46
    go_wp2_with fail
    go_ret
    exact ⟨by simp_all, al _ _⟩

set_option maxHeartbeats 1600000 in
theorem mmayother (num kn fr n dn c dl cy : Nat) (p1 p2 a1 a2 : Int) (x y : Option Addr) (ts td : Bool) (kind : Nat) (n1 : ((kind : Int) == 1) = false) (n2 : ((kind : Int) == 2) = false) (n3 : ((kind : Int) == 3) = false) (n4 : ((kind : Int) == 4) = false) (n5 : ((kind : Int) == 5) = false) (w : World)
    (hS : ∀ W, Below w.heap.size w W → Calls Try.prog 66 #[.agg #[.int .i64 p1, .int .i64 p2, .int .i64 a1, .int .i64 a2, .slice x dn c], .int .i64 n] W fun e w' => e = .returned (.bool ts) ∧ Hid (Below W.heap.size W w'))
    (hA : ∀ W, Below w.heap.size w W → Calls Try.prog 67 #[.slice y dl cy] W fun e w' => e = .returned (.bool td) ∧ Hid (Below W.heap.size W w')) :
    Calls Try.prog 46 #[.agg #[.int .i64 kind, .int .i64 num, .int .i64 p1, .int .i64 p2, .int .i64 a1, .int .i64 a2, .slice x dn c, .int .i64 kn, .slice y dl cy], .int .i64 fr, .int .i64 n] w fun e w' => e = .returned (.bool (false)) ∧ Hid (Below w.heap.size w w') := by
  have hE := fun W => eq_bt a1 a2 0 0 W
  have hF := fun W => eq_bt a1 a2 p1 p2 W
  by_cases hn : 1 ≤ num
  · have i1 : (1 : Int) ≤ (num : Int) := by omega
    cases ts with
    | true =>
      go_enter Try.func46, Try.ntmps46
      go_wp2_with (first
        | (
           go_at_call 66; refine (hS _ (al _ _)).mono ?_; rintro e w1 ⟨rfl, H1⟩; clear hS
           have k0 := keep H1.out (b := w.heap.size) (o := 0) (x := .int .i64 kind) (by first | assumption | go_simp)
           have k1 := keep H1.out (b := w.heap.size) (o := 1) (x := .int .i64 num) (by first | assumption | go_simp)
           have k2 := keep H1.out (b := w.heap.size) (o := 2) (x := .int .i64 p1) (by first | assumption | go_simp)
           have k3 := keep H1.out (b := w.heap.size) (o := 3) (x := .int .i64 p2) (by first | assumption | go_simp)
           have k4 := keep H1.out (b := w.heap.size) (o := 4) (x := .int .i64 a1) (by first | assumption | go_simp)
           have k5 := keep H1.out (b := w.heap.size) (o := 5) (x := .int .i64 a2) (by first | assumption | go_simp)
           have k6 := keep H1.out (b := w.heap.size) (o := 6) (x := .slice x dn c) (by first | assumption | go_simp)
           have k7 := keep H1.out (b := w.heap.size) (o := 7) (x := .int .i64 kn) (by first | assumption | go_simp)
           have k8 := keep H1.out (b := w.heap.size) (o := 8) (x := .slice y dl cy) (by first | assumption | go_simp)
           have B1 := on (al _ _) H1.out))
      go_ret
      exact ⟨by simp_all, B1⟩
    | false =>
      go_enter Try.func46, Try.ntmps46
      go_wp2_with (first
        | (
           go_at_call 66; refine (hS _ (al _ _)).mono ?_; rintro e w1 ⟨rfl, H1⟩; clear hS
           have k0 := keep H1.out (b := w.heap.size) (o := 0) (x := .int .i64 kind) (by first | assumption | go_simp)
           have k1 := keep H1.out (b := w.heap.size) (o := 1) (x := .int .i64 num) (by first | assumption | go_simp)
           have k2 := keep H1.out (b := w.heap.size) (o := 2) (x := .int .i64 p1) (by first | assumption | go_simp)
           have k3 := keep H1.out (b := w.heap.size) (o := 3) (x := .int .i64 p2) (by first | assumption | go_simp)
           have k4 := keep H1.out (b := w.heap.size) (o := 4) (x := .int .i64 a1) (by first | assumption | go_simp)
           have k5 := keep H1.out (b := w.heap.size) (o := 5) (x := .int .i64 a2) (by first | assumption | go_simp)
           have k6 := keep H1.out (b := w.heap.size) (o := 6) (x := .slice x dn c) (by first | assumption | go_simp)
           have k7 := keep H1.out (b := w.heap.size) (o := 7) (x := .int .i64 kn) (by first | assumption | go_simp)
           have k8 := keep H1.out (b := w.heap.size) (o := 8) (x := .slice y dl cy) (by first | assumption | go_simp)
           have B1 := on (al _ _) H1.out))
      go_ret
      exact ⟨by simp_all, B1⟩
  · have i1 : ¬ (1 : Int) ≤ (num : Int) := by omega
    have i2 : num = 0 := by omega
    subst i2
    go_enter Try.func46, Try.ntmps46
    go_wp2_with fail
    go_ret
    exact ⟨by simp_all, al _ _⟩

theorem mmay_any (m : Ms) (x y : Option Addr) (c cy fr n : Nat) (hn : n ≤ 7) (w : World) (hsl : Fl.Sl w x m.st.d.length c m.st.d) (hsm : m.st.d.length ≤ 5000) (hd : DcsAt w y m.decs) (hdl : m.decs.length ≤ 1000) :
    Calls Try.prog 46 #[mv m x c y cy, .int .i64 fr, .int .i64 n] w fun e w' => e = .returned (.bool (mayM m fr n)) ∧ Hid (Below w.heap.size w w') := by
  have hS := fun (W : World) (hW : Below w.heap.size w W) => maystate_any m.st x c n hn W (hsl.below hW) (by omega)
  have hA := fun (W : World) (hW : Below w.heap.size w W) => allmay_any y m.decs.length cy m.decs W (hd.below hW) rfl (by omega)
  unfold mayM mv
  by_cases h1 : m.kind = 1
  · rw [if_pos h1, h1]
    exact mmay1 m.num m.known fr n m.st.d.length c m.decs.length cy m.st.p.1 m.st.p.2 m.st.a.1 m.st.a.2 x y _ _ w hS hA
  · rw [if_neg h1]
    by_cases h2 : m.kind = 2
    · rw [if_pos h2, h2]
      exact mmay2 m.num m.known fr n m.st.d.length c m.decs.length cy m.st.p.1 m.st.p.2 m.st.a.1 m.st.a.2 x y _ _ w hS hA
    · rw [if_neg h2]
      by_cases h3 : m.kind = 3
      · rw [if_pos h3, h3]
        exact mmay3 m.num m.known fr n m.st.d.length c m.decs.length cy m.st.p.1 m.st.p.2 m.st.a.1 m.st.a.2 x y _ _ w hS hA
      · rw [if_neg h3]
        by_cases h4 : m.kind = 4
        · rw [if_pos h4, h4]
          exact mmay4 m.num m.known fr n m.st.d.length c m.decs.length cy m.st.p.1 m.st.p.2 m.st.a.1 m.st.a.2 x y _ _ w hS hA
        · rw [if_neg h4]
          by_cases h5 : m.kind = 5
          · rw [if_pos h5, h5]
            exact mmay5 m.num m.known fr n m.st.d.length c m.decs.length cy m.st.p.1 m.st.p.2 m.st.a.1 m.st.a.2 x y _ _ w hS hA
          · rw [if_neg h5]
            exact mmayother m.num m.known fr n m.st.d.length c m.decs.length cy m.st.p.1 m.st.p.2 m.st.a.1 m.st.a.2 x y _ _ m.kind (by simp; omega) (by simp; omega) (by simp; omega) (by simp; omega) (by simp; omega) w hS hA

end Go.Proofs.Ytdbahebhodoooaa.Px

/-
  Package paxos: decode.
  Conditions: the bytes lie in memory.
-/
namespace Go.Proofs.Ytdbahebhodoooaa.Px
open Go.RowKit Wi By Fl Ba
set_option linter.unusedVariables false
set_option linter.unusedSimpArgs false
set_option maxRecDepth 100000

def noMs : Ms := ⟨0, 0, noAc, 0, []⟩

/- What is told of a message that was read: it lies in new memory. -/
structure MGot (w w' : World) (m : Ms) (x : Option Addr) (c : Nat) (y : Option Addr) (cy : Nat) : Prop where
  sl : Fl.Sl w' x m.st.d.length c m.st.d
  tb : ∀ a, x = some a → w.heap.size ≤ a.block ∧ Tb w' a.block 5
  own : OwnD w' w.heap.size (.slice y m.decs.length cy) m.decs

theorem rBy_len (t : Nat) (l : List Nat) (e : Nat) : (rBy (t : Int) l e).1.length ≤ t := by
  unfold rBy
  split
  · simp
  · split
    · simp
    · split
      · simp
      · simp only [List.length_take]
        have := rNum_le (t : Int) l e
        omega

theorem rDcs_len (n : Nat) : ∀ (k : Nat) (l : List Nat) (e : Nat), (rDcs n k l e).1.length ≤ k
  | 0, l, e => by simp [rDcs]
  | k + 1, l, e => by
    unfold rDcs
    split
    · have := rDcs_len n k (rDc n l e).2.1 (rDc n l e).2.2
      simp
      omega
    · simp

/- The nine cells of a message. -/
structure Nine (w : World) (g : Nat) (v : Nat → Value) : Prop where
  c : ∀ k, k < 9 → w.cell? ⟨g, k, none⟩ = some (v k)
  f : ∀ k, w.frozen? ⟨g, k, none⟩ = false

theorem Nine.keep {w w' : World} {g : Nat} {v : Nat → Value} {G : Nat → Prop} (h : Nine w g v) (t : Turns G w w') (hg : ¬ G g) : Nine w' g v :=
  ⟨fun k hk => keept t hg (h.c k hk), fun k => keeptf t hg (cell_lt' (h.c 0 (by omega))) (h.f k)⟩

theorem Nine.new (w : World) (t : TypeId) (v0 v1 v2 v3 v4 v5 v6 v7 v8 : Value) : Nine (w.alloc (.cells #[v0, v1, v2, v3, v4, v5, v6, v7, v8] t)) w.heap.size (fun k => if k = 0 then v0 else if k = 1 then v1 else if k = 2 then v2 else if k = 3 then v3 else if k = 4 then v4 else if k = 5 then v5 else if k = 6 then v6 else if k = 7 then v7 else v8) := by
  refine ⟨fun k hk => ?_, fun k => frozen_new _ _ _ k⟩
  match k, hk with
  | 0, _ => simp
  | 1, _ => simp
  | 2, _ => simp
  | 3, _ => simp
  | 4, _ => simp
  | 5, _ => simp
  | 6, _ => simp
  | 7, _ => simp
  | 8, _ => simp

end Go.Proofs.Ytdbahebhodoooaa.Px

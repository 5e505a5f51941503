/-
  5 texts of this proof, one behind the other: PxEnc2, PxSend, PxArr, PxHigh, PxBegin.
-/
import Derived.Test.YtfgfjfemaniaiaaJ10
import Derived.Test.YtfgfjfemaniaiaaJ01
import Derived.Laws.MakeOwn
import Derived.Deep.DeepCutAuto
/-
  Package paxos: the bytes of a message that tells decrees; any message's.
  Conditions: the message lies in memory.
-/
namespace Go.Proofs.Ytfgfjfemaniaiaa.Px
open Go.RowKit Wi By Fl Ba
set_option linter.unusedVariables false
set_option linter.unusedSimpArgs false
set_option maxRecDepth 100000

theorem dcs_snoc (L : List Dc) (d : Dc) : dcs (L ++ [d]) = dcs L ++ dbytes d := by simp [dcs]

structure ESt (w wr : World) (R : Value) (pre : List Nat) (L : List Dc) : Prop where
  own : OwnL wr w.heap.size R (pre ++ dcs L)
  bel : Below w.heap.size w wr
  lt : ∀ u ∈ pre ++ dcs L, u < 256
  len : (pre ++ dcs L).length ≤ 100 + 5000 * L.length

theorem ESt.sl {w wr : World} {R : Value} {pre : List Nat} {L : List Dc} (h : ESt w wr R pre L) : ∃ x c, R = .slice x (pre ++ dcs L).length c ∧ Fl.Sl wr x (pre ++ dcs L).length c (pre ++ dcs L) := by
  obtain ⟨x, c, h1, h2, _⟩ := h.own.sl h.lt
  exact ⟨x, c, h1, ofW h2⟩

theorem ESt.step {w wr w1 : World} {R : Value} {pre : List Nat} {L : List Dc} {d : Dc} (h : ESt w wr R pre L) (y : Option Addr) (m cy : Nat) (hL : L.length ≤ 64) (hm : m ≤ 5000) (hv : Vl wr w1 y m cy (dbytes d)) :
    ∃ R' w2, (Builtin.append_ #[35, 35] 35 #[R, .slice y m cy]).run Try.prog w1 = .ok R' w2 ∧ Hid (ESt w w2 R' pre (L ++ [d])) := by
  have hlen := h.len
  obtain ⟨R', w2, h1, h2, h3⟩ := push_list w1 w w.heap.size R (pre ++ dcs L) (h.own.below hv.1) (Nat.le_trans h.bel.size hv.1.size) (on h.bel hv.1) y m cy (dbytes d) (toW hv.2.1) (by omega)
  refine ⟨R', w2, h1, ?_, h3, ?_, ?_⟩
  · rw [dcs_snoc, ← List.append_assoc]
    exact h2
  · rw [dcs_snoc, ← List.append_assoc]
    exact app_lt h.lt (dbytes_lt d)
  · rw [dcs_snoc, ← List.append_assoc, List.length_append, hv.2.1.len]
    have e1 : (L ++ [d]).length = L.length + 1 := by simp
    rw [e1]
    omega

set_option maxHeartbeats 3200000 in
theorem enc_tell (m : Ms) (x y : Option Addr) (c cy fr : Nat) (w : World) (h : MOk w m x c y) (hk : m.kind = 5) (hf : fr < 9223372036854775808) :
    Calls Try.prog 69 #[mv m x c y cy, .int .i64 fr] w fun e w' => ∃ z l cz, e = .returned (.slice z l cz) ∧ Hid (l ≤ 500000 ∧ Vl w w' z l cz (encM m fr)) := by
  have HE : Hid (encM m fr = sealed (uv fr ++ uv 5 ++ uv m.num ++ uv m.known ++ dcs m.decs)) := by
    show encM m fr = _
    unfold encM body
    rw [hk, if_neg (by omega), if_pos rfl]
    simp
  have hnum := h.num
  have hkn := h.known
  have HD : Hid (DcsAt w y m.decs ∧ m.decs.length ≤ 64 ∧ ∀ d ∈ m.decs, DOk d) := ⟨h.dcs, h.few, h.ok⟩
  dsimp only [mv]
  rw [hk]
  clear h hk
  generalize m.num = num at *
  generalize m.st.p.1 = p1 at *
  generalize m.st.p.2 = p2 at *
  generalize m.st.a.1 = a1 at *
  generalize m.st.a.2 = a2 at *
  generalize m.st.d.length = dn at *
  generalize m.known = kn at *
  generalize hL : m.decs = L at *
  clear hL
  obtain ⟨dl, hdl⟩ : ∃ dl, dl = L.length := ⟨_, rfl⟩
  rw [← hdl]
  have Hdl : Hid (dl = L.length) := hdl
  clear hdl
  have hd64 : dl ≤ 64 := by rw [Hdl.out]; exact HD.out.2.1
  have i1 : (fr : Int) < 9223372036854775808 := by omega
  have i2 : (num : Int) < 9223372036854775808 := by omega
  have i3 : (kn : Int) < 9223372036854775808 := by omega
  have HU : Hid ((uv fr).length ≤ 10 ∧ (uv 5).length ≤ 10 ∧ (uv num).length ≤ 10 ∧ (uv kn).length ≤ 10) := ⟨uv_ten (by omega), uv_ten (by omega), uv_ten (by omega), uv_ten (by omega)⟩
  have hU1 := fun W => uvW none 0 0 [] fr W (Fl.Sl.empty W) (by omega) (by omega)
  go_enter Try.func69, Try.ntmps69
  go_wp2_with (first
    | (
       go_at_call 85; refine (hU1 _).mono ?_; rintro e w1 ⟨y1, m1, c1, rfl, H1⟩; clear hU1
       have k0 := keep H1.out.2.1 (b := w.heap.size) (o := 0) (x := .int .i64 5) (by first | assumption | go_simp)
       have k1 := keep H1.out.2.1 (b := w.heap.size) (o := 1) (x := .int .i64 num) (by first | assumption | go_simp)
       have k7 := keep H1.out.2.1 (b := w.heap.size) (o := 7) (x := .int .i64 kn) (by first | assumption | go_simp)
       have k8 := keep H1.out.2.1 (b := w.heap.size) (o := 8) (x := .slice y dl cy) (by first | assumption | go_simp)
       have hU2 := uvW y1 m1 c1 _ 5 w1 H1.out.2.2.1 (by omega) (by have := H1.out.1; have := HU.out.1; omega)
       have B1 := on (al _ _) H1.out.2.1)
    | (
       go_at_call 85; refine hU2.mono ?_; rintro e w2 ⟨y2, m2, c2, rfl, H2⟩; clear hU2
       have k0 := keep H2.out.2.1 (b := w.heap.size) (o := 0) (x := .int .i64 5) (by first | assumption | go_simp)
       have k1 := keep H2.out.2.1 (b := w.heap.size) (o := 1) (x := .int .i64 num) (by first | assumption | go_simp)
       have k7 := keep H2.out.2.1 (b := w.heap.size) (o := 7) (x := .int .i64 kn) (by first | assumption | go_simp)
       have k8 := keep H2.out.2.1 (b := w.heap.size) (o := 8) (x := .slice y dl cy) (by first | assumption | go_simp)
       have hU3 := uvW y2 m2 c2 _ num w2 H2.out.2.2.1 (by omega) (by have := H1.out.1; have := HU.out.1; have := H2.out.1; have := HU.out.2.1; omega)
       have B2 := on B1 H2.out.2.1)
    | (
       go_at_call 85; refine hU3.mono ?_; rintro e w3 ⟨y3, m3, c3, rfl, H3⟩; clear hU3
       have k0 := keep H3.out.2.1 (b := w.heap.size) (o := 0) (x := .int .i64 5) (by first | assumption | go_simp)
       have k1 := keep H3.out.2.1 (b := w.heap.size) (o := 1) (x := .int .i64 num) (by first | assumption | go_simp)
       have k7 := keep H3.out.2.1 (b := w.heap.size) (o := 7) (x := .int .i64 kn) (by first | assumption | go_simp)
       have k8 := keep H3.out.2.1 (b := w.heap.size) (o := 8) (x := .slice y dl cy) (by first | assumption | go_simp)
       have B3 := on B2 H3.out.2.1
       have HL : Hid (m3 ≤ 30) := by show m3 ≤ 30; have := H1.out.1; have := H2.out.1; have := H3.out.1; have := HU.out; omega
       have hU4 : Calls Try.prog 85 #[.slice y3 m3 c3, .int .u64 kn] w3 fun e w' => ∃ R, e = .returned R ∧ Hid (Below w3.heap.size w3 w' ∧ ESt w w' R (uv fr ++ uv 5 ++ uv num ++ uv kn) []) :=
         (uvarint_any y3 m3 c3 _ kn w3 (toW H3.out.2.2.1) (by omega) (by have := HL.out; omega)).mono fun e w' ⟨R, q1, q2, q3⟩ => by
           have q5 : ([] : List Nat) ++ uv fr ++ uv 5 ++ uv num ++ uv kn = uv fr ++ uv 5 ++ uv num ++ uv kn ++ dcs [] := by simp [dcs]
           rw [q5] at q2
           refine ⟨R, q1, q3, q2.mono B3.size, on B3 q3, ?_, ?_⟩
           · rw [← q5]
             exact app_lt H3.out.2.2.1.lt (uv_lt kn)
           · have := HU.out
             simp [dcs]
             omega)
    | (
       go_at_call 85; refine hU4.mono ?_; rintro e w4 ⟨R4, rfl, H4⟩; clear hU4
       have k0 := keep H4.out.1 (b := w.heap.size) (o := 0) (x := .int .i64 5) (by first | assumption | go_simp)
       have k1 := keep H4.out.1 (b := w.heap.size) (o := 1) (x := .int .i64 num) (by first | assumption | go_simp)
       have k7 := keep H4.out.1 (b := w.heap.size) (o := 7) (x := .int .i64 kn) (by first | assumption | go_simp)
       have k8 := keep H4.out.1 (b := w.heap.size) (o := 8) (x := .slice y dl cy) (by first | assumption | go_simp)
       skip))
  go_loopw [5, 7, 50] (fun b _ i wr => ∃ (k : Nat), k ≤ dl ∧ i = .int .i64 k ∧ Hid (ESt w wr b (uv fr ++ uv 5 ++ uv num ++ uv kn) (L.take k))) (fun _ _ i _ => dl - (intOf i).toNat)
  case atStart => exact ⟨0, by omega, rfl, H4.out.2⟩
  case round =>
    obtain ⟨k, hk, rfl, HR⟩ := hrel
    clear H4
    by_cases hlt : k < dl
    · have hkn : (k : Int) < (dl : Int) := by omega
      have hA := HD.out.1.below HR.out.bel
      obtain ⟨b, o, rfl, hb, hc⟩ := hA.resolve_left (by have := Hdl.out; omega)
      obtain ⟨d, hd⟩ : ∃ d, L[k]? = some d := ⟨L[k]'(by have := Hdl.out; omega), List.getElem?_eq_getElem (by have := Hdl.out; omega)⟩
      obtain ⟨q0, q1, q2⟩ := hc k d hd
      have HT : Hid (L.take (k + 1) = L.take k ++ [d]) := by
        show L.take (k + 1) = L.take k ++ [d]
        rw [List.take_add_one, hd]
        rfl
      have hB := fun W => dbytes_any d (HD.out.2.2 d (List.mem_of_getElem? hd)) W
      have HX : Hid (∀ W w1 z mz cz, Below wr.heap.size wr W → Hid (mz ≤ 5000 ∧ Vl W w1 z mz cz (dbytes d)) → ∃ R' w2, (Builtin.append_ #[35, 35] 35 #[u5, .slice z mz cz]).run Try.prog w1 = .ok R' w2 ∧ Hid (ESt w w2 R' (uv fr ++ uv 5 ++ uv num ++ uv kn) (L.take (k + 1)))) := fun W w1 z mz cz hW H1 => by
        rw [HT.out]
        exact HR.out.step z mz cz (by rw [List.length_take]; omega) H1.out.1 (Vl.on hW H1.out.2)
      clear hA hc hb hd HT HD Hdl
      obtain ⟨mon, ser, s⟩ := d
      dsimp only [dv] at *
      go_wp2_with (first
        | (
           go_at_call 86; refine (hB _).mono ?_; rintro e w5 ⟨z, mz, cz, rfl, H5⟩; clear hB
           obtain ⟨R6, w6, hap, H6⟩ := HX.out _ w5 z mz cz (al _ _) H5
           clear HX)
        | (
           at_builtin; refine wpList_append_run rfl _ _ 35 rfl _ _ rfl rfl hap ?_; clear hap))
      go_roundw
      case rel => exact ⟨k + 1, by omega, by go_num, H6.out⟩
      case measure => simp [intOf]; omega
    · obtain rfl : k = dl := by omega
      have HQ : Hid (ESt w wr u5 (uv fr ++ uv 5 ++ uv num ++ uv kn) L) := by
        have := HR.out
        rw [List.take_of_length_le (by rw [← Hdl.out]; exact Nat.le_refl _)] at this
        exact this
      obtain ⟨x5, c5, hu5, hs5⟩ := HQ.out.sl
      have hz := HQ.out.len
      have HZ : Hid ((uv fr ++ uv 5 ++ uv num ++ uv kn ++ dcs L).length ≤ 400000) := by
        show _ ≤ 400000
        have := HD.out.2.1
        omega
      have hS := sealed_any x5 _ c5 _ wr hs5 (by have := HZ.out; omega)
      have HB : Hid (Below w.heap.size w wr) := HQ.out.bel
      clear HQ HR hz hs5 HD
      subst hu5
      generalize (uv fr ++ uv 5 ++ uv num ++ uv kn ++ dcs L).length = ln at *
      generalize (uv fr ++ uv 5 ++ uv num ++ uv kn ++ dcs L) = bb at *
      go_wp2_with (first
        | (
           go_at_call 59; refine hS.mono ?_; rintro e w7 ⟨y7, m7, c7, rfl, H7⟩; clear hS))
      go_ret
      refine ⟨y7, m7, c7, rfl, ?_, ?_⟩
      · have := H7.out.1; have := HZ.out; omega
      · rw [HE.out]
        exact Vl.on HB.out H7.out.2

theorem enc_any (m : Ms) (x y : Option Addr) (c cy fr : Nat) (w : World) (h : MOk w m x c y) (hf : fr < 9223372036854775808) :
    Calls Try.prog 69 #[mv m x c y cy, .int .i64 fr] w fun e w' => ∃ z l cz, e = .returned (.slice z l cz) ∧ Hid (l ≤ 500000 ∧ Vl w w' z l cz (encM m fr)) := by
  by_cases h4 : m.kind = 4
  · exact enc_know m x y c cy fr w h h4 hf
  · by_cases h5 : m.kind = 5
    · exact enc_tell m x y c cy fr w h h5 hf
    · exact enc_state m x y c cy fr w h h4 h5 hf

structure Nine (w : World) (g : Nat) (v : Nat → Value) : Prop where
  c : ∀ k, k < 9 → w.cell? ⟨g, k, none⟩ = some (v k)
  f : ∀ k, w.frozen? ⟨g, k, none⟩ = false

theorem Nine.keep {w w' : World} {g : Nat} {v : Nat → Value} {G : Nat → Prop} (h : Nine w g v) (t : Turns G w w') (hg : ¬ G g) : Nine w' g v :=
  ⟨fun k hk => keept t hg (h.c k hk), fun k => keeptf t hg (cell_lt' (h.c 0 (by omega))) (h.f k)⟩

theorem Nine.new (w : World) (t : TypeId) (v0 v1 v2 v3 v4 v5 v6 v7 v8 : Value) : Nine (w.alloc (.cells #[v0, v1, v2, v3, v4, v5, v6, v7, v8] t)) w.heap.size (fun k => if k = 0 then v0 else if k = 1 then v1 else if k = 2 then v2 else if k = 3 then v3 else if k = 4 then v4 else if k = 5 then v5 else if k = 6 then v6 else if k = 7 then v7 else v8) := by
  refine ⟨fun k hk => ?_, fun k => frozen_new _ _ _ k⟩
  match k, hk with
  | 0, _ => simp
  | 1, _ => simp
  | 2, _ => simp
  | 3, _ => simp
  | 4, _ => simp
  | 5, _ => simp
  | 6, _ => simp
  | 7, _ => simp
  | 8, _ => simp

end Go.Proofs.Ytfgfjfemaniaiaa.Px

/-
  What a monitor sends: send, say.
  Conditions: the monitor is one that New gave ('NdAt').
-/
namespace Go.Proofs.Ytfgfjfemaniaiaa.Px
open Go.RowKit Wi By Fl Ba
set_option linter.unusedVariables false
set_option linter.unusedSimpArgs false
set_option maxRecDepth 100000

theorem MOk.below {w w' : World} {m : Ms} {x : Option Addr} {c : Nat} {y : Option Addr} (h : MOk w m x c y) (b : Below w.heap.size w w') : MOk w' m x c y :=
  ⟨h.kind, h.num, h.known, h.p, h.a, h.sl.below b, h.small, h.dcs.below b, h.few, h.ok⟩

section
variable {w : World} {B : Nat} {g : Ln} {st : Nd}

set_option maxHeartbeats 3200000 in
theorem send_any (h : NdAt w B g st) (hi : st.id < 7) (dst : Int) (m : Ms) (x y : Option Addr) (c cy : Nat) (hm : MOk w m x c y) :
    Calls Try.prog 50 #[.pointer (some ⟨g.p, 0, none⟩), .int .i64 dst, mv m x c y cy] w fun e w' => ∃ z l cz, e = .returned (.agg #[.int .i64 dst, .slice z l cz]) ∧ Hid (l ≤ 500000 ∧ Vl w w' z l cz (encM m st.id)) := by
  have hE := fun (W : World) (b : Below w.heap.size w W) => enc_any m x y c cy st.id W (hm.below b) (by omega)
  have c0 := h.c0
  have hpl := h.obj.lt
  clear h hm hi
  generalize encM m st.id = L at *
  dsimp only [mv] at *
  generalize m.kind = m0 at *
  generalize m.num = m1 at *
  generalize m.st.p.1 = m2 at *
  generalize m.st.p.2 = m3 at *
  generalize m.st.a.1 = m4 at *
  generalize m.st.a.2 = m5 at *
  generalize m.st.d.length = m6 at *
  generalize m.known = m7 at *
  generalize m.decs.length = m8 at *
  generalize st.id = id at *
  generalize g.p = p at *
  go_enter Try.func50, Try.ntmps50
  go_wp2_with fail
  have bW : Below w.heap.size w ((w.alloc (.cells #[.int .i64 m0, .int .i64 m1, .int .i64 m2, .int .i64 m3, .int .i64 m4, .int .i64 m5, .slice x m6 c, .int .i64 m7, .slice y m8 cy] 76)).alloc (.cells #[.int .i64 0, .slice none 0 0] 70)).drew := on (on (al _ _) (al _ _)) (Below.refl _ _).drew
  have N0 : Nine ((w.alloc (.cells #[.int .i64 m0, .int .i64 m1, .int .i64 m2, .int .i64 m3, .int .i64 m4, .int .i64 m5, .slice x m6 c, .int .i64 m7, .slice y m8 cy] 76)).alloc (.cells #[.int .i64 0, .slice none 0 0] 70)).drew w.heap.size _ := (Nine.new w 76 (.int .i64 m0) (.int .i64 m1) (.int .i64 m2) (.int .i64 m3) (.int .i64 m4) (.int .i64 m5) (.slice x m6 c) (.int .i64 m7) (.slice y m8 cy)).keep (Turns.of_below (F := fun _ => False) (on (al _ (.cells #[.int .i64 0, .slice none 0 0] 70)) (Below.refl _ _).drew)) (fun h => h)
  have p0 : ((w.alloc (.cells #[.int .i64 m0, .int .i64 m1, .int .i64 m2, .int .i64 m3, .int .i64 m4, .int .i64 m5, .slice x m6 c, .int .i64 m7, .slice y m8 cy] 76)).alloc (.cells #[.int .i64 0, .slice none 0 0] 70)).drew.cell? ⟨p, 0, none⟩ = some (.int .i64 id) := keep bW c0
  have r0 : ((w.alloc (.cells #[.int .i64 m0, .int .i64 m1, .int .i64 m2, .int .i64 m3, .int .i64 m4, .int .i64 m5, .slice x m6 c, .int .i64 m7, .slice y m8 cy] 76)).alloc (.cells #[.int .i64 0, .slice none 0 0] 70)).drew.cell? ⟨w.heap.size + 1, 0, none⟩ = some (.int .i64 0) := by go_simp
  have r1 : ((w.alloc (.cells #[.int .i64 m0, .int .i64 m1, .int .i64 m2, .int .i64 m3, .int .i64 m4, .int .i64 m5, .slice x m6 c, .int .i64 m7, .slice y m8 cy] 76)).alloc (.cells #[.int .i64 0, .slice none 0 0] 70)).drew.cell? ⟨w.heap.size + 1, 1, none⟩ = some (.slice none 0 0) := by go_simp
  have f0 : ((w.alloc (.cells #[.int .i64 m0, .int .i64 m1, .int .i64 m2, .int .i64 m3, .int .i64 m4, .int .i64 m5, .slice x m6 c, .int .i64 m7, .slice y m8 cy] 76)).alloc (.cells #[.int .i64 0, .slice none 0 0] 70)).drew.frozen? ⟨w.heap.size + 1, 0, none⟩ = false := by go_simp
  have f1 : ((w.alloc (.cells #[.int .i64 m0, .int .i64 m1, .int .i64 m2, .int .i64 m3, .int .i64 m4, .int .i64 m5, .slice x m6 c, .int .i64 m7, .slice y m8 cy] 76)).alloc (.cells #[.int .i64 0, .slice none 0 0] 70)).drew.frozen? ⟨w.heap.size + 1, 1, none⟩ = false := by go_simp
  have n0 : ((w.alloc (.cells #[.int .i64 m0, .int .i64 m1, .int .i64 m2, .int .i64 m3, .int .i64 m4, .int .i64 m5, .slice x m6 c, .int .i64 m7, .slice y m8 cy] 76)).alloc (.cells #[.int .i64 0, .slice none 0 0] 70)).drew.cell? ⟨w.heap.size, 0, none⟩ = some (.int .i64 m0) := N0.c 0 (by omega)
  have n1 : ((w.alloc (.cells #[.int .i64 m0, .int .i64 m1, .int .i64 m2, .int .i64 m3, .int .i64 m4, .int .i64 m5, .slice x m6 c, .int .i64 m7, .slice y m8 cy] 76)).alloc (.cells #[.int .i64 0, .slice none 0 0] 70)).drew.cell? ⟨w.heap.size, 1, none⟩ = some (.int .i64 m1) := N0.c 1 (by omega)
  have n2 : ((w.alloc (.cells #[.int .i64 m0, .int .i64 m1, .int .i64 m2, .int .i64 m3, .int .i64 m4, .int .i64 m5, .slice x m6 c, .int .i64 m7, .slice y m8 cy] 76)).alloc (.cells #[.int .i64 0, .slice none 0 0] 70)).drew.cell? ⟨w.heap.size, 2, none⟩ = some (.int .i64 m2) := N0.c 2 (by omega)
  have n3 : ((w.alloc (.cells #[.int .i64 m0, .int .i64 m1, .int .i64 m2, .int .i64 m3, .int .i64 m4, .int .i64 m5, .slice x m6 c, .int .i64 m7, .slice y m8 cy] 76)).alloc (.cells #[.int .i64 0, .slice none 0 0] 70)).drew.cell? ⟨w.heap.size, 3, none⟩ = some (.int .i64 m3) := N0.c 3 (by omega)
  have n4 : ((w.alloc (.cells #[.int .i64 m0, .int .i64 m1, .int .i64 m2, .int .i64 m3, .int .i64 m4, .int .i64 m5, .slice x m6 c, .int .i64 m7, .slice y m8 cy] 76)).alloc (.cells #[.int .i64 0, .slice none 0 0] 70)).drew.cell? ⟨w.heap.size, 4, none⟩ = some (.int .i64 m4) := N0.c 4 (by omega)
  have n5 : ((w.alloc (.cells #[.int .i64 m0, .int .i64 m1, .int .i64 m2, .int .i64 m3, .int .i64 m4, .int .i64 m5, .slice x m6 c, .int .i64 m7, .slice y m8 cy] 76)).alloc (.cells #[.int .i64 0, .slice none 0 0] 70)).drew.cell? ⟨w.heap.size, 5, none⟩ = some (.int .i64 m5) := N0.c 5 (by omega)
  have n6 : ((w.alloc (.cells #[.int .i64 m0, .int .i64 m1, .int .i64 m2, .int .i64 m3, .int .i64 m4, .int .i64 m5, .slice x m6 c, .int .i64 m7, .slice y m8 cy] 76)).alloc (.cells #[.int .i64 0, .slice none 0 0] 70)).drew.cell? ⟨w.heap.size, 6, none⟩ = some (.slice x m6 c) := N0.c 6 (by omega)
  have n7 : ((w.alloc (.cells #[.int .i64 m0, .int .i64 m1, .int .i64 m2, .int .i64 m3, .int .i64 m4, .int .i64 m5, .slice x m6 c, .int .i64 m7, .slice y m8 cy] 76)).alloc (.cells #[.int .i64 0, .slice none 0 0] 70)).drew.cell? ⟨w.heap.size, 7, none⟩ = some (.int .i64 m7) := N0.c 7 (by omega)
  have n8 : ((w.alloc (.cells #[.int .i64 m0, .int .i64 m1, .int .i64 m2, .int .i64 m3, .int .i64 m4, .int .i64 m5, .slice x m6 c, .int .i64 m7, .slice y m8 cy] 76)).alloc (.cells #[.int .i64 0, .slice none 0 0] 70)).drew.cell? ⟨w.heap.size, 8, none⟩ = some (.slice y m8 cy) := N0.c 8 (by omega)
  clear N0
  refine wp_region_held_drew (S := fun v => v.cell? ⟨w.heap.size, 0, none⟩ = some (.int .i64 m0) ∧ v.cell? ⟨w.heap.size, 1, none⟩ = some (.int .i64 m1) ∧ v.cell? ⟨w.heap.size, 2, none⟩ = some (.int .i64 m2) ∧ v.cell? ⟨w.heap.size, 3, none⟩ = some (.int .i64 m3) ∧ v.cell? ⟨w.heap.size, 4, none⟩ = some (.int .i64 m4) ∧ v.cell? ⟨w.heap.size, 5, none⟩ = some (.int .i64 m5) ∧ v.cell? ⟨w.heap.size, 6, none⟩ = some (.slice x m6 c) ∧ v.cell? ⟨w.heap.size, 7, none⟩ = some (.int .i64 m7) ∧ v.cell? ⟨w.heap.size, 8, none⟩ = some (.slice y m8 cy) ∧ v.cell? ⟨p, 0, none⟩ = some (.int .i64 id)) (by kernel_rfl) ⟨n0, n1, n2, n3, n4, n5, n6, n7, n8, p0⟩ (fun hHeld => ?_)
  generalize ((w.alloc (.cells #[.int .i64 m0, .int .i64 m1, .int .i64 m2, .int .i64 m3, .int .i64 m4, .int .i64 m5, .slice x m6 c, .int .i64 m7, .slice y m8 cy] 76)).alloc (.cells #[.int .i64 0, .slice none 0 0] 70)).drew = wD at *
  refine By.hk 0 ?_
  refine By.hk 1 ?_
  refine By.hk 2 ?_
  refine By.hk 3 ?_
  refine By.hk 4 ?_
  refine By.hk 5 ?_
  refine wpAnyH_ready (rs := [6]) (by kernel_rfl) (by simp) ?_
  refine AllReadyH.cons rfl (fun K hK => ?_) AllReadyH.nil
  go_simp
  refine (hE _ bW).mono ?_
  rintro e w1 ⟨z, l, cz, rfl, H1⟩
  replace n0 := keep H1.out.2.1 n0
  replace n1 := keep H1.out.2.1 n1
  replace n2 := keep H1.out.2.1 n2
  replace n3 := keep H1.out.2.1 n3
  replace n4 := keep H1.out.2.1 n4
  replace n5 := keep H1.out.2.1 n5
  replace n6 := keep H1.out.2.1 n6
  replace n7 := keep H1.out.2.1 n7
  replace n8 := keep H1.out.2.1 n8
  replace p0 := keep H1.out.2.1 p0
  have lt1 : w.heap.size + 1 < wD.heap.size := cell_lt' r0
  replace f0 := keepf H1.out.2.1 lt1 f0
  replace f1 := keepf H1.out.2.1 lt1 f1
  replace r0 := keep H1.out.2.1 r0
  replace r1 := keep H1.out.2.1 r1
  refine hK.out _ _ ⟨n0, n1, n2, n3, n4, n5, n6, n7, n8, p0⟩ (fun hHeld => ?_)
  clear hK K
  refine By.hk 7 ?_
  have hpne : p ≠ w.heap.size + 1 := by omega
  refine wpAnyH_ready (rs := [8]) (by kernel_rfl) (by simp) ?_
  refine AllReadyH.cons rfl (fun K hK => ?_) AllReadyH.nil
  go_simp
  refine hK.out _ _ ⟨by go_simp, by go_simp, by go_simp, by go_simp, by go_simp, by go_simp, by go_simp, by go_simp, by go_simp, by go_simp⟩ (fun hHeld => ?_)
  clear hK K
  refine wpAnyH_done (by kernel_rfl) ?_ _
  go_wp2_with fail
  refine bodyPost_ret (v := .agg #[.int .i64 dst, .slice z l cz]) ?_ rfl ⟨z, l, cz, rfl, H1.out.1, Vl.turns bW H1.out.2 ?_⟩
  · rw [results_cell1 rfl]
    go_simp
  · exact (Turns.refl _ w1).set2 (w.heap.size + 1) ⟨by omega, lt1⟩ _ _

theorem say_any (h : NdAt w B g st) (hi : st.id < 7) (dst : Int) :
    Calls Try.prog 34 #[.pointer (some ⟨g.p, 0, none⟩), .int .i64 dst] w fun e w' => ∃ z l cz, e = .returned (.agg #[.int .i64 dst, .slice z l cz]) ∧ Hid (l ≤ 500000 ∧ Vl w w' z l cz (encM ⟨4, st.dec.length, noAc, 0, []⟩ st.id)) := by
  have hdl := h.dl
  have z0ok : BOk z0 := ⟨by show (0 : Int) ≤ 0; omega, by show (0 : Int) < _; omega, by show (0 : Int) ≤ 0; omega, by show (0 : Int) < _; omega⟩
  have hS := fun (W : World) (b : Below w.heap.size w W) => send_any (h.below b) hi dst ⟨4, st.dec.length, noAc, 0, []⟩ none none 0 0 ⟨by show 4 < _; omega, by show st.dec.length < _; omega, by show 0 < _; omega, z0ok, z0ok, Fl.Sl.empty _, by show 0 ≤ _; omega, .inl rfl, by show 0 ≤ _; omega, fun d hd => by cases hd⟩
  obtain ⟨y, cy, e, _⟩ := h.rd
  have c2 := h.c2
  have hpl := h.obj.lt
  rw [e] at c2
  clear h e z0ok
  dsimp only [mv, noAc, z0, List.length_nil] at hS
  have HL : Hid (encM ⟨4, st.dec.length, noAc, 0, []⟩ st.id = encM ⟨4, st.dec.length, ⟨(0, 0), (0, 0), []⟩, 0, []⟩ st.id) := rfl
  have hnl : (st.dec.length : Int) ≤ 80000 := by omega
  generalize encM ⟨4, st.dec.length, noAc, 0, []⟩ st.id = L at *
  generalize st.dec.length = n at *
  generalize g.p = p at *
  go_enter Try.func34, Try.ntmps34
  go_wp2_with (first
    | (
       go_at_call 50; refine (hS _ (al _ _)).mono ?_; rintro e w1 ⟨z, l, cz, rfl, H1⟩; clear hS
       have r0 := keep H1.out.2.1 (b := w.heap.size) (o := 0) (x := .int .i64 0) (by first | assumption | go_simp)
       have r1 := keep H1.out.2.1 (b := w.heap.size) (o := 1) (x := .slice none 0 0) (by first | assumption | go_simp)
       have f0 := keepf H1.out.2.1 (b := w.heap.size) (o := 0) (by first | (simp <;> omega) | exact cell_lt' (a := ⟨w.heap.size, 0, none⟩) (by assumption) | (simp; exact cell_lt' (a := ⟨w.heap.size, 0, none⟩) (by assumption))) (by first | assumption | go_simp)
       have f1 := keepf H1.out.2.1 (b := w.heap.size) (o := 1) (by first | (simp <;> omega) | exact cell_lt' (a := ⟨w.heap.size, 1, none⟩) (by assumption) | (simp; exact cell_lt' (a := ⟨w.heap.size, 1, none⟩) (by assumption))) (by first | assumption | go_simp)
       skip))
  refine bodyPost_ret (v := .agg #[.int .i64 dst, .slice z l cz]) ?_ rfl ⟨z, l, cz, rfl, H1.out.1, Vl.turns (al w (.cells #[.int .i64 0, .slice none 0 0] 70)) (by rw [HL.out]; exact H1.out.2) ?_⟩
  · rw [results_cell1 rfl]
    go_simp
  · exact (Turns.refl _ w1).set2 w.heap.size ⟨Nat.le_refl _, by simp⟩ _ _

end

end Go.Proofs.Ytfgfjfemaniaiaa.Px

/-
  Rows of acceptors that are made and written.
  Conditions: none.
-/
namespace Go.Proofs.Ytfgfjfemaniaiaa.Px
open Go.RowKit Wi By Fl Ba
set_option linter.unusedVariables false
set_option linter.unusedSimpArgs false
set_option maxRecDepth 100000

/- Rows of things of five cells each, written one cell at a time. -/
structure Arr (w : World) (g : Nat) (t : TypeId) (n : Nat) (f : Nat → Nat → Value) : Prop where
  tb : Tb w g t
  cell : ∀ k j, k < n → j < 5 → w.cell? ⟨g, k * 5 + j, none⟩ = some (f k j)
  frz : ∀ i, w.frozen? ⟨g, i, none⟩ = false

theorem frozen_block {w w' : World} {g i : Nat} (h : w'.heap[g]? = w.heap[g]?) : w'.frozen? ⟨g, i, none⟩ = w.frozen? ⟨g, i, none⟩ := by
  unfold World.frozen?
  rw [h]

theorem tb_set {w : World} {g : Nat} {t : TypeId} (h : Tb w g t) (k : Nat) (p : Addr) (u : Value) : Tb (w.setCell p u) g t := by
  obtain ⟨cs, z, h⟩ := h
  by_cases e : g = p.block
  · subst e
    obtain ⟨h1, h2⟩ := Array.getElem?_eq_some_iff.1 h
    simp only [World.setCell]
    refine ⟨?_, ?_, ?_⟩
    rotate_left 2
    · rw [Array.getElem?_eq_getElem (by simpa using h1), Array.getElem_modify, if_pos rfl, h2]
    all_goals skip
  · exact ⟨cs, z, (Below.heap_setCell _ _ _ _ e).trans h⟩

section
variable {w w' : World} {g n : Nat} {t : TypeId} {f : Nat → Nat → Value}

theorem Arr.turns {G : Nat → Prop} (h : Arr w g t n f) (tt : Turns G w w') (hg : ¬ G g) : Arr w' g t n f :=
  ⟨h.tb.of_heap (tt.block g h.tb.lt hg), fun k j hk hj => keept tt hg (h.cell k j hk hj), fun i => (frozen_block (tt.block g h.tb.lt hg)).trans (h.frz i)⟩

theorem Arr.below (h : Arr w g t n f) (b : Below w.heap.size w w') : Arr w' g t n f := h.turns (Turns.of_below (F := fun _ => False) b) (fun h => h)

def set1 (f : Nat → Nat → Value) (k j : Nat) (u : Value) : Nat → Nat → Value := fun k' j' => if k' = k ∧ j' = j then u else f k' j'

theorem Arr.set (h : Arr w g t n f) (k j o : Nat) (hk : k < n) (hj : j < 5) (ho : o = k * 5 + j) (u : Value) : Arr (w.setCell ⟨g, o, none⟩ u) g t n (set1 f k j u) := by
  subst ho
  refine ⟨tb_set h.tb 0 _ _, fun k' j' hk' hj' => ?_, fun i => by rw [World.frozen?_setCell]; exact h.frz i⟩
  unfold set1
  by_cases e : k' = k ∧ j' = j
  · obtain ⟨rfl, rfl⟩ := e
    rw [if_pos ⟨rfl, rfl⟩]
    exact World.cell?_setCell_same _ _ _ (h.cell k' j' hk' hj')
  · rw [if_neg e]
    refine (World.cell?_setCell_other _ _ _ _ (fun e2 => e ?_)).trans (h.cell k' j' hk' hj')
    injection e2 with _ e2 _
    omega

theorem Arr.congr {f' : Nat → Nat → Value} (h : Arr w g t n f) (e : ∀ k j, k < n → j < 5 → f k j = f' k j) : Arr w g t n f' := ⟨h.tb, fun k j hk hj => (h.cell k j hk hj).trans (by rw [e k j hk hj]), h.frz⟩

end

def accC (v : AccV) : Nat → Value := fun j => if j = 0 then .int .i64 v.p.1 else if j = 1 then .int .i64 v.p.2 else if j = 2 then .int .i64 v.a.1 else if j = 3 then .int .i64 v.a.2 else .slice v.x v.n v.c

theorem arr_new (w : World) (t : TypeId) (z : Array Value) (hz : z.size = 5) (n : Nat) : Arr (w.alloc (.cells (madeCells z (n * 5)) t)) w.heap.size t n (fun _ j => z[j]!) := by
  have hh : (w.alloc (.cells (madeCells z (n * 5)) t)).heap[w.heap.size]? = some (.cells (madeCells z (n * 5)) t (0, 0)) := heap_alloc_new _ _
  refine ⟨⟨_, _, hh⟩, fun k j hk hj => ?_, fun i => by unfold World.frozen?; rw [hh]; simp⟩
  simp only [World.cell?, hh]
  have hlt : k * 5 + j < n * 5 := by omega
  unfold madeCells
  simp [hlt, hz]
  congr 1
  omega

def accZ : Array Value := #[.int .i64 0, .int .i64 0, .int .i64 0, .int .i64 0, .slice none 0 0]
theorem make_acc (n : Nat) (hn : n ≤ 7) (w : World) : (Instr.makeSlice 115 (.int .i64 (n : Int)) (.int .i64 (n : Int))).run Try.prog w = .ok (.slice (some ⟨w.heap.size, 0, none⟩) n n) (w.alloc (.cells (madeCells accZ (n * 5)) 74)) := by
  have hi : (Try.prog.info? 74).map (fun i => (i.zero, i.size, i.bytes)) = some (some (.agg #[.int .i64 0, .int .i64 0, .int .i64 0, .int .i64 0, .slice none 0 0]), 5, 56) := by kernel_rfl
  obtain ⟨i0, h1, h2, h3, h4⟩ := info_parts hi
  have := run_make (P := Try.prog) w 115 74 i0 _ Try.underlying115 h1 h2 .i64 .i64 (n : Int) (n : Int) (by omega) (by omega) (by rw [h4]; omega) (by omega)
  rw [this, h3]
  simp
  rfl

def w5 (w : World) (g o : Nat) (u0 u1 u2 u3 u4 : Value) : World := ((((w.setCell ⟨g, o, none⟩ u0).setCell ⟨g, o + 1, none⟩ u1).setCell ⟨g, o + 2, none⟩ u2).setCell ⟨g, o + 3, none⟩ u3).setCell ⟨g, o + 4, none⟩ u4

theorem w5_turns (w : World) (g o : Nat) (u0 u1 u2 u3 u4 : Value) : Turns (atB g) w (w5 w g o u0 u1 u2 u3 u4) :=
  (((((Turns.refl (atB g) w).setCell (p := ⟨g, o, none⟩) (.inl rfl) _).setCell (p := ⟨g, o + 1, none⟩) (.inl rfl) _).setCell (p := ⟨g, o + 2, none⟩) (.inl rfl) _).setCell (p := ⟨g, o + 3, none⟩) (.inl rfl) _).setCell (p := ⟨g, o + 4, none⟩) (.inl rfl) _

theorem w5_arr {w : World} {g n : Nat} {t : TypeId} {f : Nat → Nat → Value} (h : Arr w g t n f) (k : Nat) (hk : k < n) (u : Nat → Value) (u0 u1 u2 u3 u4 : Value) (e0 : u 0 = u0) (e1 : u 1 = u1) (e2 : u 2 = u2) (e3 : u 3 = u3) (e4 : u 4 = u4) : Arr (w5 w g (k * 5) u0 u1 u2 u3 u4) g t n (up f k u) := by
  refine (((((h.set k 0 (k * 5) hk (by omega) rfl u0).set k 1 _ hk (by omega) rfl u1).set k 2 _ hk (by omega) rfl u2).set k 3 _ hk (by omega) rfl u3).set k 4 _ hk (by omega) rfl u4).congr (fun i j hi hj => ?_)
  subst e0 e1 e2 e3 e4
  unfold set1
  by_cases e : i = k
  · subst e
    rw [up_same]
    match j, hj with
    | 0, _ => simp
    | 1, _ => simp
    | 2, _ => simp
    | 3, _ => simp
    | 4, _ => simp
  · rw [up_other _ _ e]
    simp [e]


theorem ApAt.lookAll {w : World} {mb nb : Nat} {D : DataW Value} {M : Nat → Ac} (h : ApAt w mb nb D M) (k : Nat) (hk : k < 4294967296) : ∃ v : AccV, AvOk w v ∧ M k = acOf v ∧ ∀ w' : World, w'.heap[mb]? = w.heap[mb]? → (Instr.lookup 60 (.map (some mb)) (.int .i64 (k : Int)) false).run Try.prog w' = .ok (av v) w' := by
  have hL : ∀ w' : World, w'.heap[mb]? = w.heap[mb]? → ∃ u, (Instr.lookup 60 (.map (some mb)) (.int .i64 (k : Int)) false).run Try.prog w' = .ok u w' ∧ D.atKey (ilit k) (.held (ac z0 z0 none 0 0)) = .held u := fun w' hw => by
    obtain ⟨es, clock, hb, r⟩ := h.own
    have hown : w'.ownsMap Try.prog 3 hva mb nb D := ⟨es, clock, hw.trans hb, r⟩
    obtain ⟨v, ps, h1, h2⟩ := hown.lookup (t := 60) (e := 74) ilaw Try.underlying60 (azero w') rfl (ikey hk)
    have h3 := congrArg Prod.fst (hva_inv h2)
    exact ⟨v, h1, h3⟩
  rcases h.val k hk with ⟨q1, q2⟩ | ⟨u, q1, q2, q3⟩
  · refine ⟨noAv, noAv_ok w, q2, fun w' hw => ?_⟩
    obtain ⟨v, h1, h3⟩ := hL w' hw
    rw [Maps.atKey_of_not_has q1] at h3
    injection h3 with h3
    rw [h1, ← h3]
    rfl
  · refine ⟨u, q2, q3, fun w' hw => ?_⟩
    obtain ⟨v, h1, h3⟩ := hL w' hw
    rw [q1] at h3
    injection h3 with h3
    rw [h1, ← h3]

end Go.Proofs.Ytfgfjfemaniaiaa.Px

/-
  The highest ballot of the next decree, where nothing is asked for; ask, where a monitor is alone.
  Conditions: the monitor is one that New gave ('NdAt').
-/
namespace Go.Proofs.Ytfgfjfemaniaiaa.Px
open Go.RowKit Wi By Fl Ba
set_option linter.unusedVariables false
set_option linter.unusedSimpArgs false
set_option maxRecDepth 100000

section
variable {w : World} {B : Nat} {g : Ln} {st : Nd}

set_option maxHeartbeats 3200000 in
theorem highest_none (h : NdAt w B g st) (hb : st.bid = none) :
    Calls Try.prog 54 #[.pointer (some ⟨g.p, 0, none⟩)] w fun e w' => e = .returned (bt (st.acc (st.dec.length + 1)).p) ∧ Hid (Below w.heap.size w w') := by
  have hgb : g.b = none := by
    rcases h.bid with ⟨q, _⟩ | ⟨l, b, q1, q2, _⟩
    · exact q
    · rw [hb] at q2
      cases q2
  have hpl := h.obj.lt
  have hml := h.acc.lt
  have hdl := h.dl
  have c2 := h.c2
  have c3 := h.c3
  have c6 : w.cell? ⟨g.p, 6, none⟩ = some (.pointer none) := by rw [h.c6, hgb]; rfl
  obtain ⟨y, cy, e, _⟩ := h.rd
  rw [e] at c2
  obtain ⟨v, v1, v2, v3⟩ := h.acc.lookAll (st.dec.length + 1) (by omega)
  obtain ⟨n1, hn1⟩ : ∃ n1, n1 = st.dec.length + 1 := ⟨_, rfl⟩
  rw [← hn1] at v2 v3 ⊢
  have i1 : (st.dec.length : Int) + 1 = (n1 : Int) := by omega
  have wz : IntKind.i64.wrap (n1 : Int) = (n1 : Int) := wrap_i64 (by omega) (by omega)
  have HP : Hid ((st.acc n1).p = v.p) := by show (st.acc n1).p = v.p; rw [v2]; rfl
  have bD : Below w.heap.size w (w.alloc (.cells #[.int .i64 0, .int .i64 0] 72)).drew := on (al _ _) (Below.refl _ _).drew
  have s2 := keep bD c2
  have s3 := keep bD c3
  have s6 := keep bD c6
  have hlk := v3 _ (bD.block _ hml)
  have hl2 := fun o => v3 _ (((al (w.alloc (.cells #[.int .i64 0, .int .i64 0] 72)).drew o).block g.mb (by have := bD.size; omega)).trans (bD.block _ hml))
  dsimp only [av, ac] at hlk hl2
  unfold bt
  rw [HP.out]
  clear h e hgb hb v1 v2 v3 hn1 HP hdl
  generalize st.dec.length = dl at *
  generalize v.p.1 = u0 at *
  generalize v.p.2 = u1 at *
  generalize v.a.1 = u2 at *
  generalize v.a.2 = u3 at *
  generalize v.x = ux at *
  generalize v.n = un at *
  generalize v.c = uc at *
  generalize g.mb = mb at *
  generalize g.p = p at *
  have hfld : ∀ W : World, (Instr.field 74 (.agg #[.int .i64 u0, .int .i64 u1, .int .i64 u2, .int .i64 u3, .slice ux un uc]) 0).run Try.prog W = .ok (.agg #[.int .i64 u0, .int .i64 u1]) W := fun _ => by kernel_rfl
  go_enter Try.func54, Try.ntmps54
  go_wp2_with fail
  have r0 : (w.alloc (.cells #[.int .i64 0, .int .i64 0] 72)).drew.cell? ⟨w.heap.size, 0, none⟩ = some (.int .i64 0) := by go_simp
  have r1 : (w.alloc (.cells #[.int .i64 0, .int .i64 0] 72)).drew.cell? ⟨w.heap.size, 1, none⟩ = some (.int .i64 0) := by go_simp
  have f0 : (w.alloc (.cells #[.int .i64 0, .int .i64 0] 72)).drew.frozen? ⟨w.heap.size, 0, none⟩ = false := by go_simp
  have f1 : (w.alloc (.cells #[.int .i64 0, .int .i64 0] 72)).drew.frozen? ⟨w.heap.size, 1, none⟩ = false := by go_simp
  refine wp_region_held_drew (S := fun q => q.cell? ⟨p, 2, none⟩ = some (.slice y dl cy) ∧ q.cell? ⟨p, 3, none⟩ = some (.map (some mb)) ∧ (Instr.lookup 60 (.map (some mb)) (.int .i64 (n1 : Int)) false).run Try.prog q = .ok (.agg #[.int .i64 u0, .int .i64 u1, .int .i64 u2, .int .i64 u3, .slice ux un uc]) q) (by kernel_rfl) ⟨s2, s3, hlk⟩ (fun hHeld => ?_)
  generalize (w.alloc (.cells #[.int .i64 0, .int .i64 0] 72)).drew = wD at *
  refine By.hk 0 ?_
  refine By.hk 1 ?_
  refine By.hk 2 ?_
  refine By.hk 3 ?_
  refine By.hk 4 ?_
  refine By.hk 5 ?_
  refine By.hk 6 ?_
  refine By.hk 7 ?_
  refine By.hk 8 ?_
  refine By.hk 9 ?_
  refine By.hk 10 ?_
  refine By.hk 11 ?_
  refine wpAnyH_ready (rs := [12]) (by kernel_rfl) (by simp) ?_
  refine AllReadyH.cons rfl (fun K hK => ?_) AllReadyH.nil
  go_simp
  refine hK.out _ _ ⟨keep (al _ _) s2, keep (al _ _) s3, hl2 _⟩ (fun hHeld => ?_)
  clear hK K
  refine wpAnyH_ready (rs := [13]) (by kernel_rfl) (by simp) ?_
  refine AllReadyH.cons rfl (fun K hK => ?_) AllReadyH.nil
  go_simp
  refine hK.out _ _ ⟨keep (al _ _) s2, keep (al _ _) s3, hl2 _⟩ (fun hHeld => ?_)
  clear hK K
  refine wpAnyH_done (by kernel_rfl) ?_ _
  have l0 : w.heap.size < wD.heap.size := cell_lt' r0
  have lp : p < wD.heap.size := cell_lt' s6
  have hpe : ∀ W : World, (binOp .eql 61 (.pointer none) (.pointer none)).run Try.prog W = .ok (.bool true) W := fun _ => by kernel_rfl
  clear hlk hl2 hHeld c2 c3 c6 hfld
  go_wp2_with fail
  refine bodyPost_ret (v := .agg #[.int .i64 u0, .int .i64 u1]) ?_ rfl ⟨rfl, ?_⟩
  · rw [results_cell1 rfl]
    go_simp
  · show Below _ _ _
    repeat (first | with_reducible exact bD | (with_reducible refine Below.setCell ?_ (by first | (simp; done) | (simp; omega) | omega) _) | (with_reducible refine Below.alloc ?_ (by first | (simp; done) | (simp; omega) | omega) _))

theorem ask_one (h : NdAt w B g st) (hn : st.n = 1) (hi : st.id = 0) :
    Calls Try.prog 36 #[.pointer (some ⟨g.p, 0, none⟩)] w fun e w' => e = .returned (.slice none 0 0) ∧ w' = w := by
  have c0 := h.c0
  have c1 := h.c1
  rw [hi] at c0
  rw [hn] at c1
  clear h
  go_enter Try.func36, Try.ntmps36
  go_wp2_with fail
  go_loopw [3, 4, 9] (fun out _ i wr => ∃ k : Nat, k ≤ 1 ∧ i = .int .i64 k ∧ out = .slice none 0 0 ∧ wr = w) (fun _ _ i _ => 1 - (intOf i).toNat)
  case atStart => exact ⟨0, by omega, rfl, rfl, rfl⟩
  case round =>
    obtain ⟨k, hk, rfl, rfl, hw⟩ := hrel
    subst hw
    by_cases hk0 : k = 0
    · subst hk0
      go_wp2_with fail
      go_roundw
      case rel => exact ⟨1, by omega, by go_num, by first | trivial | rfl, by first | trivial | rfl⟩
      case measure => simp [intOf]
    · obtain rfl : k = 1 := by omega
      go_wp2_with fail
      go_ret
      exact ⟨rfl, rfl⟩

end

end Go.Proofs.Ytfgfjfemaniaiaa.Px

/-
  A bid begins: where nothing waits, and where a monitor is alone.
  Conditions: the monitor is one that New gave ('NdAt'), without a bid.
-/
namespace Go.Proofs.Ytfgfjfemaniaiaa.Px
open Go.RowKit Wi By Fl Ba
set_option linter.unusedVariables false
set_option linter.unusedSimpArgs false
set_option maxRecDepth 100000

theorem st_mapupdate {P : Program} {w w' : World} {ops : Array Oper} {o : Oper} {a : Act} {K : Act → World → Prop} {Q : Exit → Act → World → Prop} (hg : Region.wanted o (yielded ops a.tmps) = true) (m x v : Operand) (t : TypeId)
    (ho : o.op = .mapUpdate t m x v) (v1 v2 v3 : Value) (hm : a.eval m = v1) (hx : a.eval x = v2) (hv : a.eval v = v3) (hr : (Instr.mapUpdate t v1 v2 v3).run P w = .ok () w')
    (h : K (a.put o.dst undef) w') : if Region.wanted o (yielded ops a.tmps) = true then Oper.wp P o a w K Q else K (a.put o.dst undef) w := by
  rw [if_pos hg]
  unfold Oper.wp
  simp only [execOp, ho, hm, hx, hv, Sem.run_bind, hr, Result.andThen, Sem.run_pure]
  exact h

theorem below2 {B : Nat} {a w : World} (h : Below B a w) (g : Nat) (hg : B ≤ g) (u0 u1 : Value) : Below B a ((w.setCell ⟨g, 0, none⟩ u0).setCell ⟨g, 1, none⟩ u1) :=
  (h.setCell (p := ⟨g, 0, none⟩) hg _).setCell (p := ⟨g, 1, none⟩) hg _

section
variable {w : World} {B : Nat} {g : Ln} {st : Nd}

theorem NdAt.newBid (h : NdAt w B g st) (num : Nat) (bal : Bt) (hwf : bwf bal) :
    NdAt (((w.setCell ⟨g.p, 6, none⟩ (.pointer (some ⟨w.heap.size + 1, 0, none⟩))).alloc (.map #[] 0)).alloc (.cells #[.int .i64 num, .int .i64 bal.1, .int .i64 bal.2, .slice none 0 0, .map (some w.heap.size)] 96)) B { g with b := some ⟨w.heap.size + 1, w.heap.size, 0, .map [], none, 0, 0⟩ } { st with bid := some ⟨num, bal, [], fun _ => noAc⟩ } ∧
    Turns (fp g) w (((w.setCell ⟨g.p, 6, none⟩ (.pointer (some ⟨w.heap.size + 1, 0, none⟩))).alloc (.map #[] 0)).alloc (.cells #[.int .i64 num, .int .i64 bal.1, .int .i64 bal.2, .slice none 0 0, .map (some w.heap.size)] 96)) := by
  have hB : B ≤ w.heap.size := Nat.le_trans (h.low _ (.inl rfl)) (Nat.le_of_lt h.obj.lt)
  have hs1 : (w.setCell ⟨g.p, 6, none⟩ (.pointer (some ⟨w.heap.size + 1, 0, none⟩))).heap.size = w.heap.size := by simp
  have hs2 : ((w.setCell ⟨g.p, 6, none⟩ (.pointer (some ⟨w.heap.size + 1, 0, none⟩))).alloc (.map #[] 0)).heap.size = w.heap.size + 1 := by simp
  have t1 : Turns (atB g.p) w (w.setCell ⟨g.p, 6, none⟩ (.pointer (some ⟨w.heap.size + 1, 0, none⟩))) := turns_put (Turns.refl _ _) 6 _
  have bM := al (w.setCell ⟨g.p, 6, none⟩ (.pointer (some ⟨w.heap.size + 1, 0, none⟩))) (.map #[] 0)
  have bB := al ((w.setCell ⟨g.p, 6, none⟩ (.pointer (some ⟨w.heap.size + 1, 0, none⟩))).alloc (.map #[] 0)) (.cells #[.int .i64 num, .int .i64 bal.1, .int .i64 bal.2, .slice none 0 0, .map (some w.heap.size)] 96)
  have b2 := on bM bB
  have t3 : Turns (atB g.p) w (((w.setCell ⟨g.p, 6, none⟩ (.pointer (some ⟨w.heap.size + 1, 0, none⟩))).alloc (.map #[] 0)).alloc (.cells #[.int .i64 num, .int .i64 bal.1, .int .i64 bal.2, .slice none 0 0, .map (some w.heap.size)] 96)) := t1.trans (Turns.of_below b2)
  have hu := p_not_u8 h
  have hA := ApAt.new (w.setCell ⟨g.p, 6, none⟩ (.pointer (some ⟨w.heap.size + 1, 0, none⟩)))
  rw [hs1] at hA
  refine ⟨⟨?_, ?_, ?_, h.ne, ?_, .inr ⟨_, _, rfl, rfl, ⟨?_, Sv.nil _, hA.below bB, hwf⟩, ?_⟩, fun k hk => ?_, h.dl, h.wl, h.dok, h.wok⟩, t3.weak fun k hk => .inl hk⟩
  · have q := (((h.obj.set 6 (.pointer (some ⟨w.heap.size + 1, 0, none⟩))).of_heap (b2.block g.p (by rw [hs1]; exact h.obj.lt))))
    refine q.congr (fun j hj => ?_)
    rcases j with _ | _ | _ | _ | _ | _ | _ | _ | j <;> first | rfl | omega
  · exact h.dec.turns t3 (fun q hq e => h.pd (by have e' : q = g.p := e; rw [← e']; exact hq))
  · exact h.wait.turns t3 (fun q hq e => h.pw (by have e' : q = g.p := e; rw [← e']; exact hq))
  · exact h.acc.turns t3 (fun e => h.pm (by have e' : g.mb = g.p := e; exact e'.symm)) hu
  · have q := Blk.new ((w.setCell ⟨g.p, 6, none⟩ (.pointer (some ⟨w.heap.size + 1, 0, none⟩))).alloc (.map #[] 0)) 96 5 (obj6 ⟨w.heap.size + 1, w.heap.size, 0, .map [], none, 0, 0⟩ ⟨num, bal, [], fun _ => noAc⟩) #[.int .i64 num, .int .i64 bal.1, .int .i64 bal.2, .slice none 0 0, .map (some w.heap.size)] rfl
    rw [hs2] at q
    exact q
  · show w.heap.size ≠ g.mb
    have := h.acc.lt
    omega
  · rcases hk with q | q | q | q | ⟨l, q, r⟩
    · exact h.low k (.inl q)
    · exact h.low k (.inr (.inl q))
    · exact h.low k (.inr (.inr (.inl q)))
    · exact h.low k (.inr (.inr (.inr (.inl q))))
    · injection q with q
      subst q
      rcases r with r | r
      · have r' : k = w.heap.size + 1 := r; omega
      · have r' : k = w.heap.size := r; omega

set_option maxHeartbeats 3200000 in
theorem begin_idle (h : NdAt w B g st) (hb : st.bid = none) (hw : st.wait = []) :
    Calls Try.prog 57 #[.pointer (some ⟨g.p, 0, none⟩)] w fun e w' => e = .returned (.slice none 0 0) ∧ Hid (Below w.heap.size w w') := by
  have hH := fun (W : World) (b : Below w.heap.size w W) => highest_none (h.below b) hb
  have hN := fun W => next_any (st.acc (st.dec.length + 1)).p st.id W
  have hpl := h.obj.lt
  have hdl := h.dl
  have c0 := h.c0
  have c2 := h.c2
  have c5 := h.c5
  obtain ⟨y, cy, e, _⟩ := h.rd
  obtain ⟨y5, c5', e5, _⟩ := h.rw_
  rw [e] at c2
  rw [e5, hw] at c5
  have i1 : (st.dec.length : Int) ≤ 80000 := by omega
  have bD : Below w.heap.size w w.drew := (Below.refl _ _).drew
  have s0 := keep bD c0
  have s5 := keep bD c5
  clear h hb hw e e5 hdl
  dsimp only [List.length_nil] at *
  generalize nx (st.acc (st.dec.length + 1)).p st.id = N at *
  obtain ⟨⟨t1, t2⟩, ok⟩ := N
  generalize (st.acc (st.dec.length + 1)).p = hp at *
  obtain ⟨hp1, hp2⟩ := hp
  dsimp only [bt] at *
  generalize st.dec.length = dl at *
  generalize st.id = id at *
  generalize g.p = p at *
  go_enter Try.func57, Try.ntmps57
  go_wp2_with fail
  go_cut [4, 5] (fun s4 s5 wc => ∃ gb, s4 = .pointer (some ⟨gb, 0, none⟩) ∧ s5 = .bool ok ∧ Hid (Below w.heap.size w wc ∧ w.heap.size ≤ gb ∧ wc.cell? ⟨gb, 0, none⟩ = some (.int .i64 t1) ∧ wc.cell? ⟨gb, 1, none⟩ = some (.int .i64 t2)))
  case first =>
    refine wp_region_held_drew (S := fun q => q.cell? ⟨p, 0, none⟩ = some (.int .i64 id)) (by kernel_rfl) s0 (fun hHeld => ?_)
    generalize w.drew = wD at *
    refine By.hk 0 ?_
    refine By.hk 2 ?_
    refine By.hk 3 ?_
    refine By.hk 4 ?_
    refine By.hk 5 ?_
    refine wpAnyH_ready (rs := [1, 10]) (by kernel_rfl) (by simp) ?_
    refine AllReadyH.cons rfl (fun K hK => ?_) (AllReadyH.cons rfl (fun K hK => ?_) AllReadyH.nil)
    · go_simp
      refine (hH _ bD).mono ?_
      rintro e w1 ⟨rfl, H1⟩
      replace s0 := keep H1.out s0
      have B1 := on bD H1.out
      refine hK.out _ _ s0 (fun hHeld => ?_)
      clear hK K
      refine wpAnyH_ready (rs := [6, 10]) (by kernel_rfl) (by simp) ?_
      refine AllReadyH.cons rfl (fun K hK => ?_) (AllReadyH.cons rfl (fun K hK => ?_) AllReadyH.nil)
      · go_simp
        refine (hN _).mono ?_
        rintro e w2 ⟨rfl, H2⟩
        replace s0 := keep H2 s0
        have B2 := on B1 H2
        have lp2 : p < w2.heap.size := cell_lt' s0
        refine hK.out _ _ s0 (fun hHeld => ?_)
        clear hK K
        refine By.hk 7 ?_
        refine By.hk 8 ?_
        refine By.hk 9 ?_
        refine wpAnyH_ready (rs := [10]) (by kernel_rfl) (by simp) ?_
        refine AllReadyH.cons rfl (fun K hK => ?_) AllReadyH.nil
        go_simp
        refine hK.out _ _ (keep (al _ _) s0) (fun hHeld => ?_)
        clear hK K
        refine wpAnyH_ready (rs := [11]) (by kernel_rfl) (by simp) ?_
        refine AllReadyH.cons rfl (fun K hK => ?_) AllReadyH.nil
        go_simp
        refine hK.out _ _ (keep (al _ _) s0) (fun hHeld => ?_)
        clear hK K
        refine By.hk 12 ?_
        refine wpAnyH_done (by kernel_rfl) ?_ _
        go_wp2_with fail
        go_meet
        case rel => exact ⟨w2.heap.size, rfl, rfl, on B2 (al _ _), B2.size, by go_simp, by go_simp⟩
      · go_simp
        have bA := on B1 (al w1 (.cells #[.int .i64 0, .int .i64 0] 72))
        have r0 : (w1.alloc (.cells #[.int .i64 0, .int .i64 0] 72)).cell? ⟨w1.heap.size, 0, none⟩ = some (.int .i64 0) := by go_simp
        have r1 : (w1.alloc (.cells #[.int .i64 0, .int .i64 0] 72)).cell? ⟨w1.heap.size, 1, none⟩ = some (.int .i64 0) := by go_simp
        have f0 : (w1.alloc (.cells #[.int .i64 0, .int .i64 0] 72)).frozen? ⟨w1.heap.size, 0, none⟩ = false := by go_simp
        have f1 : (w1.alloc (.cells #[.int .i64 0, .int .i64 0] 72)).frozen? ⟨w1.heap.size, 1, none⟩ = false := by go_simp
        have lp1 : p < w1.heap.size := cell_lt' s0
        replace s0 := keep (al w1 (.cells #[.int .i64 0, .int .i64 0] 72)) s0
        refine hK.out _ _ s0 (fun hHeld => ?_)
        clear hK K
        refine wpAnyH_ready (rs := [6]) (by kernel_rfl) (by simp) ?_
        refine AllReadyH.cons rfl (fun K hK => ?_) AllReadyH.nil
        go_simp
        refine (hN _).mono ?_
        rintro e w2 ⟨rfl, H2⟩
        have l1 : w1.heap.size < (w1.alloc (.cells #[.int .i64 0, .int .i64 0] 72)).heap.size := by simp
        replace s0 := keep H2 s0
        replace f0 := keepf H2 l1 f0
        replace f1 := keepf H2 l1 f1
        replace r0 := keep H2 r0
        replace r1 := keep H2 r1
        have B2 := on bA H2
        have pn : p ≠ w1.heap.size := by omega
        refine hK.out _ _ s0 (fun hHeld => ?_)
        clear hK K
        refine By.hk 7 ?_
        refine By.hk 8 ?_
        refine By.hk 9 ?_
        refine wpAnyH_ready (rs := [11]) (by kernel_rfl) (by simp) ?_
        refine AllReadyH.cons rfl (fun K hK => ?_) AllReadyH.nil
        go_simp
        refine hK.out _ _ (by go_simp) (fun hHeld => ?_)
        clear hK K
        refine By.hk 12 ?_
        refine wpAnyH_done (by kernel_rfl) ?_ _
        go_wp2_with fail
        go_meet
        case rel => exact ⟨w1.heap.size, rfl, rfl, below2 B2 w1.heap.size B1.size _ _, B1.size, by go_simp, by go_simp⟩
    · go_simp
      have bA := on bD (al wD (.cells #[.int .i64 0, .int .i64 0] 72))
      have r0 : (wD.alloc (.cells #[.int .i64 0, .int .i64 0] 72)).cell? ⟨wD.heap.size, 0, none⟩ = some (.int .i64 0) := by go_simp
      have r1 : (wD.alloc (.cells #[.int .i64 0, .int .i64 0] 72)).cell? ⟨wD.heap.size, 1, none⟩ = some (.int .i64 0) := by go_simp
      have f0 : (wD.alloc (.cells #[.int .i64 0, .int .i64 0] 72)).frozen? ⟨wD.heap.size, 0, none⟩ = false := by go_simp
      have f1 : (wD.alloc (.cells #[.int .i64 0, .int .i64 0] 72)).frozen? ⟨wD.heap.size, 1, none⟩ = false := by go_simp
      have l1 : wD.heap.size < (wD.alloc (.cells #[.int .i64 0, .int .i64 0] 72)).heap.size := by simp
      have lpD : p < wD.heap.size := cell_lt' s0
      replace s0 := keep (al wD (.cells #[.int .i64 0, .int .i64 0] 72)) s0
      refine hK.out _ _ s0 (fun hHeld => ?_)
      clear hK K
      refine wpAnyH_ready (rs := [1]) (by kernel_rfl) (by simp) ?_
      refine AllReadyH.cons rfl (fun K hK => ?_) AllReadyH.nil
      go_simp
      refine (hH _ bA).mono ?_
      rintro e w1 ⟨rfl, H1⟩
      replace s0 := keep H1.out s0
      replace f0 := keepf H1.out l1 f0
      replace f1 := keepf H1.out l1 f1
      replace r0 := keep H1.out r0
      replace r1 := keep H1.out r1
      have B1 := on bA H1.out
      have l2 : wD.heap.size < w1.heap.size := cell_lt' r0
      refine hK.out _ _ s0 (fun hHeld => ?_)
      clear hK K
      refine wpAnyH_ready (rs := [6]) (by kernel_rfl) (by simp) ?_
      refine AllReadyH.cons rfl (fun K hK => ?_) AllReadyH.nil
      go_simp
      refine (hN _).mono ?_
      rintro e w2 ⟨rfl, H2⟩
      replace s0 := keep H2 s0
      replace f0 := keepf H2 l2 f0
      replace f1 := keepf H2 l2 f1
      replace r0 := keep H2 r0
      replace r1 := keep H2 r1
      have B2 := on B1 H2
      have pn : p ≠ wD.heap.size := by omega
      refine hK.out _ _ s0 (fun hHeld => ?_)
      clear hK K
      refine By.hk 7 ?_
      refine By.hk 8 ?_
      refine By.hk 9 ?_
      refine wpAnyH_ready (rs := [11]) (by kernel_rfl) (by simp) ?_
      refine AllReadyH.cons rfl (fun K hK => ?_) AllReadyH.nil
      go_simp
      refine hK.out _ _ (by go_simp) (fun hHeld => ?_)
      clear hK K
      refine By.hk 12 ?_
      refine wpAnyH_done (by kernel_rfl) ?_ _
      go_wp2_with fail
      go_meet
      case rel => exact ⟨wD.heap.size, rfl, rfl, below2 B2 wD.heap.size bD.size _ _, bD.size, by go_simp, by go_simp⟩
  case rest =>
    obtain ⟨gb, rfl, rfl, HC⟩ := hcut
    have q5 := keep HC.out.1 c5
    clear hH hN s0 s5 bD
    cases ok with
    | false =>
      go_wp2_with fail
      go_ret
      exact ⟨rfl, HC.out.1⟩
    | true =>
      go_wp2_with fail
      go_ret
      exact ⟨rfl, HC.out.1⟩

end

end Go.Proofs.Ytfgfjfemaniaiaa.Px

/-
  The program's count: those that count, of several of one OSD the first alone.
  Conditions: intervals and infos lie in memory.
-/
import Derived.Test.YtgcjecmgjncclaaPeFunc
import Derived.Test.YtgcjecmgjncclaaPePHas
import Derived.Lib.AppendZerosOnto
namespace Go.Proofs.Ytgcjecmgjncclaa.Pe
open Go.RowKit By Fl Pz
set_option linter.unusedVariables false
set_option linter.unusedSimpArgs false
set_option maxRecDepth 100000
attribute [local go_sem] Oper.semAt_some

theorem met_is (o : Int) : ∀ S : List FV, ((S.map (·.os)).reverse).contains o = S.any (isOs o)
  | [] => rfl
  | s :: S => by
    have := met_is o S
    rw [List.map_cons, List.reverse_cons, List.any_cons, ← this]
    unfold isOs
    rw [Bool.eq_iff_iff]
    simp only [List.contains_iff_mem, List.mem_append, List.mem_singleton, Bool.or_eq_true, beq_iff_eq]
    constructor
    · rintro (h | h)
      · exact .inr h
      · exact .inl h.symm
    · rintro (h | h)
      · exact .inr h.symm
      · exact .inl h

/- t of the infos are seen, S of them are taken. -/
structure Cn (w1 wr : World) (x : Itv) (I : List FV) (t : Nat) (R : Value) (S : List FV) : Prop where
  bel : Below w1.heap.size w1 wr
  own : Own wr w1.heap.size 27 5 enF R S
  sub : ∀ i ∈ S, i ∈ I
  seq : sel x (I.map pF) [] = S.map pF ++ sel x ((I.map pF).drop t) (S.map (·.os)).reverse
  le : S.length ≤ t
theorem sel_at {x : Itv} {I : List Inf} {t : Nat} {i : Inf} {M : List Int} (h : I[t]? = some i) : sel x (I.drop t) M = if counts x i && !M.contains i.os then i :: sel x (I.drop (t + 1)) (i.os :: M) else sel x (I.drop (t + 1)) M := by
  rw [drop_at h]
  rfl
section
variable {w1 wr w' : World} {x : Itv} {I S : List FV} {t : Nat} {R : Value} {u : FV}
theorem Cn.below (h : Cn w1 wr x I t R S) (hb : Below wr.heap.size wr w') : Cn w1 w' x I t R S := ⟨on h.bel hb, h.own.below hb, h.sub, h.seq, h.le⟩
theorem Cn.skip (h : Cn w1 wr x I t R S) (e : I[t]? = some u) (hc : (counts x (pF u) && !S.any (isOs u.os)) = false) : Cn w1 wr x I (t + 1) R S := by
  have e2 : (I.map pF)[t]? = some (pF u) := by rw [List.getElem?_map, e]; rfl
  refine ⟨h.bel, h.own, h.sub, ?_, Nat.le_succ_of_le h.le⟩
  rw [h.seq, sel_at e2, met_is, show (pF u).os = u.os from rfl, hc]
  rfl
theorem Cn.take (h : Cn w1 wr x I t R S) (e : I[t]? = some u) (hc : (counts x (pF u) && !S.any (isOs u.os)) = true) {W : World} {R' : Value} (hb : Below w1.heap.size w1 W) (ho : Own W w1.heap.size 27 5 enF R' (S ++ [u])) : Cn w1 W x I (t + 1) R' (S ++ [u]) := by
  have e2 : (I.map pF)[t]? = some (pF u) := by rw [List.getElem?_map, e]; rfl
  refine ⟨hb, ho, fun i hi => ?_, ?_, ?_⟩
  · rcases List.mem_append.1 hi with q | q
    · exact h.sub i q
    · rw [List.mem_singleton.1 q]; exact List.mem_of_getElem? e
  · rw [h.seq, sel_at e2, met_is, show (pF u).os = u.os from rfl, hc]
    simp [pF]
  · rw [List.length_append]
    have := h.le
    simp
    omega
end

/- What the call leaves. -/
def CntAt (w : World) (x : Itv) (I : List FV) (G : Nat → Prop) (e : Ending) (w' : World) : Prop :=
  ∃ (y : Option Addr) (m d : Nat) (S : List FV), e = .returned (.slice y m d) ∧ Hid (Fs w' (fun _ => True) y m d S ∧ S.map pF = sel x (I.map pF) [] ∧ m ≤ I.length ∧ Below w.heap.size w w')

set_option maxHeartbeats 6400000 in
theorem count_p {w : World} {F G : Nat → Prop} {v : JV} {y : Option Addr} {m d : Nat} {I : List FV} (h : JAt w F v) (hI : Fs w G y m d I) (hz : m * 56 ≤ 140737488351232) :
    Calls Try.prog 23 #[vJ v, .slice y m d] w fun e w' => CntAt w (pJ v) I G e w' := by
  obtain ⟨w1, hw1⟩ : ∃ w1, w1 = w.alloc (.cells (JCells v) 24) := ⟨_, rfl⟩
  have bb := al w (.cells (JCells v) 24)
  have g0 := heap_alloc_new w (.cells (JCells v) 24)
  rw [← hw1] at bb g0
  have HB := hid bb
  have HG0 := hid g0
  have HJ : Hid (∀ W, Below w.heap.size w W → JAt W F v) := hid fun W hW => JAt.below h hW
  have HI := hid hI
  have HLn : Hid (I.length = m) := hid hI.len
  have hs1 := hI.small
  have HC0 : Hid (Cn w1 w1 (pJ v) I 0 (.slice none 0 0) []) := hid ⟨Below.refl _ _, Own.nil _ _ _ _ _, fun i hi => (by cases hi), rfl, Nat.le_refl _⟩
  have HPl : Hid (∀ W u, Below w.heap.size w W → Calls Try.prog 19 #[vJ v, vF u] W fun e w' => e = .returned (.bool (counts (pJ v) (pF u))) ∧ Below W.heap.size W w') := hid fun W u hW => has_place (JAt.below h hW)
  obtain ⟨X, hX⟩ : ∃ X, X = pJ v := ⟨_, rfl⟩
  rw [← hX] at HC0 HPl ⊢
  unfold JCells at hw1
  unfold vJ at HPl
  unfold vJ
  clear h hI bb g0 hX
  go_enter Try.func23, Try.ntmps23
  go_upto_region 1 with (fail)
  rw [← hw1]
  clear hw1
  go_wp2_with fail
  go_loopw [11, 5] (fun i ov wr => ∃ (t : Nat) (xo : Option Addr) (no co : Nat) (S : List FV), t ≤ m ∧ i = .int .i64 t ∧ ov = .slice xo no co ∧ Hid (Cn w1 wr X I t (.slice xo no co) S)) (fun i _ _ => m - (intOf i).toNat)
  case atStart => exact ⟨0, none, 0, 0, [], by omega, rfl, rfl, HC0.out⟩
  case round =>
    clear HC0
    obtain ⟨t, xo, no, co, S, ht, rfl, rfl, HR⟩ := hrel
    by_cases htm : t < m
    rotate_left
    · have e1 : m = t := by omega
      subst e1
      have HE : Hid (S.map pF = sel X (I.map pF) []) := hid (by
        rw [HR.out.seq, List.drop_eq_nil_of_le (by rw [List.length_map]; have := HLn.out; omega)]
        simp [sel])
      go_wp2_with fail
      go_ret
      refine ⟨xo, no, co, S, rfl, hid ⟨own_lis frow HR.out.own (by have := HR.out.le; omega) (fun _ _ => trivial) (fun i hi => FAt.weak (FAt.below (HI.out.each i (HR.out.sub i hi)) (on HB.out HR.out.bel)) (fun _ _ => trivial)), HE.out, ?_, on HB.out HR.out.bel⟩⟩
      have := HR.out.le
      obtain ⟨_, _, e, _⟩ := HR.out.own.form
      injection e with _ e2 _
      rw [e2, HLn.out]
      exact this
    have htm2 : (t : Int) < (m : Int) := by omega
    obtain ⟨u, hu, hum⟩ := Lis.some HI.out htm
    rcases HI.out.row with hr0 | ⟨bl, o, hx, hbl, _, hc⟩
    · omega
    obtain ⟨kk0, kk1, kk2, kk3, kk4⟩ := f_at hc hu
    subst hx
    have hbw := on HB.out HR.out.bel
    have r0 := keep hbw kk0
    have r1 := keep hbw kk1
    have r2 := keep hbw kk2
    have r3 := keep hbw kk3
    have r4 := keep hbw kk4
    have HU := hid hu
    clear kk0 kk1 kk2 kk3 kk4 hc hu hum hbw hbl
    go_upto_region 5 with (fail)
    clear r0 r1 r2 r3 r4
    obtain ⟨yb, hyb⟩ : ∃ yb, yb = wr.heap.size := ⟨_, rfl⟩
    obtain ⟨wy, hwy⟩ : ∃ wy, wy = wr.alloc (.cells #[.int .i64 u.os, .int .i64 u.li, .int .i64 u.no, .int .i64 u.he, .slice u.x u.n u.c] 27) := ⟨_, rfl⟩
    have by_ : Below wr.heap.size wr wy := by rw [hwy]; exact al _ _
    have gy : wy.heap[yb]? = some (.cells (FCells u) 27 (0, 0)) := by rw [hwy, hyb]; exact heap_alloc_new _ _
    rw [← hwy, ← hyb]
    have HRy := hid (HR.out.below by_)
    have HGy := hid gy
    obtain ⟨q0, _, _, _, _⟩ := fcells gy
    have cT := contains_any (G := fun _ => True) (x := xo) (n := no) (c := co) (L := S) (w := wy) (isOs u.os) 30 #[.pointer (some ⟨yb, 0, none⟩)] (enters_of Try.func30 (by kernel_rfl) rfl)
      (own_lis frow HRy.out.own (by have := HRy.out.le; omega) (fun _ _ => trivial) (fun i hi => FAt.weak (FAt.below (HI.out.each i (HRy.out.sub i hi)) (on HB.out HRy.out.bel)) (fun _ _ => trivial))) (told_clos wy yb u.os q0)
    clear hwy hyb by_ gy q0 HR
    obtain ⟨tt, htt⟩ : ∃ tt, tt = S.any (isOs u.os) := ⟨_, rfl⟩
    rw [← htt] at cT
    have HTt := hid htt
    clear htt
    go_upto_region 6 with (go_at_call 29; refine cT.mono ?_; rintro e wp ⟨rfl, hb⟩; have HRp := hid (HRy.out.below hb); have HGp := hid ((hb.block yb (lt_heap HGy.out)).trans HGy.out); clear hb cT)
    obtain ⟨a0, a1, a2, a3, a4⟩ := fcells HGp.out
    have gj := (HRp.out.bel.block _ (lt_heap HG0.out)).trans HG0.out
    obtain ⟨j0, j1, j2, j3, j4, j5⟩ := jcells gj
    have cP := HPl.out wp u (on HB.out HRp.out.bel)
    unfold vF at cP
    obtain ⟨cc, hcc⟩ : ∃ cc, cc = counts X (pF u) := ⟨_, rfl⟩
    rw [← hcc] at cP
    have HCc := hid hcc
    clear hcc gj HRy HGy
    cases tt with
    | true =>
      have HE := hid (HRp.out.skip HU.out (by rw [← HTt.out, Bool.not_true, Bool.and_false]))
      go_wp2_with fail
      go_roundw
      case rel => exact ⟨t + 1, xo, no, co, S, by omega, by go_num, rfl, HE.out⟩
      case measure => simp [intOf]; omega
    | false =>
      cases cc with
      | false =>
        go_wp2_with (go_at_call 19; refine cP.mono ?_; rintro e wq ⟨rfl, hb⟩; have HE := hid ((HRp.out.below hb).skip HU.out (by rw [← HCc.out, Bool.false_and])); clear hb cP)
        go_roundw
        case rel => exact ⟨t + 1, xo, no, co, S, by omega, by go_num, rfl, HE.out⟩
        case measure => simp [intOf]; omega
      | true =>
        have hle := HRp.out.le
        go_upto_region 7 with (go_at_call 19; refine cP.mono ?_; rintro e wq ⟨rfl, hb⟩; have HRq := hid (HRp.out.below hb); have HGq := hid ((hb.block yb (lt_heap HGp.out)).trans HGp.out); clear hb cP)
        clear a0 a1 a2 a3 a4 j0 j1 j2 j3 j4 j5
        obtain ⟨a0, a1, a2, a3, a4⟩ := fcells HGq.out
        obtain ⟨x', n', c', w3, hap1, hO, hBl, _, _⟩ := push_one2 (a := u) #[.int .i64 u.os, .int .i64 u.li, .int .i64 u.no, .int .i64 u.he, .slice u.x u.n u.c] rfl frow HRq.out.own HRq.out.bel.size (by omega) (by omega)
        have HE := hid (HRq.out.take HU.out (by rw [← HCc.out, ← HTt.out]; rfl) (HRq.out.bel.trans hBl) hO)
        clear hO hBl hle
        go_wp2_with (first | (at_builtin; refine Lib.wpList_append_run _ rfl _ _ _ _ rfl _ _ rfl rfl _ _ hap1 ?_; clear hap1))
        go_roundw
        case rel => exact ⟨t + 1, x', n', c', S ++ [u], by omega, by go_num, rfl, HE.out⟩
        case measure => simp [intOf]; omega
end Go.Proofs.Ytgcjecmgjncclaa.Pe

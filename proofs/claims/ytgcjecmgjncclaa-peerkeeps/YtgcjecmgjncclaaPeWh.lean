/-
  The program's whence: of whom it is told, in rising order.
  Conditions: intervals and infos lie in memory.
-/
import Derived.Test.YtgcjecmgjncclaaPePHas
import Derived.Test.YtgcjecmgjncclaaPeOrd
import Derived.Test.YtgcjecmgjncclaaPeSort
import Derived.Lib.AppendZerosOnto
namespace Go.Proofs.Ytgcjecmgjncclaa.Pe
open Go.RowKit By Fl Pz
set_option linter.unusedVariables false
set_option linter.unusedSimpArgs false
set_option maxRecDepth 100000
attribute [local go_sem] Oper.semAt_some

/- A list of numbers of one's own, as much of it as is known. -/
structure Nn (w1 wr : World) (R : Value) (l : List Int) : Prop where
  bel : Below w1.heap.size w1 wr
  own : Own wr w1.heap.size 3 1 enN R l
theorem Nn.below {w1 wr w' : World} {R : Value} {l : List Int} (h : Nn w1 wr R l) (hb : Below wr.heap.size wr w') : Nn w1 w' R l := ⟨on h.bel hb, h.own.below hb⟩
theorem Nn.len {w1 wr : World} {x : Option Addr} {n c : Nat} {l : List Int} (h : Nn w1 wr (.slice x n c) l) : l.length = n := by
  obtain ⟨_, _, e, _⟩ := h.own.form
  injection e with _ e2 _
  exact e2.symm

theorem sorted_any {w1 w : World} {x : Option Addr} {n c : Nat} {l : List Int} (h : Nn w1 w (.slice x n c) l) (hn : n ≤ 17592186043904) :
    Calls Try.prog 31 #[.slice x n c] w fun e w' => e = .returned (.tuple #[]) ∧ Hid (∃ s : List Int, s.Perm l ∧ s.Pairwise (fun a b => a ≤ b) ∧ Ns w' (fun g => w1.heap.size ≤ g ∧ g < w'.heap.size) x n c s ∧ Below w1.heap.size w1 w') := by
  refine (sortI_any (own_hs h.own) hn).mono fun e w' ⟨he, H⟩ => ⟨he, ?_⟩
  obtain ⟨s, h1, h2, h3, h4⟩ := H.out
  exact hid ⟨s, h1, h2, hs_ns h3 (own_none h.own) hn, h.bel.trans (h4.below (fun q hq => hq) h.bel.size)⟩

set_option maxHeartbeats 6400000 in
theorem whence_p {w : World} {F G : Nat → Prop} {v : JV} {y : Option Addr} {m d : Nat} {S : List FV} (least : Int) (h : JAt w F v) (hI : Fs w G y m d S) :
    Calls Try.prog 32 #[vJ v, .slice y m d, .int .i64 least] w fun e w' => ∃ (x : Option Addr) (n c : Nat), e = .returned (.slice x n c) ∧ Hid (Ns w' (New w w') x n c (whoR (pairs (pJ v) (S.map pF)) least []) ∧ Below w.heap.size w w') := by
  obtain ⟨w1, hw1⟩ : ∃ w1, w1 = w.alloc (.cells (JCells v) 24) := ⟨_, rfl⟩
  have bb := al w (.cells (JCells v) 24)
  have g0 := heap_alloc_new w (.cells (JCells v) 24)
  rw [← hw1] at bb g0
  have HB := hid bb
  have HG0 := hid g0
  have HI := hid hI
  have HLn : Hid (S.length = m) := hid hI.len
  have hs1 := hI.small
  have HHs : Hid (∀ W u, Below w.heap.size w W → u ∈ S → Calls Try.prog 8 #[vJ v, vF u] W fun e w' => e = .returned (.tuple #[.int .i64 ((hasI (pJ v) (pF u)).getD 0), .bool (hasI (pJ v) (pF u)).isSome]) ∧ Below W.heap.size W w') := hid fun W u hW hu => phas_any (JAt.below h hW) (FAt.below (hI.each u hu) hW)
  have HC0 : Hid (Nn w1 w1 (.slice none 0 0) (wl least (pairs (pJ v) ((S.map pF).take 0)))) := hid ⟨Below.refl _ _, Own.nil _ _ _ _ _⟩
  obtain ⟨X, hX⟩ : ∃ X, X = pJ v := ⟨_, rfl⟩
  rw [← hX] at HC0 HHs ⊢
  unfold JCells at hw1
  unfold vJ at HHs
  unfold vJ
  clear h hI bb g0 hX
  go_enter Try.func32, Try.ntmps32
  go_upto_region 1 with (fail)
  rw [← hw1]
  clear hw1
  go_wp2_with fail
  go_loopw [14, 7] (fun i ov wr => ∃ (t : Nat) (xo : Option Addr) (no co : Nat), t ≤ m ∧ no ≤ t ∧ i = .int .i64 t ∧ ov = .slice xo no co ∧ Hid (Nn w1 wr (.slice xo no co) (wl least (pairs X ((S.map pF).take t))))) (fun i _ _ => m - (intOf i).toNat)
  case atStart => exact ⟨0, none, 0, 0, by omega, by omega, rfl, rfl, HC0.out⟩
  case round =>
    clear HC0
    obtain ⟨t, xo, no, co, ht, hno, rfl, rfl, HR⟩ := hrel
    by_cases htm : t < m
    rotate_left
    · have e1 : m = t := by omega
      subst e1
      have cS := sorted_any HR.out (by omega)
      have hE : (S.map pF).take m = S.map pF := List.take_of_length_le (by rw [List.length_map]; have := HLn.out; omega)
      rw [hE] at cS
      clear hE
      go_wp2_with (go_at_call 31; refine cS.mono ?_; rintro e ws ⟨rfl, HS⟩; clear cS)
      go_ret
      obtain ⟨s, h1, h2, h3, h4⟩ := HS.out
      rw [who_is h1 h2] at h3
      exact ⟨xo, no, co, rfl, hid ⟨Ns.weak h3 (fun g hg => ⟨Nat.le_trans HB.out.size hg.1, hg.2⟩), on HB.out h4⟩⟩
    have htm2 : (t : Int) < (m : Int) := by omega
    obtain ⟨u, hu, hum⟩ := Lis.some HI.out htm
    rcases HI.out.row with hr0 | ⟨bl, o, hx, hbl, _, hc⟩
    · omega
    obtain ⟨kk0, kk1, kk2, kk3, kk4⟩ := f_at hc hu
    subst hx
    have hbw := on HB.out HR.out.bel
    have r0 := keep hbw kk0
    have r1 := keep hbw kk1
    have r2 := keep hbw kk2
    have r3 := keep hbw kk3
    have r4 := keep hbw kk4
    have HU : Hid ((S.map pF)[t]? = some (pF u)) := hid (by rw [List.getElem?_map, hu]; rfl)
    have HM := hid hum
    clear kk0 kk1 kk2 kk3 kk4 hc hu hum hbw hbl
    go_upto_region 5 with (fail)
    clear r0 r1 r2 r3 r4
    obtain ⟨yb, hyb⟩ : ∃ yb, yb = wr.heap.size := ⟨_, rfl⟩
    obtain ⟨wy, hwy⟩ : ∃ wy, wy = wr.alloc (.cells #[.int .i64 u.os, .int .i64 u.li, .int .i64 u.no, .int .i64 u.he, .slice u.x u.n u.c] 27) := ⟨_, rfl⟩
    have by_ : Below wr.heap.size wr wy := by rw [hwy]; exact al _ _
    have gy : wy.heap[yb]? = some (.cells (FCells u) 27 (0, 0)) := by rw [hwy, hyb]; exact heap_alloc_new _ _
    rw [← hwy, ← hyb]
    have HRy := hid (HR.out.below by_)
    have HGy := hid gy
    obtain ⟨a0, a1, a2, a3, a4⟩ := fcells gy
    have gj := (HRy.out.bel.block _ (lt_heap HG0.out)).trans HG0.out
    obtain ⟨j0, j1, j2, j3, j4, j5⟩ := jcells gj
    have cH := HHs.out wy u (on HB.out HRy.out.bel) HM.out
    unfold vF at cH
    have hP := pairs_take (x := X) HU.out
    cases hh : hasI X (pF u) with
    | none =>
      rw [hh] at cH hP
      dsimp only [Option.getD_none, Option.isSome_none] at cH
      have HE : Hid (wl least (pairs X ((S.map pF).take (t + 1))) = wl least (pairs X ((S.map pF).take t))) := hid (by rw [hP]; simp)
      clear hwy hyb by_ gy gj HR hP hh
      go_wp2_with (go_at_call 8; refine cH.mono ?_; rintro e wq ⟨rfl, hb⟩; have HRq := hid (HRy.out.below hb); clear hb cH)
      go_roundw
      case rel => exact ⟨t + 1, xo, no, co, by omega, by omega, by go_num, rfl, by rw [HE.out]; exact HRq.out⟩
      case measure => simp [intOf]; omega
    | some z =>
      rw [hh] at cH hP
      dsimp only [Option.getD_some, Option.isSome_some] at cH
      by_cases hz : least ≤ z
      · have HE : Hid (wl least (pairs X ((S.map pF).take (t + 1))) = wl least (pairs X ((S.map pF).take t)) ++ [u.os]) := hid (by rw [hP, wl_app]; simp [wl, hz, pF])
        clear hwy hyb by_ gy gj HR hP hh
        go_upto_region 7 with (go_at_call 8; refine cH.mono ?_; rintro e wq ⟨rfl, hb⟩; have HRq := hid (HRy.out.below hb); have HGq := hid ((hb.block yb (lt_heap HGy.out)).trans HGy.out); clear hb cH)
        clear a0 a1 a2 a3 a4 j0 j1 j2 j3 j4 j5
        obtain ⟨a0, _, _, _, _⟩ := fcells HGq.out
        have hl := HRq.out.len
        obtain ⟨x', n', c', w3, hap1, hO, hBl, _, _⟩ := push_one2 (a := u.os) #[.int .i64 u.os] rfl nrow HRq.out.own HRq.out.bel.size (by omega) (by omega)
        have HE2 : Hid (Nn w1 w3 (.slice x' n' c') (wl least (pairs X ((S.map pF).take (t + 1))))) := hid (by rw [HE.out]; exact ⟨HRq.out.bel.trans hBl, hO⟩)
        have hn' : n' ≤ t + 1 := by
          have := HE2.out.len
          rw [HE.out, List.length_append, hl] at this
          simp at this
          omega
        clear hO hBl hl
        go_wp2_with (first | (at_builtin; refine Lib.wpList_append_run _ rfl _ _ _ _ rfl _ _ rfl rfl _ _ hap1 ?_; clear hap1))
        go_roundw
        case rel => exact ⟨t + 1, x', n', c', by omega, by omega, by go_num, rfl, HE2.out⟩
        case measure => simp [intOf]; omega
      · have HE : Hid (wl least (pairs X ((S.map pF).take (t + 1))) = wl least (pairs X ((S.map pF).take t))) := hid (by rw [hP, wl_app]; simp [wl, hz])
        clear hwy hyb by_ gy gj HR hP hh
        go_wp2_with (go_at_call 8; refine cH.mono ?_; rintro e wq ⟨rfl, hb⟩; have HRq := hid (HRy.out.below hb); clear hb cH)
        go_roundw
        case rel => exact ⟨t + 1, xo, no, co, by omega, by omega, by go_num, rfl, by rw [HE.out]; exact HRq.out⟩
        case measure => simp [intOf]; omega
end Go.Proofs.Ytgcjecmgjncclaa.Pe

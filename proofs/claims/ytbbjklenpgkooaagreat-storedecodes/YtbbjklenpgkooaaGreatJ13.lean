/-
  4 texts of this proof, one behind the other: StBack, StHas, StClone, StDo.
-/
import Derived.RangeFuncNested
import Derived.RangeFuncBound
import Derived.RangeFuncCalls
import Derived.RangeFuncLeaves
import Derived.Shelf.Abstract
import Derived.Shelf.RegionOpen
import Derived.WalkKit
import Derived.OwnWalkIn
import Derived.TacticsInMore
import Derived.LoopNIn
import Derived.LoopIn
import Derived.Test.YtbbjklenpgkooaaGreatJ12
import Derived.Shelf.LaysM
import Derived.Shelf.Strconv.Clone
import Derived.Test.YtbbjklenpgkooaaGreatJ11
/-
  slices.Backward over acts: what it hands to a loop.
  Conditions: the acts lie in memory.
-/
namespace Go.Proofs.YtbbjklenpgkooaaGreat
open Go.RowKit Go.Shelf By Dk Wi St
set_option linter.unusedVariables false
set_option linter.unusedSimpArgs false
set_option maxRecDepth 100000
attribute [local go_sem] Oper.semAt_some

def agv (v : AV) : Value := .agg #[.string v.key, .bool v.set, .slice v.x v.n v.c]

def dn (V : Nat → AV) (len k : Nat) : List (Nat × AV) := (List.range k).map fun j => (len - 1 - j, V (len - 1 - j))

theorem dn_succ (V : Nat → AV) (len k : Nat) : dn V len (k + 1) = dn V len k ++ [(len - 1 - k, V (len - 1 - k))] := by simp [dn, List.range_succ]
theorem dn_len (V : Nat → AV) (len k : Nat) : (dn V len k).length = k := by simp [dn]

theorem back1_in (F : Fence) (n : Nat) (hf : F.fn 94) (hro : F.round = none) (hn : 1 ≤ n) (l Bs n₀ b o M m cap : Nat) (hM : M = m + 1) (V : Nat → AV) (hlen : M ≤ 140737488351232) (hb : b < n₀) (J Jx : List (Nat × AV) → World → Prop)
    (hY : ∀ pre x W, J pre W → pre.length < M → YieldAt F (n - 1) Tryz.prog l #[.int .i64 (x.1 : Int), agv x.2] W fun e W' =>
      (e = .returned (.bool true) ∧ J (pre ++ [x]) W' ∧ Below n₀ W W') ∨ (e = .returned (.bool false) ∧ Jx (pre ++ [x]) W'))
    (W : World) (hBn : Bs < n₀) (hBs : W.cell? ⟨Bs, 0, none⟩ = some (.slice (some ⟨b, o, none⟩) M cap))
    (hc : ∀ i, i < M → W.cell? ⟨b, o + i * 3, none⟩ = some (.string (V i).key) ∧ W.cell? ⟨b, o + i * 3 + 1, none⟩ = some (.bool (V i).set) ∧ W.cell? ⟨b, o + i * 3 + 2, none⟩ = some (.slice (V i).x (V i).n (V i).c)) (h0 : J [] W) :
    CallsIn F n Tryz.prog 94 #[.func (.yield l) #[] #[], .pointer (some ⟨Bs, 0, none⟩)] W fun e W' => (∃ v, e = .returned v) ∧
      ((∃ ys, ys = dn V M M ∧ J ys W') ∨ (∃ pre, (∃ k, k ≤ M ∧ pre = dn V M k) ∧ Jx pre W')) := by
  have e2 : (M : Int) - 1 = (m : Int) := by omega
  have HM := hid hM
  clear hM
  refine callsIn_of_wp Tryz.func94 rfl hf ?_ hro
  simp only [Tryz.ntmps94, List.size_toArray, List.length_cons, List.length_nil, Nat.reduceAdd, Nat.reduceSub, Array.replicate_succ, Array.replicate_zero, List.push_toArray, List.append_toArray, List.nil_append, List.cons_append]
  gi_wp2
  gi_loopw [3] (fun i wr => ∃ k : Nat, k ≤ M ∧ ((k = 0 ∧ i = .int .i64 (-1)) ∨ ∃ j : Nat, k = j + 1 ∧ i = .int .i64 (j : Int)) ∧ J (dn V M (M - k)) wr ∧ Below n₀ W wr) (fun i _ => (intOf i + 1).toNat)
  case atStart => exact ⟨M, Nat.le_refl _, .inr ⟨m, HM.out, by first | rfl | (congr 1; omega) | simp [e2]⟩, by rw [Nat.sub_self]; exact h0, Below.refl _ _⟩
  case round =>
    obtain ⟨k, hk, hki, hJs, hnx⟩ := hrel
    rcases hki with ⟨rfl, rfl⟩ | ⟨j, rfl, rfl⟩
    · gi_wp2
      go_end0
      exact ⟨⟨_, rfl⟩, .inl ⟨_, rfl, hJs⟩⟩
    · have hjM : j < M := by omega
      have hj0 : (0 : Int) ≤ (j : Int) := by omega
      have hjM' : (j : Int) < (M : Int) := by omega
      obtain ⟨f0, f1, f2⟩ := hc j hjM
      have k0 := (hnx.cell (p := ⟨b, o + j * 3, none⟩) hb).trans f0
      have k1 := (hnx.cell (p := ⟨b, o + j * 3 + 1, none⟩) hb).trans f1
      have k2 := (hnx.cell (p := ⟨b, o + j * 3 + 2, none⟩) hb).trans f2
      have ks := (hnx.cell (p := ⟨Bs, 0, none⟩) hBn).trans hBs
      have hstep : dn V M (M - (j + 1)) ++ [(j, V j)] = dn V M (M - j) := by
        have : M - j = (M - (j + 1)) + 1 := by omega
        rw [this, dn_succ, show M - 1 - (M - (j + 1)) = j by omega]
      obtain ⟨fn, tmps, assign, body, hy, hR⟩ := hY (dn V M (M - (j + 1))) (j, V j) wr hJs (by rw [dn_len]; omega)
      unfold agv at hy
      dsimp only at hy
      rw [hstep] at hR
      clear hc f0 f1 f2 hstep hY
      gi_wp2
      refine hR.mono ?_
      rintro e W3 (⟨rfl, hJ3, hk3⟩ | ⟨rfl, hJx3⟩)
      · cases j with
        | zero =>
          gi_wp2
          go_roundw
          case rel => exact ⟨0, by omega, .inl ⟨rfl, by first | rfl | simp⟩, hJ3, hnx.trans hk3⟩
          case measure => simp [intOf]
        | succ i =>
          have e3 : ((i + 1 : Nat) : Int) - 1 = (i : Int) := by omega
          have e4 : ((i : Int) + 1) - 1 = (i : Int) := by omega
          gi_wp2
          go_roundw
          case rel => exact ⟨i + 1, by omega, .inr ⟨i, rfl, by first | rfl | simp | go_num⟩, hJ3, hnx.trans hk3⟩
          case measure => simp [intOf]; omega
      · gi_wp2
        refine bodyPost_ret (results_none rfl _ _ _) rfl ?_
        exact ⟨⟨_, rfl⟩, .inr ⟨_, ⟨M - j, by omega, rfl⟩, hJx3⟩⟩

theorem back0_in (F : Fence) (n : Nat) (hf : F.fn 94) (hro : F.round = none) (l Bs : Nat) (a : Option Addr) (cap : Nat) (J : List (Nat × AV) → World → Prop) (W : World) (hBs : W.cell? ⟨Bs, 0, none⟩ = some (.slice a 0 cap)) (h0 : J [] W) :
    CallsIn F n Tryz.prog 94 #[.func (.yield l) #[] #[], .pointer (some ⟨Bs, 0, none⟩)] W fun e W' => (∃ v, e = .returned v) ∧ J [] W' := by
  refine callsIn_of_wp Tryz.func94 rfl hf ?_ hro
  simp only [Tryz.ntmps94, List.size_toArray, List.length_cons, List.length_nil, Nat.reduceAdd, Nat.reduceSub, Array.replicate_succ, Array.replicate_zero, List.push_toArray, List.append_toArray, List.nil_append, List.cons_append]
  gi_wp2
  gi_loopw [3] (fun i wr => i = .int .i64 (-1) ∧ J [] wr) (fun _ _ => 0)
  case atStart => exact ⟨by first | rfl | simp, h0⟩
  case round =>
    obtain ⟨rfl, hJs⟩ := hrel
    gi_wp2
    go_end0
    exact ⟨⟨_, rfl⟩, hJs⟩

theorem backmake_any (a : Option Addr) (len cap : Nat) (w : World) :
    Calls Tryz.prog 82 #[.slice a len cap] w fun e w' => e = .returned (.func (.func 94) #[] #[.pointer (some ⟨w.heap.size, 0, none⟩)]) ∧ w' = w.alloc (.cells #[.slice a len cap] 24) := by
  go_enter Tryz.func82, Tryz.ntmps82
  go_wp2_with fail
  go_ret
  exact ⟨rfl, rfl⟩

theorem back_stops (F : Fence) (n : Nat) (hf : F.fn 94) (hro : F.round = none) (hn : 1 ≤ n) (Bs n₀ : Nat) (a : Option Addr) (len cap : Nat) (V : Nat → AV) (hlen : len ≤ 140737488351232) (w : World) (hBs : Bs < n₀) (hn₀ : n₀ ≤ w.heap.size)
    (hc : w.cell? ⟨Bs, 0, none⟩ = some (.slice a len cap)) (hA : ActsAt w a len V) (hlow : len ≠ 0 → ∀ ad, a = some ad → ad.block < n₀) :
    SeqStopsK F n Tryz.prog 94 #[.pointer (some ⟨Bs, 0, none⟩)] (fun x : Nat × AV => #[Value.int .i64 (x.1 : Int), agv x.2]) (Below n₀) (fun ys => ys = dn V len len) (fun pre => ∃ k, k ≤ len ∧ pre = dn V len k) len w := fun l J Jx W hW _ _ hY h0 => by
  have hc' := ((hW.mono hn₀).cell (p := ⟨Bs, 0, none⟩) hBs).trans hc
  cases hm : len with
  | zero =>
    subst hm
    exact (back0_in F n hf hro l Bs a cap J W hc' h0).mono fun e W' ⟨he, hj⟩ => ⟨he, .inl ⟨_, rfl, hj⟩⟩
  | succ m =>
    rcases hA.row with h0' | ⟨b, o, rfl, hb, hcs⟩
    · omega
    · have hbn := hlow (by omega) _ rfl
      rw [← hm]
      exact back1_in F n hf hro hn l Bs n₀ b o len m cap hm V hlen hbn J Jx hY W hBs hc' (fun i hi => by
        obtain ⟨q0, q1, q2⟩ := hcs i hi
        exact ⟨((hW.mono hn₀).cell (p := ⟨b, o + i * 3, none⟩) hbn).trans q0, ((hW.mono hn₀).cell (p := ⟨b, o + i * 3 + 1, none⟩) hbn).trans q1, ((hW.mono hn₀).cell (p := ⟨b, o + i * 3 + 2, none⟩) hbn).trans q2⟩) h0

end Go.Proofs.YtbbjklenpgkooaaGreat

/-
  Package store's has and canDo: whether a key would be there behind some acts.
  Conditions: the acts lie in memory.
-/
namespace Go.Proofs.YtbbjklenpgkooaaGreat
open Go.RowKit Go.Shelf By Dk Wi St
set_option linter.unusedVariables false
set_option linter.unusedSimpArgs false
set_option maxRecDepth 100000
attribute [local go_sem] Oper.semAt_some

theorem doL_away (M : KV) (V : Nat → AV) (s : ByteArray) : ∀ n, (∀ i, i < n → (V i).key ≠ s) → doL M (pas V n) s = M s
  | 0, _ => rfl
  | n + 1, h => by
    rw [doL_succ]
    unfold doA
    rw [str_key, if_neg (fun e => h n (by omega) e.symm)]
    exact doL_away M V s n (fun i hi => h i (by omega))

theorem doL_hit (M : KV) (V : Nat → AV) (s : ByteArray) (j : Nat) (hj : (V j).key = s) : ∀ n, j < n → (∀ i, i < n → j < i → (V i).key ≠ s) → (doL M (pas V n) s).isSome = (V j).set
  | 0, h, _ => by omega
  | n + 1, h, ha => by
    rw [doL_succ]
    by_cases e : n = j
    · subst e
      unfold doA
      rw [str_key, if_pos hj.symm]
      show (if (V n).set = true then some (V n).d else none).isSome = (V n).set
      cases (V n).set <;> rfl
    · unfold doA
      rw [str_key, if_neg (fun e2 => ha n (by omega) (by omega) e2.symm)]
      exact doL_hit M V s j hj n (by omega) (fun i hi hij => ha i (by omega) hij)

theorem beq_same (s : ByteArray) : (s.toList == s.toList) = true := by simp
theorem beq_diff {s t : ByteArray} (h : s ≠ t) : (s.toList == t.toList) = false := by
  simp only [beq_eq_false_iff_ne, ne_eq]
  exact fun e => h (toList_inj e)

theorem act_own {β : Type} (v : AV) (t : TypeId) (Bx : Nat) : Own (fun (_ : β) W => W.heap[Bx]? = some (.cells #[.string v.key, .bool v.set, .slice v.x v.n v.c] t (0, 0))) := fun s X Y row hs hg hrow => by
  refine (hg.block Bx (Array.getElem?_eq_some_iff.1 hs).1 (fun e => ?_)).trans hs
  obtain ⟨o, ho, hc⟩ := hrow Bx e.symm
  rw [hs] at ho
  cases ho
  cases hc

set_option maxHeartbeats 4000000 in
theorem shas_any {w : World} {sp jp mb nb : Nat} {D : DataW Value} {M : KV} {U : Nat → Prop} (h : StAt w sp jp mb nb D M U) (s : ByteArray) (hs : s.size ≤ 140737488351232) (a : Option Addr) (len cap : Nat) (V : Nat → AV) (hA : ActsAt w a len V) (hlen : len ≤ 140737488351232) :
    Calls Tryz.prog 63 #[.pointer (some ⟨sp, 0, none⟩), .string s, .slice a len cap] w fun e w' => e = .returned (.bool (doL M (pas V len) s).isSome) ∧ Below w.heap.size w w' := by
  generalize hT : (doL M (pas V len) s).isSome = T
  have HT := hid hT
  clear hT
  have hM := backmake_any a len cap ((w.alloc (.cells #[.string s] 9)).alloc (.cells #[.bool false] 4))
  refine (callsIn_wide (n := 5)).1 ?_
  refine callsIn_of_wp_marks Tryz.func63 rfl trivial ?_ rfl
  refine wpIn_wide.2 ?_
  simp only [Tryz.ntmps63, List.size_toArray, List.length_cons, List.length_nil, Nat.reduceAdd, Nat.reduceSub, Array.replicate_succ, Array.replicate_zero, List.push_toArray, List.append_toArray, List.nil_append, List.cons_append]
  go_wp2_with (go_at_call 82; refine hM.mono ?_; rintro e w' ⟨rfl, rfl⟩; clear hM)
  have bK := ((Boxed.new w 9 (.string s)).alloc (.cells #[.bool false] 4)).alloc (.cells #[.slice a len cap] 24)
  have bR := (Boxed.new (w.alloc (.cells #[.string s] 9)) 4 (.bool false)).alloc (.cells #[.slice a len cap] 24)
  have bS := Boxed.new ((w.alloc (.cells #[.string s] 9)).alloc (.cells #[.bool false] 4)) 24 (.slice a len cap)
  simp only [World.size_alloc] at bR bS
  have hB0 : Below w.heap.size w (((w.alloc (.cells #[.string s] 9)).alloc (.cells #[.bool false] 4)).alloc (.cells #[.slice a len cap] 24)) := (((Below.refl _ w).alloc (Nat.le_refl _) _).alloc (by simp) _).alloc (by simp; omega) _
  have hsz : (((w.alloc (.cells #[.string s] 9)).alloc (.cells #[.bool false] 4)).alloc (.cells #[.slice a len cap] 24)).heap.size = w.heap.size + 3 := by simp
  obtain ⟨W0, hW0⟩ : ∃ W0, ((w.alloc (.cells #[.string s] 9)).alloc (.cells #[.bool false] 4)).alloc (.cells #[.slice a len cap] 24) = W0 := ⟨_, rfl⟩
  rw [hW0] at bK bR bS hB0 hsz ⊢
  clear hW0
  have hA0 := hA.below hB0
  have hlow : len ≠ 0 → ∀ ad, a = some ad → ad.block < W0.heap.size := fun h0 ad e => by
    rcases hA.row with h1 | ⟨b, o, e1, h2, _⟩
    · exact absurd h1 h0
    · rw [e] at e1
      injection e1 with e1
      subst e1
      show b < W0.heap.size
      omega
  have HST := hid h
  clear h hA
  refine (wpIn_wide (n := 5)).1 ?_
  refine wpIn_rangeFunc_ownH rfl (by omega) (gf := 94) (lb := #[.pointer (some ⟨w.heap.size + 1 + 1, 0, none⟩)]) rfl trivial (enters_of Tryz.func94 (by kernel_rfl) rfl)
    (back_stops Fence.wide _ trivial rfl (by omega) (w.heap.size + 1 + 1) W0.heap.size a len cap V hlen W0 (by omega) (Nat.le_refl _) bS.cell hA0 hlow) belowK_t (belowK_b (Nat.le_refl _)) (Below.refl _ _) (fun _ => rfl)
    (fun pre W => (∀ p ∈ pre, p.2.key ≠ s) ∧ Below W0.heap.size W0 W)
    (fun c pre W => (c = .ret ∧ ∃ ini last, pre = ini ++ [last] ∧ (∀ p ∈ ini, p.2.key ≠ s) ∧ last.2.key = s ∧ Boxed W (w.heap.size + 1) 4 (.bool last.2.set)) ∧ Below w.heap.size w W)
    (OwnFrom.and (ownFrom_pure _ _) (ownFrom_below (Nat.le_refl _) (Nat.le_refl _)))
    (fun c => OwnFrom.and (Own.from (fun s' A B row hs hg hr => by
      obtain ⟨hc, ini, last, e1, e2, e3, e4⟩ := hs
      exact ⟨hc, ini, last, e1, e2, e3, boxed_own _ _ (fun _ => .bool last.2.set) s' A B row e4 hg hr⟩) _) (ownFrom_below (Nat.le_refl _) (by omega)))
    ⟨by simp, Below.refl _ _⟩
    (fun x a' W => ∃ Bx, W0.heap.size ≤ Bx ∧ W.heap[Bx]? = some (.cells #[.string x.2.key, .bool x.2.set, .slice x.2.x x.2.n x.2.c] 54 (0, 0)) ∧ a' = { tmps := #[.pointer (some ⟨sp, 0, none⟩), .string s, .slice a len cap, undef, .pointer (some ⟨w.heap.size, 0, none⟩), undef, .pointer (some ⟨w.heap.size + 1, 0, none⟩), undef, .pointer (some ⟨Bx, 0, none⟩), undef, undef, .slice a len cap, .func (.func 94) #[] #[.pointer (some ⟨w.heap.size + 1 + 1, 0, none⟩)], .int .i64 (x.1 : Int), .agg #[.string x.2.key, .bool x.2.set, .slice x.2.x x.2.n x.2.c], undef, undef, undef, undef, undef, undef, undef, undef, undef, undef, undef, undef, undef, undef, undef, undef], defers := [] })
    (fun x a' => fun s' X Y row hs hg hr => by
      obtain ⟨Bx, h1, h2, h3⟩ := hs
      exact ⟨Bx, h1, act_own x.2 _ Bx () X Y row h2 hg (fun r e => (hr r e).2), h3⟩) ?assign ?body ?done ?stop
  case assign =>
    rintro l pre x W K ⟨q1, q4⟩ hK
    unfold agv
    gi_wp2
    exact hK _ _ ((KeepsOthers.alloc _ _).from _) ((Below.refl _ W).alloc q4.size _) ⟨q1, q4.alloc q4.size _⟩ ⟨W.heap.size, q4.size, World.alloc_heap_new W _, rfl⟩
  case body =>
    rintro l pre x a' W hl ⟨r, hr⟩ ⟨q1, q4⟩ ⟨Bx, hBx, bX, rfl⟩ hlt
    have x0 : W.cell? ⟨Bx, 0, none⟩ = some (.string x.2.key) := by simp [World.cell?, bX]
    have x1 : W.cell? ⟨Bx, 1, none⟩ = some (.bool x.2.set) := by simp [World.cell?, bX]
    have hkc : W.cell? ⟨w.heap.size, 0, none⟩ = some (.string s) := (q4.cell (p := ⟨w.heap.size, 0, none⟩) (by show w.heap.size < W0.heap.size; omega)).trans bK.cell
    have bR' : Boxed W (w.heap.size + 1) 4 (.bool false) := (q4.block (w.heap.size + 1) (by omega)).trans bR
    have hrc := bR'.cell
    have hrf := bR'.frozen
    have HB := hid (And.intro bR' (hB0.trans (q4.mono (by omega))))
    have HQ := hid (And.intro q1 q4)
    clear q1 q4 bX bR'
    by_cases hk : x.2.key = s
    · have hbe : (x.2.key.toList == s.toList) = true := by rw [hk]; exact beq_same s
      have HK := hid hk
      clear hk
      gi_wp2
      exact ⟨(KeepsOthers.setCell _ _ _).from _, ⟨rfl, pre, x, rfl, HQ.out.1, HK.out, HB.out.1.set _⟩, HB.out.2.setCell (p := ⟨w.heap.size + 1, 0, none⟩) (Nat.le_succ _) _⟩
    · have hbe : (x.2.key.toList == s.toList) = false := beq_diff hk
      have HK := hid hk
      clear hk
      gi_wp2
      exact ⟨KeepsFrom.refl _ _, Below.refl _ _, (fun p hp => (List.mem_append.1 hp).elim (HQ.out.1 p) (fun e => by simp at e; subst e; exact HK.out)), HQ.out.2⟩
  case done =>
    rintro D' ys W hD rfl ⟨q1, q4⟩ hK
    have hbW : Below w.heap.size w W := hB0.trans (q4.mono (by omega))
    have hst := HST.out.below hbW
    have c1 := hst.c1
    have hkc : W.cell? ⟨w.heap.size, 0, none⟩ = some (.string s) := (q4.cell (p := ⟨w.heap.size, 0, none⟩) (by show w.heap.size < W0.heap.size; omega)).trans bK.cell
    have bR' : Boxed W (w.heap.size + 1) 4 (.bool false) := (q4.block (w.heap.size + 1) (by omega)).trans bR
    have hrc := bR'.cell
    have hrf := bR'.frozen
    obtain ⟨x, n, c, hlook⟩ := hst.map.lookq s (by omega)
    have hres : doL M (pas V len) s = M s := doL_away M V s len (fun i hi => by
      have := q1 (i, V i) (by
        simp only [dn, List.mem_map, List.mem_range]
        exact ⟨len - 1 - i, by omega, by rw [show len - 1 - (len - 1 - i) = i by omega]⟩)
      exact this)
    have hTt : (M s).isSome = T := by rw [← hres]; exact HT.out
    rw [hTt] at hlook
    have HF := hid (And.intro hbW (And.intro bR' hK))
    clear hst q1 q4 hbW bR' hres hTt HT
    go_wp2_with fail
    go_quiet (fail)
    go_wp2_with fail
    obtain ⟨z1, z2, z3⟩ := HF.out
    have z3' : (W.drewN nq).heap[D']? = some (.deferred (some [])) := z3
    have hK' := (KeepsOthers.setCell (W.drewN nq) ⟨w.heap.size + 1, 0, none⟩ (.bool T)).same D' _ z3' rfl
    refine ⟨by simp, .inl ⟨_, _, rfl, run_takeDeferred hK', ?_⟩⟩
    have z2' : Boxed (W.drewN nq) (w.heap.size + 1) 4 (.bool false) := z2
    have hc5 := cell_kept ((z2'.set (.bool T)).cell) (grownBy_putObj' _ D' (.deferred none)) (fun r e => by cases e; exact ⟨_, hK', rfl⟩)
    refine ⟨.bool T, ?_, rfl, (((below_drewN' z1 nq).setCell (p := ⟨w.heap.size + 1, 0, none⟩) (Nat.le_succ _) _)).trans (belowK_b (w := w) (Nat.le_refl _) _ D' _ _ (by omega) hK' rfl rfl)⟩
    rw [results_cell rfl]
    go_simp
  case stop =>
    rintro D' c pre W hD ⟨k, hk, rfl⟩ ⟨⟨rfl, ini, last, e1, e2, e3, e4⟩, q4⟩ hK
    obtain ⟨k', rfl⟩ : ∃ k', k = k' + 1 := by
      cases k with
      | zero => simp [dn] at e1
      | succ k' => exact ⟨k', rfl⟩
    rw [dn_succ] at e1
    obtain ⟨rfl, e5⟩ := List.append_inj' e1 rfl
    obtain rfl : (len - 1 - k', V (len - 1 - k')) = last := by simpa using e5
    have hres : (doL M (pas V len) s).isSome = (V (len - 1 - k')).set := doL_hit M V s (len - 1 - k') e3 len (by omega) (fun i hi hji => by
      have := e2 (i, V i) (by
        simp only [dn, List.mem_map, List.mem_range]
        exact ⟨len - 1 - i, by omega, by rw [show len - 1 - (len - 1 - i) = i by omega]⟩)
      exact this)
    have hTt : (V (len - 1 - k')).set = T := by rw [← hres]; exact HT.out
    dsimp only at e4
    rw [hTt] at e4
    clear hres hTt HT
    gi_wp2
    refine ⟨by simp, .inl ⟨_, _, rfl, run_takeDeferred hK, ?_⟩⟩
    have hc5 := cell_kept e4.cell (grownBy_putObj' _ D' (.deferred none)) (fun r e => by cases e; exact ⟨_, hK, rfl⟩)
    refine ⟨.bool T, ?_, rfl, q4.trans (belowK_b (w := w) (Nat.le_refl _) W D' _ _ (by omega) hK rfl rfl)⟩
    rw [results_cell rfl]
    go_simp

theorem aelem_row : Tryz.prog.underlying 24 = some (.slice (Tryz.prog.elem 24)) := by kernel_rfl
theorem aelem_is : Tryz.prog.elem 24 = 54 := by kernel_rfl
theorem asize_act (w : World) : (sizeOf 54).run Tryz.prog w = .ok 3 w := by kernel_rfl

theorem cut_acts (x : Option Addr) (n c m : Nat) (w : World) (h : m ≤ c) :
    (Instr.slice 24 (.slice x n c) none (some (.int .i64 (m : Int))) none).run Tryz.prog w = .ok (.slice x m c) w := by
  rw [run_slice_h w 24 _ _ _ aelem_row .i64 (m : Int) (by omega) (by omega), aelem_is, asize_act]
  simp only [Result.andThen, sliced, Int.toNat_natCast, Nat.zero_mul, Nat.sub_zero]
  have : (if c = 0 then x else x.map (·.add 0)) = x := by
    split
    · rfl
    · cases x with
      | none => rfl
      | some a => simp [Addr.add]
  rw [this]

set_option maxHeartbeats 1000000 in
theorem cando_any {w : World} {sp jp mb nb : Nat} {D : DataW Value} {M : KV} {U : Nat → Prop} (h : StAt w sp jp mb nb D M U) (a : Option Addr) (len cap : Nat) (V : Nat → AV) (hA : ActsAt w a len V) (hlen : len ≤ 140737488351232) (hcap : len ≤ cap) (t : Bool) (ht : t = true ↔ canL M (pas V len)) :
    Calls Tryz.prog 33 #[.pointer (some ⟨sp, 0, none⟩), .slice a len cap] w fun e w' => e = .returned (.bool t) ∧ Below w.heap.size w w' := by
  have HS := hid h
  have HA := hid hA
  have HT := hid ht
  clear h hA ht
  go_enter Tryz.func33, Tryz.ntmps33
  go_wp2_with fail
  go_loopw [9] (fun i wr => ∃ k : Nat, k ≤ len ∧ i = .int .i64 k ∧ Hid ((∀ j, j < k → (V j).set = false → (doL M (pas V j) (V j).key).isSome = true) ∧ Below w.heap.size w wr)) (fun i _ => len - (intOf i).toNat)
  case atStart => exact ⟨0, by omega, rfl, ⟨(fun j hj => by omega), Below.refl _ _⟩⟩
  case round =>
    obtain ⟨k, hk, rfl, HR⟩ := hrel
    by_cases hkl : k < len
    · have hkl' : (k : Int) < (len : Int) := by omega
      have hbw := HR.out.2
      have hacts := HA.out.below hbw
      have hst := HS.out.below hbw
      rcases hacts.row with h0 | ⟨b, o, rfl, hbl, hc⟩
      · omega
      obtain ⟨k0, k1, k2⟩ := hc k hkl
      have ho := hacts.act k hkl
      have hbo : Below wr.heap.size wr (wr.alloc (.cells #[.string (V k).key, .bool (V k).set, .slice (V k).x (V k).n (V k).c] 54)) := (Below.refl _ _).alloc (Nat.le_refl _) _
      by_cases hset : (V k).set = true
      · have HN : Hid (∀ q, (∀ j, j < k + 1 → (V j).set = false → (doL M (pas V j) (V j).key).isSome = true) ∧ Below w.heap.size w ((wr.alloc (.cells #[.string (V k).key, .bool (V k).set, .slice (V k).x (V k).n (V k).c] 54)).drewN q)) := fun q => ⟨fun j hj hs => by
          by_cases e : j = k
          · subst e; rw [hset] at hs; cases hs
          · exact HR.out.1 j (by omega) hs, below_drewN' (hbw.trans (hbo.mono hbw.size)) q⟩
        clear hc ho hbo hst hacts hbw HR
        rw [hset] at k1 HN
        generalize (V k).key = Kk at *
        generalize (V k).x = Kx at *
        generalize (V k).n = Kn at *
        generalize (V k).c = Kc at *
        go_wp2_with fail
        generalize hWb : wr.alloc (.cells #[.string Kk, .bool true, .slice Kx Kn Kc] 54) = Wb at *
        have s0 : Wb.cell? ⟨wr.heap.size, 0, none⟩ = some (.string Kk) := by rw [← hWb]; simp
        have s1 : Wb.cell? ⟨wr.heap.size, 1, none⟩ = some (.bool true) := by rw [← hWb]; simp
        clear hWb
        go_quiet (fail)
        go_wp2_with fail
        go_roundw
        case rel => exact ⟨k + 1, by omega, by go_num, HN.out _⟩
        case measure => simp [intOf]; omega
      · have hset' : (V k).set = false := by simpa using hset
        have hbd : Below wr.heap.size wr (wr.alloc (.cells #[.string (V k).key, .bool (V k).set, .slice (V k).x (V k).n (V k).c] 54)).drew := hbo.drew
        have hH := shas_any (hst.below hbd) (V k).key ho.ks (some ⟨b, o, none⟩) k cap V ((hacts.take hk).below hbd) (by omega)
        have hcut := fun v => cut_acts (some ⟨b, o, none⟩) len cap k v (by omega)
        have HH : Hid (∀ v, Below (wr.heap.size + 1) (wr.alloc (.cells #[.string (V k).key, .bool (V k).set, .slice (V k).x (V k).n (V k).c] 54)).drew v → (v.cell? ⟨wr.heap.size, 0, none⟩ = some (.string (V k).key) ∧ v.cell? ⟨wr.heap.size, 1, none⟩ = some (.bool (V k).set)) ∧ Below w.heap.size w v) := fun v hv =>
          ⟨⟨(hv.cell (p := ⟨wr.heap.size, 0, none⟩) (Nat.lt_succ_self _)).trans (by simp), (hv.cell (p := ⟨wr.heap.size, 1, none⟩) (Nat.lt_succ_self _)).trans (by simp)⟩, hbw.trans ((hbd.mono hbw.size).trans (hv.mono (by have := hbw.size; omega)))⟩
        cases hr : (doL M (pas V k) (V k).key).isSome with
        | true =>
          rw [hr] at hH
          have HN : Hid (∀ j, j < k + 1 → (V j).set = false → (doL M (pas V j) (V j).key).isSome = true) := fun j hj hs => by
            by_cases e : j = k
            · subst e; exact hr
            · exact HR.out.1 j (by omega) hs
          clear hc ho hbo hst hacts hbw HR hbd hset hr
          rw [hset'] at k1 hH HH
          generalize (V k).key = Kk at *
          generalize (V k).x = Kx at *
          generalize (V k).n = Kn at *
          generalize (V k).c = Kc at *
          go_wp2_with fail
          refine wp_region_held_drew (S := fun v => v.cell? ⟨wr.heap.size, 0, none⟩ = some (.string Kk) ∧ v.cell? ⟨wr.heap.size, 1, none⟩ = some (.bool false)) (by kernel_rfl) ⟨by simp, by simp⟩ (fun hHeld => ?_)
          refine wpAnyH_take (i := 0) (v := ?_) rfl (by kernel_rfl) (by kernel_rfl) (by kernel_rfl) (fun _ _ _ h => h) (Or.inl ⟨by rfl, ?_⟩) (by assumption) ?_
          case refine_2 => (intro w hSw; (try dsimp only at hSw); go_simp; (try with_reducible rfl))
          (try simp only [Act.put, List.getElem_toArray, List.getElem_cons_succ, List.getElem_cons_zero, List.setIfInBounds_toArray, List.set_cons_zero, List.set_cons_succ])
          refine wpAnyH_take (i := 1) (v := ?_) rfl (by kernel_rfl) (by kernel_rfl) (by kernel_rfl) (fun _ _ _ h => h) (Or.inl ⟨by rfl, ?_⟩) (by assumption) ?_
          case refine_2 => (intro w hSw; (try dsimp only at hSw); go_simp; (try with_reducible rfl))
          (try simp only [Act.put, List.getElem_toArray, List.getElem_cons_succ, List.getElem_cons_zero, List.setIfInBounds_toArray, List.set_cons_zero, List.set_cons_succ])
          refine wpAnyH_take (i := 2) (v := ?_) rfl (by kernel_rfl) (by kernel_rfl) (by kernel_rfl) (fun _ _ _ h => h) (Or.inl ⟨by rfl, ?_⟩) (by assumption) ?_
          case refine_2 => (intro w hSw; (try dsimp only at hSw); go_simp; (try with_reducible rfl))
          (try simp only [Act.put, List.getElem_toArray, List.getElem_cons_succ, List.getElem_cons_zero, List.setIfInBounds_toArray, List.set_cons_zero, List.set_cons_succ])
          refine wpAnyH_take (i := 3) (v := ?_) rfl (by kernel_rfl) (by kernel_rfl) (by kernel_rfl) (fun _ _ _ h => h) (Or.inl ⟨by rfl, ?_⟩) (by assumption) ?_
          case refine_2 => (intro w hSw; (try dsimp only at hSw); go_simp; (try with_reducible rfl))
          (try simp only [Act.put, List.getElem_toArray, List.getElem_cons_succ, List.getElem_cons_zero, List.setIfInBounds_toArray, List.set_cons_zero, List.set_cons_succ])
          refine wpAnyH_take (i := 4) (v := ?_) rfl (by kernel_rfl) (by kernel_rfl) (by kernel_rfl) (fun _ _ _ h => h) (Or.inl ⟨by rfl, ?_⟩) (by assumption) ?_
          case refine_2 => (intro w hSw; (try dsimp only at hSw); go_simp; (try with_reducible rfl))
          (try simp only [Act.put, List.getElem_toArray, List.getElem_cons_succ, List.getElem_cons_zero, List.setIfInBounds_toArray, List.set_cons_zero, List.set_cons_succ])
          refine wpAnyH_take (i := 5) (v := ?_) rfl (by kernel_rfl) (by kernel_rfl) (by kernel_rfl) (fun _ _ _ h => h) (Or.inl ⟨by rfl, ?_⟩) (by assumption) ?_
          case refine_2 => (intro w hSw; (try dsimp only at hSw); go_simp; (try with_reducible rfl))
          (try simp only [Act.put, List.getElem_toArray, List.getElem_cons_succ, List.getElem_cons_zero, List.setIfInBounds_toArray, List.set_cons_zero, List.set_cons_succ])
          refine wpAnyH_take (i := 6) (v := ?_) rfl (by kernel_rfl) (by kernel_rfl) (by kernel_rfl) (fun _ _ _ h => h) (Or.inl ⟨by rfl, ?_⟩) (by assumption) ?_
          case refine_2 => (intro w hSw; (try dsimp only at hSw); go_simp; (try with_reducible rfl))
          (try simp only [Act.put, List.getElem_toArray, List.getElem_cons_succ, List.getElem_cons_zero, List.setIfInBounds_toArray, List.set_cons_zero, List.set_cons_succ])
          refine wpAnyH_take (i := 7) (v := ?_) rfl (by kernel_rfl) (by kernel_rfl) (by kernel_rfl) (fun _ _ _ h => h) (Or.inl ⟨by rfl, ?_⟩) (by assumption) ?_
          case refine_2 => (intro w hSw; (try dsimp only at hSw); go_simp; (try with_reducible rfl))
          (try simp only [Act.put, List.getElem_toArray, List.getElem_cons_succ, List.getElem_cons_zero, List.setIfInBounds_toArray, List.set_cons_zero, List.set_cons_succ])
          refine wpAnyH_take (i := 8) (v := ?_) rfl (by kernel_rfl) (by kernel_rfl) (by kernel_rfl) (fun _ _ _ h => h) (Or.inl ⟨by rfl, ?_⟩) (by assumption) ?_
          case refine_2 => (intro w hSw; (try dsimp only at hSw); go_simp; (try with_reducible rfl))
          (try simp only [Act.put, List.getElem_toArray, List.getElem_cons_succ, List.getElem_cons_zero, List.setIfInBounds_toArray, List.set_cons_zero, List.set_cons_succ])
          refine wpAnyH_take (i := 9) (v := ?_) rfl (by kernel_rfl) (by kernel_rfl) (by kernel_rfl) (fun _ _ _ h => h) (Or.inl ⟨by rfl, ?_⟩) (by assumption) ?_
          case refine_2 => (intro w hSw; (try dsimp only at hSw); go_simp; (try with_reducible rfl))
          (try simp only [Act.put, List.getElem_toArray, List.getElem_cons_succ, List.getElem_cons_zero, List.setIfInBounds_toArray, List.set_cons_zero, List.set_cons_succ])
          refine wpAnyH_ready (rs := [10]) (by kernel_rfl) (by simp) ?_
          refine AllReadyH.cons rfl (fun K hK => ?_) AllReadyH.nil
          go_simp
          refine hH.mono ?_
          rintro e v ⟨rfl, hv⟩
          obtain ⟨s1, hbv⟩ := HH.out v (by simpa using hv)
          have HB := hid hbv
          clear hH HH hv hbv
          refine hK.out _ _ s1 (fun hHeld => ?_)
          clear hK K
          refine wpAnyH_take (i := 11) (v := ?_) rfl (by kernel_rfl) (by kernel_rfl) (by kernel_rfl) (fun _ _ _ h => h) (Or.inl ⟨by rfl, ?_⟩) (by assumption) ?_
          case refine_2 => (intro w hSw; (try dsimp only at hSw); go_simp; (try with_reducible rfl))
          (try simp only [Act.put, List.getElem_toArray, List.getElem_cons_succ, List.getElem_cons_zero, List.setIfInBounds_toArray, List.set_cons_zero, List.set_cons_succ])
          refine wpAnyH_take (i := 12) (v := ?_) rfl (by kernel_rfl) (by kernel_rfl) (by kernel_rfl) (fun _ _ _ h => h) (Or.inl ⟨by rfl, ?_⟩) (by assumption) ?_
          case refine_2 => (intro w hSw; (try dsimp only at hSw); go_simp; (try with_reducible rfl))
          (try simp only [Act.put, List.getElem_toArray, List.getElem_cons_succ, List.getElem_cons_zero, List.setIfInBounds_toArray, List.set_cons_zero, List.set_cons_succ])
          refine wpAnyH_done (by kernel_rfl) ?_ _
          go_wp2_with fail
          go_roundw
          case rel => exact ⟨k + 1, by omega, by go_num, ⟨HN.out, HB.out⟩⟩
          case measure => simp [intOf]; omega
        | false =>
          rw [hr] at hH
          have htf : t = false := by
            cases t
            · rfl
            · have := canL_at (HT.out.1 rfl) hkl hset'
              rw [hr] at this
              cases this
          clear hc ho hbo hst hacts hbw HR hbd hset hr HT
          subst htf
          rw [hset'] at k1 hH HH
          generalize (V k).key = Kk at *
          generalize (V k).x = Kx at *
          generalize (V k).n = Kn at *
          generalize (V k).c = Kc at *
          go_wp2_with fail
          refine wp_region_held_drew (S := fun v => v.cell? ⟨wr.heap.size, 0, none⟩ = some (.string Kk) ∧ v.cell? ⟨wr.heap.size, 1, none⟩ = some (.bool false)) (by kernel_rfl) ⟨by simp, by simp⟩ (fun hHeld => ?_)
          refine wpAnyH_take (i := 0) (v := ?_) rfl (by kernel_rfl) (by kernel_rfl) (by kernel_rfl) (fun _ _ _ h => h) (Or.inl ⟨by rfl, ?_⟩) (by assumption) ?_
          case refine_2 => (intro w hSw; (try dsimp only at hSw); go_simp; (try with_reducible rfl))
          (try simp only [Act.put, List.getElem_toArray, List.getElem_cons_succ, List.getElem_cons_zero, List.setIfInBounds_toArray, List.set_cons_zero, List.set_cons_succ])
          refine wpAnyH_take (i := 1) (v := ?_) rfl (by kernel_rfl) (by kernel_rfl) (by kernel_rfl) (fun _ _ _ h => h) (Or.inl ⟨by rfl, ?_⟩) (by assumption) ?_
          case refine_2 => (intro w hSw; (try dsimp only at hSw); go_simp; (try with_reducible rfl))
          (try simp only [Act.put, List.getElem_toArray, List.getElem_cons_succ, List.getElem_cons_zero, List.setIfInBounds_toArray, List.set_cons_zero, List.set_cons_succ])
          refine wpAnyH_take (i := 2) (v := ?_) rfl (by kernel_rfl) (by kernel_rfl) (by kernel_rfl) (fun _ _ _ h => h) (Or.inl ⟨by rfl, ?_⟩) (by assumption) ?_
          case refine_2 => (intro w hSw; (try dsimp only at hSw); go_simp; (try with_reducible rfl))
          (try simp only [Act.put, List.getElem_toArray, List.getElem_cons_succ, List.getElem_cons_zero, List.setIfInBounds_toArray, List.set_cons_zero, List.set_cons_succ])
          refine wpAnyH_take (i := 3) (v := ?_) rfl (by kernel_rfl) (by kernel_rfl) (by kernel_rfl) (fun _ _ _ h => h) (Or.inl ⟨by rfl, ?_⟩) (by assumption) ?_
          case refine_2 => (intro w hSw; (try dsimp only at hSw); go_simp; (try with_reducible rfl))
          (try simp only [Act.put, List.getElem_toArray, List.getElem_cons_succ, List.getElem_cons_zero, List.setIfInBounds_toArray, List.set_cons_zero, List.set_cons_succ])
          refine wpAnyH_take (i := 4) (v := ?_) rfl (by kernel_rfl) (by kernel_rfl) (by kernel_rfl) (fun _ _ _ h => h) (Or.inl ⟨by rfl, ?_⟩) (by assumption) ?_
          case refine_2 => (intro w hSw; (try dsimp only at hSw); go_simp; (try with_reducible rfl))
          (try simp only [Act.put, List.getElem_toArray, List.getElem_cons_succ, List.getElem_cons_zero, List.setIfInBounds_toArray, List.set_cons_zero, List.set_cons_succ])
          refine wpAnyH_take (i := 5) (v := ?_) rfl (by kernel_rfl) (by kernel_rfl) (by kernel_rfl) (fun _ _ _ h => h) (Or.inl ⟨by rfl, ?_⟩) (by assumption) ?_
          case refine_2 => (intro w hSw; (try dsimp only at hSw); go_simp; (try with_reducible rfl))
          (try simp only [Act.put, List.getElem_toArray, List.getElem_cons_succ, List.getElem_cons_zero, List.setIfInBounds_toArray, List.set_cons_zero, List.set_cons_succ])
          refine wpAnyH_take (i := 6) (v := ?_) rfl (by kernel_rfl) (by kernel_rfl) (by kernel_rfl) (fun _ _ _ h => h) (Or.inl ⟨by rfl, ?_⟩) (by assumption) ?_
          case refine_2 => (intro w hSw; (try dsimp only at hSw); go_simp; (try with_reducible rfl))
          (try simp only [Act.put, List.getElem_toArray, List.getElem_cons_succ, List.getElem_cons_zero, List.setIfInBounds_toArray, List.set_cons_zero, List.set_cons_succ])
          refine wpAnyH_take (i := 7) (v := ?_) rfl (by kernel_rfl) (by kernel_rfl) (by kernel_rfl) (fun _ _ _ h => h) (Or.inl ⟨by rfl, ?_⟩) (by assumption) ?_
          case refine_2 => (intro w hSw; (try dsimp only at hSw); go_simp; (try with_reducible rfl))
          (try simp only [Act.put, List.getElem_toArray, List.getElem_cons_succ, List.getElem_cons_zero, List.setIfInBounds_toArray, List.set_cons_zero, List.set_cons_succ])
          refine wpAnyH_take (i := 8) (v := ?_) rfl (by kernel_rfl) (by kernel_rfl) (by kernel_rfl) (fun _ _ _ h => h) (Or.inl ⟨by rfl, ?_⟩) (by assumption) ?_
          case refine_2 => (intro w hSw; (try dsimp only at hSw); go_simp; (try with_reducible rfl))
          (try simp only [Act.put, List.getElem_toArray, List.getElem_cons_succ, List.getElem_cons_zero, List.setIfInBounds_toArray, List.set_cons_zero, List.set_cons_succ])
          refine wpAnyH_take (i := 9) (v := ?_) rfl (by kernel_rfl) (by kernel_rfl) (by kernel_rfl) (fun _ _ _ h => h) (Or.inl ⟨by rfl, ?_⟩) (by assumption) ?_
          case refine_2 => (intro w hSw; (try dsimp only at hSw); go_simp; (try with_reducible rfl))
          (try simp only [Act.put, List.getElem_toArray, List.getElem_cons_succ, List.getElem_cons_zero, List.setIfInBounds_toArray, List.set_cons_zero, List.set_cons_succ])
          refine wpAnyH_ready (rs := [10]) (by kernel_rfl) (by simp) ?_
          refine AllReadyH.cons rfl (fun K hK => ?_) AllReadyH.nil
          go_simp
          refine hH.mono ?_
          rintro e v ⟨rfl, hv⟩
          obtain ⟨s1, hbv⟩ := HH.out v (by simpa using hv)
          have HB := hid hbv
          clear hH HH hv hbv
          refine hK.out _ _ s1 (fun hHeld => ?_)
          clear hK K
          refine wpAnyH_take (i := 11) (v := ?_) rfl (by kernel_rfl) (by kernel_rfl) (by kernel_rfl) (fun _ _ _ h => h) (Or.inl ⟨by rfl, ?_⟩) (by assumption) ?_
          case refine_2 => (intro w hSw; (try dsimp only at hSw); go_simp; (try with_reducible rfl))
          (try simp only [Act.put, List.getElem_toArray, List.getElem_cons_succ, List.getElem_cons_zero, List.setIfInBounds_toArray, List.set_cons_zero, List.set_cons_succ])
          refine wpAnyH_take (i := 12) (v := ?_) rfl (by kernel_rfl) (by kernel_rfl) (by kernel_rfl) (fun _ _ _ h => h) (Or.inl ⟨by rfl, ?_⟩) (by assumption) ?_
          case refine_2 => (intro w hSw; (try dsimp only at hSw); go_simp; (try with_reducible rfl))
          (try simp only [Act.put, List.getElem_toArray, List.getElem_cons_succ, List.getElem_cons_zero, List.setIfInBounds_toArray, List.set_cons_zero, List.set_cons_succ])
          refine wpAnyH_done (by kernel_rfl) ?_ _
          go_wp2_with fail
          go_ret
          exact ⟨rfl, HB.out⟩
    · obtain rfl : k = len := by omega
      have htt : t = true := HT.out.2 (canL_of HR.out.1)
      subst htt
      go_wp2_with fail
      go_ret
      exact ⟨rfl, HR.out.2⟩

end Go.Proofs.YtbbjklenpgkooaaGreat

/-
  strings.Clone, by the library's contract.
  Conditions: the text is at most 2^48 bytes long.
-/
namespace Go.Proofs.YtbbjklenpgkooaaGreat.St
open Go.RowKit Go.Shelf
set_option linter.unusedVariables false
set_option linter.unusedSimpArgs false
set_option maxRecDepth 100000

def ren316 : Go.Shelf.Ren := ⟨fun | 316 => 83 | n => n, fun | 0 => 0 | 3 => 3 | 4 => 4 | 5 => 5 | 9 => 9 | 37 => 22 | 127 => 149 | n => n, fun | n => n⟩
theorem lays316 : Go.Proofs.LaysM.n316 Tryz.prog ren316 where
  mixed := by kernel_rfl
  f316 := Tryz.func83.trans (congrArg some (by kernel_rfl))
  t0 := Tryz.underlying0
  a0 := Tryz.isAgg0
  z0 := Tryz.sizeOf0
  v0 := Tryz.zeroValue0
  t3 := Tryz.underlying3
  a3 := Tryz.isAgg3
  z3 := Tryz.sizeOf3
  v3 := Tryz.zeroValue3
  t4 := Tryz.underlying4
  a4 := Tryz.isAgg4
  z4 := Tryz.sizeOf4
  v4 := Tryz.zeroValue4
  t9 := Tryz.underlying9
  a9 := Tryz.isAgg9
  z9 := Tryz.sizeOf9
  v9 := Tryz.zeroValue9
  t37 := Tryz.underlying22
  a37 := Tryz.isAgg22
  z37 := Tryz.sizeOf22
  v37 := Tryz.zeroValue22
  t127 := Tryz.underlying149
  a127 := Tryz.isAgg149
  z127 := Tryz.sizeOf149
  v127 := Tryz.zeroValue149
  t5 := Tryz.underlying5
  a5 := Tryz.isAgg5
  z5 := Tryz.sizeOf5
  v5 := Tryz.zeroValue5
  i0 := by kernel_rfl
  i3 := by kernel_rfl
  i4 := by kernel_rfl
  i5 := by kernel_rfl
  i9 := by kernel_rfl
  i37 := by kernel_rfl
  i127 := by kernel_rfl

theorem clonelite_any (s : ByteArray) (w : World) (h : s.size ≤ 281474976710656) :
    Calls Tryz.prog 83 #[.string s] w fun e w' => e = .returned (.string s) ∧ Below w.heap.size w w' := Any.stringslite_Clone lays316 s w h

theorem sclone_any (s : ByteArray) (w : World) (h : s.size ≤ 281474976710656) :
    Calls Tryz.prog 64 #[.string s] w fun e w' => e = .returned (.string s) ∧ Below w.heap.size w w' := by
  have c := clonelite_any s w h
  clear h
  go_enter Tryz.func64, Tryz.ntmps64
  go_wp2_with (go_at_call 83; refine c.mono ?_; clear c; rintro e w' ⟨rfl, hb⟩)
  go_ret
  exact ⟨rfl, hb⟩

end Go.Proofs.YtbbjklenpgkooaaGreat.St

/-
  Package store's do: what a batch leaves.
  Conditions: the acts lie in memory, and are a batch.
-/
namespace Go.Proofs.YtbbjklenpgkooaaGreat
open Go.RowKit By Dk Wi St
set_option linter.unusedVariables false
set_option linter.unusedSimpArgs false
set_option maxRecDepth 100000

/- A store into a map, and a key taken away, that come up alone in a region that draws its order. -/
theorem st_mapset {P : Program} {w w' : World} {ops : Array Oper} {o : Oper} {a : Act} {K : Act → World → Prop} {Q : Exit → Act → World → Prop} (hg : Region.wanted o (yielded ops a.tmps) = true) (m x v : Operand) (t : TypeId)
    (ho : o.op = .mapUpdate t m x v) (v1 v2 v3 : Value) (hm : a.eval m = v1) (hx : a.eval x = v2) (hv : a.eval v = v3) (hr : (Instr.mapUpdate t v1 v2 v3).run P w = .ok () w')
    (h : K (a.put o.dst undef) w') : if Region.wanted o (yielded ops a.tmps) = true then Oper.wp P o a w K Q else K (a.put o.dst undef) w := by
  rw [if_pos hg]
  unfold Oper.wp
  simp only [execOp, ho, hm, hx, hv, Sem.run_bind, hr, Result.andThen, Sem.run_pure]
  exact h

theorem st_delete {P : Program} {w w' : World} {ops : Array Oper} {o : Oper} {a : Act} {K : Act → World → Prop} {Q : Exit → Act → World → Prop} (hg : Region.wanted o (yielded ops a.tmps) = true) (m x : Operand) (t k : TypeId)
    (ho : o.op = .call { callee := .builtin .delete, args := #[m, x], argTypes := #[t, k] }) (v1 v2 : Value) (hm : a.eval m = v1) (hx : a.eval x = v2) (hr : (Builtin.delete_ #[t, k] o.type #[v1, v2]).run P w = .ok (.tuple #[]) w')
    (h : K (a.put o.dst (.tuple #[])) w') : if Region.wanted o (yielded ops a.tmps) = true then Oper.wp P o a w K Q else K (a.put o.dst undef) w := by
  rw [if_pos hg]
  unfold Oper.wp execOp
  simp only [ho, resolve, invoke, builtin, Sem.run_bind, Sem.run_pure, Result.andThen_ok, List.map_toArray, List.map_cons, List.map_nil, hm, hx, hr]
  exact h

set_option maxHeartbeats 1000000 in
theorem do_any {w : World} {sp jp mb nb : Nat} {D : DataW Value} {M : KV} {U : Nat → Prop} (h : StAt w sp jp mb nb D M U) (hU : ∀ k, U k → k < w.heap.size) (a : Option Addr) (len cap : Nat) (V : Nat → AV) (ha : ActsAt w a len V) (hab : len ≠ 0 → ∀ ad, a = some ad → ad.block ≠ mb) (hxb : ∀ i, i < len → ∀ ad, (V i).x = some ad → ad.block ≠ mb)
    (h256 : len ≤ 256) (hok : okL (pas V len)) (hnb : nb ≤ 10000000) :
    Calls Tryz.prog 34 #[.pointer (some ⟨sp, 0, none⟩), .slice a len cap] w fun e w' => e = .returned (.tuple #[]) ∧ ∃ D' nb', nb' ≤ nb + len ∧ StAt w' sp jp mb nb' D' (doL M (pas V len)) U ∧ Turns (fun k => k = mb) w w' := by
  have HA := hid ha
  have HO := hid hok
  have HS := hid h
  have HAB := hid (And.intro hab hxb)
  clear ha hok h hab hxb
  go_enter Tryz.func34, Tryz.ntmps34
  go_wp2_with fail
  go_loopw [8] (fun i wr => ∃ (k : Nat), k ≤ len ∧ i = .int .i64 k ∧ Hid (∃ D' nb', nb' ≤ nb + k ∧ StAt wr sp jp mb nb' D' (doL M (pas V k)) U ∧ Turns (fun k => k = mb) w wr)) (fun i _ => len - (intOf i).toNat)
  case atStart => exact ⟨0, by omega, rfl, D, nb, by omega, HS.out, Turns.refl _ _⟩
  case round =>
    obtain ⟨k, hk, rfl, HR⟩ := hrel
    by_cases hkl : k < len
    · have hkl' : (k : Int) < (len : Int) := by omega
      obtain ⟨D1, nb1, hnb1, hst, htn⟩ := HR.out
      have hacts : ActsAt wr a len V := HA.out.turns htn HAB.out.1 (fun i hi _ ad hx => HAB.out.2 i hi ad hx)
      rcases hacts.row with h0 | ⟨b, o, rfl, hbl, hc⟩
      · omega
      obtain ⟨k0, k1, k2⟩ := hc k hkl
      have ho := hacts.act k hkl
      have hoka := (okA_pa ho).1 (okL_lt HO.out hkl)
      have hbo : Below wr.heap.size wr (wr.alloc (.cells #[.string (V k).key, .bool (V k).set, .slice (V k).x (V k).n (V k).c] 54)) := (Below.refl _ _).alloc (Nat.le_refl _) _
      have hst1 := hst.below hbo
      have hlt : mb < wr.heap.size := hst.map.lt
      have hslt : sp < wr.heap.size := hst.obj.lt
      have c1 := hst1.c1
      by_cases hset : (V k).set = true
      · have hn4 : (V k).n ≤ 4096 := by have := hoka.2; rw [if_pos hset] at this; exact this
        have hC1 := sclone_any (V k).key (wr.alloc (.cells #[.string (V k).key, .bool (V k).set, .slice (V k).x (V k).n (V k).c] 54)).drew (by have := hoka.1.2; omega)
        have HC2 : Hid (∀ v, Below (wr.heap.size + 1) (wr.alloc (.cells #[.string (V k).key, .bool (V k).set, .slice (V k).x (V k).n (V k).c] 54)).drew v →
            (v.cell? ⟨sp, 1, none⟩ = some (.map (some mb)) ∧ v.cell? ⟨wr.heap.size, 0, none⟩ = some (.string (V k).key) ∧ v.cell? ⟨wr.heap.size, 2, none⟩ = some (.slice (V k).x (V k).n (V k).c)) ∧
            Calls Tryz.prog 47 #[.slice (V k).x (V k).n (V k).c] v fun e v2 => ∃ y n2 c2, e = .returned (.slice y n2 c2) ∧ (v2.cell? ⟨sp, 1, none⟩ = some (.map (some mb)) ∧ v2.cell? ⟨wr.heap.size, 0, none⟩ = some (.string (V k).key) ∧ v2.cell? ⟨wr.heap.size, 2, none⟩ = some (.slice (V k).x (V k).n (V k).c)) ∧
              ∃ v3, (Instr.mapUpdate 77 (.map (some mb)) (.string (V k).key) (.slice y n2 c2)).run Tryz.prog v2 = .ok () v3 ∧ (v3.cell? ⟨sp, 1, none⟩ = some (.map (some mb)) ∧ v3.cell? ⟨wr.heap.size, 0, none⟩ = some (.string (V k).key) ∧ v3.cell? ⟨wr.heap.size, 2, none⟩ = some (.slice (V k).x (V k).n (V k).c)) ∧ Hid (∃ D' nb', nb' ≤ nb + (k + 1) ∧ StAt v3 sp jp mb nb' D' (doL M (pas V (k + 1))) U ∧ Turns (fun k => k = mb) w v3)) := fun v hv => by
          have hsz : (wr.alloc (.cells #[.string (V k).key, .bool (V k).set, .slice (V k).x (V k).n (V k).c] 54)).heap.size = wr.heap.size + 1 := by simp
          have hbd : Below wr.heap.size wr (wr.alloc (.cells #[.string (V k).key, .bool (V k).set, .slice (V k).x (V k).n (V k).c] 54)).drew := hbo.drew
          have hbv : Below wr.heap.size wr v := hbd.trans (hv.mono (Nat.le_succ _))
          have three : ∀ u, Below (wr.heap.size + 1) (wr.alloc (.cells #[.string (V k).key, .bool (V k).set, .slice (V k).x (V k).n (V k).c] 54)).drew u → u.cell? ⟨wr.heap.size, 0, none⟩ = some (.string (V k).key) ∧ u.cell? ⟨wr.heap.size, 2, none⟩ = some (.slice (V k).x (V k).n (V k).c) := fun u hu =>
            ⟨(hu.cell (p := ⟨wr.heap.size, 0, none⟩) (Nat.lt_succ_self _)).trans (by simp), (hu.cell (p := ⟨wr.heap.size, 2, none⟩) (Nat.lt_succ_self _)).trans (by simp)⟩
          have hstv := hst.below hbv
          refine ⟨⟨hstv.c1, three v hv⟩, (clone_sl (V k).x (V k).n (V k).c (V k).d v (ho.sl.below hbv) (by omega)).mono fun e v2 ⟨y, cy, h1, h2, h3, h4⟩ => ?_⟩
          have hv2 : Below (wr.heap.size + 1) (wr.alloc (.cells #[.string (V k).key, .bool (V k).set, .slice (V k).x (V k).n (V k).c] 54)).drew v2 := hv.trans (h2.mono (by have := hv.size; rw [show (wr.alloc (.cells #[.string (V k).key, .bool (V k).set, .slice (V k).x (V k).n (V k).c] 54)).drew.heap.size = wr.heap.size + 1 from hsz] at this; exact this))
          have hst2 := hstv.below h2
          have hUlt : ∀ q, U q → q < v.heap.size := fun q hq => by
            have := hU q hq
            have := htn.size
            have := hbv.size
            omega
          obtain ⟨v3, p1, p2, p3⟩ := hst2.map.put (by omega) (V k).key hoka.1.2 y (V k).n cy (V k).d h3 hn4 (fun ad had => by
            obtain ⟨g1, g2⟩ := h4 ad had
            exact ⟨g2, fun hu => by have := hUlt _ hu; omega, by have := hbv.size; omega⟩)
          have t3 : Turns (fun k => k = mb) w v3 := ((htn.trans (Turns.of_below hbv)).trans (Turns.of_below h2)).trans p3
          refine ⟨y, _, cy, h1, ⟨hst2.c1, three v2 hv2⟩, v3, p1, ?_, _, _, ?_, ⟨p3.blk hst2.obj hst.ne, p2.congr ?_, hst.ne⟩, t3⟩
          · have hsp := p3.blk hst2.obj hst.ne
            obtain ⟨g0, g2⟩ := three v2 hv2
            have hlt2 : wr.heap.size < v2.heap.size := cell_lt' g0
            have hblk : v3.heap[wr.heap.size]? = v2.heap[wr.heap.size]? := p3.block _ hlt2 (by omega)
            exact ⟨hsp.cell (k := 1) (by omega), (World.cell?_of_block (a := ⟨wr.heap.size, 0, none⟩) hblk).trans g0, (World.cell?_of_block (a := ⟨wr.heap.size, 2, none⟩) hblk).trans g2⟩
          · omega
          · rw [doL_succ, doA_set _ _ hset]
        clear hacts hc ho hoka hbo hst hn4 htn hlt hslt HR
        rw [hset] at k1 c1 hC1 HC2 hst1
        clear hst1
        generalize (V k).key = Kk at *
        generalize (V k).x = Kx at *
        generalize (V k).n = Kn at *
        generalize (V k).c = Kc at *
        go_wp2_with fail
        refine wp_region_held_drew (S := fun v => v.cell? ⟨sp, 1, none⟩ = some (.map (some mb)) ∧ v.cell? ⟨wr.heap.size, 0, none⟩ = some (.string Kk) ∧ v.cell? ⟨wr.heap.size, 2, none⟩ = some (.slice Kx Kn Kc)) (by kernel_rfl) ⟨c1, by simp, by simp⟩ (fun hHeld => ?_)
        refine wpAnyH_take (i := 0) (v := ?_) rfl (by kernel_rfl) (by kernel_rfl) (by kernel_rfl) (fun _ _ _ h => h) (Or.inl ⟨by rfl, ?_⟩) (by assumption) ?_
        case refine_2 => (intro w hSw; (try dsimp only at hSw); go_simp; (try with_reducible rfl))
        (try simp only [Act.put, List.getElem_toArray, List.getElem_cons_succ, List.getElem_cons_zero, List.setIfInBounds_toArray, List.set_cons_zero, List.set_cons_succ])
        refine wpAnyH_take (i := 1) (v := ?_) rfl (by kernel_rfl) (by kernel_rfl) (by kernel_rfl) (fun _ _ _ h => h) (Or.inl ⟨by rfl, ?_⟩) (by assumption) ?_
        case refine_2 => (intro w hSw; (try dsimp only at hSw); go_simp; (try with_reducible rfl))
        (try simp only [Act.put, List.getElem_toArray, List.getElem_cons_succ, List.getElem_cons_zero, List.setIfInBounds_toArray, List.set_cons_zero, List.set_cons_succ])
        refine wpAnyH_take (i := 2) (v := ?_) rfl (by kernel_rfl) (by kernel_rfl) (by kernel_rfl) (fun _ _ _ h => h) (Or.inl ⟨by rfl, ?_⟩) (by assumption) ?_
        case refine_2 => (intro w hSw; (try dsimp only at hSw); go_simp; (try with_reducible rfl))
        (try simp only [Act.put, List.getElem_toArray, List.getElem_cons_succ, List.getElem_cons_zero, List.setIfInBounds_toArray, List.set_cons_zero, List.set_cons_succ])
        refine wpAnyH_take (i := 3) (v := ?_) rfl (by kernel_rfl) (by kernel_rfl) (by kernel_rfl) (fun _ _ _ h => h) (Or.inl ⟨by rfl, ?_⟩) (by assumption) ?_
        case refine_2 => (intro w hSw; (try dsimp only at hSw); go_simp; (try with_reducible rfl))
        (try simp only [Act.put, List.getElem_toArray, List.getElem_cons_succ, List.getElem_cons_zero, List.setIfInBounds_toArray, List.set_cons_zero, List.set_cons_succ])
        refine wpAnyH_take (i := 4) (v := ?_) rfl (by kernel_rfl) (by kernel_rfl) (by kernel_rfl) (fun _ _ _ h => h) (Or.inl ⟨by rfl, ?_⟩) (by assumption) ?_
        case refine_2 => (intro w hSw; (try dsimp only at hSw); go_simp; (try with_reducible rfl))
        (try simp only [Act.put, List.getElem_toArray, List.getElem_cons_succ, List.getElem_cons_zero, List.setIfInBounds_toArray, List.set_cons_zero, List.set_cons_succ])
        refine wpAnyH_take (i := 5) (v := ?_) rfl (by kernel_rfl) (by kernel_rfl) (by kernel_rfl) (fun _ _ _ h => h) (Or.inl ⟨by rfl, ?_⟩) (by assumption) ?_
        case refine_2 => (intro w hSw; (try dsimp only at hSw); go_simp; (try with_reducible rfl))
        (try simp only [Act.put, List.getElem_toArray, List.getElem_cons_succ, List.getElem_cons_zero, List.setIfInBounds_toArray, List.set_cons_zero, List.set_cons_succ])
        refine wpAnyH_take (i := 7) (v := ?_) rfl (by kernel_rfl) (by kernel_rfl) (by kernel_rfl) (fun _ _ _ h => h) (Or.inl ⟨by rfl, ?_⟩) (by assumption) ?_
        case refine_2 => (intro w hSw; (try dsimp only at hSw); go_simp; (try with_reducible rfl))
        (try simp only [Act.put, List.getElem_toArray, List.getElem_cons_succ, List.getElem_cons_zero, List.setIfInBounds_toArray, List.set_cons_zero, List.set_cons_succ])
        refine wpAnyH_take (i := 8) (v := ?_) rfl (by kernel_rfl) (by kernel_rfl) (by kernel_rfl) (fun _ _ _ h => h) (Or.inl ⟨by rfl, ?_⟩) (by assumption) ?_
        case refine_2 => (intro w hSw; (try dsimp only at hSw); go_simp; (try with_reducible rfl))
        (try simp only [Act.put, List.getElem_toArray, List.getElem_cons_succ, List.getElem_cons_zero, List.setIfInBounds_toArray, List.set_cons_zero, List.set_cons_succ])
        refine wpAnyH_ready (rs := [6]) (by kernel_rfl) (by simp) ?_
        refine AllReadyH.cons rfl (fun K hK => ?_) AllReadyH.nil
        go_simp
        refine hC1.mono ?_
        rintro e v ⟨rfl, hv⟩
        obtain ⟨s1, hC2⟩ := HC2.out v (by simpa using hv)
        clear HC2 hC1 hv
        refine hK.out _ _ s1 (fun hHeld => ?_)
        clear hK K
        refine wpAnyH_ready (rs := [9]) (by kernel_rfl) (by simp) ?_
        refine AllReadyH.cons rfl (fun K hK => ?_) AllReadyH.nil
        go_simp
        refine hC2.mono ?_
        rintro e v2 ⟨y, n2, c2, rfl, s2, v3, hmu, s3, HN⟩
        clear hC2
        refine hK.out _ _ s2 (fun hHeld => ?_)
        clear hK K
        refine wpAnyH_ready (rs := [10]) (by kernel_rfl) (by simp) ?_
        refine AllReadyH.cons rfl (fun K hK => ?_) AllReadyH.nil
        refine st_mapset rfl _ _ _ 77 rfl _ _ _ rfl rfl rfl hmu ?_
        refine hK.out _ _ s3 (fun hHeld => ?_)
        clear hK K
        refine wpAnyH_done (by kernel_rfl) ?_ _
        go_wp2_with fail
        go_roundw
        case rel => exact ⟨k + 1, by omega, by go_num, HN.out⟩
        case measure => simp [intOf]; omega
      · have hset' : (V k).set = false := by simpa using hset
        have hbd : Below wr.heap.size wr (wr.alloc (.cells #[.string (V k).key, .bool (V k).set, .slice (V k).x (V k).n (V k).c] 54)).drew := hbo.drew
        have hstd := hst.below hbd
        obtain ⟨v3, hde, p2, p3⟩ := hstd.map.del (V k).key (by have := hoka.1.2; omega) 0
        have hobj := p3.blk hstd.obj hst.ne
        have s3 : v3.cell? ⟨sp, 1, none⟩ = some (.map (some mb)) ∧ v3.cell? ⟨wr.heap.size, 0, none⟩ = some (.string (V k).key) := by
          have hsz : (wr.alloc (.cells #[.string (V k).key, .bool (V k).set, .slice (V k).x (V k).n (V k).c] 54)).drew.heap.size = wr.heap.size + 1 := by simp
          exact ⟨hobj.cell (k := 1) (by omega), (World.cell?_of_block (a := ⟨wr.heap.size, 0, none⟩) (p3.block wr.heap.size (by rw [hsz]; omega) (by omega))).trans (by simp)⟩
        have HN : Hid (∃ D' nb', nb' ≤ nb + (k + 1) ∧ StAt v3 sp jp mb nb' D' (doL M (pas V (k + 1))) U ∧ Turns (fun k => k = mb) w v3) :=
          ⟨_, nb1, by omega, ⟨hobj, p2.congr (by rw [doL_succ, doA_del _ _ hset']), hst.ne⟩, (htn.trans (Turns.of_below hbd)).trans p3⟩
        clear hacts hc ho hoka hbo hst htn hlt hslt HR hbd hstd p2 p3 hobj hset
        rw [hset'] at k1 c1 hst1 hde
        clear hst1
        generalize (V k).key = Kk at *
        generalize (V k).x = Kx at *
        generalize (V k).n = Kn at *
        generalize (V k).c = Kc at *
        go_wp2_with fail
        refine wp_region_held_drew (S := fun v => v.cell? ⟨sp, 1, none⟩ = some (.map (some mb)) ∧ v.cell? ⟨wr.heap.size, 0, none⟩ = some (.string Kk)) (by kernel_rfl) ⟨c1, by simp⟩ (fun hHeld => ?_)
        refine wpAnyH_take (i := 0) (v := ?_) rfl (by kernel_rfl) (by kernel_rfl) (by kernel_rfl) (fun _ _ _ h => h) (Or.inl ⟨by rfl, ?_⟩) (by assumption) ?_
        case refine_2 => (intro w hSw; (try dsimp only at hSw); go_simp; (try with_reducible rfl))
        (try simp only [Act.put, List.getElem_toArray, List.getElem_cons_succ, List.getElem_cons_zero, List.setIfInBounds_toArray, List.set_cons_zero, List.set_cons_succ])
        refine wpAnyH_take (i := 1) (v := ?_) rfl (by kernel_rfl) (by kernel_rfl) (by kernel_rfl) (fun _ _ _ h => h) (Or.inl ⟨by rfl, ?_⟩) (by assumption) ?_
        case refine_2 => (intro w hSw; (try dsimp only at hSw); go_simp; (try with_reducible rfl))
        (try simp only [Act.put, List.getElem_toArray, List.getElem_cons_succ, List.getElem_cons_zero, List.setIfInBounds_toArray, List.set_cons_zero, List.set_cons_succ])
        refine wpAnyH_take (i := 2) (v := ?_) rfl (by kernel_rfl) (by kernel_rfl) (by kernel_rfl) (fun _ _ _ h => h) (Or.inl ⟨by rfl, ?_⟩) (by assumption) ?_
        case refine_2 => (intro w hSw; (try dsimp only at hSw); go_simp; (try with_reducible rfl))
        (try simp only [Act.put, List.getElem_toArray, List.getElem_cons_succ, List.getElem_cons_zero, List.setIfInBounds_toArray, List.set_cons_zero, List.set_cons_succ])
        refine wpAnyH_take (i := 3) (v := ?_) rfl (by kernel_rfl) (by kernel_rfl) (by kernel_rfl) (fun _ _ _ h => h) (Or.inl ⟨by rfl, ?_⟩) (by assumption) ?_
        case refine_2 => (intro w hSw; (try dsimp only at hSw); go_simp; (try with_reducible rfl))
        (try simp only [Act.put, List.getElem_toArray, List.getElem_cons_succ, List.getElem_cons_zero, List.setIfInBounds_toArray, List.set_cons_zero, List.set_cons_succ])
        refine wpAnyH_take (i := 4) (v := ?_) rfl (by kernel_rfl) (by kernel_rfl) (by kernel_rfl) (fun _ _ _ h => h) (Or.inl ⟨by rfl, ?_⟩) (by assumption) ?_
        case refine_2 => (intro w hSw; (try dsimp only at hSw); go_simp; (try with_reducible rfl))
        (try simp only [Act.put, List.getElem_toArray, List.getElem_cons_succ, List.getElem_cons_zero, List.setIfInBounds_toArray, List.set_cons_zero, List.set_cons_succ])
        refine wpAnyH_take (i := 5) (v := ?_) rfl (by kernel_rfl) (by kernel_rfl) (by kernel_rfl) (fun _ _ _ h => h) (Or.inl ⟨by rfl, ?_⟩) (by assumption) ?_
        case refine_2 => (intro w hSw; (try dsimp only at hSw); go_simp; (try with_reducible rfl))
        (try simp only [Act.put, List.getElem_toArray, List.getElem_cons_succ, List.getElem_cons_zero, List.setIfInBounds_toArray, List.set_cons_zero, List.set_cons_succ])
        refine wpAnyH_ready (rs := [6]) (by kernel_rfl) (by simp) ?_
        refine AllReadyH.cons rfl (fun K hK => ?_) AllReadyH.nil
        refine st_delete rfl _ _ 77 9 rfl _ _ rfl rfl hde ?_
        refine hK.out _ _ s3 (fun hHeld => ?_)
        clear hK K
        refine wpAnyH_done (by kernel_rfl) ?_ _
        go_wp2_with fail
        go_roundw
        case rel => exact ⟨k + 1, by omega, by go_num, HN.out⟩
        case measure => simp [intOf]; omega
    · obtain rfl : k = len := by omega
      go_wp2_with fail
      go_end0
      exact ⟨rfl, HR.out⟩

end Go.Proofs.YtbbjklenpgkooaaGreat

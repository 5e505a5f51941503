/-
  5 texts of this proof, one behind the other: StBack, StAll, StKeys, StIns, StHas.
-/
import Derived.RangeFuncNested
import Derived.RangeFuncBound
import Derived.RangeFuncCalls
import Derived.RangeFuncLeaves
import Derived.Shelf.Abstract
import Derived.Shelf.RegionOpen
import Derived.WalkKit
import Derived.OwnWalkIn
import Derived.TacticsInMore
import Derived.LoopNIn
import Derived.LoopIn
import Derived.Test.YtbbjklenpgkooaaGreatJ13
import Derived.Stop.RegionWithIn
import Derived.Test.YtbbjklenpgkooaaGreatJ10
import Derived.Sort.KeysCollected
/-
  slices.Backward over acts: what it hands to a loop.
  Conditions: the acts lie in memory.
-/
namespace Go.Proofs.YtbbjklenpgkooaaGreat
open Go.RowKit Go.Shelf By Dk Wi St
variable [Inhabited PR] [∀ pre s : ByteArray, Decidable (Beg pre s)]
set_option linter.unusedSectionVars false
set_option linter.unusedVariables false
set_option linter.unusedSimpArgs false
set_option maxRecDepth 100000
attribute [local go_sem] Oper.semAt_some

def agv (v : AV) : Value := .agg #[.string v.key, .bool v.set, .slice v.x v.n v.c]

def dn (V : Nat → AV) (len k : Nat) : List (Nat × AV) := (List.range k).map fun j => (len - 1 - j, V (len - 1 - j))

theorem dn_succ (V : Nat → AV) (len k : Nat) : dn V len (k + 1) = dn V len k ++ [(len - 1 - k, V (len - 1 - k))] := by simp [dn, List.range_succ]
theorem dn_len (V : Nat → AV) (len k : Nat) : (dn V len k).length = k := by simp [dn]

theorem back1_in (F : Fence) (n : Nat) (hf : F.fn 94) (hro : F.round = none) (hn : 1 ≤ n) (l Bs n₀ b o M m cap : Nat) (hM : M = m + 1) (V : Nat → AV) (hlen : M ≤ 140737488351232) (hb : b < n₀) (J Jx : List (Nat × AV) → World → Prop)
    (hY : ∀ pre x W, J pre W → pre.length < M → YieldAt F (n - 1) Tryz.prog l #[.int .i64 (x.1 : Int), agv x.2] W fun e W' =>
      (e = .returned (.bool true) ∧ J (pre ++ [x]) W' ∧ Below n₀ W W') ∨ (e = .returned (.bool false) ∧ Jx (pre ++ [x]) W'))
    (W : World) (hBn : Bs < n₀) (hBs : W.cell? ⟨Bs, 0, none⟩ = some (.slice (some ⟨b, o, none⟩) M cap))
    (hc : ∀ i, i < M → W.cell? ⟨b, o + i * 3, none⟩ = some (.string (V i).key) ∧ W.cell? ⟨b, o + i * 3 + 1, none⟩ = some (.bool (V i).set) ∧ W.cell? ⟨b, o + i * 3 + 2, none⟩ = some (.slice (V i).x (V i).n (V i).c)) (h0 : J [] W) :
    CallsIn F n Tryz.prog 94 #[.func (.yield l) #[] #[], .pointer (some ⟨Bs, 0, none⟩)] W fun e W' => (∃ v, e = .returned v) ∧
      ((∃ ys, ys = dn V M M ∧ J ys W') ∨ (∃ pre, (∃ k, k ≤ M ∧ pre = dn V M k) ∧ Jx pre W')) := by
  have e2 : (M : Int) - 1 = (m : Int) := by omega
  have HM := hid hM
  clear hM
  refine callsIn_of_wp Tryz.func94 rfl hf ?_ hro
  simp only [Tryz.ntmps94, List.size_toArray, List.length_cons, List.length_nil, Nat.reduceAdd, Nat.reduceSub, Array.replicate_succ, Array.replicate_zero, List.push_toArray, List.append_toArray, List.nil_append, List.cons_append]
  gi_wp2
  gi_loopw [3] (fun i wr => ∃ k : Nat, k ≤ M ∧ ((k = 0 ∧ i = .int .i64 (-1)) ∨ ∃ j : Nat, k = j + 1 ∧ i = .int .i64 (j : Int)) ∧ J (dn V M (M - k)) wr ∧ Below n₀ W wr) (fun i _ => (intOf i + 1).toNat)
  case atStart => exact ⟨M, Nat.le_refl _, .inr ⟨m, HM.out, by first | rfl | (congr 1; omega) | simp [e2]⟩, by rw [Nat.sub_self]; exact h0, Below.refl _ _⟩
  case round =>
    obtain ⟨k, hk, hki, hJs, hnx⟩ := hrel
    rcases hki with ⟨rfl, rfl⟩ | ⟨j, rfl, rfl⟩
    · gi_wp2
      go_end0
      exact ⟨⟨_, rfl⟩, .inl ⟨_, rfl, hJs⟩⟩
    · have hjM : j < M := by omega
      have hj0 : (0 : Int) ≤ (j : Int) := by omega
      have hjM' : (j : Int) < (M : Int) := by omega
      obtain ⟨f0, f1, f2⟩ := hc j hjM
      have k0 := (hnx.cell (p := ⟨b, o + j * 3, none⟩) hb).trans f0
      have k1 := (hnx.cell (p := ⟨b, o + j * 3 + 1, none⟩) hb).trans f1
      have k2 := (hnx.cell (p := ⟨b, o + j * 3 + 2, none⟩) hb).trans f2
      have ks := (hnx.cell (p := ⟨Bs, 0, none⟩) hBn).trans hBs
      have hstep : dn V M (M - (j + 1)) ++ [(j, V j)] = dn V M (M - j) := by
        have : M - j = (M - (j + 1)) + 1 := by omega
        rw [this, dn_succ, show M - 1 - (M - (j + 1)) = j by omega]
      obtain ⟨fn, tmps, assign, body, hy, hR⟩ := hY (dn V M (M - (j + 1))) (j, V j) wr hJs (by rw [dn_len]; omega)
      unfold agv at hy
      dsimp only at hy
      rw [hstep] at hR
      clear hc f0 f1 f2 hstep hY
      gi_wp2
      refine hR.mono ?_
      rintro e W3 (⟨rfl, hJ3, hk3⟩ | ⟨rfl, hJx3⟩)
      · cases j with
        | zero =>
          gi_wp2
          go_roundw
          case rel => exact ⟨0, by omega, .inl ⟨rfl, by first | rfl | simp⟩, hJ3, hnx.trans hk3⟩
          case measure => simp [intOf]
        | succ i =>
          have e3 : ((i + 1 : Nat) : Int) - 1 = (i : Int) := by omega
          have e4 : ((i : Int) + 1) - 1 = (i : Int) := by omega
          gi_wp2
          go_roundw
          case rel => exact ⟨i + 1, by omega, .inr ⟨i, rfl, by first | rfl | simp | go_num⟩, hJ3, hnx.trans hk3⟩
          case measure => simp [intOf]; omega
      · gi_wp2
        refine bodyPost_ret (results_none rfl _ _ _) rfl ?_
        exact ⟨⟨_, rfl⟩, .inr ⟨_, ⟨M - j, by omega, rfl⟩, hJx3⟩⟩

theorem back0_in (F : Fence) (n : Nat) (hf : F.fn 94) (hro : F.round = none) (l Bs : Nat) (a : Option Addr) (cap : Nat) (J : List (Nat × AV) → World → Prop) (W : World) (hBs : W.cell? ⟨Bs, 0, none⟩ = some (.slice a 0 cap)) (h0 : J [] W) :
    CallsIn F n Tryz.prog 94 #[.func (.yield l) #[] #[], .pointer (some ⟨Bs, 0, none⟩)] W fun e W' => (∃ v, e = .returned v) ∧ J [] W' := by
  refine callsIn_of_wp Tryz.func94 rfl hf ?_ hro
  simp only [Tryz.ntmps94, List.size_toArray, List.length_cons, List.length_nil, Nat.reduceAdd, Nat.reduceSub, Array.replicate_succ, Array.replicate_zero, List.push_toArray, List.append_toArray, List.nil_append, List.cons_append]
  gi_wp2
  gi_loopw [3] (fun i wr => i = .int .i64 (-1) ∧ J [] wr) (fun _ _ => 0)
  case atStart => exact ⟨by first | rfl | simp, h0⟩
  case round =>
    obtain ⟨rfl, hJs⟩ := hrel
    gi_wp2
    go_end0
    exact ⟨⟨_, rfl⟩, hJs⟩

theorem backmake_any (a : Option Addr) (len cap : Nat) (w : World) :
    Calls Tryz.prog 82 #[.slice a len cap] w fun e w' => e = .returned (.func (.func 94) #[] #[.pointer (some ⟨w.heap.size, 0, none⟩)]) ∧ w' = w.alloc (.cells #[.slice a len cap] 24) := by
  go_enter Tryz.func82, Tryz.ntmps82
  go_wp2_with fail
  go_ret
  exact ⟨rfl, rfl⟩

theorem back_stops (F : Fence) (n : Nat) (hf : F.fn 94) (hro : F.round = none) (hn : 1 ≤ n) (Bs n₀ : Nat) (a : Option Addr) (len cap : Nat) (V : Nat → AV) (hlen : len ≤ 140737488351232) (w : World) (hBs : Bs < n₀) (hn₀ : n₀ ≤ w.heap.size)
    (hc : w.cell? ⟨Bs, 0, none⟩ = some (.slice a len cap)) (hA : ActsAt w a len V) (hlow : len ≠ 0 → ∀ ad, a = some ad → ad.block < n₀) :
    SeqStopsK F n Tryz.prog 94 #[.pointer (some ⟨Bs, 0, none⟩)] (fun x : Nat × AV => #[Value.int .i64 (x.1 : Int), agv x.2]) (Below n₀) (fun ys => ys = dn V len len) (fun pre => ∃ k, k ≤ len ∧ pre = dn V len k) len w := fun l J Jx W hW _ _ hY h0 => by
  have hc' := ((hW.mono hn₀).cell (p := ⟨Bs, 0, none⟩) hBs).trans hc
  cases hm : len with
  | zero =>
    subst hm
    exact (back0_in F n hf hro l Bs a cap J W hc' h0).mono fun e W' ⟨he, hj⟩ => ⟨he, .inl ⟨_, rfl, hj⟩⟩
  | succ m =>
    rcases hA.row with h0' | ⟨b, o, rfl, hb, hcs⟩
    · omega
    · have hbn := hlow (by omega) _ rfl
      rw [← hm]
      exact back1_in F n hf hro hn l Bs n₀ b o len m cap hm V hlen hbn J Jx hY W hBs hc' (fun i hi => by
        obtain ⟨q0, q1, q2⟩ := hcs i hi
        exact ⟨((hW.mono hn₀).cell (p := ⟨b, o + i * 3, none⟩) hbn).trans q0, ((hW.mono hn₀).cell (p := ⟨b, o + i * 3 + 1, none⟩) hbn).trans q1, ((hW.mono hn₀).cell (p := ⟨b, o + i * 3 + 2, none⟩) hbn).trans q2⟩) h0

end Go.Proofs.YtbbjklenpgkooaaGreat

/-
  What All of a store hands over.
  Conditions: the store is one that Open gave ('StAt').
-/
namespace Go.Proofs.YtbbjklenpgkooaaGreat
open Go.RowKit Go.Shelf By Dk Wi St
variable [Inhabited PR] [∀ pre s : ByteArray, Decidable (Beg pre s)]
set_option linter.unusedSectionVars false
set_option linter.unusedVariables false
set_option linter.unusedSimpArgs false
set_option maxRecDepth 100000
attribute [local go_sem] Oper.semAt_some

def encQ (p : PR) : Array Value := #[.string p.key, .slice p.x p.n p.c]

def OkQ (M : KV) (pre : ByteArray) (ys : List PR) (p : PR) (W : World) : Prop :=
  (∀ q ∈ ys, lessN (nat q.key) (nat p.key) = true) ∧ Beg pre p.key ∧ p.key.size ≤ 64 ∧ p.n ≤ 4096 ∧ ∃ l, M p.key = some l ∧ Sl W p.x p.n p.c l

def SQ (M : KV) (pre : ByteArray) (ys : List PR) : Prop := (ys.map PR.key).Nodup ∧ ∀ s, s ∈ ys.map PR.key ↔ ((M s).isSome = true ∧ Beg pre s)

def kys (d : Array PR) (k : Nat) : List ByteArray := (List.range k).map fun i => d[i]!.key

theorem kys_succ (d : Array PR) (k : Nat) : kys d (k + 1) = kys d k ++ [d[k]!.key] := by simp [kys, List.range_succ]

theorem kys_all (d : Array PR) : kys d d.size = d.toList.map PR.key := by
  apply List.ext_getElem?
  intro i
  by_cases h : i < d.size
  · simp [kys, h]
  · rw [List.getElem?_eq_none (by simp [kys]; omega), List.getElem?_eq_none (by simp; omega)]

theorem kys_mem {d : Array PR} {k : Nat} {s : ByteArray} (h : s ∈ kys d k) : ∃ i, i < k ∧ s = d[i]!.key := by
  simp only [kys, List.mem_map, List.mem_range] at h
  obtain ⟨i, h1, h2⟩ := h
  exact ⟨i, h1, h2.symm⟩

set_option maxHeartbeats 2000000 in
theorem all1_gives {w : World} {sp jp mb nb : Nat} {D : DataW Value} {M : KV} {U : Nat → Prop} (h : StAt w sp jp mb nb D M U) (pre : ByteArray) (hnb : nb ≤ 1000000000) (Bs Bp : Nat) (hs : w.cell? ⟨Bs, 0, none⟩ = some (.pointer (some ⟨sp, 0, none⟩))) (hp : w.cell? ⟨Bp, 0, none⟩ = some (.string pre))
    (Gb : Nat → Prop) (hGb : ∀ k, Gb k → k < w.heap.size) (hGU : ∀ k, Gb k → U k) (hU : ∀ k, w.heap.size ≤ k → U k) (n : Nat) (hn : 1 ≤ n) :
    GivesAll n 48 #[.pointer (some ⟨Bs, 0, none⟩), .pointer (some ⟨Bp, 0, none⟩)] encQ (OkQ M pre) (SQ M pre) Gb w := fun l J W hW hl hlW hJ hY hJ0 => by
  have hst := h.below hW
  have hs' := (hW.cell (p := ⟨Bs, 0, none⟩) (cell_lt' hs)).trans hs
  have hp' := (hW.cell (p := ⟨Bp, 0, none⟩) (cell_lt' hp)).trans hp
  have hO := sopen_yes hst
  have hP : Calls Tryz.prog 49 #[.pointer (some ⟨sp, 0, none⟩), .string pre] W fun e w' => ∃ x n c, e = .returned (.slice x n c) ∧ n ≤ 1000000000 ∧ J [] w' ∧ Hid (PairsTold W w' M U pre x n) :=
    (pairs_any hst pre hnb).mono fun e w' ⟨x, n, c, h1, h2, h3⟩ => ⟨x, n, c, h1, h2, hJ _ _ _ hJ0 h3.out.1, h3⟩
  have HZ := hid (And.intro hW.size (And.intro hl hlW))
  have HG := hid (And.intro hGb (And.intro hGU (hU l hl)))
  have HJ := hid hJ
  clear h hst hs hp hW hl hlW hJ hJ0 hGb hGU hU
  refine callsIn_of_wp Tryz.func48 rfl trivial ?_ rfl
  simp only [Tryz.ntmps48, List.size_toArray, List.length_cons, List.length_nil, Nat.reduceAdd, Nat.reduceSub, Array.replicate_succ, Array.replicate_zero, List.push_toArray, List.append_toArray, List.nil_append, List.cons_append]
  gi_wp2
  refine ⟨trivial, (callsIn_wide.2 hO).mono ?_⟩
  rintro e w' ⟨rfl, hw⟩
  subst w'
  clear hO
  gi_wp2
  refine ⟨trivial, (callsIn_wide.2 hP).mono ?_⟩
  rintro e W2 ⟨x, m, c, rfl, hm, hJ2, HT⟩
  clear hP
  gi_wp2
  obtain ⟨hB2, d, hd, hx, hsort, hnd, hcol, hval⟩ := HT.out
  have HH := hid (And.intro hB2 (And.intro hd (And.intro hx (And.intro hsort (And.intro hnd (And.intro hcol hval))))))
  clear hB2 hx hsort hnd hcol hval HT
  gi_loopw [13] (fun i wr => ∃ (k : Nat) (ys : List PR), k ≤ m ∧ i = .int .i64 (k : Int) ∧ Hid (J ys wr ∧ ys.map PR.key = kys d k ∧ Turns (fun j => Gb j ∨ j = l) W2 wr)) (fun i _ => m - (intOf i).toNat)
  case atStart => exact ⟨0, [], Nat.zero_le _, rfl, hJ2, rfl, Turns.refl _ _⟩
  case round =>
    clear hJ2
    obtain ⟨k, ys, hk, rfl, HR⟩ := hrel
    by_cases hkm : k < m
    · have hkm' : (k : Int) < (m : Int) := by omega
      obtain ⟨hB2, _, hx, hsort, hnd, hcol, hval⟩ := HH.out
      obtain ⟨b, rfl, hb1, hb2, hPA⟩ := hx (by omega)
      obtain ⟨f0, f1, _, _⟩ := hPA k (by omega)
      obtain ⟨hJr, hys, htr⟩ := HR.out
      have hbb := htr.block b hb2 (fun e => by
        rcases e with e | e
        · have := HG.out.1 _ e
          have := HZ.out.1
          omega
        · have := HZ.out.2.2
          omega)
      have k0 := (World.cell?_of_block (a := ⟨b, k * 2, none⟩) hbb).trans f0
      have k1 := (World.cell?_of_block (a := ⟨b, k * 2 + 1, none⟩) hbb).trans f1
      obtain ⟨lv, v1, v2, v3, v4, v5⟩ := hval _ (get_mem d (i := k) (by omega))
      have hslr : Sl wr d[k]!.x d[k]!.n d[k]!.c lv := v2.turns htr (fun _ a ha e => by
        rcases e with e | e
        · exact (v5 a ha).2 (HG.out.2.1 _ e)
        · exact (v5 a ha).2 (e ▸ HG.out.2.2))
      have hbeg := ((hcol d[k]!.key).1 (List.mem_map.2 ⟨_, get_mem d (i := k) (by omega), rfl⟩)).2
      have HC : Hid (∀ v B, Below wr.heap.size wr v → v.cell? ⟨B, 0, none⟩ = some (.string d[k]!.key) → Calls Tryz.prog 47 #[.slice d[k]!.x d[k]!.n d[k]!.c] v fun e W3 => ∃ y cy, e = .returned (.slice y d[k]!.n cy) ∧ W3.cell? ⟨B, 0, none⟩ = some (.string d[k]!.key) ∧
          ∃ fn tmps assign body, (Instr.yield l #[.string d[k]!.key, .slice y d[k]!.n cy]).run Tryz.prog W3 = .ok (.round l fn tmps assign body) W3 ∧ RoundIn Fence.wide (n - 1) Tryz.prog l fn tmps assign body W3 fun e W4 => e = .returned (.bool true) ∧
            Hid (∃ ys', J ys' W4 ∧ ys'.map PR.key = kys d (k + 1) ∧ Turns (fun j => Gb j ∨ j = l) W2 W4)) := fun v B hv hc =>
        (clone_sl d[k]!.x d[k]!.n d[k]!.c lv v (hslr.below hv) (by omega)).mono fun e W3 ⟨y, cy, e1, e2, e3, _⟩ => by
          have hb3 : Below wr.heap.size wr W3 := hv.trans (e2.mono hv.size)
          obtain ⟨fn, tmps, assign, body, hy, hR⟩ := hY ys ⟨d[k]!.key, y, d[k]!.n, cy⟩ W3 (HJ.out _ _ _ hJr hb3) ⟨fun q hq => by
            obtain ⟨i, hi, ei⟩ := kys_mem (hys ▸ List.mem_map.2 ⟨q, hq, rfl⟩)
            rw [ei]
            exact hsort i k hi (by omega), hbeg, v4, v3, lv, v1, e3⟩
          refine ⟨y, cy, e1, (e2.cell (p := ⟨B, 0, none⟩) (cell_lt' hc)).trans hc, fn, tmps, assign, body, hy, hR.mono fun e W4 ⟨g1, g2, g3⟩ => ⟨g1, _, g2, ?_, ?_⟩⟩
          · rw [List.map_append, hys, kys_succ]
            rfl
          · exact (htr.trans (Turns.of_below hb3)).trans g3
      clear hB2 hx hsort hnd hcol hval hPA f0 f1 hJr hys htr hbb v1 v2 v3 v4 v5 hslr hbeg hb1 hb2 HH HR HG HJ hY
      generalize d[k]!.key = dk at *
      generalize d[k]!.x = dx at *
      generalize d[k]!.n = dn at *
      generalize d[k]!.c = dc at *
      gi_wp2
      have t9 : (wr.alloc (.cells #[.string dk, .slice dx dn dc] 98)).drew.cell? ⟨wr.heap.size, 0, none⟩ = some (.string dk) := by
        show (wr.alloc (.cells #[.string dk, .slice dx dn dc] 98)).cell? ⟨wr.heap.size, 0, none⟩ = _
        simp
      have b9 : Below wr.heap.size wr (wr.alloc (.cells #[.string dk, .slice dx dn dc] 98)).drew := ((Below.refl _ _).alloc (Nat.le_refl _) _).drew
      have hC1 := HC.out _ wr.heap.size b9 t9
      clear HC t9 b9
      gi_region_with (first
        | (refine ⟨trivial, (callsIn_wide.2 hC1).mono ?_⟩; rintro e W3 ⟨y, cy, rfl, q0, fn, tmps, assign, body, hy, hR⟩; clear hC1)
        | (refine hR.mono ?_; rintro e W4 ⟨rfl, HN⟩; clear hR))
      all_goals
        gi_wp2
        go_roundw
        case rel => obtain ⟨ys', g1, g2, g3⟩ := HN.out; exact ⟨k + 1, ys', by omega, by go_num, g1, g2, g3⟩
        case measure => simp [intOf]; omega
    · obtain rfl : k = m := by omega
      obtain ⟨hB2, _, hx, hsort, hnd, hcol, hval⟩ := HH.out
      obtain ⟨hJr, hys, htr⟩ := HR.out
      have HF : Hid (SQ M pre ys ∧ J ys wr) := by
        rw [← hd] at hys
        rw [kys_all] at hys
        exact ⟨⟨by rw [hys]; exact hnd, fun s => by rw [hys]; exact hcol s⟩, hJr⟩
      clear hB2 hx hsort hnd hcol hval hJr hys htr HH HR HG HJ hY
      gi_wp2
      go_end0
      exact ⟨⟨_, rfl⟩, ys, HF.out.1, HF.out.2⟩

end Go.Proofs.YtbbjklenpgkooaaGreat

/-
  A store's keys as a list in memory: how many there are, and how many begin so.
  Conditions: none.
-/
namespace Go.Proofs.YtbbjklenpgkooaaGreat
open Go.RowKit By Dk Wi St
variable [Inhabited PR] [∀ pre s : ByteArray, Decidable (Beg pre s)]
set_option linter.unusedSectionVars false
set_option linter.unusedVariables false
set_option linter.unusedSimpArgs false
set_option maxRecDepth 100000


/- The list tells just what the map holds. -/
structure KM (V : Nat → AV) (len : Nat) (M : KV) : Prop where
  at_ : ∀ i, i < len → M (V i).key = some (V i).d
  all : ∀ s, (M s).isSome = true → ∃ i, i < len ∧ (V i).key = s
  inj : ∀ i j, i < j → j < len → (V i).key ≠ (V j).key

def keysOf (V : Nat → AV) (len : Nat) : List ByteArray := (List.range len).map fun i => (V i).key

def cntB (pre : ByteArray) (V : Nat → AV) (k : Nat) : Nat := ((keysOf V k).filter fun s => decide (Beg pre s)).length

theorem cntB_succ (pre : ByteArray) (V : Nat → AV) (k : Nat) : cntB pre V (k + 1) = cntB pre V k + (if Beg pre (V k).key then 1 else 0) := by
  unfold cntB keysOf
  rw [List.range_succ, List.map_append, List.filter_append, List.length_append]
  congr 1
  by_cases h : Beg pre (V k).key <;> simp [h]

theorem cntB_le (pre : ByteArray) (V : Nat → AV) (k : Nat) : cntB pre V k ≤ k := by
  unfold cntB
  refine Nat.le_trans (List.length_filter_le _ _) ?_
  simp [keysOf]

theorem KM.nodup {V : Nat → AV} {len : Nat} {M : KV} (h : KM V len M) : (keysOf V len).Nodup := by
  unfold keysOf
  refine List.pairwise_iff_getElem.2 fun i j hi hj hij => ?_
  simp only [List.length_map, List.length_range] at hi hj
  simp only [List.getElem_map, List.getElem_range]
  exact h.inj i j hij hj

theorem KM.mem {V : Nat → AV} {len : Nat} {M : KV} (h : KM V len M) (s : ByteArray) : s ∈ keysOf V len ↔ (M s).isSome = true := by
  unfold keysOf
  rw [List.mem_map]
  constructor
  · rintro ⟨i, hi, rfl⟩
    rw [h.at_ i (List.mem_range.1 hi)]
    rfl
  · intro hs
    obtain ⟨i, hi, e⟩ := h.all s hs
    exact ⟨i, List.mem_range.2 hi, e⟩

theorem KM.count {V : Nat → AV} {len : Nat} {M : KV} (h : KM V len M) {pre : ByteArray} {ys : List PR} (hS : SQ M pre ys) : ys.length = cntB pre V len := by
  have hp : (ys.map PR.key).Perm ((keysOf V len).filter fun s => decide (Beg pre s)) := by
    refine (List.perm_ext_iff_of_nodup hS.1 (h.nodup.filter _)).2 fun s => ?_
    rw [hS.2 s, List.mem_filter, h.mem s]
    simp
  have := hp.length_eq
  rw [List.length_map] at this
  exact this

theorem KM.size {w : World} {mb nb : Nat} {D : DataW Value} {U : Nat → Prop} {V : Nat → AV} {len : Nat} {M : KV} (h : KM V len M) (hm : MapAt w mb nb D M U) : Maps.size D = len := by
  obtain ⟨es, hD, hpw, _⟩ := hm.own.entries slaw
  obtain ⟨es', hD', hko⟩ := hm.own.keysOf
  obtain rfl : es = es' := by rw [hD] at hD'; simpa using hD'
  have hnd : (es.map (·.1)).Nodup := List.pairwise_map.2 hpw
  have hnd2 : ((keysOf V len).map lit).Nodup := List.pairwise_map.2 (h.nodup.imp fun hne e => hne (lit_inj e))
  have hp : (es.map (·.1)).Perm ((keysOf V len).map lit) := by
    refine (List.perm_ext_iff_of_nodup hnd hnd2).2 fun kl => ?_
    have hhas : ∀ s, lit s ∈ es.map (·.1) ↔ (M s).isSome = true := fun s => by
      rw [← hm.has, hD, Maps.has_eq, List.any_eq_true, List.mem_map]
      constructor
      · rintro ⟨p, hp, e⟩
        exact ⟨p, hp, by rw [e]; simp [lit, Lit.sameKey]⟩
      · rintro ⟨p, hp, e⟩
        exact ⟨p, hp, WideAt.sameKey_eq e⟩
    constructor
    · intro hk
      obtain ⟨p, hp, rfl⟩ := List.mem_map.1 hk
      obtain ⟨v, hv⟩ := hko p hp
      obtain ⟨s, _, e⟩ := skey_inv hv
      rw [e] at hk ⊢
      exact List.mem_map.2 ⟨s, (h.mem s).2 ((hhas s).1 hk), rfl⟩
    · intro hk
      obtain ⟨s, hs, rfl⟩ := List.mem_map.1 hk
      exact (hhas s).2 ((h.mem s).1 hs)
  have := hp.length_eq
  rw [List.length_map, List.length_map] at this
  rw [hD, Maps.size_eq, this]
  simp [keysOf]

end Go.Proofs.YtbbjklenpgkooaaGreat

/-
  Keys that rise, one put in or taken away: plainly.
  Conditions: none.
-/
namespace Go.Proofs.YtbbjklenpgkooaaGreat
open Go.RowKit By Dk Wi St
variable [Inhabited PR] [∀ pre s : ByteArray, Decidable (Beg pre s)]
set_option linter.unusedSectionVars false
set_option linter.unusedVariables false
set_option linter.unusedSimpArgs false
set_option maxRecDepth 100000

def Rise (O : Nat → AV) (m : Nat) : Prop := ∀ i j, i < j → j < m → lessN (nat (O i).key) (nat (O j).key) = true

theorem less_ne {a b : ByteArray} (h : lessN (nat a) (nat b) = true) : a ≠ b := fun e => by
  rw [e, less_irrefl] at h
  cases h

/- Where a key belongs: P; T: how many of them are that key. -/
structure Place (O : Nat → AV) (m : Nat) (s : ByteArray) (P T : Nat) : Prop where
  low : ∀ j, j < P → lessN (nat (O j).key) (nat s) = true
  high : ∀ j, P + T ≤ j → j < m → lessN (nat s) (nat (O j).key) = true
  le : P + T ≤ m
  one : T = 0 ∨ (T = 1 ∧ (O P).key = s)

theorem Place.of {O : Nat → AV} {m P : Nat} {s : ByteArray} (hr : Rise O m) (hP : P ≤ m) (hl : ∀ j, j < P → lessN (nat (O j).key) (nat s) = true) (hs : P < m → lessN (nat (O P).key) (nat s) = false) :
    (P < m ∧ (O P).key = s ∧ Place O m s P 1) ∨ (¬ (P < m ∧ (O P).key = s) ∧ Place O m s P 0) := by
  by_cases h : P < m ∧ (O P).key = s
  · left
    refine ⟨h.1, h.2, hl, fun j h1 h2 => ?_, by omega, .inr ⟨rfl, h.2⟩⟩
    have := hr P j (by omega) h2
    rwa [h.2] at this
  · right
    refine ⟨h, hl, fun j h1 h2 => ?_, by omega, .inl rfl⟩
    have hPm : P < m := by omega
    have hne : (O P).key ≠ s := fun e => h ⟨hPm, e⟩
    have h3 := less_total (nat (O P).key) (nat s) (fun e => hne (nat_inj e))
    rw [hs hPm] at h3
    have h4 : lessN (nat s) (nat (O P).key) = true := by simpa using h3
    by_cases e : j = P
    · rw [e]; exact h4
    · exact less_trans _ _ _ h4 (hr P j (by omega) h2)

def rest (O : Nat → AV) (P T : Nat) : Nat → AV := fun i => O (P + T + i)

theorem doA_same (M : KV) (a : AV) : doA M (pa a) a.key = if a.set = true then some a.d else none := by
  unfold doA
  rw [str_key, if_pos rfl]
  rfl

theorem doA_other (M : KV) (a : AV) {s : ByteArray} (h : s ≠ a.key) : doA M (pa a) s = M s := by
  unfold doA
  rw [str_key, if_neg h]

section
variable {O : Nat → AV} {m P T : Nat} {M : KV} {a : AV}

theorem cat_set (i : Nat) : catA (catA O P (fun _ => a)) (P + 1) (rest O P T) i = if i < P then O i else if i = P then a else O (P + T + (i - (P + 1))) := by
  unfold catA rest
  by_cases h1 : i < P
  · rw [if_pos (by omega), if_pos h1, if_pos h1]
  · by_cases h2 : i = P
    · rw [if_pos (by omega), if_neg h1, if_neg h1, if_pos h2]
    · rw [if_neg (by omega), if_neg h1, if_neg h2]

theorem cat_del (i : Nat) : catA O P (rest O P T) i = if i < P then O i else O (P + T + (i - P)) := rfl

theorem ins_set (hp : Place O m a.key P T) (hr : Rise O m) (hk : KM O m M) (hset : a.set = true) :
    Rise (catA (catA O P (fun _ => a)) (P + 1) (rest O P T)) (P + 1 + (m - (P + T))) ∧ KM (catA (catA O P (fun _ => a)) (P + 1) (rest O P T)) (P + 1 + (m - (P + T))) (doA M (pa a)) := by
  have hle := hp.le
  have rise : Rise (catA (catA O P (fun _ => a)) (P + 1) (rest O P T)) (P + 1 + (m - (P + T))) := fun i j hij hj => by
    rw [cat_set, cat_set]
    by_cases h1 : j < P
    · rw [if_pos (by omega), if_pos h1]
      exact hr i j hij (by omega)
    · rw [if_neg h1]
      by_cases h2 : j = P
      · rw [if_pos h2, if_pos (by omega)]
        exact hp.low i (by omega)
      · rw [if_neg h2]
        have hh := hp.high (P + T + (j - (P + 1))) (by omega) (by omega)
        by_cases h3 : i < P
        · rw [if_pos h3]
          exact less_trans _ _ _ (hp.low i h3) hh
        · rw [if_neg h3]
          by_cases h4 : i = P
          · rw [if_pos h4]; exact hh
          · rw [if_neg h4]
            exact hr _ _ (by omega) (by omega)
  refine ⟨rise, fun i hi => ?_, fun s hs => ?_, fun i j hij hj => less_ne (rise i j hij hj)⟩
  · rw [cat_set]
    by_cases h1 : i < P
    · rw [if_pos h1, doA_other M a (less_ne (hp.low i h1))]
      exact hk.at_ i (by omega)
    · rw [if_neg h1]
      by_cases h2 : i = P
      · rw [if_pos h2, doA_same, if_pos hset]
      · rw [if_neg h2, doA_other M a (Ne.symm (less_ne (hp.high _ (by omega) (by omega))))]
        exact hk.at_ _ (by omega)
  · by_cases e : s = a.key
    · exact ⟨P, by omega, by rw [cat_set, if_neg (by omega), if_pos rfl, e]⟩
    · rw [doA_other M a e] at hs
      obtain ⟨j, hj, ej⟩ := hk.all s hs
      by_cases h1 : j < P
      · exact ⟨j, by omega, by rw [cat_set, if_pos h1]; exact ej⟩
      · have h2 : P + T ≤ j := by
          rcases hp.one with h | ⟨h, h3⟩
          · omega
          · by_cases h4 : j = P
            · exact absurd (by rw [← ej, h4, h3]) e
            · omega
        exact ⟨P + 1 + (j - (P + T)), by omega, by rw [cat_set, if_neg (by omega), if_neg (by omega), show P + T + (P + 1 + (j - (P + T)) - (P + 1)) = j by omega]; exact ej⟩

theorem ins_del (hp : Place O m a.key P T) (hr : Rise O m) (hk : KM O m M) (hset : a.set = false) :
    Rise (catA O P (rest O P T)) (P + (m - (P + T))) ∧ KM (catA O P (rest O P T)) (P + (m - (P + T))) (doA M (pa a)) := by
  have hle := hp.le
  have rise : Rise (catA O P (rest O P T)) (P + (m - (P + T))) := fun i j hij hj => by
    rw [cat_del, cat_del]
    by_cases h1 : j < P
    · rw [if_pos (by omega), if_pos h1]
      exact hr i j hij (by omega)
    · rw [if_neg h1]
      have hh := hp.high (P + T + (j - P)) (by omega) (by omega)
      by_cases h3 : i < P
      · rw [if_pos h3]
        exact less_trans _ _ _ (hp.low i h3) hh
      · rw [if_neg h3]
        exact hr _ _ (by omega) (by omega)
  refine ⟨rise, fun i hi => ?_, fun s hs => ?_, fun i j hij hj => less_ne (rise i j hij hj)⟩
  · rw [cat_del]
    by_cases h1 : i < P
    · rw [if_pos h1, doA_other M a (less_ne (hp.low i h1))]
      exact hk.at_ i (by omega)
    · rw [if_neg h1, doA_other M a (Ne.symm (less_ne (hp.high _ (by omega) (by omega))))]
      exact hk.at_ _ (by omega)
  · have e : s ≠ a.key := fun e => by
      rw [e, doA_same, if_neg (by simp [hset])] at hs
      cases hs
    rw [doA_other M a e] at hs
    obtain ⟨j, hj, ej⟩ := hk.all s hs
    by_cases h1 : j < P
    · exact ⟨j, by omega, by rw [cat_del, if_pos h1]; exact ej⟩
    · have h2 : P + T ≤ j := by
        rcases hp.one with h | ⟨h, h3⟩
        · omega
        · by_cases h4 : j = P
          · exact absurd (by rw [← ej, h4, h3]) e
          · omega
      exact ⟨P + (j - (P + T)), by omega, by rw [cat_del, if_neg (by omega), show P + T + (P + (j - (P + T)) - P) = j by omega]; exact ej⟩

/- The key is there just where its place holds it. -/
theorem Place.has (hp : Place O m a.key P T) (hk : KM O m M) : (M a.key).isSome = decide (T = 1) := by
  rcases hp.one with h | ⟨h, h3⟩
  · rw [h]
    cases hs : (M a.key).isSome
    · rfl
    · obtain ⟨j, hj, ej⟩ := hk.all _ hs
      by_cases h1 : j < P
      · exact absurd ej (less_ne (hp.low j h1))
      · exact absurd ej (Ne.symm (less_ne (hp.high j (by omega) hj)))
  · have := hk.at_ P (by have := hp.le; omega)
    rw [h3] at this
    rw [this, h]
    rfl

end

end Go.Proofs.YtbbjklenpgkooaaGreat

/-
  Package store's has and canDo: whether a key would be there behind some acts.
  Conditions: the acts lie in memory.
-/
namespace Go.Proofs.YtbbjklenpgkooaaGreat
open Go.RowKit Go.Shelf By Dk Wi St
variable [Inhabited PR] [∀ pre s : ByteArray, Decidable (Beg pre s)]
set_option linter.unusedSectionVars false
set_option linter.unusedVariables false
set_option linter.unusedSimpArgs false
set_option maxRecDepth 100000
attribute [local go_sem] Oper.semAt_some

theorem doL_away (M : KV) (V : Nat → AV) (s : ByteArray) : ∀ n, (∀ i, i < n → (V i).key ≠ s) → doL M (pas V n) s = M s
  | 0, _ => rfl
  | n + 1, h => by
    rw [doL_succ]
    unfold doA
    rw [str_key, if_neg (fun e => h n (by omega) e.symm)]
    exact doL_away M V s n (fun i hi => h i (by omega))

theorem doL_hit (M : KV) (V : Nat → AV) (s : ByteArray) (j : Nat) (hj : (V j).key = s) : ∀ n, j < n → (∀ i, i < n → j < i → (V i).key ≠ s) → (doL M (pas V n) s).isSome = (V j).set
  | 0, h, _ => by omega
  | n + 1, h, ha => by
    rw [doL_succ]
    by_cases e : n = j
    · subst e
      unfold doA
      rw [str_key, if_pos hj.symm]
      show (if (V n).set = true then some (V n).d else none).isSome = (V n).set
      cases (V n).set <;> rfl
    · unfold doA
      rw [str_key, if_neg (fun e2 => ha n (by omega) (by omega) e2.symm)]
      exact doL_hit M V s j hj n (by omega) (fun i hi hij => ha i (by omega) hij)

theorem beq_same (s : ByteArray) : (s.toList == s.toList) = true := by simp
theorem beq_diff {s t : ByteArray} (h : s ≠ t) : (s.toList == t.toList) = false := by
  simp only [beq_eq_false_iff_ne, ne_eq]
  exact fun e => h (toList_inj e)

theorem act_own {β : Type} (v : AV) (t : TypeId) (Bx : Nat) : Own (fun (_ : β) W => W.heap[Bx]? = some (.cells #[.string v.key, .bool v.set, .slice v.x v.n v.c] t (0, 0))) := fun s X Y row hs hg hrow => by
  refine (hg.block Bx (Array.getElem?_eq_some_iff.1 hs).1 (fun e => ?_)).trans hs
  obtain ⟨o, ho, hc⟩ := hrow Bx e.symm
  rw [hs] at ho
  cases ho
  cases hc

set_option maxHeartbeats 4000000 in
theorem shas_any {w : World} {sp jp mb nb : Nat} {D : DataW Value} {M : KV} {U : Nat → Prop} (h : StAt w sp jp mb nb D M U) (s : ByteArray) (hs : s.size ≤ 140737488351232) (a : Option Addr) (len cap : Nat) (V : Nat → AV) (hA : ActsAt w a len V) (hlen : len ≤ 140737488351232) :
    Calls Tryz.prog 63 #[.pointer (some ⟨sp, 0, none⟩), .string s, .slice a len cap] w fun e w' => e = .returned (.bool (doL M (pas V len) s).isSome) ∧ Below w.heap.size w w' := by
  generalize hT : (doL M (pas V len) s).isSome = T
  have HT := hid hT
  clear hT
  have hM := backmake_any a len cap ((w.alloc (.cells #[.string s] 9)).alloc (.cells #[.bool false] 4))
  refine (callsIn_wide (n := 5)).1 ?_
  refine callsIn_of_wp_marks Tryz.func63 rfl trivial ?_ rfl
  refine wpIn_wide.2 ?_
  simp only [Tryz.ntmps63, List.size_toArray, List.length_cons, List.length_nil, Nat.reduceAdd, Nat.reduceSub, Array.replicate_succ, Array.replicate_zero, List.push_toArray, List.append_toArray, List.nil_append, List.cons_append]
  go_wp2_with (go_at_call 82; refine hM.mono ?_; rintro e w' ⟨rfl, rfl⟩; clear hM)
  have bK := ((Boxed.new w 9 (.string s)).alloc (.cells #[.bool false] 4)).alloc (.cells #[.slice a len cap] 24)
  have bR := (Boxed.new (w.alloc (.cells #[.string s] 9)) 4 (.bool false)).alloc (.cells #[.slice a len cap] 24)
  have bS := Boxed.new ((w.alloc (.cells #[.string s] 9)).alloc (.cells #[.bool false] 4)) 24 (.slice a len cap)
  simp only [World.size_alloc] at bR bS
  have hB0 : Below w.heap.size w (((w.alloc (.cells #[.string s] 9)).alloc (.cells #[.bool false] 4)).alloc (.cells #[.slice a len cap] 24)) := (((Below.refl _ w).alloc (Nat.le_refl _) _).alloc (by simp) _).alloc (by simp; omega) _
  have hsz : (((w.alloc (.cells #[.string s] 9)).alloc (.cells #[.bool false] 4)).alloc (.cells #[.slice a len cap] 24)).heap.size = w.heap.size + 3 := by simp
  obtain ⟨W0, hW0⟩ : ∃ W0, ((w.alloc (.cells #[.string s] 9)).alloc (.cells #[.bool false] 4)).alloc (.cells #[.slice a len cap] 24) = W0 := ⟨_, rfl⟩
  rw [hW0] at bK bR bS hB0 hsz ⊢
  clear hW0
  have hA0 := hA.below hB0
  have hlow : len ≠ 0 → ∀ ad, a = some ad → ad.block < W0.heap.size := fun h0 ad e => by
    rcases hA.row with h1 | ⟨b, o, e1, h2, _⟩
    · exact absurd h1 h0
    · rw [e] at e1
      injection e1 with e1
      subst e1
      show b < W0.heap.size
      omega
  have HST := hid h
  clear h hA
  refine (wpIn_wide (n := 5)).1 ?_
  refine wpIn_rangeFunc_ownH rfl (by omega) (gf := 94) (lb := #[.pointer (some ⟨w.heap.size + 1 + 1, 0, none⟩)]) rfl trivial (enters_of Tryz.func94 (by kernel_rfl) rfl)
    (back_stops Fence.wide _ trivial rfl (by omega) (w.heap.size + 1 + 1) W0.heap.size a len cap V hlen W0 (by omega) (Nat.le_refl _) bS.cell hA0 hlow) belowK_t (belowK_b (Nat.le_refl _)) (Below.refl _ _) (fun _ => rfl)
    (fun pre W => (∀ p ∈ pre, p.2.key ≠ s) ∧ Below W0.heap.size W0 W)
    (fun c pre W => (c = .ret ∧ ∃ ini last, pre = ini ++ [last] ∧ (∀ p ∈ ini, p.2.key ≠ s) ∧ last.2.key = s ∧ Boxed W (w.heap.size + 1) 4 (.bool last.2.set)) ∧ Below w.heap.size w W)
    (OwnFrom.and (ownFrom_pure _ _) (ownFrom_below (Nat.le_refl _) (Nat.le_refl _)))
    (fun c => OwnFrom.and (Own.from (fun s' A B row hs hg hr => by
      obtain ⟨hc, ini, last, e1, e2, e3, e4⟩ := hs
      exact ⟨hc, ini, last, e1, e2, e3, boxed_own _ _ (fun _ => .bool last.2.set) s' A B row e4 hg hr⟩) _) (ownFrom_below (Nat.le_refl _) (by omega)))
    ⟨by simp, Below.refl _ _⟩
    (fun x a' W => ∃ Bx, W0.heap.size ≤ Bx ∧ W.heap[Bx]? = some (.cells #[.string x.2.key, .bool x.2.set, .slice x.2.x x.2.n x.2.c] 54 (0, 0)) ∧ a' = { tmps := #[.pointer (some ⟨sp, 0, none⟩), .string s, .slice a len cap, undef, .pointer (some ⟨w.heap.size, 0, none⟩), undef, .pointer (some ⟨w.heap.size + 1, 0, none⟩), undef, .pointer (some ⟨Bx, 0, none⟩), undef, undef, .slice a len cap, .func (.func 94) #[] #[.pointer (some ⟨w.heap.size + 1 + 1, 0, none⟩)], .int .i64 (x.1 : Int), .agg #[.string x.2.key, .bool x.2.set, .slice x.2.x x.2.n x.2.c], undef, undef, undef, undef, undef, undef, undef, undef, undef, undef, undef, undef, undef, undef, undef, undef], defers := [] })
    (fun x a' => fun s' X Y row hs hg hr => by
      obtain ⟨Bx, h1, h2, h3⟩ := hs
      exact ⟨Bx, h1, act_own x.2 _ Bx () X Y row h2 hg (fun r e => (hr r e).2), h3⟩) ?assign ?body ?done ?stop
  case assign =>
    rintro l pre x W K ⟨q1, q4⟩ hK
    unfold agv
    gi_wp2
    exact hK _ _ ((KeepsOthers.alloc _ _).from _) ((Below.refl _ W).alloc q4.size _) ⟨q1, q4.alloc q4.size _⟩ ⟨W.heap.size, q4.size, World.alloc_heap_new W _, rfl⟩
  case body =>
    rintro l pre x a' W hl ⟨r, hr⟩ ⟨q1, q4⟩ ⟨Bx, hBx, bX, rfl⟩ hlt
    have x0 : W.cell? ⟨Bx, 0, none⟩ = some (.string x.2.key) := by simp [World.cell?, bX]
    have x1 : W.cell? ⟨Bx, 1, none⟩ = some (.bool x.2.set) := by simp [World.cell?, bX]
    have hkc : W.cell? ⟨w.heap.size, 0, none⟩ = some (.string s) := (q4.cell (p := ⟨w.heap.size, 0, none⟩) (by show w.heap.size < W0.heap.size; omega)).trans bK.cell
    have bR' : Boxed W (w.heap.size + 1) 4 (.bool false) := (q4.block (w.heap.size + 1) (by omega)).trans bR
    have hrc := bR'.cell
    have hrf := bR'.frozen
    have HB := hid (And.intro bR' (hB0.trans (q4.mono (by omega))))
    have HQ := hid (And.intro q1 q4)
    clear q1 q4 bX bR'
    by_cases hk : x.2.key = s
    · have hbe : (x.2.key.toList == s.toList) = true := by rw [hk]; exact beq_same s
      have HK := hid hk
      clear hk
      gi_wp2
      exact ⟨(KeepsOthers.setCell _ _ _).from _, ⟨rfl, pre, x, rfl, HQ.out.1, HK.out, HB.out.1.set _⟩, HB.out.2.setCell (p := ⟨w.heap.size + 1, 0, none⟩) (Nat.le_succ _) _⟩
    · have hbe : (x.2.key.toList == s.toList) = false := beq_diff hk
      have HK := hid hk
      clear hk
      gi_wp2
      exact ⟨KeepsFrom.refl _ _, Below.refl _ _, (fun p hp => (List.mem_append.1 hp).elim (HQ.out.1 p) (fun e => by simp at e; subst e; exact HK.out)), HQ.out.2⟩
  case done =>
    rintro D' ys W hD rfl ⟨q1, q4⟩ hK
    have hbW : Below w.heap.size w W := hB0.trans (q4.mono (by omega))
    have hst := HST.out.below hbW
    have c1 := hst.c1
    have hkc : W.cell? ⟨w.heap.size, 0, none⟩ = some (.string s) := (q4.cell (p := ⟨w.heap.size, 0, none⟩) (by show w.heap.size < W0.heap.size; omega)).trans bK.cell
    have bR' : Boxed W (w.heap.size + 1) 4 (.bool false) := (q4.block (w.heap.size + 1) (by omega)).trans bR
    have hrc := bR'.cell
    have hrf := bR'.frozen
    obtain ⟨x, n, c, hlook⟩ := hst.map.lookq s (by omega)
    have hres : doL M (pas V len) s = M s := doL_away M V s len (fun i hi => by
      have := q1 (i, V i) (by
        simp only [dn, List.mem_map, List.mem_range]
        exact ⟨len - 1 - i, by omega, by rw [show len - 1 - (len - 1 - i) = i by omega]⟩)
      exact this)
    have hTt : (M s).isSome = T := by rw [← hres]; exact HT.out
    rw [hTt] at hlook
    have HF := hid (And.intro hbW (And.intro bR' hK))
    clear hst q1 q4 hbW bR' hres hTt HT
    go_wp2_with fail
    go_quiet (fail)
    go_wp2_with fail
    obtain ⟨z1, z2, z3⟩ := HF.out
    have z3' : (W.drewN nq).heap[D']? = some (.deferred (some [])) := z3
    have hK' := (KeepsOthers.setCell (W.drewN nq) ⟨w.heap.size + 1, 0, none⟩ (.bool T)).same D' _ z3' rfl
    refine ⟨by simp, .inl ⟨_, _, rfl, run_takeDeferred hK', ?_⟩⟩
    have z2' : Boxed (W.drewN nq) (w.heap.size + 1) 4 (.bool false) := z2
    have hc5 := cell_kept ((z2'.set (.bool T)).cell) (grownBy_putObj' _ D' (.deferred none)) (fun r e => by cases e; exact ⟨_, hK', rfl⟩)
    refine ⟨.bool T, ?_, rfl, (((below_drewN' z1 nq).setCell (p := ⟨w.heap.size + 1, 0, none⟩) (Nat.le_succ _) _)).trans (belowK_b (w := w) (Nat.le_refl _) _ D' _ _ (by omega) hK' rfl rfl)⟩
    rw [results_cell rfl]
    go_simp
  case stop =>
    rintro D' c pre W hD ⟨k, hk, rfl⟩ ⟨⟨rfl, ini, last, e1, e2, e3, e4⟩, q4⟩ hK
    obtain ⟨k', rfl⟩ : ∃ k', k = k' + 1 := by
      cases k with
      | zero => simp [dn] at e1
      | succ k' => exact ⟨k', rfl⟩
    rw [dn_succ] at e1
    obtain ⟨rfl, e5⟩ := List.append_inj' e1 rfl
    obtain rfl : (len - 1 - k', V (len - 1 - k')) = last := by simpa using e5
    have hres : (doL M (pas V len) s).isSome = (V (len - 1 - k')).set := doL_hit M V s (len - 1 - k') e3 len (by omega) (fun i hi hji => by
      have := e2 (i, V i) (by
        simp only [dn, List.mem_map, List.mem_range]
        exact ⟨len - 1 - i, by omega, by rw [show len - 1 - (len - 1 - i) = i by omega]⟩)
      exact this)
    have hTt : (V (len - 1 - k')).set = T := by rw [← hres]; exact HT.out
    dsimp only at e4
    rw [hTt] at e4
    clear hres hTt HT
    gi_wp2
    refine ⟨by simp, .inl ⟨_, _, rfl, run_takeDeferred hK, ?_⟩⟩
    have hc5 := cell_kept e4.cell (grownBy_putObj' _ D' (.deferred none)) (fun r e => by cases e; exact ⟨_, hK, rfl⟩)
    refine ⟨.bool T, ?_, rfl, q4.trans (belowK_b (w := w) (Nat.le_refl _) W D' _ _ (by omega) hK rfl rfl)⟩
    rw [results_cell rfl]
    go_simp

theorem aelem_row : Tryz.prog.underlying 24 = some (.slice (Tryz.prog.elem 24)) := by kernel_rfl
theorem aelem_is : Tryz.prog.elem 24 = 54 := by kernel_rfl
theorem asize_act (w : World) : (sizeOf 54).run Tryz.prog w = .ok 3 w := by kernel_rfl

theorem cut_acts (x : Option Addr) (n c m : Nat) (w : World) (h : m ≤ c) :
    (Instr.slice 24 (.slice x n c) none (some (.int .i64 (m : Int))) none).run Tryz.prog w = .ok (.slice x m c) w := by
  rw [run_slice_h w 24 _ _ _ aelem_row .i64 (m : Int) (by omega) (by omega), aelem_is, asize_act]
  simp only [Result.andThen, sliced, Int.toNat_natCast, Nat.zero_mul, Nat.sub_zero]
  have : (if c = 0 then x else x.map (·.add 0)) = x := by
    split
    · rfl
    · cases x with
      | none => rfl
      | some a => simp [Addr.add]
  rw [this]

set_option maxHeartbeats 1000000 in
theorem cando_any {w : World} {sp jp mb nb : Nat} {D : DataW Value} {M : KV} {U : Nat → Prop} (h : StAt w sp jp mb nb D M U) (a : Option Addr) (len cap : Nat) (V : Nat → AV) (hA : ActsAt w a len V) (hlen : len ≤ 140737488351232) (hcap : len ≤ cap) (t : Bool) (ht : t = true ↔ canL M (pas V len)) :
    Calls Tryz.prog 33 #[.pointer (some ⟨sp, 0, none⟩), .slice a len cap] w fun e w' => e = .returned (.bool t) ∧ Below w.heap.size w w' := by
  have HS := hid h
  have HA := hid hA
  have HT := hid ht
  clear h hA ht
  go_enter Tryz.func33, Tryz.ntmps33
  go_wp2_with fail
  go_loopw [9] (fun i wr => ∃ k : Nat, k ≤ len ∧ i = .int .i64 k ∧ Hid ((∀ j, j < k → (V j).set = false → (doL M (pas V j) (V j).key).isSome = true) ∧ Below w.heap.size w wr)) (fun i _ => len - (intOf i).toNat)
  case atStart => exact ⟨0, by omega, rfl, ⟨(fun j hj => by omega), Below.refl _ _⟩⟩
  case round =>
    obtain ⟨k, hk, rfl, HR⟩ := hrel
    by_cases hkl : k < len
    · have hkl' : (k : Int) < (len : Int) := by omega
      have hbw := HR.out.2
      have hacts := HA.out.below hbw
      have hst := HS.out.below hbw
      rcases hacts.row with h0 | ⟨b, o, rfl, hbl, hc⟩
      · omega
      obtain ⟨k0, k1, k2⟩ := hc k hkl
      have ho := hacts.act k hkl
      have hbo : Below wr.heap.size wr (wr.alloc (.cells #[.string (V k).key, .bool (V k).set, .slice (V k).x (V k).n (V k).c] 54)) := (Below.refl _ _).alloc (Nat.le_refl _) _
      by_cases hset : (V k).set = true
      · have HN : Hid (∀ q, (∀ j, j < k + 1 → (V j).set = false → (doL M (pas V j) (V j).key).isSome = true) ∧ Below w.heap.size w ((wr.alloc (.cells #[.string (V k).key, .bool (V k).set, .slice (V k).x (V k).n (V k).c] 54)).drewN q)) := fun q => ⟨fun j hj hs => by
          by_cases e : j = k
          · subst e; rw [hset] at hs; cases hs
          · exact HR.out.1 j (by omega) hs, below_drewN' (hbw.trans (hbo.mono hbw.size)) q⟩
        clear hc ho hbo hst hacts hbw HR
        rw [hset] at k1 HN
        generalize (V k).key = Kk at *
        generalize (V k).x = Kx at *
        generalize (V k).n = Kn at *
        generalize (V k).c = Kc at *
        go_wp2_with fail
        generalize hWb : wr.alloc (.cells #[.string Kk, .bool true, .slice Kx Kn Kc] 54) = Wb at *
        have s0 : Wb.cell? ⟨wr.heap.size, 0, none⟩ = some (.string Kk) := by rw [← hWb]; simp
        have s1 : Wb.cell? ⟨wr.heap.size, 1, none⟩ = some (.bool true) := by rw [← hWb]; simp
        clear hWb
        go_quiet (fail)
        go_wp2_with fail
        go_roundw
        case rel => exact ⟨k + 1, by omega, by go_num, HN.out _⟩
        case measure => simp [intOf]; omega
      · have hset' : (V k).set = false := by simpa using hset
        have hbd : Below wr.heap.size wr (wr.alloc (.cells #[.string (V k).key, .bool (V k).set, .slice (V k).x (V k).n (V k).c] 54)).drew := hbo.drew
        have hH := shas_any (hst.below hbd) (V k).key ho.ks (some ⟨b, o, none⟩) k cap V ((hacts.take hk).below hbd) (by omega)
        have hcut := fun v => cut_acts (some ⟨b, o, none⟩) len cap k v (by omega)
        have HH : Hid (∀ v, Below (wr.heap.size + 1) (wr.alloc (.cells #[.string (V k).key, .bool (V k).set, .slice (V k).x (V k).n (V k).c] 54)).drew v → (v.cell? ⟨wr.heap.size, 0, none⟩ = some (.string (V k).key) ∧ v.cell? ⟨wr.heap.size, 1, none⟩ = some (.bool (V k).set)) ∧ Below w.heap.size w v) := fun v hv =>
          ⟨⟨(hv.cell (p := ⟨wr.heap.size, 0, none⟩) (Nat.lt_succ_self _)).trans (by simp), (hv.cell (p := ⟨wr.heap.size, 1, none⟩) (Nat.lt_succ_self _)).trans (by simp)⟩, hbw.trans ((hbd.mono hbw.size).trans (hv.mono (by have := hbw.size; omega)))⟩
        cases hr : (doL M (pas V k) (V k).key).isSome with
        | true =>
          rw [hr] at hH
          have HN : Hid (∀ j, j < k + 1 → (V j).set = false → (doL M (pas V j) (V j).key).isSome = true) := fun j hj hs => by
            by_cases e : j = k
            · subst e; exact hr
            · exact HR.out.1 j (by omega) hs
          clear hc ho hbo hst hacts hbw HR hbd hset hr
          rw [hset'] at k1 hH HH
          generalize (V k).key = Kk at *
          generalize (V k).x = Kx at *
          generalize (V k).n = Kn at *
          generalize (V k).c = Kc at *
          go_wp2_with fail
          refine wp_region_held_drew (S := fun v => v.cell? ⟨wr.heap.size, 0, none⟩ = some (.string Kk) ∧ v.cell? ⟨wr.heap.size, 1, none⟩ = some (.bool false)) (by kernel_rfl) ⟨by simp, by simp⟩ (fun hHeld => ?_)
          refine wpAnyH_take (i := 0) (v := ?_) rfl (by kernel_rfl) (by kernel_rfl) (by kernel_rfl) (fun _ _ _ h => h) (Or.inl ⟨by rfl, ?_⟩) (by assumption) ?_
          case refine_2 => (intro w hSw; (try dsimp only at hSw); go_simp; (try with_reducible rfl))
          (try simp only [Act.put, List.getElem_toArray, List.getElem_cons_succ, List.getElem_cons_zero, List.setIfInBounds_toArray, List.set_cons_zero, List.set_cons_succ])
          refine wpAnyH_take (i := 1) (v := ?_) rfl (by kernel_rfl) (by kernel_rfl) (by kernel_rfl) (fun _ _ _ h => h) (Or.inl ⟨by rfl, ?_⟩) (by assumption) ?_
          case refine_2 => (intro w hSw; (try dsimp only at hSw); go_simp; (try with_reducible rfl))
          (try simp only [Act.put, List.getElem_toArray, List.getElem_cons_succ, List.getElem_cons_zero, List.setIfInBounds_toArray, List.set_cons_zero, List.set_cons_succ])
          refine wpAnyH_take (i := 2) (v := ?_) rfl (by kernel_rfl) (by kernel_rfl) (by kernel_rfl) (fun _ _ _ h => h) (Or.inl ⟨by rfl, ?_⟩) (by assumption) ?_
          case refine_2 => (intro w hSw; (try dsimp only at hSw); go_simp; (try with_reducible rfl))
          (try simp only [Act.put, List.getElem_toArray, List.getElem_cons_succ, List.getElem_cons_zero, List.setIfInBounds_toArray, List.set_cons_zero, List.set_cons_succ])
          refine wpAnyH_take (i := 3) (v := ?_) rfl (by kernel_rfl) (by kernel_rfl) (by kernel_rfl) (fun _ _ _ h => h) (Or.inl ⟨by rfl, ?_⟩) (by assumption) ?_
          case refine_2 => (intro w hSw; (try dsimp only at hSw); go_simp; (try with_reducible rfl))
          (try simp only [Act.put, List.getElem_toArray, List.getElem_cons_succ, List.getElem_cons_zero, List.setIfInBounds_toArray, List.set_cons_zero, List.set_cons_succ])
          refine wpAnyH_take (i := 4) (v := ?_) rfl (by kernel_rfl) (by kernel_rfl) (by kernel_rfl) (fun _ _ _ h => h) (Or.inl ⟨by rfl, ?_⟩) (by assumption) ?_
          case refine_2 => (intro w hSw; (try dsimp only at hSw); go_simp; (try with_reducible rfl))
          (try simp only [Act.put, List.getElem_toArray, List.getElem_cons_succ, List.getElem_cons_zero, List.setIfInBounds_toArray, List.set_cons_zero, List.set_cons_succ])
          refine wpAnyH_take (i := 5) (v := ?_) rfl (by kernel_rfl) (by kernel_rfl) (by kernel_rfl) (fun _ _ _ h => h) (Or.inl ⟨by rfl, ?_⟩) (by assumption) ?_
          case refine_2 => (intro w hSw; (try dsimp only at hSw); go_simp; (try with_reducible rfl))
          (try simp only [Act.put, List.getElem_toArray, List.getElem_cons_succ, List.getElem_cons_zero, List.setIfInBounds_toArray, List.set_cons_zero, List.set_cons_succ])
          refine wpAnyH_take (i := 6) (v := ?_) rfl (by kernel_rfl) (by kernel_rfl) (by kernel_rfl) (fun _ _ _ h => h) (Or.inl ⟨by rfl, ?_⟩) (by assumption) ?_
          case refine_2 => (intro w hSw; (try dsimp only at hSw); go_simp; (try with_reducible rfl))
          (try simp only [Act.put, List.getElem_toArray, List.getElem_cons_succ, List.getElem_cons_zero, List.setIfInBounds_toArray, List.set_cons_zero, List.set_cons_succ])
          refine wpAnyH_take (i := 7) (v := ?_) rfl (by kernel_rfl) (by kernel_rfl) (by kernel_rfl) (fun _ _ _ h => h) (Or.inl ⟨by rfl, ?_⟩) (by assumption) ?_
          case refine_2 => (intro w hSw; (try dsimp only at hSw); go_simp; (try with_reducible rfl))
          (try simp only [Act.put, List.getElem_toArray, List.getElem_cons_succ, List.getElem_cons_zero, List.setIfInBounds_toArray, List.set_cons_zero, List.set_cons_succ])
          refine wpAnyH_take (i := 8) (v := ?_) rfl (by kernel_rfl) (by kernel_rfl) (by kernel_rfl) (fun _ _ _ h => h) (Or.inl ⟨by rfl, ?_⟩) (by assumption) ?_
          case refine_2 => (intro w hSw; (try dsimp only at hSw); go_simp; (try with_reducible rfl))
          (try simp only [Act.put, List.getElem_toArray, List.getElem_cons_succ, List.getElem_cons_zero, List.setIfInBounds_toArray, List.set_cons_zero, List.set_cons_succ])
          refine wpAnyH_take (i := 9) (v := ?_) rfl (by kernel_rfl) (by kernel_rfl) (by kernel_rfl) (fun _ _ _ h => h) (Or.inl ⟨by rfl, ?_⟩) (by assumption) ?_
          case refine_2 => (intro w hSw; (try dsimp only at hSw); go_simp; (try with_reducible rfl))
          (try simp only [Act.put, List.getElem_toArray, List.getElem_cons_succ, List.getElem_cons_zero, List.setIfInBounds_toArray, List.set_cons_zero, List.set_cons_succ])
          refine wpAnyH_ready (rs := [10]) (by kernel_rfl) (by simp) ?_
          refine AllReadyH.cons rfl (fun K hK => ?_) AllReadyH.nil
          go_simp
          refine hH.mono ?_
          rintro e v ⟨rfl, hv⟩
          obtain ⟨s1, hbv⟩ := HH.out v (by simpa using hv)
          have HB := hid hbv
          clear hH HH hv hbv
          refine hK.out _ _ s1 (fun hHeld => ?_)
          clear hK K
          refine wpAnyH_take (i := 11) (v := ?_) rfl (by kernel_rfl) (by kernel_rfl) (by kernel_rfl) (fun _ _ _ h => h) (Or.inl ⟨by rfl, ?_⟩) (by assumption) ?_
          case refine_2 => (intro w hSw; (try dsimp only at hSw); go_simp; (try with_reducible rfl))
          (try simp only [Act.put, List.getElem_toArray, List.getElem_cons_succ, List.getElem_cons_zero, List.setIfInBounds_toArray, List.set_cons_zero, List.set_cons_succ])
          refine wpAnyH_take (i := 12) (v := ?_) rfl (by kernel_rfl) (by kernel_rfl) (by kernel_rfl) (fun _ _ _ h => h) (Or.inl ⟨by rfl, ?_⟩) (by assumption) ?_
          case refine_2 => (intro w hSw; (try dsimp only at hSw); go_simp; (try with_reducible rfl))
          (try simp only [Act.put, List.getElem_toArray, List.getElem_cons_succ, List.getElem_cons_zero, List.setIfInBounds_toArray, List.set_cons_zero, List.set_cons_succ])
          refine wpAnyH_done (by kernel_rfl) ?_ _
          go_wp2_with fail
          go_roundw
          case rel => exact ⟨k + 1, by omega, by go_num, ⟨HN.out, HB.out⟩⟩
          case measure => simp [intOf]; omega
        | false =>
          rw [hr] at hH
          have htf : t = false := by
            cases t
            · rfl
            · have := canL_at (HT.out.1 rfl) hkl hset'
              rw [hr] at this
              cases this
          clear hc ho hbo hst hacts hbw HR hbd hset hr HT
          subst htf
          rw [hset'] at k1 hH HH
          generalize (V k).key = Kk at *
          generalize (V k).x = Kx at *
          generalize (V k).n = Kn at *
          generalize (V k).c = Kc at *
          go_wp2_with fail
          refine wp_region_held_drew (S := fun v => v.cell? ⟨wr.heap.size, 0, none⟩ = some (.string Kk) ∧ v.cell? ⟨wr.heap.size, 1, none⟩ = some (.bool false)) (by kernel_rfl) ⟨by simp, by simp⟩ (fun hHeld => ?_)
          refine wpAnyH_take (i := 0) (v := ?_) rfl (by kernel_rfl) (by kernel_rfl) (by kernel_rfl) (fun _ _ _ h => h) (Or.inl ⟨by rfl, ?_⟩) (by assumption) ?_
          case refine_2 => (intro w hSw; (try dsimp only at hSw); go_simp; (try with_reducible rfl))
          (try simp only [Act.put, List.getElem_toArray, List.getElem_cons_succ, List.getElem_cons_zero, List.setIfInBounds_toArray, List.set_cons_zero, List.set_cons_succ])
          refine wpAnyH_take (i := 1) (v := ?_) rfl (by kernel_rfl) (by kernel_rfl) (by kernel_rfl) (fun _ _ _ h => h) (Or.inl ⟨by rfl, ?_⟩) (by assumption) ?_
          case refine_2 => (intro w hSw; (try dsimp only at hSw); go_simp; (try with_reducible rfl))
          (try simp only [Act.put, List.getElem_toArray, List.getElem_cons_succ, List.getElem_cons_zero, List.setIfInBounds_toArray, List.set_cons_zero, List.set_cons_succ])
          refine wpAnyH_take (i := 2) (v := ?_) rfl (by kernel_rfl) (by kernel_rfl) (by kernel_rfl) (fun _ _ _ h => h) (Or.inl ⟨by rfl, ?_⟩) (by assumption) ?_
          case refine_2 => (intro w hSw; (try dsimp only at hSw); go_simp; (try with_reducible rfl))
          (try simp only [Act.put, List.getElem_toArray, List.getElem_cons_succ, List.getElem_cons_zero, List.setIfInBounds_toArray, List.set_cons_zero, List.set_cons_succ])
          refine wpAnyH_take (i := 3) (v := ?_) rfl (by kernel_rfl) (by kernel_rfl) (by kernel_rfl) (fun _ _ _ h => h) (Or.inl ⟨by rfl, ?_⟩) (by assumption) ?_
          case refine_2 => (intro w hSw; (try dsimp only at hSw); go_simp; (try with_reducible rfl))
          (try simp only [Act.put, List.getElem_toArray, List.getElem_cons_succ, List.getElem_cons_zero, List.setIfInBounds_toArray, List.set_cons_zero, List.set_cons_succ])
          refine wpAnyH_take (i := 4) (v := ?_) rfl (by kernel_rfl) (by kernel_rfl) (by kernel_rfl) (fun _ _ _ h => h) (Or.inl ⟨by rfl, ?_⟩) (by assumption) ?_
          case refine_2 => (intro w hSw; (try dsimp only at hSw); go_simp; (try with_reducible rfl))
          (try simp only [Act.put, List.getElem_toArray, List.getElem_cons_succ, List.getElem_cons_zero, List.setIfInBounds_toArray, List.set_cons_zero, List.set_cons_succ])
          refine wpAnyH_take (i := 5) (v := ?_) rfl (by kernel_rfl) (by kernel_rfl) (by kernel_rfl) (fun _ _ _ h => h) (Or.inl ⟨by rfl, ?_⟩) (by assumption) ?_
          case refine_2 => (intro w hSw; (try dsimp only at hSw); go_simp; (try with_reducible rfl))
          (try simp only [Act.put, List.getElem_toArray, List.getElem_cons_succ, List.getElem_cons_zero, List.setIfInBounds_toArray, List.set_cons_zero, List.set_cons_succ])
          refine wpAnyH_take (i := 6) (v := ?_) rfl (by kernel_rfl) (by kernel_rfl) (by kernel_rfl) (fun _ _ _ h => h) (Or.inl ⟨by rfl, ?_⟩) (by assumption) ?_
          case refine_2 => (intro w hSw; (try dsimp only at hSw); go_simp; (try with_reducible rfl))
          (try simp only [Act.put, List.getElem_toArray, List.getElem_cons_succ, List.getElem_cons_zero, List.setIfInBounds_toArray, List.set_cons_zero, List.set_cons_succ])
          refine wpAnyH_take (i := 7) (v := ?_) rfl (by kernel_rfl) (by kernel_rfl) (by kernel_rfl) (fun _ _ _ h => h) (Or.inl ⟨by rfl, ?_⟩) (by assumption) ?_
          case refine_2 => (intro w hSw; (try dsimp only at hSw); go_simp; (try with_reducible rfl))
          (try simp only [Act.put, List.getElem_toArray, List.getElem_cons_succ, List.getElem_cons_zero, List.setIfInBounds_toArray, List.set_cons_zero, List.set_cons_succ])
          refine wpAnyH_take (i := 8) (v := ?_) rfl (by kernel_rfl) (by kernel_rfl) (by kernel_rfl) (fun _ _ _ h => h) (Or.inl ⟨by rfl, ?_⟩) (by assumption) ?_
          case refine_2 => (intro w hSw; (try dsimp only at hSw); go_simp; (try with_reducible rfl))
          (try simp only [Act.put, List.getElem_toArray, List.getElem_cons_succ, List.getElem_cons_zero, List.setIfInBounds_toArray, List.set_cons_zero, List.set_cons_succ])
          refine wpAnyH_take (i := 9) (v := ?_) rfl (by kernel_rfl) (by kernel_rfl) (by kernel_rfl) (fun _ _ _ h => h) (Or.inl ⟨by rfl, ?_⟩) (by assumption) ?_
          case refine_2 => (intro w hSw; (try dsimp only at hSw); go_simp; (try with_reducible rfl))
          (try simp only [Act.put, List.getElem_toArray, List.getElem_cons_succ, List.getElem_cons_zero, List.setIfInBounds_toArray, List.set_cons_zero, List.set_cons_succ])
          refine wpAnyH_ready (rs := [10]) (by kernel_rfl) (by simp) ?_
          refine AllReadyH.cons rfl (fun K hK => ?_) AllReadyH.nil
          go_simp
          refine hH.mono ?_
          rintro e v ⟨rfl, hv⟩
          obtain ⟨s1, hbv⟩ := HH.out v (by simpa using hv)
          have HB := hid hbv
          clear hH HH hv hbv
          refine hK.out _ _ s1 (fun hHeld => ?_)
          clear hK K
          refine wpAnyH_take (i := 11) (v := ?_) rfl (by kernel_rfl) (by kernel_rfl) (by kernel_rfl) (fun _ _ _ h => h) (Or.inl ⟨by rfl, ?_⟩) (by assumption) ?_
          case refine_2 => (intro w hSw; (try dsimp only at hSw); go_simp; (try with_reducible rfl))
          (try simp only [Act.put, List.getElem_toArray, List.getElem_cons_succ, List.getElem_cons_zero, List.setIfInBounds_toArray, List.set_cons_zero, List.set_cons_succ])
          refine wpAnyH_take (i := 12) (v := ?_) rfl (by kernel_rfl) (by kernel_rfl) (by kernel_rfl) (fun _ _ _ h => h) (Or.inl ⟨by rfl, ?_⟩) (by assumption) ?_
          case refine_2 => (intro w hSw; (try dsimp only at hSw); go_simp; (try with_reducible rfl))
          (try simp only [Act.put, List.getElem_toArray, List.getElem_cons_succ, List.getElem_cons_zero, List.setIfInBounds_toArray, List.set_cons_zero, List.set_cons_succ])
          refine wpAnyH_done (by kernel_rfl) ?_ _
          go_wp2_with fail
          go_ret
          exact ⟨rfl, HB.out⟩
    · obtain rfl : k = len := by omega
      have htt : t = true := HT.out.2 (canL_of HR.out.1)
      subst htt
      go_wp2_with fail
      go_ret
      exact ⟨rfl, HR.out.2⟩

end Go.Proofs.YtbbjklenpgkooaaGreat

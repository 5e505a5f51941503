/-
  3 texts of this proof, one behind the other: StSameS, StRef, StRefEnc.
-/
import Derived.Test.YtbbjklenpgkooaaGreatJ15
import Derived.Test.YtbbjklenpgkooaaGreatJ13
import Derived.Test.YtbbjklenpgkooaaGreatJ16
import Derived.Deep.RegionHeld3
import Derived.Test.YtbbjklenpgkooaaGreatJ12
/-
  The statement's same: a store has just the keys of a list.
  Conditions: the store is one that Open gave ('StAt'), and the list tells what its map holds ('KM').
-/
namespace Go.Proofs.YtbbjklenpgkooaaGreat
open Go.RowKit Go.Shelf By Dk Wi St
variable [Inhabited PR] [∀ pre s : ByteArray, Decidable (Beg pre s)]
set_option linter.unusedSectionVars false
set_option linter.unusedVariables false
set_option linter.unusedSimpArgs false
set_option maxRecDepth 100000
attribute [local go_sem] Oper.semAt_some

theorem beg_size {pre s : ByteArray} (h : Beg pre s) : pre.size ≤ s.size := by
  have := congrArg List.length h
  rw [List.length_take, nat_length, nat_length] at this
  omega

theorem beg_beq (pre s : ByteArray) : ((s.extract 0 pre.size).toList == pre.toList) = decide (Beg pre s) := beq_nat _ _ _ (by rw [nat_extract, decide_eq_true_iff]; exact Iff.rfl)

def lastK (ys : List PR) : ByteArray := match ys.getLast? with
  | some p => p.key
  | none => ⟨#[]⟩

theorem lastK_snoc (ys : List PR) (p : PR) : lastK (ys ++ [p]) = p.key := by simp [lastK]

theorem lastK_mem {ys : List PR} (h : ys ≠ []) : ∃ q ∈ ys, lastK ys = q.key := by
  refine ⟨ys.getLast h, List.getLast_mem h, ?_⟩
  unfold lastK
  rw [List.getLast?_eq_some_getLast h]

theorem Sl.putObj {W : World} {x : Option Addr} {n c l : Nat} {k : List Nat} {r : Loop} (h : Sl W x n c k) (hl : W.heap[l]? = some (.loop r)) (o : Obj) : Sl (W.putObj l o) x n c k := by
  refine h.turns (put_turns o) (fun hn a ha e => ?_)
  rcases h.row with h0 | ⟨b, of, h1, h2, h3⟩
  · exact hn h0
  · rw [ha] at h1
    injection h1 with h1
    have := h3 0 (by omega)
    rw [h1] at e
    dsimp only at e
    rw [e] at this
    simp [World.cell?, hl] at this

theorem Turns.boxed {G : Nat → Prop} {A B : World} {k : Nat} {t : TypeId} {v : Value} (h : Turns G A B) (b : Boxed A k t v) (hk : ¬ G k) : Boxed B k t v := (h.block k (Array.getElem?_eq_some_iff.1 (show A.heap[k]? = _ from b)).1 hk).trans b

theorem below_boxed {B : Nat} {A C : World} {k : Nat} {t : TypeId} {v : Value} (h : Below B A C) (b : Boxed A k t v) (hk : k < B) : Boxed C k t v := (h.block k hk).trans b

theorem nodup_le {α : Type} [BEq α] [LawfulBEq α] : ∀ (l k : List α), l.Nodup → (∀ s ∈ l, s ∈ k) → l.length ≤ k.length
  | [], _, _, _ => Nat.zero_le _
  | a :: t, k, hn, hs => by
    obtain ⟨h1, h2⟩ := List.nodup_cons.1 hn
    have hak := hs a (by simp)
    have := nodup_le t (k.erase a) h2 (fun s hst => (List.mem_erase_of_ne (show s ≠ a from fun e => h1 (e ▸ hst))).2 (hs s (by simp [hst])))
    rw [List.length_erase_of_mem hak] at this
    have := List.length_pos_of_mem hak
    rw [List.length_cons]
    omega

def SI (M : KV) (W3 : World) (bk bl : Nat) (ys : List PR) (W : World) : Prop :=
  ((ys.map PR.key).Nodup ∧ ∀ q ∈ ys, (M q.key).isSome = true) ∧ Turns (fun j => j = bk ∨ j = bl) W3 W ∧ Boxed W bk 3 (.int .i64 (ys.length : Int)) ∧ Boxed W bl 9 (.string (lastK ys))

theorem SI.next {M : KV} {W3 W2 v2 : World} {bk bl : Nat} {ys : List PR} {x : PR} (h : SI M W3 bk bl ys W2) (hb : Below W2.heap.size W2 v2) (hne : bk ≠ bl) (h1 : ∀ q ∈ ys, lessN (nat q.key) (nat x.key) = true) (h2 : (M x.key).isSome = true) :
    SI M W3 bk bl (ys ++ [x]) ((v2.setCell ⟨bl, 0, none⟩ (.string x.key)).setCell ⟨bk, 0, none⟩ (.int .i64 ((ys.length + 1 : Nat) : Int))) ∧ Turns (fun j => j = bk ∨ j = bl) W2 ((v2.setCell ⟨bl, 0, none⟩ (.string x.key)).setCell ⟨bk, 0, none⟩ (.int .i64 ((ys.length + 1 : Nat) : Int))) := by
  obtain ⟨i0, i1, i2, i3⟩ := h
  have T : Turns (fun j => j = bk ∨ j = bl) W2 ((v2.setCell ⟨bl, 0, none⟩ (.string x.key)).setCell ⟨bk, 0, none⟩ (.int .i64 ((ys.length + 1 : Nat) : Int))) := ((Turns.of_below hb).setCell (p := ⟨bl, 0, none⟩) (.inl (.inr rfl)) _).setCell (p := ⟨bk, 0, none⟩) (.inl (.inl rfl)) _
  have b2 := below_boxed hb i2 i2.lt
  have b3 := below_boxed hb i3 i3.lt
  refine ⟨⟨⟨?_, fun q hq => ?_⟩, i1.trans T, ?_, ?_⟩, T⟩
  · rw [List.map_append]
    refine List.nodup_append.2 ⟨i0.1, by simp, fun s hs t ht e => ?_⟩
    simp at ht
    subst ht
    obtain ⟨q, hq, e2⟩ := List.mem_map.1 hs
    have := h1 q hq
    rw [e2, e, less_irrefl] at this
    cases this
  · rcases List.mem_append.1 hq with hq | hq
    · exact i0.2 q hq
    · simp at hq
      subst hq
      exact h2
  · rw [List.length_append]
    exact (b2.other hne _).set _
  · rw [lastK_snoc]
    exact (b3.set _).other (Ne.symm hne) _

theorem SI.few {M : KV} {W3 W : World} {bk bl : Nat} {ys : List PR} {V : Nat → AV} {len : Nat} (h : SI M W3 bk bl ys W) (hK : KM V len M) : ys.length ≤ len := by
  have h1 := nodup_le (ys.map fun q => nat q.key) ((keysOf V len).map nat) (by
    have := h.1.1
    rw [List.Nodup, List.pairwise_map] at this ⊢
    exact this.imp fun hne e => hne (nat_inj e)) (fun s hs => by
    obtain ⟨q, hq, rfl⟩ := List.mem_map.1 hs
    exact List.mem_map.2 ⟨q.key, (hK.mem q.key).2 (h.1.2 q hq), rfl⟩)
  simpa [keysOf] using h1

set_option maxHeartbeats 4000000 in
theorem ssame_any {w : World} {sp jp mb nb : Nat} {D : DataW Value} {M : KV} {U : Nat → Prop} (h : StAt w sp jp mb nb D M U) (hnb : nb ≤ 1000000000) (a : Option Addr) (len cap : Nat) (V : Nat → AV) (hA : ActsAt w a len V) (hlen : len ≤ 1000000000) (hK : KM V len M) (pre : ByteArray) (hpre : pre.size ≤ 140737488351232) :
    Calls Tryz.prog 13 #[.pointer (some ⟨sp, 0, none⟩), .slice a len cap, .string pre] w fun e w' => e = .returned (.bool true) ∧ Below w.heap.size w w' := by
  obtain ⟨W0, hW0⟩ : ∃ W0, (((w.alloc (.cells #[.pointer (some ⟨sp, 0, none⟩)] 34)).alloc (.cells #[.string pre] 9)).alloc (.cells #[.bool false] 4)).alloc (.cells #[.int .i64 0] 3) = W0 := ⟨_, rfl⟩
  have bS := (((Boxed.new w 34 (.pointer (some ⟨sp, 0, none⟩))).alloc (.cells #[.string pre] 9)).alloc (.cells #[.bool false] 4)).alloc (.cells #[.int .i64 0] 3)
  have bP := ((Boxed.new (w.alloc (.cells #[.pointer (some ⟨sp, 0, none⟩)] 34)) 9 (.string pre)).alloc (.cells #[.bool false] 4)).alloc (.cells #[.int .i64 0] 3)
  have bR := (Boxed.new ((w.alloc (.cells #[.pointer (some ⟨sp, 0, none⟩)] 34)).alloc (.cells #[.string pre] 9)) 4 (.bool false)).alloc (.cells #[.int .i64 0] 3)
  have bN := Boxed.new (((w.alloc (.cells #[.pointer (some ⟨sp, 0, none⟩)] 34)).alloc (.cells #[.string pre] 9)).alloc (.cells #[.bool false] 4)) 3 (.int .i64 0)
  simp only [World.size_alloc] at bP bR bN
  have hB0 : Below w.heap.size w W0 := by
    rw [← hW0]
    exact ((((Below.refl _ w).alloc (Nat.le_refl _) _).alloc (by simp) _).alloc (by simp; omega) _).alloc (by simp; omega) _
  have hz0 : W0.heap.size = w.heap.size + 4 := by
    rw [← hW0]
    simp
  rw [hW0] at bS bP bR bN
  have HW := hid hW0
  clear hW0
  have hcB := cntB_le pre V
  have HST := hid h
  have HAA := hid hA
  have HKM := hid hK
  clear h hA hK
  refine (callsIn_wide (n := 5)).1 ?_
  refine callsIn_of_wp_marks Tryz.func13 rfl trivial ?_ rfl
  refine wpIn_wide.2 ?_
  simp only [Tryz.ntmps13, List.size_toArray, List.length_cons, List.length_nil, Nat.reduceAdd, Nat.reduceSub, Array.replicate_succ, Array.replicate_zero, List.push_toArray, List.append_toArray, List.nil_append, List.cons_append]
  go_wp2_with fail
  rw [HW.out]
  clear HW
  go_loopw [7, 9] (fun t i wr => ∃ k : Nat, k ≤ len ∧ t = .int .i64 (cntB pre V k : Int) ∧ i = .int .i64 k ∧ Hid (Below W0.heap.size W0 wr)) (fun _ i _ => len - (intOf i).toNat)
  case atStart => exact ⟨0, Nat.zero_le _, rfl, rfl, Below.refl _ _⟩
  case round =>
    obtain ⟨k, hk, rfl, rfl, HR⟩ := hrel
    by_cases hkl : k < len
    · have hkl' : (k : Int) < (len : Int) := by omega
      rcases HAA.out.row with h0 | ⟨b, o, rfl, hbl, hc⟩
      · omega
      obtain ⟨f0, f1, f2⟩ := hc k hkl
      have hbw : Below w.heap.size w wr := hB0.trans (HR.out.mono hB0.size)
      have k0 := (hbw.cell (p := ⟨b, o + k * 3, none⟩) hbl).trans f0
      have k2 := (hbw.cell (p := ⟨b, o + k * 3 + 2, none⟩) hbl).trans f2
      have hact := HAA.out.act k hkl
      have hat := HKM.out.at_ k hkl
      have s3 : wr.cell? ⟨w.heap.size, 0, none⟩ = some (.pointer (some ⟨sp, 0, none⟩)) := (HR.out.cell (p := ⟨w.heap.size, 0, none⟩) (by show w.heap.size < W0.heap.size; omega)).trans bS.cell
      have hG : ∀ v, Below wr.heap.size wr v → Calls Tryz.prog 21 #[.pointer (some ⟨sp, 0, none⟩), .string (V k).key] v fun e v2 => ∃ y n c, e = .returned (.tuple #[.slice y n c, .bool true]) ∧ v2.cell? ⟨b, o + k * 3, none⟩ = some (.string (V k).key) ∧ v2.cell? ⟨b, o + k * 3 + 2, none⟩ = some (.slice (V k).x (V k).n (V k).c) ∧ v2.cell? ⟨w.heap.size, 0, none⟩ = some (.pointer (some ⟨sp, 0, none⟩)) ∧ v2.cell? ⟨w.heap.size + 1, 0, none⟩ = some (.string pre) ∧
          (∀ q, (convert 22 9 (.slice y n c)).run Tryz.prog (v2.drewN q) = .ok (.string (str (V k).d)) (v2.drewN q)) ∧ (∀ q, (convert 22 9 (.slice (V k).x (V k).n (V k).c)).run Tryz.prog (v2.drewN q) = .ok (.string (str (V k).d)) (v2.drewN q)) ∧ Hid (Below W0.heap.size W0 v2) := fun v hv => by
        have hbv : Below w.heap.size w v := hbw.trans (hv.mono hbw.size)
        refine (get_any (HST.out.below hbv) (V k).key (by have := hact.ks; omega)).mono fun e v2 ⟨y, n, c, e1, e2, _, e4⟩ => ?_
        obtain ⟨e5, _⟩ := e4 _ hat
        have hb2 : Below wr.heap.size wr v2 := hv.trans (e2.mono hv.size)
        have hbw2 : Below w.heap.size w v2 := hbv.trans (e2.mono hbv.size)
        have hb02 : Below W0.heap.size W0 v2 := HR.out.trans (hb2.mono HR.out.size)
        rw [hat] at e1
        exact ⟨y, n, c, e1, (hbw2.cell (p := ⟨b, o + k * 3, none⟩) hbl).trans f0, (hbw2.cell (p := ⟨b, o + k * 3 + 2, none⟩) hbl).trans f2, (hb02.cell (p := ⟨w.heap.size, 0, none⟩) (by show w.heap.size < W0.heap.size; omega)).trans bS.cell, (hb02.cell (p := ⟨w.heap.size + 1, 0, none⟩) (by show w.heap.size + 1 < W0.heap.size; omega)).trans bP.cell, fun q => conv_sl (e5.heap rfl), fun q => conv_sl ((hact.sl.below hbw2).heap rfl), hb02⟩
      have hG1 := hG wr.drew ((Below.refl _ _).drew)
      have hks := hact.ks
      have hbq := beg_beq pre (V k).key
      have hsz := fun hb : Beg pre (V k).key => beg_size hb
      have hcs := cntB_succ pre V k
      have hck := hcB k
      clear hc f0 f1 f2 hbw hact hat hG HR HAA HKM HST
      generalize str (V k).d = Sd at *
      generalize (V k).key = Kk at *
      generalize (V k).x = Kx at *
      generalize (V k).n = Kn at *
      generalize (V k).c = Kc at *
      go_wp2_with fail
      refine wp_region_noPanic ?_
      refine wp_region_held_drew (S := fun v => v.cell? ⟨w.heap.size, 0, none⟩ = some (.pointer (some ⟨sp, 0, none⟩)) ∧ v.cell? ⟨b, o + k * 3, none⟩ = some (.string Kk)) (by kernel_rfl) ⟨s3, k0⟩ (fun hHeld => ?_)
      refine wpAnyH_take (i := 0) (v := ?_) rfl (by kernel_rfl) (by kernel_rfl) (by kernel_rfl) (fun _ _ _ h => h) (Or.inl ⟨by rfl, ?_⟩) (by assumption) ?_
      case refine_2 => (intro w hSw; (try dsimp only at hSw); go_simp; (try with_reducible rfl))
      (try simp only [Act.put, List.getElem_toArray, List.getElem_cons_succ, List.getElem_cons_zero, List.setIfInBounds_toArray, List.set_cons_zero, List.set_cons_succ])
      refine wpAnyH_take (i := 1) (v := ?_) rfl (by kernel_rfl) (by kernel_rfl) (by kernel_rfl) (fun _ _ _ h => h) (Or.inl ⟨by rfl, ?_⟩) (by assumption) ?_
      case refine_2 => (intro w hSw; (try dsimp only at hSw); go_simp; (try with_reducible rfl))
      (try simp only [Act.put, List.getElem_toArray, List.getElem_cons_succ, List.getElem_cons_zero, List.setIfInBounds_toArray, List.set_cons_zero, List.set_cons_succ])
      refine wpAnyH_take (i := 2) (v := ?_) rfl (by kernel_rfl) (by kernel_rfl) (by kernel_rfl) (fun _ _ _ h => h) (Or.inl ⟨by rfl, ?_⟩) (by assumption) ?_
      case refine_2 => (intro w hSw; (try dsimp only at hSw); go_simp; (try with_reducible rfl))
      (try simp only [Act.put, List.getElem_toArray, List.getElem_cons_succ, List.getElem_cons_zero, List.setIfInBounds_toArray, List.set_cons_zero, List.set_cons_succ])
      refine wpAnyH_take (i := 3) (v := ?_) rfl (by kernel_rfl) (by kernel_rfl) (by kernel_rfl) (fun _ _ _ h => h) (Or.inl ⟨by rfl, ?_⟩) (by assumption) ?_
      case refine_2 => (intro w hSw; (try dsimp only at hSw); go_simp; (try with_reducible rfl))
      (try simp only [Act.put, List.getElem_toArray, List.getElem_cons_succ, List.getElem_cons_zero, List.setIfInBounds_toArray, List.set_cons_zero, List.set_cons_succ])
      refine wpAnyH_take (i := 4) (v := ?_) rfl (by kernel_rfl) (by kernel_rfl) (by kernel_rfl) (fun _ _ _ h => h) (Or.inl ⟨by rfl, ?_⟩) (by assumption) ?_
      case refine_2 => (intro w hSw; (try dsimp only at hSw); go_simp; (try with_reducible rfl))
      (try simp only [Act.put, List.getElem_toArray, List.getElem_cons_succ, List.getElem_cons_zero, List.setIfInBounds_toArray, List.set_cons_zero, List.set_cons_succ])
      refine wpAnyH_take (i := 5) (v := ?_) rfl (by kernel_rfl) (by kernel_rfl) (by kernel_rfl) (fun _ _ _ h => h) (Or.inl ⟨by rfl, ?_⟩) (by assumption) ?_
      case refine_2 => (intro w hSw; (try dsimp only at hSw); go_simp; (try with_reducible rfl))
      (try simp only [Act.put, List.getElem_toArray, List.getElem_cons_succ, List.getElem_cons_zero, List.setIfInBounds_toArray, List.set_cons_zero, List.set_cons_succ])
      refine wpAnyH_ready (rs := [6]) (by kernel_rfl) (by simp) ?_
      refine AllReadyH.cons rfl (fun K hK => ?_) AllReadyH.nil
      go_simp
      refine hG1.mono ?_
      rintro e v2 ⟨y, n, c, rfl, g0, g2, g3, g4, cv1, cv2, HB⟩
      clear hG1
      refine hK.out _ _ ⟨g3, g0⟩ (fun hHeld => ?_)
      clear hK K
      refine wpAnyH_take (i := 7) (v := ?_) rfl (by kernel_rfl) (by kernel_rfl) (by kernel_rfl) (fun _ _ _ h => h) (Or.inl ⟨by rfl, ?_⟩) (by assumption) ?_
      case refine_2 => (intro w hSw; (try dsimp only at hSw); go_simp; (try with_reducible rfl))
      (try simp only [Act.put, List.getElem_toArray, List.getElem_cons_succ, List.getElem_cons_zero, List.setIfInBounds_toArray, List.set_cons_zero, List.set_cons_succ])
      refine wpAnyH_take (i := 8) (v := ?_) rfl (by kernel_rfl) (by kernel_rfl) (by kernel_rfl) (fun _ _ _ h => h) (Or.inl ⟨by rfl, ?_⟩) (by assumption) ?_
      case refine_2 => (intro w hSw; (try dsimp only at hSw); go_simp; (try with_reducible rfl))
      (try simp only [Act.put, List.getElem_toArray, List.getElem_cons_succ, List.getElem_cons_zero, List.setIfInBounds_toArray, List.set_cons_zero, List.set_cons_succ])
      refine wpAnyH_take (i := 9) (v := ?_) rfl (by kernel_rfl) (by kernel_rfl) (by kernel_rfl) (fun _ _ _ h => h) (Or.inl ⟨by rfl, ?_⟩) (by assumption) ?_
      case refine_2 => (intro w hSw; (try dsimp only at hSw); go_simp; (try with_reducible rfl))
      (try simp only [Act.put, List.getElem_toArray, List.getElem_cons_succ, List.getElem_cons_zero, List.setIfInBounds_toArray, List.set_cons_zero, List.set_cons_succ])
      refine wpAnyH_take (i := 10) (v := ?_) rfl (by kernel_rfl) (by kernel_rfl) (by kernel_rfl) (fun _ _ _ h => h) (Or.inl ⟨by rfl, ?_⟩) (by assumption) ?_
      case refine_2 => (intro w hSw; (try dsimp only at hSw); go_simp; (try with_reducible rfl))
      (try simp only [Act.put, List.getElem_toArray, List.getElem_cons_succ, List.getElem_cons_zero, List.setIfInBounds_toArray, List.set_cons_zero, List.set_cons_succ])
      refine wpAnyH_take (i := 11) (v := ?_) rfl (by kernel_rfl) (by kernel_rfl) (by kernel_rfl) (fun _ _ _ h => h) (Or.inl ⟨by rfl, ?_⟩) (by assumption) ?_
      case refine_2 => (intro w hSw; (try dsimp only at hSw); go_simp; (try with_reducible rfl))
      (try simp only [Act.put, List.getElem_toArray, List.getElem_cons_succ, List.getElem_cons_zero, List.setIfInBounds_toArray, List.set_cons_zero, List.set_cons_succ])
      refine wpAnyH_done (by kernel_rfl) ?_ _
      refine NoPanic.normal ?_
      clear s3 k0 k2
      go_wp2_with fail
      go_quiet (fail)
      go_wp2_with fail
      have HCS := hid hcs
      have HBB : Hid (∀ q, Below W0.heap.size W0 (v2.drewN q)) := fun q => below_drewN' HB.out q
      clear hcs HB cv1 cv2
      generalize cntB pre V k = cN at *
      by_cases hp : pre.size ≤ Kk.size
      · have hp' : (pre.size : Int) ≤ (Kk.size : Int) := by omega
        by_cases hb : Beg pre Kk
        · rw [decide_eq_true hb] at hbq
          have hcs : cntB pre V (k + 1) = cN + 1 := by rw [HCS.out, if_pos hb]
          have HC2 := hid hcs
          clear hcs HCS hb hsz hcB
          go_quiet (fail)
          go_wp2_with fail
          go_roundw
          case rel => exact ⟨k + 1, by omega, by rw [HC2.out]; go_num, by go_num, HBB.out _⟩
          case measure => simp [intOf]; omega
        · rw [decide_eq_false hb] at hbq
          have hcs : cntB pre V (k + 1) = cN := by rw [HCS.out, if_neg hb]; rfl
          have HC2 := hid hcs
          clear hcs HCS hb hsz hcB
          go_quiet (fail)
          go_wp2_with fail
          go_roundw
          case rel => exact ⟨k + 1, by omega, by rw [HC2.out], by go_num, HBB.out _⟩
          case measure => simp [intOf]; omega
      · have hb : ¬ Beg pre Kk := fun hb => hp (hsz hb)
        have hp' : ¬ (pre.size : Int) ≤ (Kk.size : Int) := by omega
        have hcs : cntB pre V (k + 1) = cN := by rw [HCS.out, if_neg hb]; rfl
        have HC2 := hid hcs
        clear hcs HCS hb hsz hcB hbq
        go_quiet (fail)
        go_wp2_with fail
        go_roundw
        case rel => exact ⟨k + 1, by omega, by rw [HC2.out], by go_num, HBB.out _⟩
        case measure => simp [intOf]; omega
    · obtain rfl : k = len := by omega
      have hbw : Below w.heap.size w wr := hB0.trans (HR.out.mono hB0.size)
      have s3 : wr.cell? ⟨w.heap.size, 0, none⟩ = some (.pointer (some ⟨sp, 0, none⟩)) := (HR.out.cell (p := ⟨w.heap.size, 0, none⟩) (by show w.heap.size < W0.heap.size; omega)).trans bS.cell
      have s5 : wr.cell? ⟨w.heap.size + 1, 0, none⟩ = some (.string pre) := (HR.out.cell (p := ⟨w.heap.size + 1, 0, none⟩) (by show w.heap.size + 1 < W0.heap.size; omega)).trans bP.cell
      have hb9 : Below wr.heap.size wr (wr.alloc (.cells #[.string ⟨#[]⟩] 9)) := (Below.refl _ _).alloc (Nat.le_refl _) _
      have s3' := (hb9.cell (p := ⟨w.heap.size, 0, none⟩) (cell_lt' s3)).trans s3
      have s5' := (hb9.cell (p := ⟨w.heap.size + 1, 0, none⟩) (cell_lt' s5)).trans s5
      have hM := all_make (some ⟨sp, 0, none⟩) pre (wr.alloc (.cells #[.string ⟨#[]⟩] 9))
      have hlt0 : w.heap.size + 4 ≤ wr.heap.size := by have := HR.out.size; omega
      generalize hcN : cntB pre V k = cN at *
      go_wp2_with (go_at_call 22; refine hM.mono ?_; rintro e w' ⟨rfl, rfl⟩; clear hM)
      have bK3 := (((below_boxed HR.out bN (by omega)).alloc (.cells #[.string ⟨#[]⟩] 9)).alloc (.cells #[.pointer (some ⟨sp, 0, none⟩)] 34)).alloc (.cells #[.string pre] 9)
      have bR3 := (((below_boxed HR.out bR (by omega)).alloc (.cells #[.string ⟨#[]⟩] 9)).alloc (.cells #[.pointer (some ⟨sp, 0, none⟩)] 34)).alloc (.cells #[.string pre] 9)
      have bP3 := (((below_boxed HR.out bP (by omega)).alloc (.cells #[.string ⟨#[]⟩] 9)).alloc (.cells #[.pointer (some ⟨sp, 0, none⟩)] 34)).alloc (.cells #[.string pre] 9)
      have bS3 := (((below_boxed HR.out bS (by omega)).alloc (.cells #[.string ⟨#[]⟩] 9)).alloc (.cells #[.pointer (some ⟨sp, 0, none⟩)] 34)).alloc (.cells #[.string pre] 9)
      have bL3 := ((Boxed.new wr 9 (.string ⟨#[]⟩)).alloc (.cells #[.pointer (some ⟨sp, 0, none⟩)] 34)).alloc (.cells #[.string pre] 9)
      have bA3 := (Boxed.new (wr.alloc (.cells #[.string ⟨#[]⟩] 9)) 34 (.pointer (some ⟨sp, 0, none⟩))).alloc (.cells #[.string pre] 9)
      have bB3 := Boxed.new ((wr.alloc (.cells #[.string ⟨#[]⟩] 9)).alloc (.cells #[.pointer (some ⟨sp, 0, none⟩)] 34)) 9 (.string pre)
      simp only [World.size_alloc] at bA3 bB3
      have hB3 : Below wr.heap.size wr (((wr.alloc (.cells #[.string ⟨#[]⟩] 9)).alloc (.cells #[.pointer (some ⟨sp, 0, none⟩)] 34)).alloc (.cells #[.string pre] 9)) := (((Below.refl _ wr).alloc (Nat.le_refl _) _).alloc (by simp) _).alloc (by simp; omega) _
      have hz3 : (((wr.alloc (.cells #[.string ⟨#[]⟩] 9)).alloc (.cells #[.pointer (some ⟨sp, 0, none⟩)] 34)).alloc (.cells #[.string pre] 9)).heap.size = wr.heap.size + 3 := by simp
      obtain ⟨W3, hW3⟩ : ∃ W3, ((wr.alloc (.cells #[.string ⟨#[]⟩] 9)).alloc (.cells #[.pointer (some ⟨sp, 0, none⟩)] 34)).alloc (.cells #[.string pre] 9) = W3 := ⟨_, rfl⟩
      rw [hW3] at bK3 bR3 bP3 bS3 bL3 bA3 bB3 hB3 hz3 ⊢
      clear hW3 s3 s5 s3' s5' hb9
      have hbw3 : Below w.heap.size w W3 := hbw.trans (hB3.mono hbw.size)
      have hst3 : StAt W3 sp jp mb nb D M (fun j => w.heap.size ≤ j) := StAt.below ⟨HST.out.obj, HST.out.map.weak (fun j hj hU => by omega), HST.out.ne⟩ hbw3
      have hGb : ∀ j, (j = w.heap.size + 1 + 1 + 1 ∨ j = wr.heap.size) → j < W3.heap.size := fun j hj => by omega
      have hspl : sp < w.heap.size := cell_lt' HST.out.c0
      have hmbl : mb < w.heap.size := HST.out.map.lt
      refine (wpIn_wide (n := 5)).1 ?_
      refine range_all (gf := 48) (encs := encQ) (Ok := OkQ M pre) (S := SQ M pre) (Gb := fun j => j = w.heap.size + 1 + 1 + 1 ∨ j = wr.heap.size) (lb := #[.pointer (some ⟨wr.heap.size + 1, 0, none⟩), .pointer (some ⟨wr.heap.size + 1 + 1, 0, none⟩)]) (by omega) rfl (enters_of Tryz.func48 (by kernel_rfl) rfl)
        (all1_gives hst3 pre hnb (wr.heap.size + 1) (wr.heap.size + 1 + 1) bA3.cell bB3.cell _ hGb (fun j hj => by show w.heap.size ≤ j; omega) (fun j hj => by show w.heap.size ≤ j; omega) _ (by omega)) hGb (fun _ => rfl)
        (fun ys x W l r o ⟨o1, o2, o3, o4, lv, o5, o6⟩ hl => ⟨o1, o2, o3, o4, lv, o5, o6.putObj hl o⟩)
        (SI M W3 (w.heap.size + 1 + 1 + 1) wr.heap.size)
        (fun ys A B ⟨i0, i1, i2, i3⟩ hz hb => ⟨i0, ⟨hb.os.trans i1.os, hb.tape.trans i1.tape, hb.output.trans i1.output, Nat.le_trans i1.size hb.size, fun j hj hg => (hb.block j hj).trans (i1.block j hj hg)⟩, (hb.block _ (by omega)).trans i2, (hb.block _ (by omega)).trans i3⟩)
        ⟨⟨List.nodup_nil, by simp⟩, Turns.refl _ _, bK3, bL3⟩ ?round ?done
      case round =>
        rintro l ys x W W2 hl hz hSI ⟨o1, o2, o3, o4, lv, o5, o6⟩
        obtain ⟨i0, i1, i2, i3⟩ := hSI
        unfold encQ
        gi_wp2
        refine ⟨trivial, ?_⟩
        have hst2 := hst3.turns i1 (by omega) (by omega) (fun j _ hj => by show w.heap.size ≤ j; omega)
        have c3 := (i1.boxed bS3 (by omega)).cell
        have hG : Calls Tryz.prog 21 #[.pointer (some ⟨sp, 0, none⟩), .string x.key] W2 fun e v2 => ∃ y n c, e = .returned (.tuple #[.slice y n c, .bool true]) ∧ v2.cell? ⟨w.heap.size + 1, 0, none⟩ = some (.string pre) ∧ v2.cell? ⟨w.heap.size + 1 + 1 + 1, 0, none⟩ = some (.int .i64 (ys.length : Int)) ∧ v2.cell? ⟨wr.heap.size, 0, none⟩ = some (.string (lastK ys)) ∧
            (∀ q, (convert 22 9 (.slice x.x x.n x.c)).run Tryz.prog (v2.drewN q) = .ok (.string (str lv)) (v2.drewN q)) ∧ (∀ q, (convert 22 9 (.slice y n c)).run Tryz.prog (v2.drewN q) = .ok (.string (str lv)) (v2.drewN q)) ∧ v2.frozen? ⟨w.heap.size + 1 + 1 + 1, 0, none⟩ = false ∧ v2.frozen? ⟨wr.heap.size, 0, none⟩ = false ∧ Hid (Below W2.heap.size W2 v2) := by
          refine (get_any hst2 x.key (by omega)).mono fun e v2 ⟨y, n, c, e1, e2, _, e4⟩ => ?_
          rw [o5] at e1
          obtain ⟨e5, _⟩ := e4 _ o5
          have b1 := below_boxed e2 (i1.boxed bP3 (by omega)) (by omega)
          have b2 := below_boxed e2 i2 (by omega)
          have b3 := below_boxed e2 i3 (by omega)
          exact ⟨y, n, c, e1, b1.cell, b2.cell, b3.cell, fun q => conv_sl ((o6.below e2).heap rfl), fun q => conv_sl (e5.heap rfl), b2.frozen, b3.frozen, e2⟩
        have hsz := beg_size o2
        have hbq := beg_beq pre x.key
        rw [decide_eq_true o2] at hbq
        have hSI2 : SI M W3 (w.heap.size + 1 + 1 + 1) wr.heap.size ys W2 := ⟨i0, i1, i2, i3⟩
        have hlen2 : ys.length ≤ 1000000000 := Nat.le_trans (hSI2.few HKM.out) hlen
        have HN : Hid (∀ v, Below W2.heap.size W2 v → SI M W3 (w.heap.size + 1 + 1 + 1) wr.heap.size (ys ++ [x]) ((v.setCell ⟨wr.heap.size, 0, none⟩ (.string x.key)).setCell ⟨w.heap.size + 1 + 1 + 1, 0, none⟩ (.int .i64 ((ys.length + 1 : Nat) : Int))) ∧ Turns (fun j => j = w.heap.size + 1 + 1 + 1 ∨ j = wr.heap.size) W2 ((v.setCell ⟨wr.heap.size, 0, none⟩ (.string x.key)).setCell ⟨w.heap.size + 1 + 1 + 1, 0, none⟩ (.int .i64 ((ys.length + 1 : Nat) : Int)))) :=
          fun v hv => hSI2.next hv (by omega) o1 (by rw [o5]; rfl)
        have hless : ys ≠ [] → Op.bytesLess x.key.toList (lastK ys).toList = false ∧ (x.key.toList == (lastK ys).toList) = false := fun hne => by
          obtain ⟨q, hq, e⟩ := lastK_mem hne
          have h7 := o1 q hq
          rw [less_nat, e]
          refine ⟨less_asym _ _ h7, beq_diff fun e2 => ?_⟩
          rw [e2, less_irrefl] at h7
          cases h7
        clear hSI2 i0 i1 i2 i3 o1 o5 o6 hst2
        gi_wp2
        refine ⟨trivial, (callsIn_wide.2 hG).mono ?_⟩
        rintro e v2 ⟨y, n, c, rfl, g5, g8, g12, cv1, cv2, fr1, fr2, HB⟩
        clear hG
        gi_wp2
        have HF : Hid (∀ q, Below W2.heap.size W2 (v2.drewN q)) := fun q => below_drewN' HB.out q
        by_cases hy0 : ys = []
        · subst hy0
          simp only [List.length_nil] at g8
          refine wpIn_round_quiet_lit (by kernel_rfl) (by kernel_rfl) (by kernel_rfl) ?_
          repeat (quiet_step_in (fail))
          refine wpQuietIn_nil ?_
          intro w9 hw9
          obtain ⟨nq, hw10⟩ := hw9
          subst hw10
          gi_wp2
          obtain ⟨n1, n2⟩ := HN.out _ (HF.out nq)
          exact ⟨n1, n2⟩
        · obtain ⟨hl0, hl1⟩ := hless hy0
          have hpos0 := List.length_pos_iff.2 hy0
          clear hy0 hless
          generalize ys.length = yl at *
          generalize lastK ys = lk at *
          have hpos : (0 : Int) < (yl : Int) := by omega
          refine wpIn_round_quiet_lit (by kernel_rfl) (by kernel_rfl) (by kernel_rfl) ?_
          repeat (quiet_step_in (fail))
          refine wpQuietIn_nil ?_
          intro w9 hw9
          obtain ⟨nq, hw10⟩ := hw9
          subst hw10
          gi_wp2
          obtain ⟨n1, n2⟩ := HN.out _ (HF.out nq)
          exact ⟨n1, n2⟩
      case done =>
        rintro D' ys W hD hz hS hSI hK'
        have hcnt := HKM.out.count hS
        obtain ⟨i0, i1, i2, i3⟩ := hSI
        rw [hcnt, hcN] at i2
        have hstW := hst3.turns i1 (by omega) (by omega) (fun j _ hj => by show w.heap.size ≤ j; omega)
        have hL := len_any hstW
        rw [HKM.out.size hstW.map] at hL
        have c3 := (i1.boxed bS3 (by omega)).cell
        have c8 := i2.cell
        have bRW := i1.boxed bR3 (by omega)
        have c6 := bRW.cell
        have f6 := bRW.frozen
        have hbW : Below w.heap.size w W := hbw3.trans (i1.below (fun j hj => by omega) hbw3.size)
        have HF := hid (And.intro hbW (And.intro bRW hK'))
        clear hcnt i0 i1 i2 i3 hstW hS hbW bRW hK' bK3 bR3 bP3 bS3 bL3 bA3 bB3 hB3 hst3
        go_wp2_with (go_at_call 37; refine hL.mono ?_; rintro e w' ⟨rfl, hw⟩; subst w'; clear hL)
        obtain ⟨z1, z2, z3⟩ := HF.out
        have hK9 := (KeepsOthers.setCell W ⟨w.heap.size + 1 + 1, 0, none⟩ (.bool true)).same D' _ z3 rfl
        refine ⟨by simp, .inl ⟨_, _, rfl, run_takeDeferred hK9, ?_⟩⟩
        have hc5 := cell_kept ((z2.set (.bool true)).cell) (grownBy_putObj' _ D' (.deferred none)) (fun r e => by cases e; exact ⟨_, hK9, rfl⟩)
        refine ⟨.bool true, ?_, rfl, (z1.setCell (p := ⟨w.heap.size + 1 + 1, 0, none⟩) (by show w.heap.size ≤ w.heap.size + 1 + 1; omega) _).trans (belowK_b (w := w) (Nat.le_refl _) _ D' _ _ (by omega) hK9 rfl rfl)⟩
        rw [results_cell rfl]
        go_simp

end Go.Proofs.YtbbjklenpgkooaaGreat

/-
  The document's may, Encode and Same of package store.
  Conditions: the acts lie in memory.
-/
namespace Go.Proofs.YtbbjklenpgkooaaGreat
open Go.RowKit By Dk Wi St
variable [Inhabited PR] [∀ pre s : ByteArray, Decidable (Beg pre s)]
set_option linter.unusedSectionVars false
set_option linter.unusedVariables false
set_option linter.unusedSimpArgs false
set_option maxRecDepth 100000

theorem may_any (k : ByteArray) (s : Bool) (x : Option Addr) (n c : Nat) (w : World) (t : Bool) (ht : t = true ↔ (1 ≤ k.size ∧ k.size ≤ 64) ∧ n ≤ (if s = true then 4096 else 0)) (hk : k.size ≤ 140737488351232) (hn : n ≤ 140737488351232) :
    Calls Tryz.prog 38 #[.agg #[.string k, .bool s, .slice x n c]] w fun e w' => e = .returned (.bool t) ∧ Below w.heap.size w w' := by
  have hb : Below w.heap.size w (w.alloc (.cells #[.string k, .bool s, .slice x n c] 54)) := (Below.refl _ _).alloc (Nat.le_refl _) _
  have HB := hid hb
  clear hb
  cases s with
  | true =>
    rw [if_pos rfl] at ht
    by_cases h1 : 1 ≤ k.size
    · by_cases h2 : k.size ≤ 64
      · by_cases h3 : n ≤ 4096
        · obtain rfl : t = true := ht.2 ⟨⟨h1, h2⟩, h3⟩
          have q1 : (1 : Int) ≤ (k.size : Int) := by omega
          have q2 : (k.size : Int) ≤ 64 := by omega
          have q3 : (n : Int) ≤ 4096 := by omega
          clear ht h1 h2 h3
          go_enter Tryz.func38, Tryz.ntmps38
          go_wp2_with fail
          all_goals
            go_ret
            exact ⟨by first | (simp [*]; done) | (simp [*]; omega), HB.out⟩
        · obtain rfl : t = false := by cases t; rfl; exact absurd (ht.1 rfl).2 h3
          have q1 : (1 : Int) ≤ (k.size : Int) := by omega
          have q2 : (k.size : Int) ≤ 64 := by omega
          have q3 : ¬ (n : Int) ≤ 4096 := by omega
          clear ht h1 h2 h3
          go_enter Tryz.func38, Tryz.ntmps38
          go_wp2_with fail
          all_goals
            go_ret
            exact ⟨by first | (simp [*]; done) | (simp [*]; omega), HB.out⟩
      · obtain rfl : t = false := by cases t; rfl; exact absurd (ht.1 rfl).1.2 h2
        have q1 : (1 : Int) ≤ (k.size : Int) := by omega
        have q2 : ¬ (k.size : Int) ≤ 64 := by omega
        clear ht h1 h2
        go_enter Tryz.func38, Tryz.ntmps38
        go_wp2_with fail
        all_goals
          go_ret
          exact ⟨by simp [*], HB.out⟩
    · obtain rfl : t = false := by cases t; rfl; exact absurd (ht.1 rfl).1.1 h1
      have q1 : ¬ (1 : Int) ≤ (k.size : Int) := by omega
      clear ht h1
      go_enter Tryz.func38, Tryz.ntmps38
      go_wp2_with fail
      all_goals
        go_ret
        exact ⟨by simp [*], HB.out⟩
  | false =>
    rw [if_neg (show ¬ (false = true) by simp)] at ht
    by_cases h1 : 1 ≤ k.size
    · by_cases h2 : k.size ≤ 64
      · by_cases h3 : n ≤ 0
        · obtain rfl : t = true := ht.2 ⟨⟨h1, h2⟩, h3⟩
          have q1 : (1 : Int) ≤ (k.size : Int) := by omega
          have q2 : (k.size : Int) ≤ 64 := by omega
          have q3 : (n : Int) ≤ 4096 := by omega
          have q4 : ((n : Int) == 0) = true := by simp; omega
          have q5 : (n : Int) = 0 := by omega
          clear ht h1 h2 h3
          go_enter Tryz.func38, Tryz.ntmps38
          go_wp2_with fail
          all_goals
            go_ret
            exact ⟨by first | (simp [*]; done) | (simp [*]; omega), HB.out⟩
        · obtain rfl : t = false := by cases t; rfl; exact absurd (ht.1 rfl).2 h3
          have q1 : (1 : Int) ≤ (k.size : Int) := by omega
          have q2 : (k.size : Int) ≤ 64 := by omega
          have q4 : ((n : Int) == 0) = false := by simp; omega
          have q5 : ¬ (n : Int) = 0 := by omega
          clear ht h1 h2 h3
          go_enter Tryz.func38, Tryz.ntmps38
          go_wp2_with fail
          all_goals
            go_ret
            exact ⟨by first | (simp [*]; done) | (simp [*]; omega), HB.out⟩
      · obtain rfl : t = false := by cases t; rfl; exact absurd (ht.1 rfl).1.2 h2
        have q1 : (1 : Int) ≤ (k.size : Int) := by omega
        have q2 : ¬ (k.size : Int) ≤ 64 := by omega
        clear ht h1 h2
        go_enter Tryz.func38, Tryz.ntmps38
        go_wp2_with fail
        all_goals
          go_ret
          exact ⟨by simp [*], HB.out⟩
    · obtain rfl : t = false := by cases t; rfl; exact absurd (ht.1 rfl).1.1 h1
      have q1 : ¬ (1 : Int) ≤ (k.size : Int) := by omega
      clear ht h1
      go_enter Tryz.func38, Tryz.ntmps38
      go_wp2_with fail
      all_goals
        go_ret
        exact ⟨by simp [*], HB.out⟩


/- What one act adds to the document's bytes. -/
theorem rencode_no (a : Option Addr) (len cap : Nat) (V : Nat → AV) (w : World) (h : ActsAt w a len V) (hl : len ≤ 140737488351232) (hno : ¬ (len ≤ 256 ∧ okL (pas V len))) :
    Calls Tryz.prog 14 #[.slice a len cap] w fun e w' => e = .returned (.tuple #[.slice none 0 0, .int .i64 1]) ∧ Below w.heap.size w w' := by
  by_cases h256 : len ≤ 256
  · have q0 : ¬ (256 : Int) < (len : Int) := by omega
    have HL := hid h
    have HNO : Hid (¬ okL (pas V len)) := fun hh => hno ⟨h256, hh⟩
    clear h hno
    go_enter Tryz.func14, Tryz.ntmps14
    go_wp2_with fail
    go_loopw [4] (fun i wr => ∃ k : Nat, k ≤ len ∧ i = .int .i64 k ∧ Hid (okL (pas V k) ∧ Below w.heap.size w wr)) (fun i _ => len - (intOf i).toNat)
    case atStart => exact ⟨0, by omega, rfl, ⟨(fun a ha => by cases ha), Below.refl _ _⟩⟩
    case round =>
      obtain ⟨k, hk, rfl, HR⟩ := hrel
      have hlt : k < len := by
        rcases Nat.lt_or_ge k len with h | h
        · exact h
        · have : k = len := by omega
          subst this
          exact absurd HR.out.1 HNO.out
      have hlt' : (k : Int) < (len : Int) := by omega
      rcases HL.out.row with h0 | ⟨b, o, rfl, hbl, hc⟩
      · omega
      obtain ⟨f0, f1, f2⟩ := hc k hlt
      have k0 := (HR.out.2.cell (p := ⟨b, o + k * 3, none⟩) hbl).trans f0
      have k1 := (HR.out.2.cell (p := ⟨b, o + k * 3 + 1, none⟩) hbl).trans f1
      have k2 := (HR.out.2.cell (p := ⟨b, o + k * 3 + 2, none⟩) hbl).trans f2
      have ho := HL.out.act k hlt
      have hd := okA_pa ho
      have hks := ho.ks
      have hsm := ho.sm
      have HB1 : Hid (∀ w', Below wr.heap.size wr w' → Below w.heap.size w w') := fun w' hw => HR.out.2.trans (hw.mono HR.out.2.size)
      by_cases hok : okA (pa (V k))
      · have hA := may_any (V k).key (V k).set (V k).x (V k).n (V k).c wr true (by rw [← hd]; simp [hok]) hks hsm
        have HO := hid (okL_succ HR.out.1 hok)
        clear hc f0 f1 f2 ho hd hok HR hks hsm
        generalize (V k).key = Kk at *
        generalize (V k).set = Ks at *
        generalize (V k).x = Kx at *
        generalize (V k).n = Kn at *
        generalize (V k).c = Kc at *
        go_wp2_with (go_at_call 38; refine hA.mono ?_; rintro e w1 ⟨rfl, hb1⟩; clear hA; (have HB2 := hid (HB1.out w1 hb1)); clear hb1 HB1)
        go_roundw
        case rel => exact ⟨k + 1, by omega, by go_num, ⟨HO.out, HB2.out⟩⟩
        case measure => simp [intOf]; omega
      · have hA := may_any (V k).key (V k).set (V k).x (V k).n (V k).c wr false (by rw [← hd]; simp [hok]) hks hsm
        clear hc f0 f1 f2 ho hd hok HR hks hsm
        generalize (V k).key = Kk at *
        generalize (V k).set = Ks at *
        generalize (V k).x = Kx at *
        generalize (V k).n = Kn at *
        generalize (V k).c = Kc at *
        go_wp2_with (go_at_call 38; refine hA.mono ?_; rintro e w1 ⟨rfl, hb1⟩; clear hA; (have HB2 := hid (HB1.out w1 hb1)); clear hb1 HB1)
        go_ret2
        exact ⟨rfl, HB2.out⟩
  · have q0 : (256 : Int) < (len : Int) := by omega
    clear h hno
    go_enter Tryz.func14, Tryz.ntmps14
    go_wp2_with fail
    go_ret2
    exact ⟨rfl, Below.refl _ _⟩

end Go.Proofs.YtbbjklenpgkooaaGreat

/-
  The document's Encode of package store.
  Conditions: the acts lie in memory.
-/
namespace Go.Proofs.YtbbjklenpgkooaaGreat
open Go.RowKit By Dk Wi St
variable [Inhabited PR] [∀ pre s : ByteArray, Decidable (Beg pre s)]
set_option linter.unusedSectionVars false
set_option linter.unusedVariables false
set_option linter.unusedSimpArgs false
set_option maxRecDepth 100000

def Out (w v : World) (x : Option Addr) (m c : Nat) (l : List Nat) : Prop := OwnL v w.heap.size (.slice x m c) l ∧ Below w.heap.size w v

theorem Out.below {w v v' : World} {x : Option Addr} {m c : Nat} {l : List Nat} (h : Out w v x m c l) (hb : Below v.heap.size v v') : Out w v' x m c l := ⟨h.1.below hb, h.2.trans (hb.mono h.2.size)⟩

theorem Out.push {w v v' : World} {x : Option Addr} {m c : Nat} {l : List Nat} (h : Out w v x m c l) (hl : ∀ u ∈ l, u < 256) (hb : Below v.heap.size v v') {y : Option Addr} {n d : Nat} {k : List Nat} (hk : Sl v' y n d k) (hs : l.length + n ≤ 140737488355328) :
    ∃ x3 m3 c3 w3, (Builtin.append_ #[22, 22] 22 #[.slice x m c, .slice y n d]).run Tryz.prog v' = .ok (.slice x3 m3 c3) w3 ∧ Out w w3 x3 m3 c3 (l ++ k) := by
  have h' := h.below hb
  obtain ⟨R', w3, p1, p2, p3⟩ := push_list v' w w.heap.size (.slice x m c) l h'.1 h'.2.size h'.2 y n d k hk hs
  obtain ⟨x3, c3, rfl, _⟩ := p2.sl (fun u hu => by
    rcases List.mem_append.1 hu with hu | hu
    · exact hl u hu
    · exact hk.lt u hu)
  exact ⟨x3, _, c3, w3, p1, p2, p3⟩

theorem Out.one {w v : World} {x : Option Addr} {m c : Nat} {l : List Nat} (h : Out w v x m c l) (hl : ∀ u ∈ l, u < 256) (b : Nat) (hb : b < 256) (hs : l.length ≤ 2000000) :
    ∃ x3 m3 c3 w3, (Builtin.append_ #[22, 22] 22 #[.slice x m c, .slice (some ⟨v.heap.size, 0, none⟩) 1 1]).run Tryz.prog (v.alloc (.cells #[.int .u8 (b : Int)] 5)) = .ok (.slice x3 m3 c3) w3 ∧ Out w w3 x3 m3 c3 (l ++ [b]) := by
  refine h.push hl ((Below.refl _ _).alloc (Nat.le_refl _) _) ⟨rfl, Nat.le_refl _, (fun e => by cases e), .inr ⟨v.heap.size, 0, rfl, by simp, fun i hi => ?_⟩, fun u hu => by simp at hu; omega⟩ (by omega)
  obtain rfl : i = 0 := by omega
  simp [gl]

theorem Out.key {w v : World} {x : Option Addr} {m c : Nat} {l : List Nat} (h : Out w v x m c l) (hl : ∀ u ∈ l, u < 256) (k : ByteArray) (hk : k.size ≤ 64) (hs : l.length ≤ 2000000) :
    ∃ cc W1, (convert 9 22 (.string k)).run Tryz.prog v = .ok (.slice (some ⟨v.heap.size, 0, none⟩) k.size cc) W1 ∧
      Calls Tryz.prog 40 #[.slice (some ⟨v.heap.size, 0, none⟩) k.size cc] W1 fun e w2 => ∃ y m2 c2, e = .returned (.slice y m2 c2) ∧ ∃ x3 m3 c3 w3, (Builtin.append_ #[22, 22] 22 #[.slice x m c, .slice y m2 c2]).run Tryz.prog w2 = .ok (.slice x3 m3 c3) w3 ∧ Hid (Out w w3 x3 m3 c3 (l ++ (uv k.size ++ nat k))) := by
  obtain ⟨cc, W1, h1, H1⟩ := conv_text k v
  refine ⟨cc, W1, h1, (rbytes_any _ k.size cc (nat k) W1 H1.out.2 (by omega)).mono fun e w2 ⟨R, q1, q2, q3⟩ => ?_⟩
  have u10 := uv_ten (n := k.size) (by omega)
  obtain ⟨y, c2, rfl, h4, _⟩ := q2.sl (fun u hu => by
    rcases List.mem_append.1 hu with hu | hu
    · exact uv_lt _ u hu
    · exact nat_lt k u hu)
  obtain ⟨x3, m3, c3, w3, p1, p2⟩ := h.push hl (H1.out.1.trans (q3.mono H1.out.1.size)) h4 (by rw [List.length_append, nat_length]; omega)
  exact ⟨y, _, c2, q1, x3, m3, c3, w3, p1, p2⟩

theorem Out.data {w v : World} {x : Option Addr} {m c : Nat} {l : List Nat} (h : Out w v x m c l) (hl : ∀ u ∈ l, u < 256) (y : Option Addr) (n d : Nat) (k : List Nat) (hk : Sl v y n d k) (hn : n ≤ 4096) (hs : l.length ≤ 2000000) :
    Calls Tryz.prog 40 #[.slice y n d] v fun e w2 => ∃ z m2 c2, e = .returned (.slice z m2 c2) ∧ Hid (Below v.heap.size v w2) ∧ ∃ x3 m3 c3 w3, (Builtin.append_ #[22, 22] 22 #[.slice x m c, .slice z m2 c2]).run Tryz.prog w2 = .ok (.slice x3 m3 c3) w3 ∧ Hid (Out w w3 x3 m3 c3 (l ++ (uv n ++ k))) := by
  refine (rbytes_any y n d k v hk (by omega)).mono fun e w2 ⟨R, q1, q2, q3⟩ => ?_
  have u10 := uv_ten (n := n) (by omega)
  obtain ⟨z, c2, rfl, h4, _⟩ := q2.sl (fun u hu => by
    rcases List.mem_append.1 hu with hu | hu
    · exact uv_lt _ u hu
    · exact hk.lt u hu)
  obtain ⟨x3, m3, c3, w3, p1, p2⟩ := h.push hl q3 h4 (by rw [List.length_append, hk.len]; omega)
  exact ⟨z, _, c2, q1, q3, x3, m3, c3, w3, p1, p2⟩

theorem cat_lt {l k : List Nat} (hl : ∀ u ∈ l, u < 256) (hk : ∀ u ∈ k, u < 256) : ∀ u ∈ l ++ k, u < 256 := fun u hu => by
  rcases List.mem_append.1 hu with hu | hu
  · exact hl u hu
  · exact hk u hu

theorem encL_lt {w : World} {a : Option Addr} {len : Nat} {V : Nat → AV} (h : ActsAt w a len V) {k : Nat} (hk : k ≤ len) : ∀ v ∈ uv len ++ encL (pas V k), v < 256 := fun v hv => by
  rcases List.mem_append.1 hv with hv | hv
  · exact uv_lt _ v hv
  · unfold encL at hv
    obtain ⟨p, hp, hv⟩ := List.mem_flatMap.1 hv
    obtain ⟨i, hi, rfl⟩ := pas_mem hp
    exact encA_lt (nat_lt _) (h.act i (by omega)).sl.lt v hv

set_option maxHeartbeats 1000000 in
theorem rencode_yes (a : Option Addr) (len cap : Nat) (V : Nat → AV) (w : World) (h : ActsAt w a len V) (h256 : len ≤ 256) (hokl : okL (pas V len)) (c : Nat) (o : List Nat) (hS : EncSays (pas V len) c o) :
    Calls Tryz.prog 14 #[.slice a len cap] w fun e w' => ∃ x m cx, e = .returned (.tuple #[.slice x m cx, .int .i64 (c : Int)]) ∧ EncTold w w' x m cx o := by
  have q0 : ¬ (256 : Int) < (len : Int) := by omega
  have hlt := enc_lt (pas_lt h)
  have u10 := uv_ten (n := len) (by omega)
  have hU : ∀ w1, Below w.heap.size w w1 → Calls Tryz.prog 39 #[.int .u64 (len : Int)] w1 fun e w' => ∃ x m cx, e = .returned (.slice x m cx) ∧ Hid (Out w w' x m cx (uv len ++ encL (pas V 0))) := fun w1 hb1 =>
    (ruvarint_any len w1 (by omega)).mono fun e w' ⟨R, h1, h2, h3⟩ => by
      obtain ⟨x, cx, rfl, _⟩ := h2.sl (uv_lt _)
      exact ⟨x, _, cx, h1, by simpa [pas, encL] using h2.mono hb1.size, hb1.trans (h3.mono hb1.size)⟩
  have HL := hid h
  have HO := hid hokl
  have HS := hid hS
  have HLT := hid hlt
  have HU := hid hU
  have hconv : ((len : Nat) : Int) % 18446744073709551616 = (len : Int) := by omega
  clear h hokl hS hlt hU
  go_enter Tryz.func14, Tryz.ntmps14
  go_wp2_with fail
  go_loopw [4] (fun i wr => ∃ k : Nat, k ≤ len ∧ i = .int .i64 k ∧ Hid (Below w.heap.size w wr)) (fun i _ => len - (intOf i).toNat)
  case atStart => exact ⟨0, by omega, rfl, Below.refl _ _⟩
  case round =>
    obtain ⟨k, hk, rfl, HR⟩ := hrel
    by_cases hkl : k < len
    · have hlt' : (k : Int) < (len : Int) := by omega
      rcases HL.out.row with h0 | ⟨b, o, rfl, hbl, hc⟩
      · omega
      obtain ⟨f0, f1, f2⟩ := hc k hkl
      have k0 := (HR.out.cell (p := ⟨b, o + k * 3, none⟩) hbl).trans f0
      have k1 := (HR.out.cell (p := ⟨b, o + k * 3 + 1, none⟩) hbl).trans f1
      have k2 := (HR.out.cell (p := ⟨b, o + k * 3 + 2, none⟩) hbl).trans f2
      have ho := HL.out.act k hkl
      have hd := okA_pa ho
      have HB1 : Hid (∀ w', Below wr.heap.size wr w' → Below w.heap.size w w') := fun w' hw => HR.out.trans (hw.mono HR.out.size)
      have hA := may_any (V k).key (V k).set (V k).x (V k).n (V k).c wr true (by rw [← hd]; simp [okL_lt HO.out hkl]) ho.ks ho.sm
      clear hc f0 f1 f2 ho hd HR
      generalize (V k).key = Kk at *
      generalize (V k).set = Ks at *
      generalize (V k).x = Kx at *
      generalize (V k).n = Kn at *
      generalize (V k).c = Kc at *
      go_wp2_with (go_at_call 38; refine hA.mono ?_; rintro e w1 ⟨rfl, hb1⟩; clear hA; (have HB2 := hid (HB1.out w1 hb1)); clear hb1 HB1)
      go_roundw
      case rel => exact ⟨k + 1, by omega, by go_num, HB2.out⟩
      case measure => simp [intOf]; omega
    · obtain rfl : k = len := by omega
      obtain ⟨w5, hw5⟩ : ∃ w5, w5 = wr := ⟨_, rfl⟩
      subst hw5
      have hU1 := HU.out w5 HR.out
      clear HU
      go_wp2_with (go_at_call 39; refine hU1.mono ?_; rintro e w2 ⟨x0, m0, c0, rfl, HR0⟩; clear hU1)
      go_loopw [5, 6] (fun out i wr => ∃ (j : Nat) (x : Option Addr) (m cx : Nat), j ≤ k ∧ out = .slice x m cx ∧ i = .int .i64 j ∧ Hid (Out w wr x m cx (uv k ++ encL (pas V j)))) (fun _ i _ => k - (intOf i).toNat)
      case atStart => exact ⟨0, x0, m0, c0, by omega, rfl, rfl, HR0.out⟩
      case round =>
        clear HR0 HR
        obtain ⟨j, x, m, cx, hj, rfl, rfl, HQ⟩ := hrel
        by_cases hjl : j < k
        · have hjl' : (j : Int) < (k : Int) := by omega
          rcases HL.out.row with h0 | ⟨b, o', rfl, hbl, hc⟩
          · omega
          obtain ⟨f0, f1, f2⟩ := hc j hjl
          have hbw := HQ.out.2
          have k0 := (hbw.cell (p := ⟨b, o' + j * 3, none⟩) hbl).trans f0
          have ho := HL.out.act j hjl
          have hoka := (okA_pa ho).1 (okL_lt HO.out hjl)
          have hn4 : (V j).n ≤ 4096 := by have := hoka.2; split at this <;> omega
          have hl0 := encL_lt HL.out hj
          have hle := encL_le V hj HO.out
          have hls : (uv k ++ encL (pas V j)).length ≤ 1100000 := by rw [List.length_append]; omega
          obtain ⟨cc, W1, hcv, hKB⟩ := HQ.out.key hl0 (V j).key hoka.1.2 (by omega)
          have hl1 := cat_lt hl0 (cat_lt (uv_lt (V j).key.size) (nat_lt (V j).key))
          have u1 := uv_ten (n := (V j).key.size) (by have := hoka.1.2; omega)
          have hls1 : (uv k ++ encL (pas V j) ++ (uv (V j).key.size ++ nat (V j).key)).length ≤ 1200000 := by
            have := hoka.1.2
            have h9 := hls
            simp only [List.length_append] at h9
            simp only [List.length_append, nat_length]
            omega
          have hfin : ∀ (s : List Nat), encA (pa (V j)) = uv (V j).key.size ++ nat (V j).key ++ s → uv k ++ encL (pas V j) ++ (uv (V j).key.size ++ nat (V j).key) ++ s = uv k ++ encL (pas V (j + 1)) := fun s hs => by
            rw [pas_succ, encL_snoc, hs]
            simp
          by_cases hset : (V j).set = true
          · -- set
            have HD : Hid (∀ w3 x3 m3 c3, Out w w3 x3 m3 c3 (uv k ++ encL (pas V j) ++ (uv (V j).key.size ++ nat (V j).key)) → w3.cell? ⟨b, o' + j * 3 + 1, none⟩ = some (.bool (V j).set) ∧ w3.cell? ⟨b, o' + j * 3 + 2, none⟩ = some (.slice (V j).x (V j).n (V j).c) ∧
                ∃ x4 m4 c4 w4, (Builtin.append_ #[22, 22] 22 #[.slice x3 m3 c3, .slice (some ⟨w3.heap.size, 0, none⟩) 1 1]).run Tryz.prog (w3.drew.alloc (.cells #[.int .u8 1] 5)) = .ok (.slice x4 m4 c4) w4 ∧ w4.cell? ⟨b, o' + j * 3 + 2, none⟩ = some (.slice (V j).x (V j).n (V j).c) ∧
                  Calls Tryz.prog 40 #[.slice (V j).x (V j).n (V j).c] w4 fun e w5 => ∃ y5 m5 c5, e = .returned (.slice y5 m5 c5) ∧ w5.cell? ⟨b, o' + j * 3 + 2, none⟩ = some (.slice (V j).x (V j).n (V j).c) ∧
                    ∃ x6 m6 c6 w6, (Builtin.append_ #[22, 22] 22 #[.slice x4 m4 c4, .slice y5 m5 c5]).run Tryz.prog w5 = .ok (.slice x6 m6 c6) w6 ∧ w6.cell? ⟨b, o' + j * 3 + 2, none⟩ = some (.slice (V j).x (V j).n (V j).c) ∧ Hid (Out w w6 x6 m6 c6 (uv k ++ encL (pas V (j + 1))))) := fun w3 x3 m3 c3 h3 => by
              have g1 := (h3.2.cell (p := ⟨b, o' + j * 3 + 1, none⟩) hbl).trans f1
              have g2 : ∀ {v y m c l}, Out w v y m c l → v.cell? ⟨b, o' + j * 3 + 2, none⟩ = some (.slice (V j).x (V j).n (V j).c) := fun hv => (hv.2.cell (p := ⟨b, o' + j * 3 + 2, none⟩) hbl).trans f2
              have hd3 : Out w w3.drew x3 m3 c3 _ := h3.below ((Below.refl _ _).drew)
              obtain ⟨x4, m4, c4, w4, p1, p2⟩ := hd3.one hl1 1 (by omega) (by omega)
              refine ⟨g1, g2 h3, x4, m4, c4, w4, p1, g2 p2, ?_⟩
              have hl4 := cat_lt hl1 (show ∀ u ∈ [1], u < 256 from fun u hu => by simp at hu; omega)
              refine (p2.data hl4 (V j).x (V j).n (V j).c (V j).d (ho.sl.below p2.2) hn4 (by rw [List.length_append]; simp only [List.length_cons, List.length_nil]; omega)).mono fun e w5 ⟨z, m2, c2, r1, r2, x6, m6, c6, w6, r3, r4⟩ => ⟨z, m2, c2, r1, g2 (p2.below r2.out), x6, m6, c6, w6, r3, g2 r4.out, ?_⟩
              have := r4.out
              rw [List.append_assoc _ [1], hfin ([1] ++ (uv (V j).n ++ (V j).d)) (by unfold encA pa; dsimp only; rw [if_pos hset, nat_length, ho.sl.len]; rfl)] at this
              exact this
            clear hc f0 f1 f2 hbw ho hoka hn4 hl0 hle hls hl1 u1 hls1 hfin HQ
            rw [hset] at HD
            generalize (V j).key = Kk at *
            generalize (V j).x = Kx at *
            generalize (V j).n = Kn at *
            generalize (V j).c = Kc at *
            generalize (V j).d = Kd at *
            go_wp2_with (first
              | (go_at_call 40; refine hKB.mono ?_; rintro e w3 ⟨y3, my3, cy3, rfl, x3, m3, c3, w4, hap, HN⟩; clear hKB
                 obtain ⟨s1, s2, x4, m4, c4, w5, hap2, s3, hB2⟩ := HD.out w4 x3 m3 c3 HN.out
                 clear HD HN)
              | (at_builtin; refine wpList_append_run rfl _ _ 22 rfl _ _ rfl rfl hap ?_; clear hap))
            refine wp_region_held_drew (S := fun v => v.cell? ⟨b, o' + j * 3 + 2, none⟩ = some (.slice Kx Kn Kc)) (by kernel_rfl) s2 (fun hHeld => ?_)
            refine wpAnyH_take (i := 0) (v := ?_) rfl (by kernel_rfl) (by kernel_rfl) (by kernel_rfl) (fun _ _ _ h => h) (Or.inl ⟨by rfl, ?_⟩) (by assumption) ?_
            case refine_2 => (intro w hSw; (try dsimp only at hSw); go_simp; (try with_reducible rfl))
            (try simp only [Act.put, List.getElem_toArray, List.getElem_cons_succ, List.getElem_cons_zero, List.setIfInBounds_toArray, List.set_cons_zero, List.set_cons_succ])
            refine wpAnyH_take (i := 3) (v := ?_) rfl (by kernel_rfl) (by kernel_rfl) (by kernel_rfl) (fun _ _ _ h => h) (Or.inl ⟨by rfl, ?_⟩) (by assumption) ?_
            case refine_2 => (intro w hSw; (try dsimp only at hSw); go_simp; (try with_reducible rfl))
            (try simp only [Act.put, List.getElem_toArray, List.getElem_cons_succ, List.getElem_cons_zero, List.setIfInBounds_toArray, List.set_cons_zero, List.set_cons_succ])
            refine wpAnyH_take (i := 4) (v := ?_) rfl (by kernel_rfl) (by kernel_rfl) (by kernel_rfl) (fun _ _ _ h => h) (Or.inl ⟨by rfl, ?_⟩) (by assumption) ?_
            case refine_2 => (intro w hSw; (try dsimp only at hSw); go_simp; (try with_reducible rfl))
            (try simp only [Act.put, List.getElem_toArray, List.getElem_cons_succ, List.getElem_cons_zero, List.setIfInBounds_toArray, List.set_cons_zero, List.set_cons_succ])
            refine wpAnyH_take (i := 5) (v := ?_) rfl (by kernel_rfl) (by kernel_rfl) (by kernel_rfl) (fun _ _ _ h => h) (Or.inl ⟨by rfl, ?_⟩) (by assumption) ?_
            case refine_2 => (intro w hSw; (try dsimp only at hSw); go_simp; (try with_reducible rfl))
            (try simp only [Act.put, List.getElem_toArray, List.getElem_cons_succ, List.getElem_cons_zero, List.setIfInBounds_toArray, List.set_cons_zero, List.set_cons_succ])
            refine wpAnyH_take (i := 6) (v := ?_) rfl (by kernel_rfl) (by kernel_rfl) (by kernel_rfl) (fun _ _ _ h => h) (Or.inl ⟨by rfl, ?_⟩) (by assumption) ?_
            case refine_2 => (intro w hSw; (try dsimp only at hSw); go_simp; (try with_reducible rfl))
            (try simp only [Act.put, List.getElem_toArray, List.getElem_cons_succ, List.getElem_cons_zero, List.setIfInBounds_toArray, List.set_cons_zero, List.set_cons_succ])
            refine wpAnyH_take (i := 7) (v := ?_) rfl (by kernel_rfl) (by kernel_rfl) (by kernel_rfl) (fun _ _ _ h => h) (Or.inl ⟨by rfl, ?_⟩) (by assumption) ?_
            case refine_2 => (intro w hSw; (try dsimp only at hSw); go_simp; (try with_reducible rfl))
            (try simp only [Act.put, List.getElem_toArray, List.getElem_cons_succ, List.getElem_cons_zero, List.setIfInBounds_toArray, List.set_cons_zero, List.set_cons_succ])
            refine wpAnyH_ready (rs := [1]) (by kernel_rfl) (by simp) ?_
            refine AllReadyH.cons rfl (fun K hK => ?_) AllReadyH.nil
            go_simp
            refine hK.out _ _ ((((Below.refl w4.heap.size w4.drew).alloc (Nat.le_refl _) _).cell (p := ⟨b, o' + j * 3 + 2, none⟩) (cell_lt' s2)).trans s2) (fun hHeld => ?_)
            clear hK K
            refine wpAnyH_ready (rs := [2]) (by kernel_rfl) (by simp) ?_
            refine AllReadyH.cons rfl (fun K hK => ?_) AllReadyH.nil
            refine st_append rfl _ _ 22 rfl _ _ rfl rfl hap2 ?_
            (try simp only [Act.put, List.getElem_toArray, List.getElem_cons_succ, List.getElem_cons_zero, List.setIfInBounds_toArray, List.set_cons_zero, List.set_cons_succ])
            refine hK.out _ _ s3 (fun hHeld => ?_)
            clear hK K
            refine wpAnyH_ready (rs := [8]) (by kernel_rfl) (by simp) ?_
            refine AllReadyH.cons rfl (fun K hK => ?_) AllReadyH.nil
            go_simp
            refine hB2.mono ?_
            rintro e w6 ⟨y5, m5, c5, rfl, s4, x6, m6, c6, w7, hap3, s5, HN⟩
            clear hB2
            refine hK.out _ _ s4 (fun hHeld => ?_)
            clear hK K
            refine wpAnyH_ready (rs := [9]) (by kernel_rfl) (by simp) ?_
            refine AllReadyH.cons rfl (fun K hK => ?_) AllReadyH.nil
            refine st_append rfl _ _ 22 rfl _ _ rfl rfl hap3 ?_
            (try simp only [Act.put, List.getElem_toArray, List.getElem_cons_succ, List.getElem_cons_zero, List.setIfInBounds_toArray, List.set_cons_zero, List.set_cons_succ])
            refine hK.out _ _ s5 (fun hHeld => ?_)
            clear hK K
            refine wpAnyH_take (i := 10) (v := ?_) rfl (by kernel_rfl) (by kernel_rfl) (by kernel_rfl) (fun _ _ _ h => h) (Or.inl ⟨by rfl, ?_⟩) (by assumption) ?_
            case refine_2 => (intro w hSw; (try dsimp only at hSw); go_simp; (try with_reducible rfl))
            (try simp only [Act.put, List.getElem_toArray, List.getElem_cons_succ, List.getElem_cons_zero, List.setIfInBounds_toArray, List.set_cons_zero, List.set_cons_succ])
            refine wpAnyH_done (by kernel_rfl) ?_ _
            go_wp2_with fail
            go_roundw
            case rel => exact ⟨j + 1, x6, m6, c6, by omega, rfl, by go_num, HN.out⟩
            case measure => simp [intOf]; omega
          · have hset' : (V j).set = false := by simpa using hset
            have HD : Hid (∀ w3 x3 m3 c3, Out w w3 x3 m3 c3 (uv k ++ encL (pas V j) ++ (uv (V j).key.size ++ nat (V j).key)) → w3.cell? ⟨b, o' + j * 3 + 1, none⟩ = some (.bool (V j).set) ∧
                ∃ x4 m4 c4 w4, (Builtin.append_ #[22, 22] 22 #[.slice x3 m3 c3, .slice (some ⟨w3.heap.size, 0, none⟩) 1 1]).run Tryz.prog (w3.alloc (.cells #[.int .u8 0] 5)) = .ok (.slice x4 m4 c4) w4 ∧ Hid (Out w w4 x4 m4 c4 (uv k ++ encL (pas V (j + 1))))) := fun w3 x3 m3 c3 h3 => by
              have g1 := (h3.2.cell (p := ⟨b, o' + j * 3 + 1, none⟩) hbl).trans f1
              obtain ⟨x4, m4, c4, w4, p1, p2⟩ := h3.one hl1 0 (by omega) (by omega)
              refine ⟨g1, x4, m4, c4, w4, p1, ?_⟩
              rw [hfin [0] (by unfold encA pa; dsimp only; rw [if_neg (by simp [hset']), nat_length])] at p2
              exact p2
            clear hc f0 f1 f2 hbw ho hoka hn4 hl0 hle hls hl1 u1 hls1 hfin HQ hset
            rw [hset'] at HD
            generalize (V j).key = Kk at *
            go_wp2_with (first
              | (go_at_call 40; refine hKB.mono ?_; rintro e w3 ⟨y3, my3, cy3, rfl, x3, m3, c3, w4, hap, HN⟩; clear hKB
                 obtain ⟨s1, x4, m4, c4, w5, hap2, HN2⟩ := HD.out w4 x3 m3 c3 HN.out
                 clear HD HN)
              | (at_builtin; refine wpList_append_run rfl _ _ 22 rfl _ _ rfl rfl hap ?_; clear hap)
              | (at_builtin; refine wpList_append_run rfl _ _ 22 rfl _ _ rfl rfl hap2 ?_; clear hap2))
            go_roundw
            case rel => exact ⟨j + 1, x4, m4, c4, by omega, rfl, by go_num, HN2.out⟩
            case measure => simp [intOf]; omega
        · obtain rfl : j = k := by omega
          have hfin := HQ.out
          have henc : uv j ++ encL (pas V j) = enc (pas V j) := by unfold enc; rw [pas_len]
          rw [henc] at hfin
          obtain ⟨x', c', he, hsl, hblk⟩ := hfin.1.sl HLT.out
          injection he with e1 e2 e3
          subst e1
          subst e2
          subst e3
          have HF := hid (And.intro hsl (And.intro hblk hfin.2))
          have hS := HS.out
          have hnn : (pas V j).length ≤ 256 ∧ okL (pas V j) := ⟨by rw [pas_len]; exact h256, HO.out⟩
          clear HQ hfin hsl hblk HL HO
          rcases hS with ⟨hno, _⟩ | ⟨_, hlong, rfl, rfl⟩ | ⟨_, hlong, rfl, rfl⟩
          · exact absurd hnn hno
          · have q0 : (13005 : Int) < ((enc (pas V j)).length : Int) := by omega
            clear HS henc hlong hnn
            generalize (enc (pas V j)).length = M at *
            go_wp2_with fail
            go_ret2
            exact ⟨none, 0, 0, rfl, Sl.empty _, (fun a ha => by cases ha), HF.out.2.2⟩
          · have q0 : ¬ (13005 : Int) < ((enc (pas V j)).length : Int) := by omega
            clear HS henc hlong hnn
            generalize hM : (enc (pas V j)).length = M at *
            have HM := hid hM
            clear hM
            go_wp2_with fail
            go_ret2
            exact ⟨_, _, _, rfl, HF.out.1, HF.out.2.1, HF.out.2.2⟩

theorem rencode_any (a : Option Addr) (len cap : Nat) (V : Nat → AV) (w : World) (h : ActsAt w a len V) (hl : len ≤ 140737488351232) (c : Nat) (o : List Nat) (hS : EncSays (pas V len) c o) :
    Calls Tryz.prog 14 #[.slice a len cap] w fun e w' => ∃ x m cx, e = .returned (.tuple #[.slice x m cx, .int .i64 (c : Int)]) ∧ EncTold w w' x m cx o := by
  by_cases hok : len ≤ 256 ∧ okL (pas V len)
  · exact rencode_yes a len cap V w h hok.1 hok.2 c o hS
  · have hc : c = 1 ∧ o = [] := by
      rcases hS with ⟨_, h1⟩ | ⟨h1, _⟩ | ⟨h1, _⟩
      · exact h1
      · rw [pas_len] at h1; exact absurd h1 hok
      · rw [pas_len] at h1; exact absurd h1 hok
    obtain ⟨rfl, rfl⟩ := hc
    exact (rencode_no a len cap V w h hl hok).mono fun e w' ⟨h1, h2⟩ => ⟨none, 0, 0, h1, Sl.empty _, (fun a ha => by cases ha), h2⟩

end Go.Proofs.YtbbjklenpgkooaaGreat

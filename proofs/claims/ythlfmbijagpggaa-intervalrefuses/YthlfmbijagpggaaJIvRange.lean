/-
  2 texts of this proof, one behind the other: IvRange, IvBackM.
-/
import Derived.Test.YthlfmbijagpggaaFlBase
import Derived.RangeFuncNested
import Derived.RangeFuncBound
import Derived.RangeFuncLeaves
import Derived.Test.YthlfmbijagpggaaJIvPlain
import Derived.Sort.QuietTacIn
import Derived.Stop.RegionWithIn
/-
  A range over a function, told by two sets of blocks: those that the function may write between two rounds, and those that it leans on.
  Conditions: none.
-/
namespace Go.Proofs.Ythlfmbijagpggaa.Iv
open Go.RowKit By Fl
set_option linter.unusedVariables false
set_option linter.unusedSimpArgs false
set_option maxRecDepth 100000

/- What a caller keeps between two rounds abides what the function does of its own. -/
def Abd (J : (Nat → Prop) → (Nat → Prop) → Nat → World → Prop) : Prop :=
  ∀ X Z X' Z' i A B, J X Z i A → Turns X A B → (∀ k, X' k → X k ∨ A.heap.size ≤ k) → (∀ k, Z' k → Z k ∨ A.heap.size ≤ k) → (∀ k, X' k → Z' k) → (∀ k, Z' k → k < B.heap.size) → J X' Z' i B

def OkAbd (Ok : (Nat → Prop) → (Nat → Prop) → Nat → Array Value → World → Prop) : Prop :=
  ∀ X Z X' Z' i x A B, Ok X Z i x A → Turns (fun k => ¬ Z k) A B → (∀ k, X' k → X k ∨ ¬ Z k) → (∀ k, Z k → Z' k) → Ok X' Z' i x B

structure Fit (X Z : Nat → Prop) (W : World) : Prop where
  sub : ∀ k, X k → Z k
  lt : ∀ k, Z k → k < W.heap.size

theorem Fit.turns {X Z F : Nat → Prop} {A B : World} (h : Fit X Z A) (t : Turns F A B) : Fit X Z B := ⟨h.sub, fun k hk => Nat.lt_of_lt_of_le (h.lt k hk) t.size⟩

/- What an iterator does: it hands over, in turn, what Ok tells of each of N, or stops where a round says so. -/
def Gives (n gf : Nat) (lb : Array Value) (N : Nat) (Ok : (Nat → Prop) → (Nat → Prop) → Nat → Array Value → World → Prop) (Rd : Nat → Prop) (w : World) : Prop :=
  ∀ (l : Nat) (J Jx : (Nat → Prop) → (Nat → Prop) → Nat → World → Prop) (X Z : Nat → Prop) (W : World), Turns (fun k => ¬ Rd k) w W → Fit X Z W → (∀ k, Rd k → Z k) → (∀ k, Rd k → ¬ X k) → Abd J → Abd Jx →
    (∀ X Z i x W1, Fit X Z W1 → J X Z i W1 → Ok X Z i x W1 → YieldAt Fence.wide (n - 1) Try.prog l x W1 fun e W' => Turns (fun k => ¬ Z k) W1 W' ∧ ((e = .returned (.bool true) ∧ J X Z (i + 1) W') ∨ (e = .returned (.bool false) ∧ Jx X Z (i + 1) W'))) →
    J X Z 0 W → CallsIn Fence.wide n Try.prog gf (#[.func (.yield l) #[] #[]] ++ lb) W fun e W' => (∃ v, e = .returned v) ∧ (J X Z N W' ∨ ∃ i, i ≤ N ∧ Jx X Z i W')

def jump : Exit → Option Code
  | .ret => some .ret
  | .exit id => some (.exit id)
  | .goto t => some (.goto t)
  | _ => none

theorem put_turns {W : World} {l : Nat} (o : Obj) : Turns (fun k => k = l) W (W.putObj l o) :=
  ⟨rfl, rfl, rfl, by simp [World.putObj], fun k hk hg => World.putObj_heap_other hg⟩

def more (F : Nat → Prop) (a b : Nat) : Nat → Prop := fun k => F k ∨ k = a ∨ k = b

theorem range_gives {n gf N : Nat} {lb : Array Value} {Ok : (Nat → Prop) → (Nat → Prop) → Nat → Array Value → World → Prop} {Rd : Nat → Prop} {w : World} {g : Operand} {ps : Array Tmp} {assign body : Code} {Q : Exit → Act → World → Prop} {a : Act}
    (h1 : 1 ≤ n) (hg : a.eval g = .func (.func gf) #[] lb) (eg : ∀ args w, (callFunc gf args).run Try.prog w = .ok (.enter gf args) w)
    (hseq : Gives (n - 1) gf lb N Ok Rd w) (hRd : ∀ k, Rd k → k < w.heap.size) (hps : ∀ X Z i x W, Ok X Z i x W → x.size = ps.size) (hOk : OkAbd Ok)
    (I : (Nat → Prop) → (Nat → Prop) → Nat → World → Prop) (Ix : Code → (Nat → Prop) → (Nat → Prop) → Nat → World → Prop) (hI : Abd I) (hIx : ∀ c, Abd (Ix c)) (h0 : I (fun _ => False) Rd 0 w)
    (hround : ∀ (l : Nat) (X Z : Nat → Prop) (i : Nat) (x : Array Value) (W : World), Fit X Z W → l < W.heap.size → X l → I X Z i W → Ok X Z i x W →
      assign.wpIn (Fence.wide.inRound l) (n - 1 - 1) Try.prog (Exit.then (fun a1 w1 => Below W.heap.size W w1 ∧ ∀ W2, Turns (fun k => k = l) w1 W2 → Fit X Z W2 → I X Z i W2 → Ok X Z i x W2 →
        body.wpIn (Fence.wide.inRound l) (n - 1 - 1) Try.prog (fun e _ W' => Turns (fun k => ¬ Z k) W2 W' ∧ ((e = .normal ∧ I X Z (i + 1) W') ∨ ∃ c, jump e = some c ∧ Ix c X Z (i + 1) W')) a1 W2) (fun _ _ _ => False)) { tmps := (ps.zip x).foldl (fun t (p, v) => t.setIfInBounds p v) a.tmps, defers := [] } W)
    (hdone : ∀ (D : Nat) (X Z : Nat → Prop) (W : World), w.heap.size ≤ D → Fit X Z W → X D → I X Z N W → W.heap[D]? = some (.deferred (some [])) → Q .normal { a with defers := { target := .collected D, args := #[] } :: a.defers } W)
    (hstop : ∀ (D : Nat) (c : Code) (X Z : Nat → Prop) (i : Nat) (W : World), w.heap.size ≤ D → Fit X Z W → X D → i ≤ N → Ix c X Z i W → W.heap[D]? = some (.deferred (some [])) → c.wpIn Fence.wide n Try.prog Q { a with defers := { target := .collected D, args := #[] } :: a.defers } W) :
    (Code.rangeFunc g ps assign body).wpIn Fence.wide n Try.prog Q a w := by
  refine wpIn_rangeFunc ?_
  intro fn hfn
  obtain ⟨rec, hrec⟩ : ∃ rec : LoopState → Option Code → Loop, rec = fun st pe => { state := st, pending := pe, fn, tmps := a.tmps, params := ps, assign, body, defers := w.heap.size } := ⟨_, rfl⟩
  obtain ⟨W1, hW1⟩ : ∃ W1, (w.alloc (.deferred (some []))).alloc (.loop (rec .ready none)) = W1 := ⟨_, rfl⟩
  have hL1 : W1.heap[w.heap.size + 1]? = some (.loop (rec .ready none)) := by
    have := World.alloc_heap_new (w.alloc (.deferred (some []))) (.loop (rec .ready none))
    rw [World.size_alloc, hW1] at this
    exact this
  have hK1 : W1.heap[w.heap.size]? = some (.deferred (some [])) := by
    rw [← hW1]
    exact (Below.heap_alloc _ _ _ (by simp)).trans (World.alloc_heap_new w _)
  have hb1 : Below w.heap.size w W1 := by
    rw [← hW1]
    exact ((Below.refl _ w).alloc (Nat.le_refl _) _).alloc (by simp) _
  have hz1 : W1.heap.size = w.heap.size + 2 := by
    rw [← hW1]
    simp
  obtain ⟨D, hD⟩ : ∃ D, D = w.heap.size := ⟨_, rfl⟩
  obtain ⟨l, hl⟩ : ∃ l, l = w.heap.size + 1 := ⟨_, rfl⟩
  have hDl : D ≠ l := by omega
  rw [← hl] at hL1
  rw [← hD] at hK1
  have hfit : ∀ {X Z : Nat → Prop} {W : World}, Fit X Z W → l < W.heap.size → D < W.heap.size → Fit (more X l D) (more Z l D) W := fun hf e1 e2 => ⟨fun k hk => by
    rcases hk with hk | hk
    · exact .inl (hf.sub k hk)
    · exact .inr hk, fun k hk => by
    rcases hk with hk | rfl | rfl
    · exact hf.lt k hk
    · exact e1
    · exact e2⟩
  have habd : ∀ (I : (Nat → Prop) → (Nat → Prop) → Nat → World → Prop) (o : Loop), Abd I → Abd (fun X Z i W => (¬ X l ∧ ¬ X D ∧ ¬ Z l ∧ ¬ Z D) ∧ I (more X l D) (more Z l D) i W ∧ W.heap[l]? = some (.loop o) ∧ W.heap[D]? = some (.deferred (some []))) := by
    rintro I o hI X Z X' Z' i A B ⟨⟨n1, n2, n3, n4⟩, hi, e1, e2⟩ t hX hZ hs hlt
    have s1 : l < A.heap.size := (Array.getElem?_eq_some_iff.1 e1).1
    have s2 : D < A.heap.size := (Array.getElem?_eq_some_iff.1 e2).1
    refine ⟨⟨fun e => ?_, fun e => ?_, fun e => ?_, fun e => ?_⟩, ?_, (t.block l s1 n1).trans e1, (t.block D s2 n2).trans e2⟩
    · rcases hX l e with e | e
      · exact n1 e
      · omega
    · rcases hX D e with e | e
      · exact n2 e
      · omega
    · rcases hZ l e with e | e
      · exact n3 e
      · omega
    · rcases hZ D e with e | e
      · exact n4 e
      · omega
    · refine hI _ _ _ _ i A B hi (t.weak fun k hk => .inl hk) (fun k hk => ?_) (fun k hk => ?_) (fun k hk => ?_) (fun k hk => ?_)
      · rcases hk with hk | hk
        · rcases hX k hk with e | e
          · exact .inl (.inl e)
          · exact .inr e
        · exact .inl (.inr hk)
      · rcases hk with hk | hk
        · rcases hZ k hk with e | e
          · exact .inl (.inl e)
          · exact .inr e
        · exact .inl (.inr hk)
      · rcases hk with hk | hk
        · exact .inl (hs k hk)
        · exact .inr hk
      · rcases hk with hk | rfl | rfl
        · exact hlt k hk
        · exact Nat.lt_of_lt_of_le s1 t.size
        · exact Nat.lt_of_lt_of_le s2 t.size
  have hput : ∀ {I : (Nat → Prop) → (Nat → Prop) → Nat → World → Prop} {X Z : Nat → Prop} {i : Nat} {W : World} (o : Obj), Abd I → Fit (more X l D) (more Z l D) W → I (more X l D) (more Z l D) i W → I (more X l D) (more Z l D) i (W.putObj l o) := fun {I X Z i W} o hI hf hi =>
    hI _ _ _ _ i W _ hi ((put_turns o).weak fun k hk => .inr (.inl hk)) (fun k hk => .inl hk) (fun k hk => .inl hk) hf.sub (fun k hk => Nat.lt_of_lt_of_le (hf.lt k hk) (put_turns (W := W) (l := l) o).size)
  refine ⟨w.heap.size + 1, [{ target := .collected w.heap.size, args := #[] }], W1, { target := .fn (.func gf) lb, args := #[.func (.yield (w.heap.size + 1)) #[] #[]] }, W1, gf,
    #[.func (.yield (w.heap.size + 1)) #[] #[]] ++ lb, W1, ?_, ?_, (fun f' hf' => trivial), ?_, fun _ => h1, ?_⟩
  · rw [← hW1, hrec]
    exact run_enterLoop_outer _ _ _ _ _
  · simp only [resolve, hg]
    simp [go_sem]
  · simp [invoke, go_sem, eg]
  · rw [← hl]
    refine (hseq l (fun X Z i W => (¬ X l ∧ ¬ X D ∧ ¬ Z l ∧ ¬ Z D) ∧ I (more X l D) (more Z l D) i W ∧ W.heap[l]? = some (.loop (rec .ready none)) ∧ W.heap[D]? = some (.deferred (some [])))
      (fun X Z i W => ∃ c, (¬ X l ∧ ¬ X D ∧ ¬ Z l ∧ ¬ Z D) ∧ Ix c (more X l D) (more Z l D) i W ∧ W.heap[l]? = some (.loop (rec .done (some c))) ∧ W.heap[D]? = some (.deferred (some [])))
      (fun _ => False) Rd W1 (Turns.of_below hb1) ⟨fun k hk => hk.elim, fun k hk => by have := hRd k hk; omega⟩ (fun k hk => hk) (fun k _ e => e) (habd I _ hI)
      (fun X Z X' Z' i A B ⟨c, hc⟩ t h1 h2 h3 h4 => ⟨c, habd (Ix c) _ (hIx c) X Z X' Z' i A B hc t h1 h2 h3 h4⟩) ?_ ?_).mono ?_
    · rintro X Z i x W hf ⟨⟨n1, n2, n3, n4⟩, hi, e1, e2⟩ hok
      have s1 : l < W.heap.size := (Array.getElem?_eq_some_iff.1 e1).1
      have s2 : D < W.heap.size := (Array.getElem?_eq_some_iff.1 e2).1
      have hff := hfit hf s1 s2
      have hy := run_yield (P := Try.prog) (args := x) e1 (by rw [hrec]; exact hps _ _ _ _ _ hok)
      rw [hrec] at hy
      have hok2 : Ok (more X l D) (more Z l D) i x W := hOk _ _ _ _ i x _ _ hok (Turns.refl _ _) (fun k hk => by
        rcases hk with hk | rfl | rfl
        · exact .inl hk
        · exact .inr n3
        · exact .inr n4) (fun k hk => .inl hk)
      refine ⟨fn, _, assign, body, hy, roundIn_of_wpIn hfn (wpIn_mono (hround l (more X l D) (more Z l D) i x W hff s1 (.inr (.inl rfl)) hi hok2) ?_)⟩
      clear hy
      intro e1' a1 w1 he1
      cases e1' with
      | normal =>
        obtain ⟨hbw, hb⟩ := he1
        have e1w := (hbw.block l s1).trans e1
        have e2w := (hbw.block D s2).trans e2
        have s1w : l < w1.heap.size := Nat.lt_of_lt_of_le s1 hbw.size
        have tbw : ∀ {F : Nat → Prop}, Turns F W w1 := Turns.of_below hbw
        have hffw : Fit (more X l D) (more Z l D) w1 := hff.turns (tbw (F := fun _ => False))
        have hbr : (Instr.beginRound l).run Try.prog w1 = .ok () (w1.putObj l (.loop (rec .busy none))) := by
          have := run_beginRound (P := Try.prog) e1w (by rw [hrec])
          rw [hrec] at this ⊢
          exact this
        have t2 := put_turns (W := w1) (l := l) (.loop (rec .busy none))
        have hl2 : (w1.putObj l (.loop (rec .busy none))).heap[l]? = some (.loop (rec .busy none)) := World.putObj_heap_same s1w
        have hk2 : (w1.putObj l (.loop (rec .busy none))).heap[D]? = some (.deferred (some [])) := (World.putObj_heap_other hDl).trans e2w
        have hi1 : I (more X l D) (more Z l D) i w1 := hI _ _ _ _ i W w1 hi tbw (fun k hk => .inl hk) (fun k hk => .inl hk) hff.sub hffw.lt
        have hok3 : Ok (more X l D) (more Z l D) i x (w1.putObj l (.loop (rec .busy none))) := hOk _ _ _ _ i x _ _ hok (tbw.trans (t2.weak fun k hk e => n3 (hk ▸ e))) (fun k hk => by
          rcases hk with hk | rfl | rfl
          · exact .inl hk
          · exact .inr n3
          · exact .inr n4) (fun k hk => .inl hk)
        refine ⟨_, hbr, wpIn_mono (hb _ t2 (hffw.turns t2) (hput _ hI hffw hi1) hok3) ?_⟩
        clear hb hbr
        rintro e a3 W3 ⟨t3, hp⟩
        have hl3 := (t3.block l (by have := t2.size; omega) (fun e => e (.inr (.inl rfl)))).trans hl2
        have hk3 := (t3.block D (by have := t2.size; have := hbw.size; omega) (fun e => e (.inr (.inr rfl)))).trans hk2
        have hff3 : Fit (more X l D) (more Z l D) W3 := (hffw.turns t2).turns t3
        have s3 : l < W3.heap.size := (Array.getElem?_eq_some_iff.1 hl3).1
        have hT : ∀ o, Turns (fun k => ¬ Z k) W (W3.putObj l o) := fun o => ((tbw.trans (t2.weak fun k hk e => n3 (hk ▸ e))).trans (t3.weak fun k hk e => hk (.inl e))).trans ((put_turns o).weak fun k hk e => n3 (hk ▸ e))
        have hend : ∀ j : Option Code, (Instr.endRound l j).run Try.prog W3 = .ok (.bool j.isNone) (W3.putObj l (.loop (rec (if j.isNone then .ready else .done) j))) := fun j => by
          have := run_endRound (P := Try.prog) j hl3
          rw [hrec] at this ⊢
          exact this
        have hstp : ∀ c, Ix c (more X l D) (more Z l D) (i + 1) W3 → ∃ v W4, (Instr.endRound l (some c)).run Try.prog W3 = .ok v W4 ∧ (Turns (fun k => ¬ Z k) W W4 ∧ ((Ending.returned v = .returned (.bool true) ∧ ((¬ X l ∧ ¬ X D ∧ ¬ Z l ∧ ¬ Z D) ∧ I (more X l D) (more Z l D) (i + 1) W4 ∧ W4.heap[l]? = some (.loop (rec .ready none)) ∧ W4.heap[D]? = some (.deferred (some [])))) ∨
            (Ending.returned v = .returned (.bool false) ∧ ∃ c, (¬ X l ∧ ¬ X D ∧ ¬ Z l ∧ ¬ Z D) ∧ Ix c (more X l D) (more Z l D) (i + 1) W4 ∧ W4.heap[l]? = some (.loop (rec .done (some c))) ∧ W4.heap[D]? = some (.deferred (some []))))) := fun c hc =>
          ⟨_, _, hend (some c), hT _, .inr ⟨rfl, c, ⟨n1, n2, n3, n4⟩, hput _ (hIx c) hff3 hc, World.putObj_heap_same s3, (World.putObj_heap_other hDl).trans hk3⟩⟩
        rcases hp with ⟨rfl, hi3⟩ | ⟨c, hj, hi3⟩
        · exact ⟨_, _, hend none, hT _, .inl ⟨rfl, ⟨n1, n2, n3, n4⟩, hput _ hI hff3 hi3, World.putObj_heap_same s3, (World.putObj_heap_other hDl).trans hk3⟩⟩
        · cases e with
          | normal => cases hj
          | ret => cases hj; exact hstp _ hi3
          | exit id => cases hj; exact hstp _ hi3
          | goto t => cases hj; exact hstp _ hi3
          | panic ch => cases hj
          | outgrown => cases hj
      | ret => exact he1.elim
      | exit id => exact he1.elim
      | goto t => exact he1.elim
      | panic ch => exact he1.elim
      | outgrown => exact he1.elim
    · refine ⟨⟨fun e => e, fun e => e, fun e => by have := hRd _ e; omega, fun e => by have := hRd _ e; omega⟩, ?_, hL1, hK1⟩
      refine hI _ _ _ _ 0 w W1 h0 (Turns.of_below hb1) (fun k hk => ?_) (fun k hk => ?_) (fun k hk => ?_) (fun k hk => ?_)
      · rcases hk with hk | rfl | rfl
        · exact hk.elim
        · exact .inr (by omega)
        · exact .inr (by omega)
      · rcases hk with hk | rfl | rfl
        · exact .inl hk
        · exact .inr (by omega)
        · exact .inr (by omega)
      · rcases hk with hk | hk
        · exact hk.elim
        · exact .inr hk
      · rcases hk with hk | rfl | rfl
        · have := hRd k hk; omega
        · omega
        · omega
    · have hfin : ∀ W2 : World, l < W2.heap.size → D < W2.heap.size → w.heap.size ≤ W2.heap.size → Fit (more (fun _ => False) l D) (more Rd l D) W2 := fun W2 e1 e2 e3 => hfit ⟨fun k hk => hk.elim, fun k hk => by have := hRd k hk; omega⟩ e1 e2
      rintro e W2 ⟨⟨v, rfl⟩, hj⟩
      rcases hj with ⟨_, hi, e1, e2⟩ | ⟨i, hiN, c, _, hi, e1, e2⟩
      · have s1 : l < W2.heap.size := (Array.getElem?_eq_some_iff.1 e1).1
        have hff := hfin W2 s1 (by omega) (by omega)
        have hr := run_endLoop (P := Try.prog) e1 (by rw [hrec]; simp)
        rw [hrec] at hr
        rw [← hD]
        exact ⟨none, _, hr, hdone D _ _ _ (by omega) (hff.turns (put_turns _)) (.inr (.inr rfl)) (hput _ hI hff hi) ((World.putObj_heap_other hDl).trans e2)⟩
      · have s1 : l < W2.heap.size := (Array.getElem?_eq_some_iff.1 e1).1
        have hff := hfin W2 s1 (by omega) (by omega)
        have hr := run_endLoop (P := Try.prog) e1 (by rw [hrec]; simp)
        rw [hrec] at hr
        rw [← hD]
        exact ⟨some c, _, hr, hstop D c _ _ i _ (by omega) (hff.turns (put_turns _)) (.inr (.inr rfl)) hiN (hput _ (hIx c) hff hi) ((World.putObj_heap_other hDl).trans e2)⟩

end Go.Proofs.Ythlfmbijagpggaa.Iv

/-
  slices.Backward of a row of maps: what it hands over.
  Conditions: the row lies in memory, and nobody writes it.
-/
namespace Go.Proofs.Ythlfmbijagpggaa.Iv
open Go.RowKit By Fl At Cr Pl
set_option linter.unusedVariables false
set_option linter.unusedSimpArgs false
set_option maxRecDepth 100000

theorem sback_make (x : Option Addr) (n c : Nat) (w : World) : Calls Try.prog 20 #[.slice x n c] w fun e w' => e = .returned (.func (.func 27) #[] #[.pointer (some ⟨w.heap.size, 0, none⟩)]) ∧ w' = w.alloc (.cells #[.slice x n c] 22) := by
  go_enter Try.func20, Try.ntmps20
  go_wp2_with fail
  go_ret
  exact ⟨rfl, rfl⟩

def OkM (L : List MV) (n : Nat) (X Z : Nat → Prop) (i : Nat) (a : Array Value) (W : World) : Prop := ∃ (v : MV) (j : Nat), i + j + 1 = n ∧ L[j]? = some v ∧ a = #[.int .i64 (j : Int), vMV v]

theorem okM_abd (L : List MV) (n : Nat) : OkAbd (OkM L n) := fun X Z X' Z' i x A B h t h1 h2 => h

set_option maxHeartbeats 1600000 in
theorem sback_gives {w : World} {x : Option Addr} {n c : Nat} {L : List MV} {Rd : Nat → Prop} (Bs : Nat) (hM : ∀ W, Turns (fun k => ¬ Rd k) w W → Ms W x n c L ∧ W.cell? ⟨Bs, 0, none⟩ = some (.slice x n c)) (hn : n ≤ 4096) (n0 : Nat) :
    Gives n0 27 #[.pointer (some ⟨Bs, 0, none⟩)] n (OkM L n) Rd w := fun l J Jx X Z W hW hfit hRZ hRX hJ hJx hY h0 => by
  have HM := hid hM
  have HJ := hid (And.intro hJ hJx)
  have HR := hid hRZ
  have h1 := (hM W hW).2
  have H0 := hid (And.intro h0 (And.intro hW hfit))
  have HY := hid hY
  clear hM hJ hJx hRX hRZ h0 hW hfit hY
  refine callsIn_of_wp Try.func27 rfl trivial ?_ rfl
  simp only [Try.ntmps27, List.size_toArray, List.length_cons, List.length_nil, Nat.reduceAdd, Nat.reduceSub, Array.replicate_succ, Array.replicate_zero, List.push_toArray, List.append_toArray, List.nil_append, List.cons_append]
  obtain ⟨z, hz⟩ : ∃ z : Int, z = (n : Int) - 1 := ⟨_, rfl⟩
  have hz2 : (n : Int) - 1 = z := hz.symm
  have HZ := hid hz
  clear hz
  gi_wp2
  clear h1 hz2
  gi_loopw [3] (fun i wr => ∃ (k : Nat) (y : Int), k ≤ n ∧ i = .int .i64 y ∧ Hid (y + k + 1 = n) ∧ Hid (J X Z k wr ∧ Turns (fun k => ¬ Rd k) w wr ∧ Fit X Z wr)) (fun i _ => (intOf i + 1).toNat)
  case atStart => exact ⟨0, z, by omega, by first | rfl | (have := HZ.out; go_num), by have := HZ.out; show z + (0 : Nat) + 1 = n; omega, H0.out⟩
  case round =>
    clear H0
    obtain ⟨k, y, hk, rfl, HK, HI⟩ := hrel
    by_cases hlt : k < n
    · obtain ⟨j, hj⟩ : ∃ j : Nat, y = (j : Int) := ⟨y.toNat, by have := HK.out; omega⟩
      subst hj
      obtain ⟨i1, i2, i3⟩ := HI.out
      obtain ⟨m1, m2⟩ := HM.out wr i2
      have hjn : j < n := by have := HK.out; omega
      have hjn' : (j : Int) < (n : Int) := by omega
      obtain ⟨v, hv⟩ : ∃ v, L[j]? = some v := ⟨L[j]'(by have := m1.len; omega), List.getElem?_eq_getElem (by have := m1.len; omega)⟩
      rcases m1.row with q | ⟨b, o, rfl, hb, hc⟩
      · omega
      obtain ⟨c0, c1, c2, c3, c4, c5⟩ := Ms.at hc hv
      obtain ⟨fn, tmps, assign, body, hy, hR⟩ := HY.out X Z k #[.int .i64 (j : Int), vMV v] wr i3 i1 ⟨v, j, by have := HK.out; omega, hv, rfl⟩
      have HI2 := hid (And.intro i2 i3)
      unfold vMV vM at hy
      clear i1 i2 i3 m1 hc HI hv HY
      generalize v.m.ep = e0 at *
      generalize v.m.pool.k = e1 at *
      generalize v.m.pool.m = e2 at *
      generalize v.m.pool.pgs = e3 at *
      generalize v.m.pool.dom = e4 at *
      generalize v.x = e5 at *
      generalize v.n = e6 at *
      generalize v.c = e7 at *
      have hw1 : (j : Int) - 1 = (j : Int) - 1 := rfl
      gi_wp2
      refine ⟨fun h => absurd h (by simp [Fence.wide]), hR.mono ?_⟩
      rintro e W4 ⟨t4, h4⟩
      have HT4 := hid t4
      clear t4 hR hy
      rcases h4 with ⟨rfl, hJ4⟩ | ⟨rfl, hJ4⟩
      · have HJ4 := hid hJ4
        clear hJ4
        gi_wp2
        go_roundw
        case rel => exact ⟨k + 1, (j : Int) - 1, by omega, by first | rfl | go_num, by have := HK.out; show (j : Int) - 1 + ((k + 1 : Nat) : Int) + 1 = n; omega, HJ4.out, HI2.out.1.trans (HT4.out.weak fun q hq e => hq (HR.out q e)), HI2.out.2.turns HT4.out⟩
        case measure => simp [intOf]
      · have HJ4 := hid hJ4
        clear hJ4
        gi_wp2
        refine bodyPost_ret (results_none rfl _ _ _) rfl ?_
        exact ⟨⟨_, rfl⟩, .inr ⟨k + 1, by omega, HJ4.out⟩⟩
    · have hk2 : k = n := by omega
      subst hk2
      have hy : y = -1 := by have := HK.out; omega
      subst hy
      have HI1 := hid HI.out.1
      clear HI
      gi_wp2
      go_end0
      exact ⟨⟨_, rfl⟩, .inl HI1.out⟩

end Go.Proofs.Ythlfmbijagpggaa.Iv

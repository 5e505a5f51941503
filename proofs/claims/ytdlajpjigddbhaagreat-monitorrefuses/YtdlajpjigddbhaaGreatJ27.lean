/-
  3 texts of this proof, one behind the other: MoAsk, MoAwake, MoRef.
-/
import Derived.Test.YtdlajpjigddbhaaGreatJ26
import Derived.Test.YtdlajpjigddbhaaGreatJ22
/-
  Package monitor: Ask, of a monitor that was made; what its node goes through.
  Conditions: none.
-/
namespace Go.Proofs.YtdlajpjigddbhaaGreat.Mo
open Go.RowKit Wi By Fl Px At
set_option linter.unusedVariables false
set_option linter.unusedSimpArgs false
set_option maxRecDepth 100000

/- A monitor's node goes on; its maps stay. -/
def MGoes (w w' : World) (B q : Nat) (g : Ln) (st' : Nd) (r : Nat) (cs : List Ch) (m : Mp) (Rc : Value) (x : Option Addr) (n c k : Nat) : Prop := ∃ g', MoAt w' B q g' st' r cs m Rc x n c ∧ g'.p = g.p ∧ gnb g' ≤ gnb g + k ∧ Turns (fp g) w w' ∧ ∀ k, fp g' k → fp g k ∨ w.heap.size ≤ k

section
variable {w : World} {B q : Nat} {g : Ln} {st : Nd} {r : Nat} {cs : List Ch} {m : Mp} {Rc : Value} {x : Option Addr} {n c : Nat}

theorem mask_bad (h : MoAt w B q g st r cs m Rc x n c) (ch : Ch) (hc : mayC ch = false) : Calls Tryz.prog 21 #[.pointer (some ⟨q, 0, none⟩), vC ch] w fun e w' => e = .returned (.int .i64 1) ∧ Below w.heap.size w w' := by
  have bA := al w (.cells (enC ch).toArray 37)
  have hE := encodeChange_any ch (w.alloc (.cells (enC ch).toArray 37))
  rw [hc] at hE
  clear h hc
  obtain ⟨ck, c0, c1, c2, c3, c4, c5, c6, c7⟩ := ch
  unfold vC enC errB at *
  dsimp only at hE bA ⊢
  go_enter Tryz.func21, Tryz.ntmps21
  go_wp2_with (go_at_call 37; refine hE.mono ?_; rintro e w1 ⟨R, rfl, H1⟩; clear hE)
  go_ret
  exact ⟨rfl, on bA H1.out.2⟩

set_option maxHeartbeats 1600000 in
theorem mask_yes (h : MoAt w B q g st r cs m Rc x n c) (hk : 0 < m.pool.k) (ch : Ch) (hc : mayC ch = true) (hw : st.wait.length < 256) (hser : st.ser < 1000000000000) (hid_ : st.id < 7) :
    Calls Tryz.prog 21 #[.pointer (some ⟨q, 0, none⟩), vC ch] w fun e w' => e = .returned (.int .i64 0) ∧ Hid (MGoes w w' B q g (proposed st (str (wrB (numsC ch)))) r cs m Rc x n c 0) := by
  have bA := al w (.cells (enC ch).toArray 37)
  have hE := encodeChange_any ch (w.alloc (.cells (enC ch).toArray 37))
  rw [hc] at hE
  simp only [if_true] at hE
  have HN : Hid ((wrB (numsC ch)).length ≤ 4096 ∧ ∀ v ∈ wrB (numsC ch), v < 256) := hid ⟨by have := wrB_len _ (nums_fit hc); have h9 : (numsC ch).length = 9 := rfl; omega, wrB_lt _⟩
  have hM := fun W (b : Below w.heap.size w W) => mnode_yes (h.below b) hk
  have HP : Hid (∀ (W : World) (b : Below w.heap.size w W) (y : Option Addr) (yc : Nat) (hl : Go.Proofs.YtdlajpjigddbhaaGreat.Sl W y (wrB (numsC ch)).length yc (wrB (numsC ch))) (hy : ∀ a, y = some a → w.heap.size ≤ a.block), Calls Tryz.prog 38 #[.pointer (some ⟨g.p, 0, none⟩), .slice y (wrB (numsC ch)).length yc] W fun e w' => e = .returned (.int .i64 0) ∧ Hid (MGoes w w' B q g (proposed st (str (wrB (numsC ch)))) r cs m Rc x n c 0)) := fun W b y yc hl hy => by
    have hb := h.below b
    refine (prop_yes hb.node y _ yc (wrB (numsC ch)) ⟨hl.len, hl.le, hl.nil, hl.row, hl.lt⟩ (fun _ a ha hf => ?_) HN.out.1 hw hser hid_).mono fun e w' ⟨a1, a2⟩ => ⟨a1, ?_⟩
    · have q1 := (h.node.u8 _ hf).1
      have q2 := hy a ha
      omega
    · obtain ⟨g', k1, k2, k3, k4, k5⟩ := hb.goes a2.out
      refine ⟨g', k1, k2, k3, (Turns.of_below b).trans k4, fun k hk => ?_⟩
      rcases k5 k hk with e1 | e1
      · exact .inl e1
      · exact .inr (Nat.le_trans b.size e1)
  obtain ⟨NC, hNC⟩ : ∃ NC, NC = wrB (numsC ch) := ⟨_, rfl⟩
  rw [← hNC] at hE HN HP ⊢
  clear h hk hc hw hser hid_ hNC
  obtain ⟨ck, c0, c1, c2, c3, c4, c5, c6, c7⟩ := ch
  unfold vC enC errB at *
  dsimp only at hE bA ⊢
  go_enter Tryz.func21, Tryz.ntmps21
  go_wp2_with (first
    | (
       go_at_call 37; refine hE.mono ?_; rintro e w1 ⟨R, rfl, H1⟩; clear hE
       have B1 := on bA H1.out.2
       have hM1 := hM _ B1
       obtain ⟨y, yc, rfl, hs, hy⟩ := H1.out.1.sl HN.out.2
       have hP1 := HP.out w1 B1 y yc hs (fun a ha => by have := (hy a ha).1; simp at this; omega)
       clear hM HP hs hy)
    | (
       go_at_call 30; refine hM1.mono ?_; rintro e w' ⟨rfl, hw⟩; subst w'; clear hM1)
    | (
       go_at_call 38; refine hP1.mono ?_; rintro e w2 ⟨rfl, H2⟩; clear hP1))
  go_ret
  exact ⟨rfl, H2.out⟩

end

end Go.Proofs.YtdlajpjigddbhaaGreat.Mo

/-
  The statements' awake: a change that one monitor alone is asked for makes a map.
  Conditions: none.
-/
namespace Go.Proofs.YtdlajpjigddbhaaGreat.Mo
open Go.RowKit Wi By Fl Px At
set_option linter.unusedVariables false
set_option linter.unusedSimpArgs false
set_option maxRecDepth 100000

def pool0 : Pool := ⟨2, 1, 4, 0⟩
def add3 : Ch := ⟨1, ⟨3, false, false, 0, 0, 0, 0, 0⟩⟩

theorem add3_may : mayC add3 = true := by decide
theorem add3_bytes : wrB (numsC add3) = v9 := by decide
theorem add3_dec : decC (nat (str v9)) = (add3, true) := by
  rw [nat_str (by decide), ← add3_bytes]
  exact decC_forth add3_may

theorem add3_app : applyP ⟨0, pool0, []⟩ add3 = (0, ⟨1, pool0, [⟨3, false, false, 0, 0, 0, 0, 0⟩]⟩) := by rfl

theorem so3_dec : so3.dec = [d9] := by rfl

theorem so3_chain : chainOf ⟨0, pool0, []⟩ so3.dec = ([add3], ⟨1, pool0, [⟨3, false, false, 0, 0, 0, 0, 0⟩]⟩) := by
  rw [so3_dec]
  show stepC [] ⟨0, pool0, []⟩ (nat d9.val) = _
  have e : nat d9.val = nat (str v9) := rfl
  rw [e]
  unfold stepC
  rw [add3_dec, add3_app]
  rfl

theorem lawpool_any (w : World) : Calls Tryz.prog 25 #[] w fun e w' => e = .returned (vP pool0) ∧ Below w.heap.size w w' := by
  have bA := al w (.cells #[.int .i64 2, .int .i64 1, .int .i64 4, .int .i64 0] 49)
  go_enter Tryz.func25, Tryz.ntmps25
  go_wp2_with fail
  refine bodyPost_ret (v := vP pool0) ?_ rfl ?_
  · rw [At.results_cell1 rfl]
    unfold vP pool0
    go_simp
  · exact ⟨rfl, bA⟩

theorem mtick_add {w : World} {B q : Nat} {g : Ln} {r : Nat} {cs : List Ch} {m : Mp} {Rc : Value} {x : Option Addr} {n c : Nat} (h : MoAt w B q g so0 r cs m Rc x n c) (hk : 0 < m.pool.k) (hgn : gnb g < 10000000000000000) :
    Calls Tryz.prog 14 #[.pointer (some ⟨q, 0, none⟩)] w fun e w' => e = .returned (.slice none 0 0) ∧ Hid (MGoes w w' B q g so3 r cs m Rc x n c 40) := by
  have hM := mnode_yes h hk
  have hT : Calls Tryz.prog 31 #[.pointer (some ⟨g.p, 0, none⟩)] w fun e w' => e = .returned (.slice none 0 0) ∧ Hid (MGoes w w' B q g so3 r cs m Rc x n c 40) :=
    (tick_add h.node hgn).mono fun e w' ⟨a1, a2⟩ => ⟨a1, h.goes a2.out⟩
  clear h hk hgn
  go_enter Tryz.func14, Tryz.ntmps14
  go_wp2_with (first
    | (
       go_at_call 30; refine hM.mono ?_; rintro e w' ⟨rfl, hw⟩; subst w'; clear hM)
    | (
       go_at_call 31; refine hT.mono ?_; rintro e w2 ⟨rfl, H2⟩; clear hT))
  go_ret
  exact ⟨rfl, H2.out⟩

set_option maxHeartbeats 3200000 in
theorem mawake_any (w : World) : Calls Tryz.prog 12 #[] w fun e w' => e = .returned (.bool true) ∧ Below w.heap.size w w' := by
  have hL := lawpool_any w
  have hN := fun W => mnew_yes 0 1 pool0 W (by omega) (by omega) (by omega) (by decide) (by decide)
  have HA : Hid (∀ (W w1 : World) (q : Nat), Below w.heap.size w W → Hid (Below W.heap.size W w1 ∧ ∃ g, MoAt w1 (W.heap.size + 1) q g (fresh 0 1) 0 [] ⟨0, pool0, []⟩ (.slice none 0 0) none 0 0 ∧ gnb g = 0) → Calls Tryz.prog 21 #[.pointer (some ⟨q, 0, none⟩), vC add3] w1 fun e w' => e = .returned (.int .i64 0) ∧ Hid (Below w.heap.size w w' ∧ ∃ g, MoAt w' (W.heap.size + 1) q g so0 0 [] ⟨0, pool0, []⟩ (.slice none 0 0) none 0 0 ∧ gnb g = 0)) := fun W w1 q b H1 => by
    obtain ⟨b1, g, k1, n1⟩ := H1.out
    refine (mask_yes k1 (by decide) add3 add3_may (by decide) (by decide) (by decide)).mono fun e w' ⟨a1, a2⟩ => ⟨a1, ?_⟩
    obtain ⟨g', k2, k3, k4, k5, k6⟩ := a2.out
    rw [add3_bytes] at k2
    have b2 := on b b1
    exact ⟨b2.trans (k5.below (B := w.heap.size) (fun k hk => by have := k1.node.low k hk; have := b.size; omega) b2.size), g', k2, by omega⟩
  have HT : Hid (∀ (W w1 : World) (q : Nat), w.heap.size ≤ W.heap.size → Hid (Below w.heap.size w w1 ∧ ∃ g, MoAt w1 (W.heap.size + 1) q g so0 0 [] ⟨0, pool0, []⟩ (.slice none 0 0) none 0 0 ∧ gnb g = 0) → Calls Tryz.prog 14 #[.pointer (some ⟨q, 0, none⟩)] w1 fun e w' => e = .returned (.slice none 0 0) ∧ Hid (Below w.heap.size w w' ∧ ∃ g, MoK w' (W.heap.size + 1) q g so3 pool0 0 (.slice none 0 0) none 0 0)) := fun W w1 q b H1 => by
    obtain ⟨b1, g, k1, n1⟩ := H1.out
    refine (mtick_add k1 (by decide) (by omega)).mono fun e w' ⟨a1, a2⟩ => ⟨a1, ?_⟩
    obtain ⟨g', k2, k3, k4, k5, k6⟩ := a2.out
    exact ⟨b1.trans (k5.below (B := w.heap.size) (fun k hk => by have := k1.node.low k hk; omega) b1.size), g', k2, Nat.zero_le _⟩
  have HM : Hid (∀ (W w1 : World) (q : Nat), w.heap.size ≤ W.heap.size → Hid (Below w.heap.size w w1 ∧ ∃ g, MoK w1 (W.heap.size + 1) q g so3 pool0 0 (.slice none 0 0) none 0 0) → Calls Tryz.prog 19 #[.pointer (some ⟨q, 0, none⟩), .int .i64 1] w1 fun e w' => ∃ y cy, e = .returned (.tuple #[vM 1 pool0 y 1 cy, .bool true]) ∧ Hid (Below w.heap.size w w' ∧ (∃ g Rc x n c, MoK w' (W.heap.size + 1) q g so3 pool0 so3.dec.length Rc x n c) ∧ At.Os w' y 1 cy [⟨3, false, false, 0, 0, 0, 0, 0⟩] ∧ ∀ a, y = some a → Tb w' a.block 35)) := fun W w1 q b H1 => by
    obtain ⟨b1, g, k1⟩ := H1.out
    refine (mmap_last k1 (by decide) (by decide) 1 pool0 [⟨3, false, false, 0, 0, 0, 0, 0⟩] (by rw [so3_chain]) (by omega) (by simp)).mono fun e w' ⟨y, yn, cy, a1, a2⟩ => ?_
    have e1 : yn = 1 := a2.out.2.1.len.symm
    subst e1
    refine ⟨y, cy, a1, ?_, ?_, a2.out.2.1, fun a ha => (a2.out.2.2 a ha).2⟩
    · obtain ⟨R', x', n', c', k2, k3, k4⟩ := a2.out.1
      exact b1.trans (k3.below (B := w.heap.size) (fun k hk => by
        rcases hk with e | e
        · have := k1.mo.low
          omega
        · cases e) b1.size)
    · obtain ⟨R', x', n', c', k2, k3, k4⟩ := a2.out.1
      exact ⟨g, R', x', n', c', k2⟩
  have HE : Hid (∀ (W w1 w2 : World) (q : Nat), w.heap.size ≤ W.heap.size → Below w.heap.size w w1 → Below w1.heap.size w1 w2 → (∃ g Rc x n c, MoK w1 (W.heap.size + 1) q g so3 pool0 so3.dec.length Rc x n c) → Calls Tryz.prog 10 #[.pointer (some ⟨q, 0, none⟩)] w2 fun e w' => e = .returned (.int .i64 1) ∧ Hid (Below w.heap.size w w' ∧ ∃ Rc, Turns (ofM q Rc) w2 w' ∧ q < w1.heap.size ∧ Tb w1 q 67 ∧ ∀ k, Rc.ownBlock = some k → k < w1.heap.size ∧ Tb w1 k 37)) := fun W w1 w2 q b b1 b2 H1 => by
    obtain ⟨g, Rc, x, n, c, k1⟩ := H1
    refine (mepoch_any (k1.below b2) (by decide) (by decide)).mono fun e w' ⟨a1, a2⟩ => ?_
    rw [so3_chain] at a1
    refine ⟨a1, ?_, Rc, ?_, k1.mo.lt, k1.mo.tq, fun k hk => ⟨(k1.mo.chs.tb hk).2.lt, (k1.mo.chs.tb hk).2⟩⟩
    · obtain ⟨R', x', n', c', k2, k3, k4⟩ := a2.out
      have b3 := on b1 b2
      exact b3.trans (k3.below (B := w.heap.size) (fun k hk => by
        rcases hk with e | e
        · have := k1.mo.low
          omega
        · have := (k1.mo.chs.tb e).1
          omega) b3.size)
    · obtain ⟨R', x', n', c', k2, k3, k4⟩ := a2.out
      exact k3
  go_enter Tryz.func12, Tryz.ntmps12
  go_wp2_with (first
    | (
       go_at_call 25; refine hL.mono ?_; rintro e W0 ⟨rfl, hb0⟩; clear hL
       have hN0 := hN W0
       have HB0 := hid hb0
       clear hN hb0)
    | (
       go_at_call 17; refine hN0.mono ?_; rintro e w1 ⟨q, rfl, H1⟩; clear hN0
       have hA1 := HA.out W0 w1 q HB0.out H1
       unfold vC add3 at hA1
       dsimp only at hA1
       clear HA)
    | (
       go_at_call 21; refine hA1.mono ?_; rintro e w2 ⟨rfl, H2⟩; clear hA1
       have hT2 := HT.out W0 w2 q HB0.out.size H2
       clear HT)
    | (
       go_at_call 14; refine hT2.mono ?_; rintro e w3 ⟨rfl, H3⟩; clear hT2
       have hM3 := HM.out W0 w3 q HB0.out.size H3
       unfold vM pool0 at hM3
       dsimp only at hM3
       clear HM)
    | (
       go_at_call 19; refine hM3.mono ?_; rintro e w4 ⟨y, cy, rfl, H4⟩; clear hM3
       have bM := al w4 (.cells #[.int .i64 1, .int .i64 2, .int .i64 1, .int .i64 4, .int .i64 0, .slice y 1 cy] 56)
       have pM := heap_alloc_new w4 (.cells #[.int .i64 1, .int .i64 2, .int .i64 1, .int .i64 4, .int .i64 0, .slice y 1 cy] 56)
       have hE4 := HE.out W0 w4 _ q HB0.out.size H4.out.1 bM H4.out.2.1
       have HM4 := hid (And.intro bM pM)
       clear HE bM pM)
    | (
       go_at_call 10; refine hE4.mono ?_; rintro e w5 ⟨rfl, H5⟩; clear hE4
       obtain ⟨b5, Rc, t5, q5, q6, c5⟩ := H5.out
       have pM5 := (t5.block w4.heap.size (by simp) (ofM_no q5 (fun k hk => (c5 k hk).1))).trans HM4.out.2
       have s5 : w5.cell? ⟨w4.heap.size, 5, none⟩ = some (.slice y 1 cy) := cell_heap pM5 rfl
       have HO5 : Hid (∃ yb yo, y = some ⟨yb, yo, none⟩ ∧ w5.cell? ⟨yb, yo, none⟩ = some (.int .i64 3)) := by
         obtain ⟨_, _, hos, htb⟩ := H4.out
         rcases hos.row with e0 | ⟨yb, yo, e1, e2, e3⟩
         · exact absurd e0 (by decide)
         · refine ⟨yb, yo, e1, ?_⟩
           have tb := htb _ e1
           have c9 := keep HM4.out.1 (e3 0 _ rfl 0 _ rfl)
           refine At.keept t5 ?_ c9
           rintro (e4 | e4)
           · have e5 : yb = q := e4
             subst e5
             have := tb.same q6
             revert this
             decide
           · have := tb.same (c5 _ e4).2
             revert this
             decide
       obtain ⟨yb, yo, rfl, y5⟩ := HO5.out
       clear t5 pM5 c5 q5 q6))
  go_ret
  exact ⟨rfl, b5⟩

end Go.Proofs.YtdlajpjigddbhaaGreat.Mo

/-
  The statements' calls of one monitor, as they come in MonitorRefuses.
  Conditions: none.
-/
namespace Go.Proofs.YtdlajpjigddbhaaGreat.Mo
open Go.RowKit Wi By Fl Px At
set_option linter.unusedVariables false
set_option linter.unusedSimpArgs false
set_option maxRecDepth 100000

/- What lies in blocks of other kinds stays. -/
def Kp (W W' : World) : Prop := ∀ (k : Nat) (cs : Array Value) (t : TypeId) (z : Nat × Nat), W.heap[k]? = some (Obj.cells cs t z) → t ≠ 67 → t ≠ 37 → W'.heap[k]? = some (Obj.cells cs t z)

theorem Kp.trans {a b c : World} (h : Kp a b) (k : Kp b c) : Kp a c := fun i cs t z h1 h2 h3 => k i cs t z (h i cs t z h1 h2 h3) h2 h3
theorem Kp.of_below {a b : World} (h : Below a.heap.size a b) : Kp a b := fun i cs t z h1 _ _ => (h.block i (Array.getElem?_eq_some_iff.1 h1).1).trans h1

structure Lw (w W : World) (q id N : Nat) (p : Pool) : Prop where
  bel : Below w.heap.size w W
  mo : ∃ B g Rc x n c, MoK W B q g (fresh id N) p 0 Rc x n c ∧ w.heap.size ≤ B

section
variable {w W : World} {q id N : Nat} {p : Pool}

theorem Lw.below {W' : World} (h : Lw w W q id N p) (b : Below W.heap.size W W') : Lw w W' q id N p := by
  obtain ⟨B, g, Rc, x, n, c, h1, h2⟩ := h.mo
  exact ⟨on h.bel b, B, g, Rc, x, n, c, h1.below b, h2⟩

theorem Lw.upto {W' : World} {B : Nat} {g : Ln} {Rc : Value} {x : Option Addr} {n c : Nat} (hb : Below w.heap.size w W) (h1 : MoK W B q g (fresh id N) p 0 Rc x n c) (h2 : w.heap.size ≤ B) (u : Upto W W' B q g (fresh id N) p Rc) : Lw w W' q id N p ∧ Kp W W' := by
  obtain ⟨R', x', n', c', k1, k2, k3⟩ := u
  have hof : ∀ k, ofM q Rc k → w.heap.size ≤ k := fun k hk => by
    rcases hk with e | e
    · have := h1.mo.low
      omega
    · have := (h1.mo.chs.tb e).1
      omega
  refine ⟨⟨hb.trans (k2.below (B := w.heap.size) hof hb.size), B, g, R', x', n', c', k1, h2⟩, fun k cs t z e1 e2 e3 => ?_⟩
  refine (k2.block k (Array.getElem?_eq_some_iff.1 e1).1 (fun hk => ?_)).trans e1
  rcases hk with e | e
  · have tb : Tb W k t := ⟨cs, z, e1⟩
    have e4 : k = q := e
    rw [e4] at tb
    exact e2 (tb.same h1.mo.tq)
  · have tb : Tb W k t := ⟨cs, z, e1⟩
    exact e3 (tb.same (h1.mo.chs.tb e).2)

theorem epochL (h : Lw w W q id N p) (hk : p.k ≤ 9223372036854775807) (hp : 0 < p.k) : Calls Tryz.prog 10 #[.pointer (some ⟨q, 0, none⟩)] W fun e W' => e = .returned (.int .i64 0) ∧ Hid (Lw w W' q id N p ∧ Kp W W') := by
  obtain ⟨B, g, Rc, x, n, c, h1, h2⟩ := h.mo
  exact (mepoch_any h1 hk hp).mono fun e W' ⟨a1, a2⟩ => ⟨a1, Lw.upto h.bel h1 h2 a2.out⟩

theorem mapL (h : Lw w W q id N p) (hk : p.k ≤ 9223372036854775807) (hp : 0 < p.k) : Calls Tryz.prog 19 #[.pointer (some ⟨q, 0, none⟩), .int .i64 0] W fun e W' => ∃ y cy, e = .returned (.tuple #[vM 0 p y 0 cy, .bool true]) ∧ Hid ((Lw w W' q id N p ∧ Kp W W') ∧ (y = none → cy = 0)) := by
  obtain ⟨B, g, Rc, x, n, c, h1, h2⟩ := h.mo
  refine (mmap_last h1 hk hp 0 p [] rfl (by omega) (by simp)).mono fun e W' ⟨y, yn, cy, a1, a2⟩ => ?_
  have e1 : yn = 0 := a2.out.2.1.len.symm
  subst e1
  exact ⟨y, cy, a1, Lw.upto h.bel h1 h2 a2.out.1, fun e => (a2.out.2.1.nil e).2⟩

theorem os_zero {W : World} {y : Option Addr} {cy : Nat} (h : y = none → cy = 0) : At.Os W y 0 cy [] := ⟨rfl, Nat.zero_le _, by omega, fun e => ⟨rfl, h e⟩, .inl rfl⟩

theorem mapNone (h : Lw w W q id N p) (hk : p.k ≤ 9223372036854775807) (hp : 0 < p.k) : Calls Tryz.prog 19 #[.pointer (some ⟨q, 0, none⟩), .int .i64 (-1)] W fun e W' => e = .returned (.tuple #[vM 0 noP none 0 0, .bool false]) ∧ Hid (Lw w W' q id N p ∧ Kp W W') := by
  obtain ⟨B, g, Rc, x, n, c, h1, h2⟩ := h.mo
  exact (mmap_none h1 hk hp (-1) (.inl (by omega))).mono fun e W' ⟨a1, a2⟩ => ⟨a1, Lw.upto h.bel h1 h2 a2.out⟩

theorem askL (h : Lw w W q id N p) : Calls Tryz.prog 21 #[.pointer (some ⟨q, 0, none⟩), vC zCh] W fun e W' => e = .returned (.int .i64 1) ∧ Hid (Lw w W' q id N p ∧ Kp W W') := by
  obtain ⟨B, g, Rc, x, n, c, h1, h2⟩ := h.mo
  exact (mask_bad h1.mo zCh (by decide)).mono fun e W' ⟨a1, a2⟩ => ⟨a1, h.below a2, Kp.of_below a2⟩

theorem pendL (h : Lw w W q id N p) (hp : 0 < p.k) : Calls Tryz.prog 16 #[.pointer (some ⟨q, 0, none⟩)] W fun e W' => e = .returned (.int .i64 0) ∧ W' = W := by
  obtain ⟨B, g, Rc, x, n, c, h1, h2⟩ := h.mo
  have hM := mnode_yes h1.mo (by rw [chain_pool]; exact hp)
  have hP := pending_any h1.mo.node
  have e0 : ((fresh id N).wait.length : Int) = 0 := rfl
  rw [e0] at hP
  clear h h1 h2 hp
  go_enter Tryz.func16, Tryz.ntmps16
  go_wp2_with (first
    | (
       go_at_call 30; refine hM.mono ?_; rintro e w' ⟨rfl, hw⟩; subst w'; clear hM)
    | (
       go_at_call 32; refine hP.mono ?_; rintro e w' ⟨rfl, hw⟩; subst w'; clear hP))
  go_ret
  exact ⟨rfl, rfl⟩

theorem newL {id N : Nat} (h1 : 1 ≤ N) (h2 : N ≤ 7) (h3 : id < N) (hw : Below w.heap.size w W) (hk : p.k ≤ 9223372036854775807) (hp : poolB p = true) : Calls Tryz.prog 17 #[.int .i64 (id : Int), .int .i64 (N : Int), vP p] W fun e W' => ∃ q, e = .returned (.tuple #[.pointer (some ⟨q, 0, none⟩), .int .i64 0]) ∧ Hid (Lw w W' q id N p ∧ Below W.heap.size W W') :=
  (mnew_yes id N p W h1 h2 h3 hk hp).mono fun e W' ⟨q, a1, a2⟩ => by
    obtain ⟨b, g, k1, _⟩ := a2.out
    have := hw.size
    exact ⟨q, a1, ⟨on hw b, W.heap.size + 1, g, _, _, _, _, ⟨k1, Nat.zero_le _⟩, by omega⟩, b⟩

end

end Go.Proofs.YtdlajpjigddbhaaGreat.Mo

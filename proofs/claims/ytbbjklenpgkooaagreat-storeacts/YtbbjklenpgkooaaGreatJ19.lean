/-
  2 texts of this proof, one behind the other: StRefDec, JoRefMk.
-/
import Derived.Test.YtbbjklenpgkooaaGreatJ15
import Derived.Test.YtbbjklenpgkooaaGreatJ17
import Derived.Test.YtbbjklenpgkooaaGreatJ18
import Derived.Test.YtbbjklenpgkooaaGreatJ07
import Derived.Test.YtbbjklenpgkooaaGreatJ09
import Derived.Test.YtbbjklenpgkooaaGreatJ01
import Derived.Test.YtbbjklenpgkooaaGreatJ02
/-
  The document's Decode of a batch.
  Conditions: the bytes lie in memory.
-/
namespace Go.Proofs.YtbbjklenpgkooaaGreat
open Go.RowKit By Dk Wi St
variable [Inhabited PR] [∀ pre s : ByteArray, Decidable (Beg pre s)]
set_option linter.unusedSectionVars false
set_option linter.unusedVariables false
set_option linter.unusedSimpArgs false
set_option maxRecDepth 100000

theorem RRd.turns {w w' : World} {F : Nat → Prop} {q : Nat} {x : Option Addr} {n c : Nat} {L : List Nat} {t e : Nat} (h : RRd w q x n c L t e) (k : Turns F w w') (hp : ¬ F q) (ha : n ≠ 0 → ∀ a, x = some a → ¬ F a.block) : RRd w' q x n c L t e := by
  have hb := k.block q h.lt hp
  exact ⟨(World.cell?_of_block (a := ⟨q, 0, none⟩) hb).trans h.bytes, (World.cell?_of_block (a := ⟨q, 1, none⟩) hb).trans h.place, (World.cell?_of_block (a := ⟨q, 2, none⟩) hb).trans h.bad, fun j => (World.frozen?_of_block (w := w) hb).trans (h.fr j), h.sl.turns k ha, h.ap, h.le, h.small⟩

/- The document's reader at q and the act that is made at Q. -/
structure RB (w v : World) (q : Nat) (x : Option Addr) (n c : Nat) (L l : List Nat) (e : Nat) (Q : Nat) (B0 B1 B2 : Value) : Prop where
  rd : ∃ t, RRd v q x n c L t e ∧ L.drop t = l
  tn : Turn q w v
  tq : Three v Q B0 B1 B2
  hQ : w.heap.size ≤ Q
  hq : q < w.heap.size
  hx : n ≠ 0 → ∀ a, x = some a → a.block < w.heap.size

section
variable {w v v' : World} {q : Nat} {x : Option Addr} {n c : Nat} {L l : List Nat} {e : Nat} {Q : Nat} {B0 B1 B2 : Value}

theorem RB.go (h : RB w v q x n c L l e Q B0 B1 B2) {l' : List Nat} {e' : Nat} (g : RGo v v' q x n c L l' e') : RB w v' q x n c L l' e' Q B0 B1 B2 := by
  obtain ⟨t, t', h1, h2⟩ := g
  have := h.hq
  have h3 := h.hQ
  exact ⟨⟨t', h1, h2⟩, h.tn.trans t, h.tq.turn t (by omega), h.hQ, h.hq, h.hx⟩

theorem RB.rdq (h : RB w v q x n c L l e Q B0 B1 B2) (t : Turn Q v v') : ∃ t, RRd v' q x n c L t e ∧ L.drop t = l := by
  obtain ⟨t', h1, h2⟩ := h.rd
  have := h.hq
  have h3 := h.hQ
  exact ⟨t', h1.turn0 t (by omega) (fun hn a ha => by have := h.hx hn a ha; omega), h2⟩

theorem RB.set1 (h : RB w v q x n c L l e Q B0 B1 B2) (u : Value) : RB w (v.setCell ⟨Q, 1, none⟩ u) q x n c L l e Q B0 u B2 :=
  ⟨h.rdq ((Turn.refl Q v).setCell rfl u), h.tn.high h.hQ u, h.tq.set1 u, h.hQ, h.hq, h.hx⟩
theorem RB.set2 (h : RB w v q x n c L l e Q B0 B1 B2) (u : Value) : RB w (v.setCell ⟨Q, 2, none⟩ u) q x n c L l e Q B0 B1 u :=
  ⟨h.rdq ((Turn.refl Q v).setCell rfl u), h.tn.high h.hQ u, h.tq.set2 u, h.hQ, h.hq, h.hx⟩

theorem RB.new {l' : List Nat} {e' : Nat} (hq : q < w.heap.size) (hx : n ≠ 0 → ∀ a, x = some a → a.block < w.heap.size) (g : RGo w v q x n c L l' e') (u0 u1 u2 : Value) :
    RB w (v.alloc (.cells #[u0, u1, u2] 54)) q x n c L l' e' v.heap.size u0 u1 u2 := by
  obtain ⟨t, t', h1, h2⟩ := g
  have b1 : Below v.heap.size v (v.alloc (.cells #[u0, u1, u2] 54)) := (Below.refl _ _).alloc (Nat.le_refl _) _
  exact ⟨⟨t', h1.below b1, h2⟩, t.trans (Turn.of_below b1), Three.new v u0 u1 u2 54, t.size, hq, hx⟩

end

/- Decode, behind k acts: the reader at q, the list R. -/
structure DQ (w wr : World) (q : Nat) (x : Option Addr) (n c : Nat) (L l : List Nat) (e : Nat) (R : Value) (k : Nat) (V : Nat → AV) : Prop where
  rd : ∃ t, RRd wr q x n c L t (rActs k l e).2.2 ∧ L.drop t = (rActs k l e).2.1
  own : OwnA wr R k V
  hR : ∀ g, R.ownBlock = some g → w.heap.size ≤ g ∧ g ≠ q
  ok : ∀ i, i < k → ActOk wr (V i)
  ap : ∀ i, i < k → ∀ a, (V i).x = some a → w.heap.size ≤ a.block ∧ ((V i).n ≠ 0 → a.block ≠ q ∧ R.ownBlock ≠ some a.block)
  eq : pas V k = (rActs k l e).1
  bel : Below w.heap.size w wr
  hq : w.heap.size ≤ q
  hx : n ≠ 0 → ∀ a, x = some a → a.block < w.heap.size

theorem DQ.qlt {w wr : World} {q : Nat} {x : Option Addr} {n c : Nat} {L l : List Nat} {e : Nat} {R : Value} {k : Nat} {V : Nat → AV} (h : DQ w wr q x n c L l e R k V) : q < wr.heap.size := by
  obtain ⟨t, h1, _⟩ := h.rd
  exact h1.lt

theorem Sl.lt_block {w : World} {x : Option Addr} {n c : Nat} {l : List Nat} (h : Sl w x n c l) (hn : n ≠ 0) {a : Addr} (ha : x = some a) : a.block < w.heap.size := by
  rcases h.row with h0 | ⟨b, o, h1, h2, h3⟩
  · exact absurd h0 hn
  · rw [ha] at h1
    injection h1 with h1
    subst h1
    exact h2

theorem DQ.step {w wr v : World} {q : Nat} {x : Option Addr} {n c : Nat} {L l : List Nat} {e : Nat} {xr : Option Addr} {cr k : Nat} {V : Nat → AV} (h : DQ w wr q x n c L l e (.slice xr k cr) k V) (hk : k ≤ 256) {Q : Nat} {av : AV}
    (hb : RB wr v q x n c L (rAct (rActs k l e).2.1 (rActs k l e).2.2).2.1 (rAct (rActs k l e).2.1 (rActs k l e).2.2).2.2 Q (.string av.key) (.bool av.set) (.slice av.x av.n av.c)) (hpa : pa av = (rAct (rActs k l e).2.1 (rActs k l e).2.2).1) (hok : ActOk v av) (hav : ∀ a, av.x = some a → wr.heap.size ≤ a.block) :
    ∃ x' c' w', (Builtin.append_ #[24, 24] 24 #[.slice xr k cr, .slice (some ⟨v.heap.size, 0, none⟩) 1 1]).run Tryz.prog (v.alloc (.cells #[.string av.key, .bool av.set, .slice av.x av.n av.c] 54)) = .ok (.slice x' (k + 1) c') w' ∧
      Hid (DQ w w' q x n c L l e (.slice x' (k + 1) c') (k + 1) (catA V k fun _ => av)) := by
  have hql := h.qlt
  have hsz := h.bel.size
  have hsz1 := hb.tn.size
  have hoq : ∀ g, (Value.slice xr k cr).ownBlock = some g → g ≠ q := fun g hg => (h.hR g hg).2
  have hlt : ∀ g, (Value.slice xr k cr).ownBlock = some g → g < wr.heap.size := fun g hg => (h.own.lt g hg).2
  have tq : Turns (fun j => j = q) wr v := ⟨hb.tn.os, hb.tn.tape, hb.tn.output, hb.tn.size, fun j hj hn => hb.tn.block j hj hn⟩
  have own1 : OwnA v (.slice xr k cr) k V := h.own.turns tq hoq
  have own2 := own1.alloc #[.string av.key, .bool av.set, .slice av.x av.n av.c] 54
  have b1 : Below v.heap.size v (v.alloc (.cells #[.string av.key, .bool av.set, .slice av.x av.n av.c] 54)) := (Below.refl _ _).alloc (Nat.le_refl _) _
  have t3 := Three.new v (.string av.key) (.bool av.set) (.slice av.x av.n av.c) 54
  obtain ⟨x', c', w', hap, HP⟩ := own2.push v.heap.size 0 1 1 (fun _ => av) (fun i hi => by
    obtain rfl : i = 0 := by omega
    exact ⟨t3.c0, t3.c1, t3.c2⟩) (by omega)
  obtain ⟨p1, p2, p3⟩ := HP.out
  refine ⟨x', c', w', hap, ?_⟩
  have hn1 := b1.size
  have hn2 := p2.size
  have hbel1 : Below w.heap.size w v := h.bel.trans (hb.tn.below h.hq hsz)
  have hbel2 : Below w.heap.size w (v.alloc (.cells #[.string av.key, .bool av.set, .slice av.x av.n av.c] 54)) := hbel1.trans (b1.mono hbel1.size)
  have hvi : ∀ i, i < k → ActOk v (V i) := fun i hi => (h.ok i hi).turns tq (fun hn a ha => (((h.ap i hi) a ha).2 hn).1)
  refine ⟨?_, p1, fun g hg => ?_, fun i hi => ?_, fun i hi a ha => ?_, ?_, hbel2.trans (p2.below (fun j hj => (h.hR j hj).1) hbel2.size), h.hq, h.hx⟩
  · obtain ⟨t, r1, r2⟩ := hb.rd
    exact ⟨t, (r1.below b1).turns p2 (fun e1 => hoq _ e1 rfl) (fun hn a ha e1 => by have := h.hx hn a ha; have := (h.hR _ e1).1; omega), r2⟩
  · rcases p3 g hg with e1 | e1
    · exact h.hR g e1
    · exact ⟨by omega, by omega⟩
  · by_cases ei : i < k
    · rw [catA_old V _ ei]
      exact ((hvi i ei).below b1).turns p2 (fun hn a ha => ((h.ap i ei a ha).2 hn).2)
    · obtain rfl : i = k := by omega
      rw [catA_at]
      exact (hok.below b1).turns p2 (fun hn a ha e1 => by have := hav a ha; have := hlt _ e1; omega)
  · by_cases ei : i < k
    · rw [catA_old V _ ei] at ha ⊢
      refine ⟨(h.ap i ei a ha).1, fun hn => ⟨((h.ap i ei a ha).2 hn).1, fun e1 => ?_⟩⟩
      rcases p3 _ e1 with e2 | e2
      · exact ((h.ap i ei a ha).2 hn).2 e2
      · have := (h.ok i ei).sl.lt_block hn ha
        omega
    · obtain rfl : i = k := by omega
      rw [catA_at] at ha ⊢
      have h1 := hav a ha
      refine ⟨by omega, fun hn => ⟨by omega, fun e1 => ?_⟩⟩
      rcases p3 _ e1 with e2 | e2
      · have := hlt _ e2
        omega
      · have := hok.sl.lt_block hn ha
        omega
  · rw [pas_cat V (fun _ => av) k 1, h.eq]
    show (rActs k l e).1 ++ [pa av] = _
    rw [hpa]
    rfl

theorem dec_ref {b : List Nat} {c : Nat} {acts : List PA} (hb : ∀ v ∈ b, v < 256) (hS : DecSays b c acts) : (∃ o, EncSays (rd b).1 0 o ∧ o = b ∧ c = 0 ∧ acts = (rd b).1) ∨ (c = 5 ∧ acts = [] ∧ ∃ c' o, EncSays (rd b).1 c' o ∧ (c' = 0 → o ≠ b)) := by
  rcases hS with ⟨⟨h1, h2, h3⟩, h4, h5⟩ | ⟨h1, h4, h5⟩
  · left
    have he := (rd_iff b hb h2).1 h3
    refine ⟨enc (rd b).1, .inr (.inr ⟨⟨rd_len b, h2⟩, by rw [he]; exact h1, rfl, rfl⟩), he, h4, h5⟩
  · right
    obtain ⟨c', o, hE⟩ := enc_says (rd b).1
    refine ⟨h4, h5, c', o, hE, fun hc he => ?_⟩
    rcases hE with ⟨_, e1, e2⟩ | ⟨_, _, e1, e2⟩ | ⟨⟨e3, e4⟩, e5, e1, e2⟩
    · omega
    · omega
    · rw [e2] at he
      exact h1 ⟨by rw [← he]; exact e5, e4, (rd_iff b hb e4).2 he⟩

set_option maxHeartbeats 2000000 in
theorem rdecode_any (x : Option Addr) (n cp : Nat) (b : List Nat) (w : World) (h : Sl w x n cp b) (hn : n ≤ 140737488351232) (c : Nat) (acts : List PA) (hS : DecSays b c acts) :
    Calls Tryz.prog 8 #[.slice x n cp] w fun e w' => ∃ a m cm V, e = .returned (.tuple #[.slice a m cm, .int .i64 (c : Int)]) ∧ m ≤ 256 ∧ pas V m = acts ∧ m ≤ cm ∧ DecTold w w' a m V := by
  have hxb : n ≠ 0 → ∀ a, x = some a → a.block < w.heap.size := fun h0 a ha => h.lt_block h0 ha
  have hbl := h.lt
  have hrd : rd b = rActs (rNum 256 b 0).1 (rNum 256 b 0).2.1 (rNum 256 b 0).2.2 := rfl
  have hmost := rNum_most 256 b 0 (by omega)
  have hd := dec_ref hbl hS
  have hR0 : RRd (w.alloc (.cells #[.slice x n cp, .int .i64 0, .int .i64 0] 68)) w.heap.size x n cp b 0 0 := by
    have b1 : Below w.heap.size w (w.alloc (.cells #[.slice x n cp, .int .i64 0, .int .i64 0] 68)) := (Below.refl _ _).alloc (Nat.le_refl _) _
    have t1 := Three.new w (.slice x n cp) (.int .i64 0) (.int .i64 0) 68
    refine ⟨t1.c0, t1.c1, t1.c2, fun j => ?_, h.below b1, fun h0 a ha => by have := hxb h0 a ha; omega, Nat.zero_le _, by omega⟩
    simp only [World.frozen?, heap_alloc_new]
    simp
  have b0 : Below w.heap.size w (w.alloc (.cells #[.slice x n cp, .int .i64 0, .int .i64 0] 68)) := (Below.refl _ _).alloc (Nat.le_refl _) _
  have hN := rnum_any w.heap.size n cp 0 0 256 x b _ hR0 (by omega) (by omega)
  rw [List.drop_zero] at hN
  have hconv : ∀ v, Below w.heap.size w v → (convert 22 9 (.slice x n cp)).run Tryz.prog v = .ok (.string (str b)) v := fun v hv => conv_sl (h.below hv)
  generalize rNum 256 b 0 = M at hrd hmost hN
  obtain ⟨N, l, e0⟩ := M
  dsimp only at hrd hmost hN
  have hN256 : N ≤ 256 := by omega
  have H0 : Hid (∀ v, RGo (w.alloc (.cells #[.slice x n cp, .int .i64 0, .int .i64 0] 68)) v w.heap.size x n cp b l e0 → DQ w (v.alloc (.cells #[] 54)) w.heap.size x n cp b l e0 (.slice (some ⟨v.heap.size, 0, none⟩) 0 0) 0 (fun _ => noAV)) := fun v ⟨t, t', r1, r2⟩ => by
    have bb : Below v.heap.size v (v.alloc (.cells #[] 54)) := (Below.refl _ _).alloc (Nat.le_refl _) _
    have hs := t.size
    have hs0 : (w.alloc (.cells #[.slice x n cp, .int .i64 0, .int .i64 0] 68)).heap.size = w.heap.size + 1 := by simp
    have hb2 : Below w.heap.size w v := b0.trans (t.below (Nat.le_refl _) b0.size)
    refine ⟨⟨t', r1.below bb, r2⟩, OwnA.start v _, fun g hg => ?_, (fun i hi => by omega), (fun i hi => by omega), rfl, hb2.trans (bb.mono hb2.size), Nat.le_refl _, hxb⟩
    simp [Value.ownBlock] at hg
    omega
  have HC := hid hconv
  have HD := hid hd
  have HRD := hid hrd
  have hbb := hid hbl
  clear h hS hbl hrd hmost hconv hd hR0 b0
  go_enter Tryz.func8, Tryz.ntmps8
  go_wp2_with (go_at_call 28; refine hN.mono ?_; rintro e w2 ⟨rfl, hg2⟩; clear hN
               have H2 := hid (H0.out w2 hg2)
               clear H0 hg2)
  go_loopw [6, 7] (fun R i wr => ∃ (k : Nat) (xr : Option Addr) (cr : Nat) (V : Nat → AV), k ≤ N ∧ R = .slice xr k cr ∧ i = .int .i64 k ∧ Hid (DQ w wr w.heap.size x n cp b l e0 (.slice xr k cr) k V)) (fun _ i _ => N - (intOf i).toNat)
  case atStart => exact ⟨0, _, _, _, by omega, rfl, rfl, H2.out⟩
  case round =>
    clear H2
    obtain ⟨k, xr, cr, V, hk, rfl, rfl, HQ⟩ := hrel
    by_cases hkl : k < N
    · have hkl' : (k : Int) < (N : Int) := by omega
      obtain ⟨t0, r1, r2⟩ := HQ.out.rd
      have hql := HQ.out.qlt
      have hxw : n ≠ 0 → ∀ a, x = some a → a.block < wr.heap.size := fun h0 a ha => by have := hxb h0 a ha; have := HQ.out.bel.size; omega
      have hll : ∀ v ∈ (rActs k l e0).2.1, v < 256 := fun v hv => by rw [← r2] at hv; exact r1.sl.lt v (List.mem_of_mem_drop hv)
      have HST : Hid (∀ v Q (av : AV), RB wr v w.heap.size x n cp b (rAct (rActs k l e0).2.1 (rActs k l e0).2.2).2.1 (rAct (rActs k l e0).2.1 (rActs k l e0).2.2).2.2 Q (.string av.key) (.bool av.set) (.slice av.x av.n av.c) → pa av = (rAct (rActs k l e0).2.1 (rActs k l e0).2.2).1 → ActOk v av → (∀ a, av.x = some a → wr.heap.size ≤ a.block) →
          ∃ x' c' w', (Builtin.append_ #[24, 24] 24 #[.slice xr k cr, .slice (some ⟨v.heap.size, 0, none⟩) 1 1]).run Tryz.prog (v.alloc (.cells #[.string av.key, .bool av.set, .slice av.x av.n av.c] 54)) = .ok (.slice x' (k + 1) c') w' ∧
            Hid (DQ w w' w.heap.size x n cp b l e0 (.slice x' (k + 1) c') (k + 1) (catA V k fun _ => av))) := fun v Q av a1 a2 a3 a4 => HQ.out.step (by omega) a1 a2 a3 a4
      clear HQ HC HD HRD
      generalize (rActs k l e0).2.1 = L1 at *
      generalize (rActs k l e0).2.2 = E1 at *
      have hk64 := rBy_most 64 L1 E1 (by omega)
      have hkl2 := rBy_lt 64 L1 E1 hll
      have hB := rby_new w.heap.size n cp t0 E1 64 x b wr r1 (by omega) (by omega)
      rw [r2] at hB
      have hB1 : Calls Tryz.prog 29 #[.pointer (some ⟨w.heap.size, 0, none⟩), .int .i64 64] wr fun ed w' => ∃ y m cy, ed = .returned (.slice y m cy) ∧ (convert 22 9 (.slice y m cy)).run Tryz.prog w' = .ok (.string (str (rBy 64 L1 E1).1)) w' ∧ Hid (RB wr (w'.alloc (.cells #[.string (str (rBy 64 L1 E1).1), .bool false, .slice none 0 0] 54)) w.heap.size x n cp b (rBy 64 L1 E1).2.1 (rBy 64 L1 E1).2.2 w'.heap.size (.string (str (rBy 64 L1 E1).1)) (.bool false) (.slice none 0 0)) :=
        hB.mono fun ed w' ⟨v, h1, ⟨h2, y, cy, h3, h4⟩, _⟩ => ⟨y, _, cy, by rw [h1, h3], conv_sl h4, RB.new hql hxw h2 _ _ _⟩
      clear hB
      generalize hK : rBy 64 L1 E1 = K at hB1 hk64 hkl2
      obtain ⟨k1, l1, e1⟩ := K
      dsimp only at hB1 hk64 hkl2
      have hNN : ∀ v Q, RB wr v w.heap.size x n cp b l1 e1 Q (.string (str k1)) (.bool false) (.slice none 0 0) → Calls Tryz.prog 28 #[.pointer (some ⟨w.heap.size, 0, none⟩), .int .i64 1] v fun ed w' => ed = .returned (.int .i64 ((rNum 1 l1 e1).1 : Int)) ∧ w'.cell? ⟨Q, 1, none⟩ = some (.bool false) ∧ w'.frozen? ⟨Q, 1, none⟩ = false ∧ Hid (RB wr w' w.heap.size x n cp b (rNum 1 l1 e1).2.1 (rNum 1 l1 e1).2.2 Q (.string (str k1)) (.bool false) (.slice none 0 0)) := fun v Q hv => by
        obtain ⟨t1, g1, g2⟩ := hv.rd
        have := rnum_any w.heap.size n cp t1 e1 1 x b v g1 (by omega) (by omega)
        rw [g2] at this
        refine this.mono fun ed w' ⟨h1, h2⟩ => ?_
        have h6 := hv.go h2
        exact ⟨h1, h6.tq.c1, h6.tq.f1, h6⟩
      have hm1 := rNum_most 1 l1 e1 (by omega)
      generalize hM : rNum 1 l1 e1 = M at hNN hm1
      obtain ⟨m, l2, e2⟩ := M
      dsimp only at hNN hm1
      have hDA : rAct L1 E1 = if m = 1 then (⟨k1, true, (rBy 4096 l2 e2).1⟩, (rBy 4096 l2 e2).2.1, (rBy 4096 l2 e2).2.2) else (⟨k1, false, []⟩, l2, e2) := by
        unfold rAct
        rw [hK]
        dsimp only
        rw [hM]
      have hkey : nat (str k1) = k1 := nat_str hkl2
      have hks : (str k1).size ≤ 140737488351232 := by rw [str_size]; omega
      have HN := hid hNN
      clear hNN hK hM
      by_cases hm : m = 1
      · subst hm
        rw [if_pos rfl] at hDA
        have hd4 := rBy_most 4096 l2 e2 (by omega)
        have HB2 : Hid (∀ v Q, RB wr v w.heap.size x n cp b l2 e2 Q (.string (str k1)) (.bool true) (.slice none 0 0) → Calls Tryz.prog 29 #[.pointer (some ⟨w.heap.size, 0, none⟩), .int .i64 4096] v fun ed w' => ∃ y m cy, ed = .returned (.slice y m cy) ∧ w'.cell? ⟨Q, 2, none⟩ = some (.slice none 0 0) ∧ w'.frozen? ⟨Q, 2, none⟩ = false ∧ w'.cell? ⟨Q, 0, none⟩ = some (.string (str k1)) ∧ w'.cell? ⟨Q, 1, none⟩ = some (.bool true) ∧
            ∃ x' c' w3, (Builtin.append_ #[24, 24] 24 #[.slice xr k cr, .slice (some ⟨w'.heap.size, 0, none⟩) 1 1]).run Tryz.prog ((w'.setCell ⟨Q, 2, none⟩ (.slice y m cy)).alloc (.cells #[.string (str k1), .bool true, .slice y m cy] 54)) = .ok (.slice x' (k + 1) c') w3 ∧
              Hid (∃ V, DQ w w3 w.heap.size x n cp b l e0 (.slice x' (k + 1) c') (k + 1) V)) := fun v Q hv => by
          obtain ⟨t1, g1, g2⟩ := hv.rd
          have := rby_new w.heap.size n cp t1 e2 4096 x b v g1 (by omega) (by omega)
          rw [g2] at this
          refine this.mono fun ed w' ⟨u, h1, ⟨h2, y, cy, h3, h4⟩, h5⟩ => ?_
          subst h3
          have h6 := hv.go h2
          have h7 := h6.set2 (.slice y (rBy 4096 l2 e2).1.length cy)
          have hfr : ∀ a, y = some a → v.heap.size ≤ a.block := fun a ha => h5 a _ _ (by rw [ha])
          have hQl := hv.tq.lt
          have s1 : Sl (w'.setCell ⟨Q, 2, none⟩ (.slice y (rBy 4096 l2 e2).1.length cy)) y (rBy 4096 l2 e2).1.length cy (rBy 4096 l2 e2).1 := h4.turn (turn_one Q w' 2 _) (fun a ha => by have := hfr a ha; omega)
          obtain ⟨x', c', w3, p1, p2⟩ := HST.out _ Q ⟨str k1, true, y, (rBy 4096 l2 e2).1.length, cy, (rBy 4096 l2 e2).1⟩ (by rw [hDA]; exact h7) (by rw [hDA]; unfold pa; dsimp only; rw [hkey]) ⟨s1, by show (rBy 4096 l2 e2).1.length ≤ _; omega, hks⟩ (fun a ha => by have := hfr a ha; have := hv.tn.size; omega)
          refine ⟨y, _, cy, h1, h6.tq.c2, h6.tq.f2, h6.tq.c0, h6.tq.c1, x', c', w3, ?_, _, p2.out⟩
          simpa [World.setCell] using p1
        clear hDA HST hkey hks hd4 hm1 hll r1 r2 hql hxw hk64 hkl2
        go_wp2_with (first
          | (go_at_call 29; refine hB1.mono ?_; rintro e w1 ⟨y, my, cy, rfl, hcv, HR⟩; clear hB1
             have hN1 := HN.out _ _ HR.out
             clear HN HR)
          | (go_at_call 28; refine hN1.mono ?_; rintro e w2 ⟨rfl, q2, q3, HR2⟩; clear hN1
             have hB2 := HB2.out _ _ (HR2.out.set1 (.bool true))
             clear HB2)
          | (go_at_call 29; refine hB2.mono ?_; rintro e w3 ⟨y3, m3, c3, rfl, q4, q5, q6, q7, x', c', w4, hap, HF⟩; clear hB2)
          | (at_builtin; refine wpList_append_run rfl _ _ 24 rfl _ _ rfl rfl hap ?_; clear hap))
        go_roundw
        case rel => obtain ⟨V', hF⟩ := HF.out; exact ⟨k + 1, x', c', V', by omega, rfl, by go_num, hF⟩
        case measure => simp [intOf]; omega
      · obtain rfl : m = 0 := by omega
        rw [if_neg (by omega)] at hDA
        have HE : Hid (∀ v Q, RB wr v w.heap.size x n cp b l2 e2 Q (.string (str k1)) (.bool false) (.slice none 0 0) → v.cell? ⟨Q, 0, none⟩ = some (.string (str k1)) ∧ v.cell? ⟨Q, 2, none⟩ = some (.slice none 0 0) ∧
            ∃ x' c' w3, (Builtin.append_ #[24, 24] 24 #[.slice xr k cr, .slice (some ⟨v.heap.size, 0, none⟩) 1 1]).run Tryz.prog ((v.setCell ⟨Q, 1, none⟩ (.bool false)).alloc (.cells #[.string (str k1), .bool false, .slice none 0 0] 54)) = .ok (.slice x' (k + 1) c') w3 ∧
              Hid (∃ V, DQ w w3 w.heap.size x n cp b l e0 (.slice x' (k + 1) c') (k + 1) V)) := fun v Q hv => by
          have h7 := hv.set1 (.bool false)
          obtain ⟨x', c', w3, p1, p2⟩ := HST.out _ Q ⟨str k1, false, none, 0, 0, []⟩ (by rw [hDA]; exact h7) (by rw [hDA]; unfold pa; dsimp only; rw [hkey]) ⟨Sl.empty _, Nat.zero_le _, hks⟩ (fun a ha => by cases ha)
          refine ⟨hv.tq.c0, hv.tq.c2, x', c', w3, ?_, _, p2.out⟩
          simpa [World.setCell] using p1
        clear hDA HST hkey hks hm1 hll r1 r2 hql hxw hk64 hkl2
        go_wp2_with (first
          | (go_at_call 29; refine hB1.mono ?_; rintro e w1 ⟨y, my, cy, rfl, hcv, HR⟩; clear hB1
             have hN1 := HN.out _ _ HR.out
             clear HN HR)
          | (go_at_call 28; refine hN1.mono ?_; rintro e w2 ⟨rfl, q2, q3, HR2⟩; clear hN1
             obtain ⟨q6, q4, x', c', w4, hap, HF⟩ := HE.out _ _ HR2.out
             clear HE)
          | (at_builtin; refine wpList_append_run rfl _ _ 24 rfl _ _ rfl rfl hap ?_; clear hap))
        go_roundw
        case rel => obtain ⟨V', hF⟩ := HF.out; exact ⟨k + 1, x', c', V', by omega, rfl, by go_num, hF⟩
        case measure => simp [intOf]; omega
    · obtain rfl : k = N := by omega
      have hq := HQ.out
      have hacts := hq.own.acts hq.ok
      have hpas : pas V k = (rd b).1 := by rw [HRD.out]; exact hq.eq
      have hkc : k ≤ cr := by
        obtain ⟨_, _, hfe, h4, _⟩ := own_form hq.own
        injection hfe with _ _ hfe
        omega
      have HF : Hid (∀ v, Below wr.heap.size wr v → DecTold w v xr k V) := fun v hb => ⟨hacts.below hb, (fun ad ha => by
          rcases hq.own.2 with ⟨he3, _⟩ | ⟨g, cap, cur, he3, _⟩
          · injection he3 with he3
            rw [ha] at he3
            cases he3
          · have := (hq.hR g (by rw [he3]; rfl)).1
            injection he3 with he3
            rw [ha] at he3
            injection he3 with he3
            rw [he3]
            exact this), (fun i hi ad ha => (hq.ap i hi ad ha).1), hq.bel.trans (hb.mono hq.bel.size)⟩
      have HCC : Hid (∀ v, Below wr.heap.size wr v → (convert 22 9 (.slice x n cp)).run Tryz.prog v = .ok (.string (str b)) v) := fun v hb => HC.out v (hq.bel.trans (hb.mono hq.bel.size))
      rcases HD.out with ⟨o, hE, ho, rfl, rfl⟩ | ⟨rfl, rfl, c', o, hE, hne⟩
      · rw [← hpas] at hE
        have hC : Calls Tryz.prog 14 #[.slice xr k cr] wr fun e w' => ∃ y m cy, e = .returned (.tuple #[.slice y m cy, .int .i64 ((0 : Nat) : Int)]) ∧ (convert 22 9 (.slice y m cy)).run Tryz.prog w' = .ok (.string (str b)) w' ∧ (convert 22 9 (.slice x n cp)).run Tryz.prog w' = .ok (.string (str b)) w' ∧ Hid (Below wr.heap.size wr w') :=
          (rencode_any xr k cr V wr hacts (by omega) 0 o hE).mono fun e w' ⟨y, m, cy, h1, h2, h3, h4⟩ => ⟨y, m, cy, h1, by rw [← ho]; exact conv_sl h2, HCC.out w' h4, h4⟩
        have HP := hid hpas
        clear hq hacts hpas hE HQ HD HRD HC HCC ho
        generalize str b = Sb at *
        go_wp2_with (go_at_call 14; refine hC.mono ?_; rintro e w3 ⟨y3, m3, c3, rfl, g1, g2, HB⟩; clear hC)
        go_ret2
        exact ⟨xr, k, cr, V, rfl, hN256, HP.out, hkc, HF.out w3 HB.out⟩
      · rw [← hpas] at hE
        have hC : Calls Tryz.prog 14 #[.slice xr k cr] wr fun e w' => ∃ y m cy So, e = .returned (.tuple #[.slice y m cy, .int .i64 (c' : Int)]) ∧ (convert 22 9 (.slice y m cy)).run Tryz.prog w' = .ok (.string So) w' ∧ (convert 22 9 (.slice x n cp)).run Tryz.prog w' = .ok (.string (str b)) w' ∧ (c' = 0 → (So.toList == (str b).toList) = false) ∧ Hid (Below wr.heap.size wr w') :=
          (rencode_any xr k cr V wr hacts (by omega) c' o hE).mono fun e w' ⟨y, m, cy, h1, h2, h3, h4⟩ => ⟨y, m, cy, str o, h1, conv_sl h2, HCC.out w' h4, fun h0 => beq_nat (str o) (str b) false (by
            rw [nat_str h2.lt, nat_str hbb.out]
            exact ⟨fun e => absurd e (hne h0), fun e => by cases e⟩), h4⟩
        clear hq hacts hpas hE HQ HD HRD HC HCC hne
        generalize str b = Sb at *
        have HF2 : Hid (∀ v, Below wr.heap.size wr v → Below w.heap.size w v) := fun v hv => (HF.out v hv).2.2.2
        clear HF
        by_cases h0 : c' = 0
        · subst h0
          go_wp2_with (go_at_call 14; refine hC.mono ?_; rintro e w3 ⟨y3, m3, c3, So, rfl, g1, g2, g3, HB⟩; clear hC; have g4 := g3 rfl; clear g3)
          go_ret2
          exact ⟨none, 0, 0, fun _ => noAV, rfl, by omega, rfl, Nat.le_refl _, ⟨.inl rfl, fun i hi => by omega⟩, (fun ad ha => by cases ha), (fun i hi => by omega), HF2.out _ HB.out⟩
        · have hne0 : ((c' : Int) != 0) = true := by simp; omega
          go_wp2_with (go_at_call 14; refine hC.mono ?_; rintro e w3 ⟨y3, m3, c3, So, rfl, g1, g2, g3, HB⟩; clear hC g3)
          go_ret2
          exact ⟨none, 0, 0, fun _ => noAV, rfl, by omega, rfl, Nat.le_refl _, ⟨.inl rfl, fun i hi => by omega⟩, (fun ad ha => by cases ha), (fun i hi => by omega), HF2.out _ HB.out⟩

end Go.Proofs.YtbbjklenpgkooaaGreat

/-
  What the document's Make does: a contract over plain numbers ('JoPlain').
  Conditions: the record's bytes lie in memory.
-/
namespace Go.Proofs.YtbbjklenpgkooaaGreat
open Go.RowKit By Dk Su Jo
variable [Inhabited PR] [∀ pre s : ByteArray, Decidable (Beg pre s)]
set_option linter.unusedSectionVars false
set_option linter.unusedVariables false
set_option linter.unusedSimpArgs false
set_option maxRecDepth 100000

set_option maxHeartbeats 400000 in
set_option maxRecDepth 100000 in
theorem rappend_full (n c : Nat) (x : Option Addr) (f : Nat → Nat) (w : World) (hf : ∀ i, f i < 256) (hn : n ≤ 140737488351232) (hx : RowAt w x n f) (hnil : x = none → n = 0 ∧ c = 0) :
    Calls Tryz.prog 41 #[.slice x n c] w fun e w' => ∃ g cy, e = .returned (.slice (some ⟨g, 0, none⟩) (n + 4) cy) ∧ Below w.heap.size w w' ∧ RowAt w' (some ⟨g, 0, none⟩) (n + 4) (fun i => if i < n then f i else lo (sumOf f n) (i - n)) ∧ n + 4 ≤ cy ∧ w.heap.size ≤ g ∧ g < w'.heap.size := by
  have hof := rof_any n c x f w hf (by omega) hx
  have hs := sumOf_lt f n hf
  generalize sumOf f n = s at hof hs
  obtain ⟨g1, c1, w1, hr1, hb1, ho1, hg1, hl1, hc1, hw1⟩ := bytes_copy w x n c f hx hnil (by omega)
  have hlo : (w1.alloc (.cells #[.int .u8 ((s : Int) % 256), .int .u8 ((s : Int) / 256 % 256), .int .u8 ((s : Int) / 65536 % 256), .int .u8 ((s : Int) / 16777216)] 5)) = w1.alloc (.cells (bytesOf (lo s) 4).toArray 5) := by
    rw [← lo0, ← lo1, ← lo2, ← lo3 s hs]
    exact rfl
  have h2 := ho1.alloc (.cells (bytesOf (lo s) 4).toArray 5)
  have hb2 : Below w.heap.size w (w1.alloc (.cells (bytesOf (lo s) 4).toArray 5)) := hb1.alloc hb1.size _
  have hrow : RowAt (w1.alloc (.cells (bytesOf (lo s) 4).toArray 5)) (some ⟨w1.heap.size, 0, none⟩) 4 (lo s) := by
    refine .inr ⟨w1.heap.size, 0, rfl, by simp, fun i hi => ?_⟩
    rw [Nat.zero_add, cell_of_heap (heap_alloc_new _ _), bytesOf_get _ _ _ hi]
  obtain ⟨R, w2, hr2, ho2, hb3, hnn⟩ := push_row _ w w.heap.size _ n f h2 (by have := hb2.size; exact this) hb2 (some ⟨w1.heap.size, 0, none⟩) 4 4 (lo s) (fun h => by cases h) hrow (by omega)
  obtain ⟨g2, c2, hR, hge2, hlt2, hle2, _, hrow2⟩ := own_rowAt ho2 (fun h => by have := hnn h; simp at this)
  subst hR
  rw [← hlo] at hr2
  have HB : Hid (Below w.heap.size w w2 ∧ RowAt w2 (some ⟨g2, 0, none⟩) (n + 4) (fun i => if i < n then f i else lo s (i - n)) ∧ n + 4 ≤ c2 ∧ w.heap.size ≤ g2 ∧ g2 < w2.heap.size) := ⟨hb3, hrow2, hle2, hge2, hlt2⟩
  obtain ⟨m, hm⟩ : ∃ m, m = n + 4 := ⟨_, rfl⟩
  have Hm : Hid (m = n + 4) := hm
  rw [← hm] at hr2 HB
  rw [← hm]
  clear hge2 hlt2 hle2 hlo h2 hb2 hrow ho2 hb3 hnn hrow2 hm hb1 ho1 hg1 hl1 hc1 hw1 hx hf hnil
  go_enter Tryz.func41, Tryz.ntmps41
  go_wp2_with (first
    | (go_at_call 66; refine hof.mono ?_; rintro e w' ⟨rfl, rfl⟩; clear hof)
    | (at_builtin; refine wpList_append_run rfl _ _ 22 rfl _ _ rfl rfl hr1 ?_; clear hr1)
    | (at_builtin; refine wpList_append_run rfl _ _ 22 rfl _ _ rfl rfl hr2 ?_; clear hr2))
  go_ret
  exact ⟨g2, c2, rfl, HB.out⟩

/- A head of nine bytes, then the piece, then zeros: what has been laid so far. -/
structure MkS (w wr : World) (h : Nat → Nat) (t : Nat) (R : Value) : Prop where
  bel : Below w.heap.size w wr
  own : wr.ownsRow 0 5 1 R t (bytesOf h t)
  ob : ∀ q, R.ownBlock = some q → w.heap.size ≤ q

theorem mks_push {w wr v : World} {h g : Nat → Nat} {t m c : Nat} {R : Value} (s : MkS w wr h t R) (hb : Below wr.heap.size wr v) (x : Option Addr) (hx : x = none → m = 0 ∧ c = 0) (hrow : RowAt v x m g) (he : ∀ i, i < m → h (t + i) = g i) (ht : t + m ≤ 1000) :
    ∃ x' c' w', (Builtin.append_ #[22, 22] 22 #[R, .slice x m c]).run Tryz.prog v = .ok (.slice x' (t + m) c') w' ∧ MkS w w' h (t + m) (.slice x' (t + m) c') := by
  have hown : v.ownsRow 0 5 1 R t (bytesOf h t) := ownsRow_same s.own (fun q hq => hb.block q (s.own.lt q hq).2)
  obtain ⟨R', w', hr, ho, hgr, hR'⟩ := push_bytes v R t _ hown x m c _ hx hrow (by omega)
  obtain ⟨x', c', hRe, _⟩ := ownsRow_form ho
  subst hRe
  have hT : Turns (fun q => R.ownBlock = some q) v w' := (Turns.refl _ v).grown hgr (fun q hq => .inl hq)
  refine ⟨x', c', w', hr, (s.bel.trans (hb.mono s.bel.size)).trans (hT.below s.ob (Nat.le_trans s.bel.size hb.size)), ?_, fun q hq => ?_⟩
  · rw [bytesOf_congr (f := h) (g := cat2 h t g) (fun i hi => ?_)]
    · exact ho
    · unfold cat2
      by_cases e1 : i < t
      · rw [if_pos e1]
      · rw [if_neg e1, ← he (i - t) (by omega)]
        congr 1
        omega
  · rcases hR' q hq with e1 | e1
    · exact s.ob q e1
    · have := s.bel.size
      have := hb.size
      omega

theorem head_eq (g r l k : Nat) (b : Nat → Nat) (z : Int) (hg : g < 65536) (hr : r ≤ 1000) (hz : ((plen l k + (if plast l k = true then 128 else 0) : Nat) : Int) = z) :
    (#[.int .u8 74, .int .u8 ((g : Int) % 256), .int .u8 ((g : Int) / 256), .int .u8 ((r : Int) % 256), .int .u8 ((r : Int) / 256 % 256), .int .u8 0, .int .u8 0, .int .u8 ((k : Int) % 256), .int .u8 z] : Array Value) = (bytesOf (hd g r l b k) 9).toArray := by
  have e1 : (g : Int) % 256 = ((hd g r l b k 1 : Nat) : Int) := by show _ = ((g % 256 : Nat) : Int); omega
  have e2 : (g : Int) / 256 = ((hd g r l b k 2 : Nat) : Int) := by show _ = ((g / 256 % 256 : Nat) : Int); omega
  have e3 : (r : Int) % 256 = ((hd g r l b k 3 : Nat) : Int) := by show _ = ((r % 256 : Nat) : Int); omega
  have e4 : (r : Int) / 256 % 256 = ((hd g r l b k 4 : Nat) : Int) := by show _ = ((r / 256 % 256 : Nat) : Int); omega
  have e5 : (0 : Int) = ((hd g r l b k 5 : Nat) : Int) := by show _ = ((r / 65536 % 256 : Nat) : Int); omega
  have e6 : (0 : Int) = ((hd g r l b k 6 : Nat) : Int) := by show _ = ((r / 16777216 % 256 : Nat) : Int); omega
  have e7 : (k : Int) % 256 = ((hd g r l b k 7 : Nat) : Int) := by show _ = ((k % 256 : Nat) : Int); omega
  have e8 : z = ((hd g r l b k 8 : Nat) : Int) := hz.symm
  have e9 : (bytesOf (hd g r l b k) 9).toArray = (#[Value.int .u8 ((hd g r l b k 0 : Nat) : Int), Value.int .u8 ((hd g r l b k 1 : Nat) : Int), Value.int .u8 ((hd g r l b k 2 : Nat) : Int), Value.int .u8 ((hd g r l b k 3 : Nat) : Int), Value.int .u8 ((hd g r l b k 4 : Nat) : Int), Value.int .u8 ((hd g r l b k 5 : Nat) : Int), Value.int .u8 ((hd g r l b k 6 : Nat) : Int), Value.int .u8 ((hd g r l b k 7 : Nat) : Int), Value.int .u8 ((hd g r l b k 8 : Nat) : Int)] : Array Value) := rfl
  rw [e9, e1, e2, e3, e4, e7, e8, ← e5, ← e6]
  rfl

theorem mks_start (w : World) (h : Nat → Nat) : MkS w (w.alloc (.cells (bytesOf h 9).toArray 5)) h 9 (.slice (some ⟨w.heap.size, 0, none⟩) 9 9) :=
  ⟨(Below.refl _ _).alloc (Nat.le_refl _) _, ⟨by simp [bytesOf], .inr ⟨w.heap.size, 9, _, rfl, Nat.zero_le _, heap_alloc_new _ _, Nat.le_refl _, by decide, by simp [bytesOf], by rw [List.take_of_length_le (by simp [bytesOf])]⟩⟩, fun q hq => by simp [Value.ownBlock] at hq; omega⟩

/- b[lo:hi]. -/
theorem piece (l c lo pl : Nat) (x : Option Addr) (b : Nat → Nat) (w : World) (he : EltW w x l c b) (h : lo + pl ≤ l) (h0 : pl = 0 → lo = 0) :
    ∃ x2 c2, (∀ v, (Instr.slice 22 (.slice x l c) (some (.int .i64 (lo : Int))) (some (.int .i64 ((lo + pl : Nat) : Int))) none).run Tryz.prog v = .ok (.slice x2 pl c2) v) ∧ (x2 = none → pl = 0 ∧ c2 = 0) ∧ ∀ v, RowAt v x l b → RowAt v x2 pl (fun i => b (lo + i)) := by
  have hlc := he.le
  by_cases hp : pl = 0
  · subst hp
    obtain rfl := h0 rfl
    refine ⟨if c = 0 then x else x.map (·.add 0), c, fun v => ?_, fun e => ?_, fun v _ => .inl rfl⟩
    · rw [run_slice_lh v 22 _ _ _ elem_row .i64 .i64 ((0 : Nat) : Int) ((0 + 0 : Nat) : Int) (by omega) (by omega) (by omega), elem_is, size_byte]
      simp only [Result.andThen, sliced, Int.toNat_natCast, Nat.mul_one, Nat.sub_zero]
    · have : x = none := by
        by_cases e1 : c = 0
        · rw [if_pos e1] at e; exact e
        · rw [if_neg e1] at e
          cases x with
          | none => rfl
          | some ad => simp at e
      exact ⟨rfl, (he.nil this).2⟩
  · rcases he.row with e | ⟨bb, oo, rfl, _, _⟩
    · omega
    · refine ⟨_, c - lo, fun v => ?_, (fun e => by cases e), fun v hv => row_drop (m := lo) (hv.take h)⟩
      have := cut_lh bb oo l c lo (lo + pl) v (by omega) (by omega) (by omega)
      rw [Nat.add_sub_cancel_left] at this
      exact this

set_option maxHeartbeats 3000000 in
set_option maxRecDepth 100000 in
theorem make_any (g r l c : Nat) (x : Option Addr) (b : Nat → Nat) (w : World) (he : EltW w x l c b) (hg : g < 65536) (hr : r ≤ 1000) :
    Calls Tryz.prog 16 #[.int .i64 (g : Int), .int .i64 (r : Int), .slice x l c] w fun e w' => ∃ y cy Aa C, e = .returned (.slice y (pcs l) cy) ∧ Below w.heap.size w w' ∧ OwnG w' w.heap.size (.slice y (pcs l) cy) (pcs l) Aa (fun _ => 64) C (fun k => mkS g r l b k) ∧ (∀ i, i < pcs l → ∀ ad, Aa i = some ad → w.heap.size ≤ ad.block) := by
  have HE := hid he
  have H0 : Hid (OwnG (w.alloc (.cells #[] 22)) w.heap.size (.slice (some ⟨w.heap.size, 0, none⟩) 0 0) 0 (fun _ => none) (fun _ => 64) (fun _ => 64) (fun k => mkS g r l b k) ∧ Below w.heap.size w (w.alloc (.cells #[] 22)) ∧ ∀ i, i < 0 → ∀ ad : Addr, (fun _ : Nat => (none : Option Addr)) i = some ad → w.heap.size ≤ ad.block) := ⟨OwnG.empty w w.heap.size (Nat.le_refl _) _ _ _ _, (Below.refl _ _).alloc (Nat.le_refl _) _, fun i hi => by omega⟩
  have hl9 := he.sm
  have hlc := he.le
  have g1 : (g : Int).tmod 256 = (g : Int) % 256 := Int.tmod_eq_emod_of_nonneg (by omega)
  have g2 : (g : Int).tdiv 256 = (g : Int) / 256 := Int.tdiv_eq_ediv_of_nonneg (by omega)
  have r1 : (r : Int).tmod 256 = (r : Int) % 256 := Int.tmod_eq_emod_of_nonneg (by omega)
  have r2 : (r : Int).tdiv 256 = (r : Int) / 256 := Int.tdiv_eq_ediv_of_nonneg (by omega)
  have r3 : ((r : Int) / 256).tmod 256 = (r : Int) / 256 % 256 := Int.tmod_eq_emod_of_nonneg (by omega)
  have r4 : (r : Int).tdiv 65536 = 0 := by rw [Int.tdiv_eq_ediv_of_nonneg (by omega)]; omega
  have r5 : (r : Int).tdiv 16777216 = 0 := by rw [Int.tdiv_eq_ediv_of_nonneg (by omega)]; omega
  clear he
  go_enter Tryz.func16, Tryz.ntmps16
  go_wp2_with fail
  go_loopw [7, 8] (fun o i wr => ∃ (k : Nat) (y : Option Addr) (cy : Nat), k < pcs l ∧ i = .int .i64 k ∧ o = .slice y k cy ∧ Hid (∃ Aa C, OwnG wr w.heap.size (.slice y k cy) k Aa (fun _ => 64) C (fun k => mkS g r l b k) ∧ Below w.heap.size w wr ∧ ∀ i, i < k → ∀ ad, Aa i = some ad → w.heap.size ≤ ad.block)) (fun _ i _ => pcs l - (intOf i).toNat)
  case atStart => exact ⟨0, _, _, pcs_pos l, rfl, rfl, _, _, H0.out⟩
  case round =>
    clear H0
    obtain ⟨k, y, cy, hk, rfl, rfl, HR⟩ := hrel
    obtain ⟨wo, hwo⟩ : ∃ wo, wo = wr := ⟨_, rfl⟩
    subst hwo
    obtain ⟨Aa, C, hown, hbel, hfre⟩ := HR.out
    have hk51 : 51 * k ≤ l := by unfold pcs at hk; split at hk <;> omega
    obtain ⟨o1, ho1⟩ : ∃ o1, o1 = 51 * k := ⟨_, rfl⟩
    have ho1i : (51 : Int) * (k : Int) = (o1 : Int) := by omega
    obtain ⟨d, hd⟩ : ∃ d, d = l - o1 := ⟨_, rfl⟩
    have hdi : (l : Int) - (o1 : Int) = (d : Int) := by omega
    have hk9 : k ≤ 140737488351232 := by omega
    have ho9 : o1 ≤ 140737488351232 := by omega
    have hd9 : d ≤ 140737488351232 := by omega
    have hmw : IntKind.i64.wrap (o1 : Int) = (o1 : Int) := by rw [IntKind.wrap_i64]; omega
    have HO1 := hid ho1
    have HD := hid hd
    clear ho1 hd hk51
    by_cases hle : d ≤ 51
    · have hle' : ¬ (51 : Int) < (d : Int) := by omega
      have hpc : pcs l = k + 1 := by
        have h1 : pcs l ≤ k + 1 := pcs_fits.2 ⟨by omega, by have := HD.out; have := HO1.out; omega⟩
        omega
      have hpl : plen l k = d := by have := HD.out; have := HO1.out; unfold plen; omega
      have hla : plast l k = true := by unfold plast; simp [hpc]
      have hz8 : ((plen l k + (if plast l k = true then 128 else 0) : Nat) : Int) = ((d : Int) + 128) := by rw [hpl, hla]; simp
      obtain ⟨x2, c2, hsl, hx2n, hx2r⟩ := piece l c o1 d x b w HE.out (by have := HD.out; omega) (fun e => by have := HO1.out; have := HD.out; unfold pcs at hpc; split at hpc <;> omega)
      obtain ⟨e1, he1⟩ : ∃ e1, e1 = o1 + d := ⟨_, rfl⟩
      rw [← he1] at hsl
      have he1i : (o1 : Int) + (d : Int) = (e1 : Int) := by omega
      have he9 : e1 ≤ 140737488351232 := by have := HD.out; omega
      have hew : IntKind.i64.wrap (e1 : Int) = (e1 : Int) := by rw [IntKind.wrap_i64]; omega
      obtain ⟨h, hh⟩ : ∃ h, h = hd g r l b k := ⟨_, rfl⟩
      have hhead := head_eq g r l k b ((d : Int) + 128) hg hr hz8
      rw [← hh] at hhead
      have hlt : ∀ i, h i < 256 := fun i => by rw [hh]; exact hd_lt HE.out.lt i
      have hM0 := mks_start wo h
      have hbs : Below wo.heap.size wo (wo.alloc (.cells (bytesOf h 9).toArray 5)) := (Below.refl _ _).alloc (Nat.le_refl _) _
      have hrow1 : RowAt (wo.alloc (.cells (bytesOf h 9).toArray 5)) x2 d (fun i => b (o1 + i)) := hx2r _ ((HE.out.row.below hbel).below hbs)
      obtain ⟨xB, cB, wB, hapB, hMB⟩ := mks_push (c := c2) hM0 (Below.refl _ _) x2 hx2n hrow1 (fun i hi => by
        rw [hh]
        unfold hd
        have e1 : ∀ q, q < 9 → ¬ (9 + i = q) := fun q hq => by omega
        simp only [e1 0 (by omega), e1 1 (by omega), e1 2 (by omega), e1 3 (by omega), e1 4 (by omega), e1 5 (by omega), e1 6 (by omega), e1 7 (by omega), e1 8 (by omega), if_false]
        rw [if_pos (by omega), Nat.add_sub_cancel_left, HO1.out]) (by omega)
      obtain ⟨tB, htB⟩ : ∃ tB, tB = 9 + d := ⟨_, rfl⟩
      rw [← htB] at hapB hMB
      rw [← hhead] at hapB
      have HTB := hid htB
      have HMB := hid hMB
      have HZ0 : Hid (∀ i, tB ≤ i → i < 60 → h i = 0) := fun i h1 h2 => by
        rw [hh]
        unfold hd
        have e1 : ∀ q, q < 9 → ¬ (i = q) := fun q hq => by omega
        simp only [e1 0 (by omega), e1 1 (by omega), e1 2 (by omega), e1 3 (by omega), e1 4 (by omega), e1 5 (by omega), e1 6 (by omega), e1 7 (by omega), e1 8 (by omega), if_false]
        rw [if_neg (by omega)]
      have htB6 : tB ≤ 60 := by omega
      have HLT := hid hlt
      have HH := hid hh
      have HST := hid (And.intro hown (And.intro hbel hfre))
      have HPC := hid hpc
      clear hhead hM0 hMB hbs hrow1 htB hx2r hx2n hpl hla hz8 hh hlt hown hbel hfre HR hpc he1
      go_wp2_with (first
        | (at_builtin; refine wpList_append_run rfl _ _ 22 rfl _ _ rfl rfl hapB ?_; clear hapB))
      go_loopw [11] (fun s wr => ∃ (t : Nat) (xs : Option Addr) (cs : Nat), tB ≤ t ∧ t ≤ 60 ∧ s = .slice xs t cs ∧ Hid (MkS wo wr h t (.slice xs t cs))) (fun s _ => 60 - slLen s)
      case atStart => exact ⟨tB, xB, cB, Nat.le_refl _, htB6, rfl, HMB⟩
      case round =>
        clear HMB
        obtain ⟨t, xs, cs, ht1, ht2, rfl, HM⟩ := hrel
        by_cases ht : t < 60
        · have ht' : (t : Int) < 60 := by omega
          have hz1 : RowAt (wr.alloc (.cells #[.int .u8 0] 5)) (some ⟨wr.heap.size, 0, none⟩) 1 (fun _ => 0) := .inr ⟨wr.heap.size, 0, rfl, by simp, fun i hi => by
            obtain rfl : i = 0 := by omega
            simp⟩
          obtain ⟨xC, cC, wC, hapC, hMC⟩ := mks_push (c := 1) HM.out ((Below.refl _ _).alloc (Nat.le_refl _) (.cells #[.int .u8 0] 5)) (some ⟨wr.heap.size, 0, none⟩) (fun e => by cases e) hz1 (fun i hi => HZ0.out _ (by omega) (by omega)) (by omega)
          obtain ⟨t1, ht1e⟩ : ∃ t1, t1 = t + 1 := ⟨_, rfl⟩
          rw [← ht1e] at hapC hMC
          have HT1 := hid ht1e
          have HMC := hid hMC
          clear hz1 hMC ht1e
          go_wp2_with (first
            | (at_builtin; refine wpList_append_run rfl _ _ 22 rfl _ _ rfl rfl hapC ?_; clear hapC))
          first
            | exact ⟨⟨t1, xC, cC, by have := HT1.out; omega, by have := HT1.out; omega, rfl, HMC⟩, by have := HT1.out; simp only [slLen]; omega⟩
            | (go_roundw
               case rel => exact ⟨t1, xC, cC, by have := HT1.out; omega, by have := HT1.out; omega, rfl, HMC⟩
               case measure => have := HT1.out; simp only [slLen]; omega)
        · obtain rfl : t = 60 := by omega
          have hel := own_elt HM.out.own HLT.out (by omega)
          have hsum := rappend_full 60 cs xs h wr HLT.out (by omega) hel.row hel.nil
          have HPUSH : Hid (∀ (v : World) (g6 c6 : Nat), Below wr.heap.size wr v → RowAt v (some ⟨g6, 0, none⟩) 64 (fun i => if i < 60 then h i else lo (sumOf h 60) (i - 60)) → 64 ≤ c6 → wr.heap.size ≤ g6 → g6 < v.heap.size →
              ∃ y' c' w', (Builtin.append_ #[46, 46] 46 #[.slice y k cy, .slice (some ⟨v.heap.size, 0, none⟩) 1 1]).run Tryz.prog (v.alloc (.cells #[.slice (some ⟨g6, 0, none⟩) 64 c6] 22)) = .ok (.slice y' (k + 1) c') w' ∧ ∃ Aa C, OwnG w' w.heap.size (.slice y' (k + 1) c') (k + 1) Aa (fun _ => 64) C (fun k => mkS g r l b k) ∧ Below w.heap.size w w' ∧ ∀ i, i < k + 1 → ∀ ad, Aa i = some ad → w.heap.size ≤ ad.block) := fun v g6 c6 hv hrw hc6 hg6 hg6' => by
            obtain ⟨hown, hbel, hfre⟩ := HST.out
            have hbv : Below wo.heap.size wo v := HM.out.bel.trans (hv.mono HM.out.bel.size)
            have he6 : Elt v (some ⟨g6, 0, none⟩) 64 c6 (mkS g r l b k) := ⟨hrw.congr fun i hi => by
              rw [HH.out]
              unfold mkS
              by_cases e : i < 60
              · rw [if_pos e, if_pos e]
              · rw [if_neg e, if_neg e, if_pos (by omega)], (fun e => by cases e), hc6, by omega, fun j => mk_lt HE.out.lt j, fun ad e => by cases e; exact hg6'⟩
            have hsz := HM.out.bel.size
            have hkb : (k + 1) * 24 ≤ 140737488355328 := by
              have h1 : 51 * k ≤ l := by have := HO1.out; have := HD.out; rw [← HO1.out]; omega
              omega
            obtain ⟨x', c', w', e1, e2, e3, _⟩ := (hown.below hbv).push (Nat.le_trans hbel.size hbv.size) he6 (fun ad e hg => by
              cases e
              have := hown.olt _ hg
              have e5 : (⟨g6, 0, none⟩ : Addr).block = g6 := rfl
              omega) hkb
            refine ⟨x', c', w', e1, _, _, e2.congr fun i hi => ⟨rfl, ?_, rfl, fun j hj => ?_, fun j => mk_lt HE.out.lt j⟩, (hbel.trans (hbv.mono hbel.size)).trans (e3.below (fun q hq => hown.ob q hq) (Nat.le_trans hbel.size hbv.size)), fun i hi ad ha => ?_⟩
            · by_cases e : i < k
              · rw [ext_old _ _ _ e]
              · obtain rfl : i = k := by omega
                rw [ext_new]
            · by_cases e : i < k
              · rw [ext_old _ _ _ e]
              · obtain rfl : i = k := by omega
                rw [ext_new]
            · by_cases e : i < k
              · rw [ext_old _ _ _ e] at ha; exact hfre i e ad ha
              · obtain rfl : i = k := by omega
                rw [ext_new] at ha
                cases ha
                exact Nat.le_trans hbel.size (Nat.le_trans HM.out.bel.size hg6)
          obtain ⟨k1, hk1⟩ : ∃ k1, k1 = k + 1 := ⟨_, rfl⟩
          rw [← hk1] at HPUSH
          have hk1i : (k : Int) + 1 = (k1 : Int) := by omega
          have hk1w : IntKind.i64.wrap (k1 : Int) = (k1 : Int) := by rw [IntKind.wrap_i64]; omega
          have HK1 := hid hk1
          have hsum : Calls Tryz.prog 41 #[.slice xs 60 cs] wr fun e w' => ∃ g cy, e = .returned (.slice (some ⟨g, 0, none⟩) 64 cy) ∧ Below wr.heap.size wr w' ∧ RowAt w' (some ⟨g, 0, none⟩) 64 (fun i => if i < 60 then h i else lo (sumOf h 60) (i - 60)) ∧ 64 ≤ cy ∧ wr.heap.size ≤ g ∧ g < w'.heap.size := hsum
          clear hel hk1
          go_wp2_with (first
            | (go_at_call 41; refine hsum.mono ?_; rintro e w6 ⟨g6, c6, rfl, hb6, hr6, hc6, hg6, hg6'⟩; clear hsum
               obtain ⟨y', c', w7, hap7, HN⟩ := HPUSH.out w6 g6 c6 hb6 hr6 hc6 hg6 hg6'
               have HN2 := hid HN
               clear hb6 hr6 hc6 hg6 hg6' HN)
            | (at_builtin; refine wpList_append_run rfl _ _ 46 rfl _ _ rfl rfl hap7 ?_; clear hap7))
          go_ret
          obtain ⟨Aa2, C2, q1, q2, q3⟩ := HN2.out
          have e : pcs l = k1 := by rw [HPC.out, HK1.out]
          rw [e]
          exact ⟨y', c', Aa2, C2, rfl, q2, q1, q3⟩
    · have hgt' : (51 : Int) < (d : Int) := by omega
      have hpc : k + 1 < pcs l := by
        rcases Nat.lt_or_ge (k + 1) (pcs l) with h | h
        · exact h
        · have := (pcs_fits.1 h).2
          have := HD.out
          have := HO1.out
          omega
      have hpl : plen l k = 51 := plen_mid hpc
      have hla : plast l k = false := by unfold plast; simp; omega
      have hz8 : ((plen l k + (if plast l k = true then 128 else 0) : Nat) : Int) = 51 := by rw [hpl, hla]; simp
      obtain ⟨x2, c2, hsl, hx2n, hx2r⟩ := piece l c o1 51 x b w HE.out (by have := HD.out; omega) (fun e => by have := HO1.out; have := HD.out; omega)
      obtain ⟨e1, he1⟩ : ∃ e1, e1 = o1 + 51 := ⟨_, rfl⟩
      rw [← he1] at hsl
      have he1i : (o1 : Int) + 51 = (e1 : Int) := by omega
      have he9 : e1 ≤ 140737488351232 := by have := HD.out; omega
      have hew : IntKind.i64.wrap (e1 : Int) = (e1 : Int) := by rw [IntKind.wrap_i64]; omega
      obtain ⟨h, hh⟩ : ∃ h, h = hd g r l b k := ⟨_, rfl⟩
      have hhead := head_eq g r l k b 51 hg hr hz8
      rw [← hh] at hhead
      have hlt : ∀ i, h i < 256 := fun i => by rw [hh]; exact hd_lt HE.out.lt i
      have hM0 := mks_start wo h
      have hbs : Below wo.heap.size wo (wo.alloc (.cells (bytesOf h 9).toArray 5)) := (Below.refl _ _).alloc (Nat.le_refl _) _
      have hrow1 : RowAt (wo.alloc (.cells (bytesOf h 9).toArray 5)) x2 51 (fun i => b (o1 + i)) := hx2r _ ((HE.out.row.below hbel).below hbs)
      obtain ⟨xB, cB, wB, hapB, hMB⟩ := mks_push (c := c2) hM0 (Below.refl _ _) x2 hx2n hrow1 (fun i hi => by
        rw [hh]
        unfold hd
        have e1 : ∀ q, q < 9 → ¬ (9 + i = q) := fun q hq => by omega
        simp only [e1 0 (by omega), e1 1 (by omega), e1 2 (by omega), e1 3 (by omega), e1 4 (by omega), e1 5 (by omega), e1 6 (by omega), e1 7 (by omega), e1 8 (by omega), if_false]
        rw [if_pos (by omega), Nat.add_sub_cancel_left, HO1.out]) (by omega)
      obtain ⟨tB, htB⟩ : ∃ tB, tB = 9 + 51 := ⟨_, rfl⟩
      rw [← htB] at hapB hMB
      rw [← hhead] at hapB
      have HTB := hid htB
      have HMB := hid hMB
      have HZ0 : Hid (∀ i, tB ≤ i → i < 60 → h i = 0) := fun i h1 h2 => by
        rw [hh]
        unfold hd
        have e1 : ∀ q, q < 9 → ¬ (i = q) := fun q hq => by omega
        simp only [e1 0 (by omega), e1 1 (by omega), e1 2 (by omega), e1 3 (by omega), e1 4 (by omega), e1 5 (by omega), e1 6 (by omega), e1 7 (by omega), e1 8 (by omega), if_false]
        rw [if_neg (by omega)]
      have htB6 : tB ≤ 60 := by omega
      have HLT := hid hlt
      have HH := hid hh
      have HST := hid (And.intro hown (And.intro hbel hfre))
      have HPC := hid hpc
      clear hhead hM0 hMB hbs hrow1 htB hx2r hx2n hpl hla hz8 hh hlt hown hbel hfre HR hpc he1
      go_wp2_with (first
        | (at_builtin; refine wpList_append_run rfl _ _ 22 rfl _ _ rfl rfl hapB ?_; clear hapB))
      go_loopw [11] (fun s wr => ∃ (t : Nat) (xs : Option Addr) (cs : Nat), tB ≤ t ∧ t ≤ 60 ∧ s = .slice xs t cs ∧ Hid (MkS wo wr h t (.slice xs t cs))) (fun s _ => 60 - slLen s)
      case atStart => exact ⟨tB, xB, cB, Nat.le_refl _, htB6, rfl, HMB⟩
      case round =>
        clear HMB
        obtain ⟨t, xs, cs, ht1, ht2, rfl, HM⟩ := hrel
        by_cases ht : t < 60
        · have ht' : (t : Int) < 60 := by omega
          have hz1 : RowAt (wr.alloc (.cells #[.int .u8 0] 5)) (some ⟨wr.heap.size, 0, none⟩) 1 (fun _ => 0) := .inr ⟨wr.heap.size, 0, rfl, by simp, fun i hi => by
            obtain rfl : i = 0 := by omega
            simp⟩
          obtain ⟨xC, cC, wC, hapC, hMC⟩ := mks_push (c := 1) HM.out ((Below.refl _ _).alloc (Nat.le_refl _) (.cells #[.int .u8 0] 5)) (some ⟨wr.heap.size, 0, none⟩) (fun e => by cases e) hz1 (fun i hi => HZ0.out _ (by omega) (by omega)) (by omega)
          obtain ⟨t1, ht1e⟩ : ∃ t1, t1 = t + 1 := ⟨_, rfl⟩
          rw [← ht1e] at hapC hMC
          have HT1 := hid ht1e
          have HMC := hid hMC
          clear hz1 hMC ht1e
          go_wp2_with (first
            | (at_builtin; refine wpList_append_run rfl _ _ 22 rfl _ _ rfl rfl hapC ?_; clear hapC))
          first
            | exact ⟨⟨t1, xC, cC, by have := HT1.out; omega, by have := HT1.out; omega, rfl, HMC⟩, by have := HT1.out; simp only [slLen]; omega⟩
            | (go_roundw
               case rel => exact ⟨t1, xC, cC, by have := HT1.out; omega, by have := HT1.out; omega, rfl, HMC⟩
               case measure => have := HT1.out; simp only [slLen]; omega)
        · obtain rfl : t = 60 := by omega
          have hel := own_elt HM.out.own HLT.out (by omega)
          have hsum := rappend_full 60 cs xs h wr HLT.out (by omega) hel.row hel.nil
          have HPUSH : Hid (∀ (v : World) (g6 c6 : Nat), Below wr.heap.size wr v → RowAt v (some ⟨g6, 0, none⟩) 64 (fun i => if i < 60 then h i else lo (sumOf h 60) (i - 60)) → 64 ≤ c6 → wr.heap.size ≤ g6 → g6 < v.heap.size →
              ∃ y' c' w', (Builtin.append_ #[46, 46] 46 #[.slice y k cy, .slice (some ⟨v.heap.size, 0, none⟩) 1 1]).run Tryz.prog (v.alloc (.cells #[.slice (some ⟨g6, 0, none⟩) 64 c6] 22)) = .ok (.slice y' (k + 1) c') w' ∧ ∃ Aa C, OwnG w' w.heap.size (.slice y' (k + 1) c') (k + 1) Aa (fun _ => 64) C (fun k => mkS g r l b k) ∧ Below w.heap.size w w' ∧ ∀ i, i < k + 1 → ∀ ad, Aa i = some ad → w.heap.size ≤ ad.block) := fun v g6 c6 hv hrw hc6 hg6 hg6' => by
            obtain ⟨hown, hbel, hfre⟩ := HST.out
            have hbv : Below wo.heap.size wo v := HM.out.bel.trans (hv.mono HM.out.bel.size)
            have he6 : Elt v (some ⟨g6, 0, none⟩) 64 c6 (mkS g r l b k) := ⟨hrw.congr fun i hi => by
              rw [HH.out]
              unfold mkS
              by_cases e : i < 60
              · rw [if_pos e, if_pos e]
              · rw [if_neg e, if_neg e, if_pos (by omega)], (fun e => by cases e), hc6, by omega, fun j => mk_lt HE.out.lt j, fun ad e => by cases e; exact hg6'⟩
            have hsz := HM.out.bel.size
            have hkb : (k + 1) * 24 ≤ 140737488355328 := by
              have h1 : 51 * k ≤ l := by have := HO1.out; have := HD.out; rw [← HO1.out]; omega
              omega
            obtain ⟨x', c', w', e1, e2, e3, _⟩ := (hown.below hbv).push (Nat.le_trans hbel.size hbv.size) he6 (fun ad e hg => by
              cases e
              have := hown.olt _ hg
              have e5 : (⟨g6, 0, none⟩ : Addr).block = g6 := rfl
              omega) hkb
            refine ⟨x', c', w', e1, _, _, e2.congr fun i hi => ⟨rfl, ?_, rfl, fun j hj => ?_, fun j => mk_lt HE.out.lt j⟩, (hbel.trans (hbv.mono hbel.size)).trans (e3.below (fun q hq => hown.ob q hq) (Nat.le_trans hbel.size hbv.size)), fun i hi ad ha => ?_⟩
            · by_cases e : i < k
              · rw [ext_old _ _ _ e]
              · obtain rfl : i = k := by omega
                rw [ext_new]
            · by_cases e : i < k
              · rw [ext_old _ _ _ e]
              · obtain rfl : i = k := by omega
                rw [ext_new]
            · by_cases e : i < k
              · rw [ext_old _ _ _ e] at ha; exact hfre i e ad ha
              · obtain rfl : i = k := by omega
                rw [ext_new] at ha
                cases ha
                exact Nat.le_trans hbel.size (Nat.le_trans HM.out.bel.size hg6)
          obtain ⟨k1, hk1⟩ : ∃ k1, k1 = k + 1 := ⟨_, rfl⟩
          rw [← hk1] at HPUSH
          have hk1i : (k : Int) + 1 = (k1 : Int) := by omega
          have hk1w : IntKind.i64.wrap (k1 : Int) = (k1 : Int) := by rw [IntKind.wrap_i64]; omega
          have HK1 := hid hk1
          have hsum : Calls Tryz.prog 41 #[.slice xs 60 cs] wr fun e w' => ∃ g cy, e = .returned (.slice (some ⟨g, 0, none⟩) 64 cy) ∧ Below wr.heap.size wr w' ∧ RowAt w' (some ⟨g, 0, none⟩) 64 (fun i => if i < 60 then h i else lo (sumOf h 60) (i - 60)) ∧ 64 ≤ cy ∧ wr.heap.size ≤ g ∧ g < w'.heap.size := hsum
          clear hel hk1
          go_wp2_with (first
            | (go_at_call 41; refine hsum.mono ?_; rintro e w6 ⟨g6, c6, rfl, hb6, hr6, hc6, hg6, hg6'⟩; clear hsum
               obtain ⟨y', c', w7, hap7, HN⟩ := HPUSH.out w6 g6 c6 hb6 hr6 hc6 hg6 hg6'
               have HN2 := hid HN
               clear hb6 hr6 hc6 hg6 hg6' HN)
            | (at_builtin; refine wpList_append_run rfl _ _ 46 rfl _ _ rfl rfl hap7 ?_; clear hap7))
          first
            | exact ⟨⟨k1, y', c', by have := HK1.out; have := HPC.out; omega, rfl, rfl, HN2.out⟩, by have := HK1.out; have := HPC.out; simp [intOf]; omega⟩
            | (go_roundw
               case rel => exact ⟨k1, y', c', by have := HK1.out; have := HPC.out; omega, rfl, rfl, HN2.out⟩
               case measure => have := HK1.out; have := HPC.out; simp [intOf]; omega)

end Go.Proofs.YtbbjklenpgkooaaGreat

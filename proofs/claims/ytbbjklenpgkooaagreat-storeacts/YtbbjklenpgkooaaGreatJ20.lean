/-
  One act of the law on a store's life: a crash, or a batch; each call's contract in the post of the one ahead of it.
  Conditions: none.
-/
import Derived.Test.YtbbjklenpgkooaaGreatJ11
import Derived.Test.YtbbjklenpgkooaaGreatJ14
import Derived.Test.YtbbjklenpgkooaaGreatJ16
import Derived.Test.YtbbjklenpgkooaaGreatJ17
import Derived.Test.YtbbjklenpgkooaaGreatJ19
namespace Go.Proofs.YtbbjklenpgkooaaGreat
open Go.RowKit By Dk Su Jo Wi St
variable [Inhabited PR] [∀ pre s : ByteArray, Decidable (Beg pre s)]
set_option linter.unusedSectionVars false
set_option linter.unusedVariables false
set_option linter.unusedSimpArgs false
set_option maxRecDepth 100000

structure AI (w9 wr : World) (p n sp jp mb m u g : Nat) (M : KV) (Kp : Nat → Prop) (kg km kc : Nat) (K : Nat → AV) (i : Nat) : Prop where
  al : Alive w9.heap.size w9 wr p n sp jp mb m u g M Kp
  gen : g ≤ i + 1
  mi : m ≤ i
  cells : CellsA wr kg 0 km K
  kl : kg < wr.heap.size
  act : ∀ j, j < km → ActOk wr (K j)
  low : ∀ j, j < km → (K j).n ≠ 0 → ∀ a, (K j).x = some a → a.block < w9.heap.size
  kfar : km ≠ 0 → ¬ Kp kg
  rise : Rise K km
  km_ : KM K km M
  few : km ≤ 256 * m

section
variable {w9 wr : World} {p n sp jp mb m u g : Nat} {M : KV} {Kp : Nat → Prop} {kg km kc : Nat} {K : Nat → AV} {i : Nat}

theorem AI.below {v : World} (h : AI w9 wr p n sp jp mb m u g M Kp kg km kc K i) (t : Below wr.heap.size wr v) : AI w9 v p n sp jp mb m u g M Kp kg km kc K i :=
  ⟨h.al.below t, h.gen, h.mi, h.cells.turns (Turns.of_below (F := fun _ => False) t) h.kl (fun h => h), Nat.lt_of_lt_of_le h.kl t.size, fun j hj => (h.act j hj).below t, h.low, h.kfar, h.rise, h.km_, h.few⟩

theorem AI.later (h : AI w9 wr p n sp jp mb m u g M Kp kg km kc K i) : AI w9 wr p n sp jp mb m u g M Kp kg km kc K (i + 1) :=
  ⟨h.al, by have := h.gen; omega, by have := h.mi; omega, h.cells, h.kl, h.act, h.low, h.kfar, h.rise, h.km_, h.few⟩

theorem AI.mbne (h : AI w9 wr p n sp jp mb m u g M Kp kg km kc K i) (h0 : km ≠ 0) : kg ≠ mb := fun e => by
  obtain ⟨⟨nb, DD, hs⟩, _⟩ := h.al.stat
  obtain ⟨es, clock, hb, _⟩ := hs.map.own
  have := (h.cells 0 (by omega)).1
  rw [e] at this
  simp [World.cell?, hb] at this

theorem AI.acts (h : AI w9 wr p n sp jp mb m u g M Kp kg km kc K i) : ActsAt wr (some ⟨kg, 0, none⟩) km K := ⟨.inr ⟨kg, 0, rfl, h.kl, h.cells⟩, h.act⟩

/- The keys lie as they lay where the store's own blocks alone turn. -/
theorem AI.turns {v : World} {sp' jp' mb' m' u' g' : Nat} {Kp' : Nat → Prop} {i' : Nat} (h : AI w9 wr p n sp jp mb m u g M Kp kg km kc K i) (t : Turns (fun q => Kp q ∨ q = mb) wr v) (al : Alive w9.heap.size w9 v p n sp' jp' mb' m' u' g' M Kp') (hK : ∀ q, q < wr.heap.size → Kp' q → Kp q) (hg : g' ≤ i' + 1) (hm : m' ≤ i') (hmm : m ≤ m') :
    AI w9 v p n sp' jp' mb' m' u' g' M Kp' kg km kc K i' := by
  obtain ⟨_, _, _, hB2, _⟩ := h.al.stat
  have hfoot := h.al.foot
  by_cases h0 : km = 0
  · subst h0
    exact ⟨al, hg, hm, (fun j hj => by omega), Nat.lt_of_lt_of_le h.kl t.size, (fun j hj => by omega), (fun j hj => by omega), (fun h => absurd rfl h), h.rise, h.km_, by omega⟩
  · refine ⟨al, hg, hm, h.cells.turns t h.kl (fun hq => ?_), Nat.lt_of_lt_of_le h.kl t.size, fun j hj => (h.act j hj).turns t (fun hn a ha hq => ?_), h.low, fun _ hq => h.kfar h0 (hK _ h.kl hq), h.rise, h.km_, by have := h.few; omega⟩
    · rcases hq with hq | hq
      · exact h.kfar h0 hq
      · exact h.mbne h0 hq
    · have := h.low j hj hn a ha
      rcases hq with hq | hq
      · have := (hfoot _ hq).1; omega
      · omega

theorem AI.same_ (h : AI w9 wr p n sp jp mb m u g M Kp kg km kc K i) (hi : i ≤ 100) (pre : ByteArray) (hp : pre.size ≤ 140737488351232) :
    Calls Tryz.prog 13 #[.pointer (some ⟨sp, 0, none⟩), .slice (some ⟨kg, 0, none⟩) km kc, .string pre] wr fun e v => e = .returned (.bool true) ∧ Below wr.heap.size wr v := by
  have hm := h.mi
  have hf := h.few
  obtain ⟨V, st, ln, ft, F, f, A, D, R, Aa, C, nb, DD, h1, h2, h3, h4, h5, h6, h7, h8, h9⟩ := h.al
  exact ssame_any h2 (by omega) _ km kc K h.acts (by omega) h.km_ pre hp

theorem AI.pend (h : AI w9 wr p n sp jp mb m u g M Kp kg km kc K i) :
    Calls Tryz.prog 19 #[.pointer (some ⟨p, 0, none⟩)] wr fun e v => e = .returned (.int .i64 0) ∧ v = wr := by
  obtain ⟨V, st, ln, ft, F, f, A, D, R, Aa, C, nb, DD, h1, h2, h3, h4, h5, h6, h7, h8, h9⟩ := h.al
  obtain ⟨gs, gn, R', s, q, hp⟩ := h1.jd.dsk.pd
  obtain ⟨x, c, e, _⟩ := ownsRow_form hp.own
  have hc := hp.c1
  rw [e] at hc
  exact pending_any p 0 c x wr hc

/- Behind an act: the keys, the number of batches, nothing pending. -/
theorem AI.tail (h : AI w9 wr p n sp jp mb m u g M Kp kg km kc K i) (hi : i ≤ 100) (pre : ByteArray) (hp : pre.size ≤ 140737488351232) :
    Calls Tryz.prog 13 #[.pointer (some ⟨sp, 0, none⟩), .slice (some ⟨kg, 0, none⟩) km kc, .string pre] wr fun e v => e = .returned (.bool true) ∧
      Calls Tryz.prog 18 #[.pointer (some ⟨sp, 0, none⟩)] v fun e v2 => e = .returned (.int .i64 (m : Int)) ∧
        Calls Tryz.prog 19 #[.pointer (some ⟨p, 0, none⟩)] v2 fun e v3 => e = .returned (.int .i64 0) ∧ Hid (AI w9 v3 p n sp jp mb m u g M Kp kg km kc K i) :=
  (h.same_ hi pre hp).mono fun e v ⟨e1, e2⟩ => ⟨e1, (batches_any (h.below e2).al).mono fun e v2 ⟨e3, e4⟩ => ⟨e3, by
    subst e4
    exact (h.below e2).pend.mono fun e v3 ⟨e5, e6⟩ => ⟨e5, by subst e6; exact h.below e2⟩⟩⟩

/- A crash. -/
theorem AI.crash_ (h : AI w9 wr p n sp jp mb m u g M Kp kg km kc K i) (hi : i < 60) (y : Option Addr) (l lc : Nat) (b : Nat → Bool) (hy : BoolsAt w9 y l b) (hl : l ≤ 1048576) (pre : ByteArray) (hp : pre.size ≤ 140737488351232) :
    Calls Tryz.prog 12 #[.pointer (some ⟨p, 0, none⟩), .slice y l lc] wr fun e w1 => e = .returned (.tuple #[]) ∧
      Calls Tryz.prog 11 #[.pointer (some ⟨p, 0, none⟩)] w1 fun e w2 => ∃ sq, e = .returned (.tuple #[.pointer (some ⟨sq, 0, none⟩), .int .i64 0]) ∧
        Calls Tryz.prog 13 #[.pointer (some ⟨sq, 0, none⟩), .slice (some ⟨kg, 0, none⟩) km kc, .string pre] w2 fun e w3 => e = .returned (.bool true) ∧ Hid (∃ jq mq g' Kp', AI w9 w3 p n sq jq mq m u g' M Kp' kg km kc K (i + 1)) := by
  have hb := h.al.bel
  have hf := h.al.foot
  have hge := h.gen
  have hmi := h.mi
  refine (h.al.crash y l lc b (hy.below hb) (fun h0 a ha hk => ?_) (by omega) (by omega)).mono fun e w1 ⟨e1, e2, e3⟩ => ⟨e1, e3.mono fun e w2 ⟨sq, jq, mq, g', K', q1, q2, q3, q4, q5⟩ => ⟨sq, q1, ?_⟩⟩
  · have h1 := (hf _ hk).1
    rcases hy with h2 | ⟨b', o', e', h3, _⟩
    · exact h0 h2
    · rw [ha] at e'
      injection e' with e'
      rw [e'] at h1
      dsimp only at h1
      omega
  · have hA : AI w9 w2 p n sq jq mq m u g' M K' kg km kc K (i + 1) := h.turns ((e2.weak fun k hk => .inl hk).trans (Turns.of_below q2)) q4 (fun q hq hk => q5 q (Nat.lt_of_lt_of_le hq e2.size) hk) (by omega) (by omega) (Nat.le_refl _)
    exact (hA.same_ (by omega) pre hp).mono fun e w3 ⟨z1, z2⟩ => ⟨z1, jq, mq, g', K', hA.below z2⟩

/- What a batch comes to: its code, and whether it is done. -/
def Comes (M : KV) (L : List PA) (c : Nat) (o : List Nat) (u n : Nat) (z : Nat) (did : Bool) : Prop :=
  (c ≠ 0 ∧ z = c ∧ did = false) ∨ (c = 0 ∧ ¬ canL M L ∧ z = 4 ∧ did = false) ∨ (c = 0 ∧ canL M L ∧ ¬ u + pcs o.length ≤ n ∧ z = 2 ∧ did = false) ∨ (c = 0 ∧ canL M L ∧ u + pcs o.length ≤ n ∧ z = 0 ∧ did = true)

theorem comes (M : KV) (L : List PA) (c : Nat) (o : List Nat) (u n : Nat) : ∃ z did, Comes M L c o u n z did := by
  by_cases h1 : c = 0
  · by_cases h2 : canL M L
    · by_cases h3 : u + pcs o.length ≤ n
      · exact ⟨0, true, .inr (.inr (.inr ⟨h1, h2, h3, rfl, rfl⟩))⟩
      · exact ⟨2, false, .inr (.inr (.inl ⟨h1, h2, h3, rfl, rfl⟩))⟩
    · exact ⟨4, false, .inr (.inl ⟨h1, h2, rfl, rfl⟩)⟩
  · exact ⟨c, false, .inl ⟨h1, rfl, rfl⟩⟩

/- A batch. -/
theorem AI.batch (h : AI w9 wr p n sp jp mb m u g M Kp kg km kc K i) (hi : i < 60) (v : IV) (hv : ItemIn w9 v) (hlow : v.len ≠ 0 → ∀ a, v.a = some a → a.block < w9.heap.size) (pre : ByteArray) (hp : pre.size ≤ 140737488351232) (c : Nat) (o : List Nat) (hS : EncSays (pas v.V v.len) c o) (z : Nat) (did : Bool) (hz : Comes M (pas v.V v.len) c o u n z did) :
    Calls Tryz.prog 14 #[.slice v.a v.len v.cap] wr fun e w1 => ∃ x l cx, e = .returned (.tuple #[.slice x l cx, .int .i64 (c : Int)]) ∧ Below w9.heap.size w9 w1 ∧
      Calls Tryz.prog 15 #[.slice (some ⟨kg, 0, none⟩) km kc, .slice v.a v.len v.cap] w1 fun e w2 => ∃ g2 n2 c2 ok, e = .returned (.tuple #[.slice (some ⟨g2, 0, none⟩) n2 c2, .bool ok]) ∧ (ok = true ↔ canL M (pas v.V v.len)) ∧
        Calls Tryz.prog 16 #[.int .i64 1, .int .i64 1, .slice x l cx] w2 fun e w3 => ∃ y cy, e = .returned (.slice y (pcs o.length) cy) ∧ Below w9.heap.size w9 w3 ∧
          Calls Tryz.prog 17 #[.pointer (some ⟨sp, 0, none⟩), .slice v.a v.len v.cap] w3 fun e w4 => e = .returned (.int .i64 (z : Int)) ∧
            Calls Tryz.prog 13 #[.pointer (some ⟨sp, 0, none⟩), (if did = true then .slice (some ⟨g2, 0, none⟩) n2 c2 else .slice (some ⟨kg, 0, none⟩) km kc), .string pre] w4 fun e w5 => e = .returned (.bool true) ∧
              Calls Tryz.prog 18 #[.pointer (some ⟨sp, 0, none⟩)] w5 fun e w6 => e = .returned (.int .i64 ((if did = true then m + 1 else m : Nat) : Int)) ∧
                Calls Tryz.prog 19 #[.pointer (some ⟨p, 0, none⟩)] w6 fun e w7 => e = .returned (.int .i64 0) ∧
                  Hid (if did = true then ∃ jp' mb' g' M' Kp' K', AI w9 w7 p n sp jp' mb' (m + 1) (u + pcs o.length) g' M' Kp' g2 n2 c2 K' (i + 1) else ∃ K', AI w9 w7 p n sp jp mb m u g M Kp kg km kc K' (i + 1)) := by
  have hb := h.al.bel
  have hsz := h.al.size
  have hA0 : ActsAt w9 v.a v.len v.V := hv.acts.at_
  have hfew := hv.few
  have hmi := h.mi
  have hkf := h.few
  have hge := h.gen
  have hlowV : ∀ j, j < v.len → (v.V j).n ≠ 0 → ∀ a, (v.V j).x = some a → a.block < w9.heap.size := fun j hj hn a ha => (hA0.act j hj).sl.lt_block hn ha
  refine (rencode_any v.a v.len v.cap v.V wr (hA0.below hb) (by omega) c o hS).mono fun e w1 ⟨x, l, cx, e1, e2, e3, e4⟩ => ⟨x, l, cx, e1, hb.trans (e4.mono hsz), ?_⟩
  have h1 := h.below e4
  have hb1 := h1.al.bel
  have hz1 := e4.size
  refine (rdones_any kg 0 km kc K w1 (fun q => ActOk w1 q ∧ (q.n ≠ 0 → ∀ a, q.x = some a → a.block < w9.heap.size)) M h1.cells h1.kl (fun j hj => ⟨h1.act j hj, h1.low j hj⟩) h.rise h.km_ v.a v.len v.cap v.V (hA0.below hb1) (fun j hj => ⟨(hA0.act j hj).below hb1, hlowV j hj⟩) (by omega)).mono fun e w2 hD => ?_
  have hD2 : ∃ g2 n2 c2 ok, e = .returned (.tuple #[.slice (some ⟨g2, 0, none⟩) n2 c2, .bool ok]) ∧ (ok = true ↔ canL M (pas v.V v.len)) ∧ Below w1.heap.size w1 w2 ∧ (ok = true → ∃ O, DoneTold w1 w2 (fun q => ActOk w1 q ∧ (q.n ≠ 0 → ∀ a, q.x = some a → a.block < w9.heap.size)) (doL M (pas v.V v.len)) n2 c2 g2 O ∧ n2 ≤ km + v.len) := by
    rcases hD with ⟨q1, q2, q3⟩ | ⟨q1, g2, n2, c2, O, q2, q3, Q⟩
    · exact ⟨kg, km, kc, false, q2, by simp [q1], q3, fun h => by cases h⟩
    · exact ⟨g2, n2, c2, true, q2, by simp [q1], Q.out.2.2.2.2.2.2.2, fun _ => ⟨O, Q.out, q3⟩⟩
  obtain ⟨g2, n2, c2, ok, d1, d2, d3, d4⟩ := hD2
  refine ⟨g2, n2, c2, ok, d1, d2, ?_⟩
  have h2 := h1.below d3
  have hz2 := d3.size
  have hsl2 : Sl w2 x l cx o := e2.below d3
  have hlo : l ≤ 140737488351232 := by
    rcases hS with ⟨_, _, q⟩ | ⟨_, _, _, q⟩ | ⟨_, q, _, q2⟩
    · have := e2.len; rw [q] at this; simp at this; omega
    · have := e2.len; rw [q] at this; simp at this; omega
    · have := e2.len; rw [q2] at this; omega
  have hmk := make_any 1 1 l cx x (gl o) w2 (sl_eltw hsl2 hlo) (by omega) (by omega)
  have hlen : l = o.length := e2.len.symm
  subst hlen
  refine hmk.mono fun e w3 ⟨y, cy, _, _, f1, f2, _⟩ => ⟨y, cy, f1, ?_⟩
  have h3 := h2.below f2
  have hz3 := f2.size
  refine ⟨h3.al.bel, ?_⟩
  have hA3 : ActsAt w3 v.a v.len v.V := hA0.below h3.al.bel
  rcases hz with hz | hz | hz | ⟨z1, z2, z3, z4, z5⟩
  case inr.inr.inr =>
    subst z1 z4 z5
    have hok := d2.2 z2
    obtain ⟨O, ⟨k1, k2, k3, k4, k5, k6, k7, k8⟩, k9⟩ := d4 hok
    obtain ⟨⟨nb, DD, hst⟩, _, _, hmb, _⟩ := h3.al.stat
    have hfoot := h3.al.foot
    have hl256 : v.len ≤ 256 := by
      rcases hS with ⟨_, q, _⟩ | ⟨_, _, q, _⟩ | ⟨q, _⟩
      · cases q
      · cases q
      · have := q.1; rwa [pas_len] at this
    refine (apply_ok h3.al v.a v.len v.cap v.V hA3 (by omega) hv.acts.le ⟨fun h0 a ha => ⟨fun hk => ?_, fun e => ?_⟩, fun j hj hn a ha => ⟨fun hk => ?_, fun e => ?_⟩⟩ o hS z2 z3 (by omega)).mono fun e w4 ⟨r1, r2, K4, r3, r4⟩ => ⟨r1, ?_⟩
    · have := (hfoot _ hk).1; have := hlow h0 a ha; omega
    · have := hlow h0 a ha; omega
    · have := (hfoot _ hk).1; have := hlowV j hj hn a ha; omega
    · have := hlowV j hj hn a ha; omega
    have hzz := h.kl
    have hal1 := h1.al.foot
    have hmblt : mb < w1.heap.size := by
      obtain ⟨⟨nb1, DD1, hst1⟩, _⟩ := h1.al.stat
      exact hst1.map.lt
    have hN : AI w9 w4 p n sp jp mb (m + 1) (u + pcs o.length) g (doL M (pas v.V v.len)) K4 g2 n2 c2 O (i + 1) := by
      have hg2 : g2 < w3.heap.size := by omega
      have hcell3 : CellsA w3 g2 0 n2 O := k1.turns (Turns.of_below (F := fun _ => False) f2) k2 (fun h => h)
      have hnk : ¬ Kp g2 := fun hk => by have := (hal1 _ hk).2; omega
      refine ⟨r3, by omega, by omega, hcell3.turns r2 hg2 (fun hq => ?_), Nat.lt_of_lt_of_le hg2 r2.size, fun j hj => (((k5 j hj).1.below k8).below f2).turns r2 (fun hn a ha hq => ?_), fun j hj => (k5 j hj).2, fun _ hk => hnk (r4 _ hg2 hk), k6, k7, by omega⟩
      · rcases hq with hq | hq
        · exact hnk hq
        · omega
      · have := (k5 j hj).2 hn a ha
        rcases hq with hq | hq
        · have := (hfoot _ hq).1; omega
        · omega
    simp only [if_true]
    refine (hN.tail (by omega) pre hp).mono fun e w5 ⟨t1, t2⟩ => ⟨t1, t2.mono fun e w6 ⟨t3, t4⟩ => ⟨t3, t4.mono fun e w7 ⟨t5, t6⟩ => ⟨t5, ?_⟩⟩⟩
    exact ⟨jp, mb, g, _, K4, O, t6.out⟩
  all_goals
    have hdid : did = false := by
      first
        | exact hz.2.2
        | exact hz.2.2.2
        | exact hz.2.2.2.2
    subst hdid
    refine (apply_no h3.al v.a v.len v.cap v.V hA3 (by omega) hv.acts.le c o hS z (by
      first
        | exact .inl ⟨hz.1, hz.2.1⟩
        | exact .inr (.inl ⟨hz.1, hz.2.1, hz.2.2.1⟩)
        | exact .inr (.inr ⟨hz.1, hz.2.1, hz.2.2.1, hz.2.2.2.1⟩))).mono fun e w4 ⟨r1, r2⟩ => ⟨r1, ?_⟩
    simp only [Bool.false_eq_true, if_false]
    exact ((h3.below r2).later.tail (by omega) pre hp).mono fun e w5 ⟨t1, t2⟩ => ⟨t1, t2.mono fun e w6 ⟨t3, t4⟩ => ⟨t3, t4.mono fun e w7 ⟨t5, t6⟩ => ⟨t5, K, t6.out⟩⟩⟩

end

end Go.Proofs.YtbbjklenpgkooaaGreat

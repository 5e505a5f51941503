/-
  4 texts of this proof, one behind the other: PxGrp, PxPost, PxDeliver, PxDoesA.
-/
import Derived.Test.YtfgfjfemaniaiaaJ24
import Derived.Test.YtfgfjfemaniaiaaJ01
/-
  The statement's group of monitors as it lies in memory, and what one monitor's call does to it.
  Conditions: none.
-/
namespace Go.Proofs.Ytfgfjfemaniaiaa.Px
open Go.RowKit Wi By Fl Ba
set_option linter.unusedVariables false
set_option linter.unusedSimpArgs false
set_option maxRecDepth 100000

structure Wy where
  fr : Nat
  dst : Nat
  x : Option Addr
  n : Nat
  c : Nat

def encW (m : Wy) : List Value := [.int .i64 (m.fr : Int), .int .i64 (m.dst : Int), .slice m.x m.n m.c]
def encP (p : Nat) : List Value := [.pointer (some ⟨p, 0, none⟩)]

theorem wyrow : Row 30 52 3 40 encW := by
  have hi : (Try.prog.info? 52).map (fun i => (i.zero, i.size, i.bytes)) = some (some (.agg #[.int .i64 0, .int .i64 0, .slice none 0 0]), 3, 40) := by kernel_rfl
  obtain ⟨i0, h1, h2, h3, h4⟩ := info_parts hi
  exact ⟨Try.underlying30, ⟨i0, _, h1, h2, h3, h4, rfl⟩, by decide, by decide, fun a => rfl, fun a v hv => by simp [encW] at hv; rcases hv with rfl | rfl | rfl <;> rfl⟩

theorem nprow : Row 29 40 1 8 encP := by
  have hi : (Try.prog.info? 40).map (fun i => (i.zero, i.size, i.bytes)) = some (some (.pointer none), 1, 8) := by kernel_rfl
  obtain ⟨i0, h1, h2, h3, h4⟩ := info_parts hi
  exact ⟨Try.underlying29, ⟨i0, _, h1, h2, h3, h4, rfl⟩, by decide, by decide, fun a => rfl, fun a v hv => by simp [encP] at hv; subst hv; rfl⟩

def slit (s : ByteArray) : Lit := .string s.data.toList
theorem slit_inj {s t : ByteArray} (h : slit s = slit t) : s = t := by
  injection h with h
  exact ByteArray.ext (Array.toList_inj.1 h)
theorem slit_key (s : ByteArray) : WideAt.IsKeyLit (slit s) := trivial
theorem slaw : Maps.Keyed Try.prog 9 := Maps.string_keyed Try.underlying9
theorem skey {s : ByteArray} (h : s.size ≤ 140737488355328) : keyOf Try.prog 9 (.string s) = some (slit s) := WideMaps.keyOf_string_mk Try.underlying9 (by unfold maxLen; omega)
theorem bzero (w : World) : (zeroValue 4).run Try.prog w = .ok (.bool false) w := by kernel_rfl

/- What was proposed. -/
structure SaidAt (w : World) (mb nb : Nat) (D : DataW Value) (S : ByteArray → Prop) : Prop where
  own : w.ownsMap Try.prog 9 hva mb nb D
  val : ∀ s, S s → ∀ z, D.atKey (slit s) z = .held (.bool true)

section
variable {w w' : World} {mb nb : Nat} {D : DataW Value} {S : ByteArray → Prop}

theorem SaidAt.isM (h : SaidAt w mb nb D S) : Mb w mb := by
  obtain ⟨es, c, hb, _⟩ := h.own
  exact ⟨es, c, hb⟩
theorem SaidAt.turns {G : Nat → Prop} (h : SaidAt w mb nb D S) (t : Turns G w w') (hm : ¬ G mb) : SaidAt w' mb nb D S := by
  obtain ⟨es, clock, hb, r⟩ := h.own
  exact ⟨⟨es, clock, (t.block mb h.own.lt hm).trans hb, r⟩, h.val⟩
theorem SaidAt.new (w : World) : SaidAt (w.alloc (.map #[] 0)) w.heap.size 0 (.map []) (fun _ => False) :=
  ⟨World.ownsMap_made w _ _ _, fun _ h => h.elim⟩
theorem SaidAt.look (h : SaidAt w mb nb D S) (s : ByteArray) (hs : s.size ≤ 140737488355328) (k : S s) : (Instr.lookup 31 (.map (some mb)) (.string s) false).run Try.prog w = .ok (.bool true) w := by
  obtain ⟨v, ps, h1, h2⟩ := h.own.lookup (t := 31) (e := 4) slaw Try.underlying31 (bzero w) rfl (skey hs)
  have h3 := congrArg Prod.fst (hva_inv h2)
  dsimp only at h3
  rw [h.val s k] at h3
  injection h3 with h3
  rw [h1, ← h3]
theorem SaidAt.put (h : SaidAt w mb nb D S) (hn : nb < 1000000000) (s : ByteArray) (hs : s.size ≤ 140737488355328) :
    ∃ w1 D', (Instr.mapUpdate 31 (.map (some mb)) (.string s) (.bool true)).run Try.prog w = .ok () w1 ∧ Hid (SaidAt w1 mb (nb + 1) D' (fun v => S v ∨ v = s) ∧ Turns (atB mb) w w1) := by
  obtain ⟨w1, h1, h2, h3⟩ := h.own.update (t := 31) (e := 4) slaw Try.underlying31 (by unfold maxLen; omega) (skey hs) (val := .bool true) (d := .held (.bool true)) (ps := []) rfl
  refine ⟨w1, _, h1, ⟨h2, fun u hu z => ?_⟩, grown_at h3⟩
  by_cases e : u = s
  · subst e
    exact Maps.atKey_put_same h.own.isMap (slit_key u) _ z
  · rw [Maps.atKey_put_other (fun q => e (slit_inj q))]
    rcases hu with hu | hu
    · exact h.val u hu z
    · exact absurd hu e
end

/- Which types a monitor's blocks have. -/
theorem NdAt.ty {w : World} {B : Nat} {g : Ln} {st : Nd} (h : NdAt w B g st) : ∀ k, fp g k → ∀ t, Tb w k t → t = 63 ∨ t = 68 ∨ t = 96 := fun k hk t ht => by
  rcases hk with rfl | rfl | hk | hk | ⟨l, hl, hk⟩
  · exact .inl (ht.same h.obj.tb)
  · exact (ht.not_map h.acc.isM).elim
  · exact .inr (.inl (ht.same (h.dec.tb hk).2))
  · exact .inr (.inl (ht.same (h.wait.tb hk).2))
  · rcases h.bid with ⟨q, _⟩ | ⟨l', b, q1, q2, q3, q4⟩
    · rw [hl] at q
      cases q
    · rw [hl] at q1
      injection q1 with q1
      subst q1
      rcases hk with rfl | rfl
      · exact .inr (.inr (ht.same q3.obj.tb))
      · exact (ht.not_map q3.told.isM).elim

structure Gl where
  q : Nat
  Rl : Value
  Rw : Value
  sm : Nat
  sn : Nat
  sD : DataW Value
  gs : Nat → Ln

def obj3 (g : Gl) : Nat → Value := fun k => if k = 0 then g.Rl else if k = 1 then g.Rw else .map (some g.sm)
def gf (n : Nat) (g : Gl) (k : Nat) : Prop := k = g.q ∨ g.Rl.ownBlock = some k ∨ g.Rw.ownBlock = some k ∨ k = g.sm ∨ ∃ i, i < n ∧ fp (g.gs i) k
def setF {α : Type} (f : Nat → α) (i : Nat) (a : α) : Nat → α := fun j => if j = i then a else f j
theorem setF_same {α : Type} (f : Nat → α) (i : Nat) (a : α) : setF f i a i = a := if_pos rfl
theorem setF_other {α : Type} (f : Nat → α) {i j : Nat} (a : α) (h : j ≠ i) : setF f i a j = f j := if_neg h

def WyOk (w : World) (n : Nat) (said : ByteArray → Prop) (G : Gh) (m : Wy) : Prop :=
  m.fr < n ∧ m.dst < n ∧ m.dst ≠ m.fr ∧ ∃ u, (Sent n m.fr u ∧ MsgOk n said G m.fr u) ∧ Bm w m.x m.n m.c (encM u m.fr)

structure NodeAll (n : Nat) (said : ByteArray → Prop) (G : Gh) (D K i : Nat) (g : Ln) (st : Nd) : Prop where
  ok : NodeOk n said G st
  nb : NB n st
  rs : Rs n D st
  id : st.id = i
  ser : st.ser ≤ K
  gn : gnb g ≤ 30000 * K

structure Grp (w : World) (B n : Nat) (g : Gl) (sts : Nat → Nd) (W : List Wy) (said : ByteArray → Prop) (G : Gh) (D K : Nat) : Prop where
  obj : Blk w g.q 33 3 (obj3 g)
  lrow : Own w B 40 1 encP g.Rl ((List.range n).map fun i => (g.gs i).p)
  wrow : Own w B 52 3 encW g.Rw W
  wlen : W.length ≤ 2000 + K
  ways : ∀ m ∈ W, WyOk w n said G m
  sd : SaidAt w g.sm g.sn g.sD said
  sn : g.sn ≤ K
  nd : ∀ i, i < n → NdAt w B (g.gs i) (sts i)
  all : ∀ i, i < n → NodeAll n said G D K i (g.gs i) (sts i)
  gi : GI n said G
  apart : ∀ i j, i < n → j < n → i ≠ j → ∀ k, fp (g.gs i) k → ¬ fp (g.gs j) k
  sap : ∀ i, i < n → ¬ fp (g.gs i) g.sm
  low : B ≤ g.q ∧ B ≤ g.sm

section
variable {w w' : World} {B n : Nat} {g : Gl} {sts : Nat → Nd} {W : List Wy} {said : ByteArray → Prop} {G : Gh} {D K : Nat}

theorem Grp.lowB (h : Grp w B n g sts W said G D K) : ∀ k, gf n g k → B ≤ k ∧ k < w.heap.size := fun k hk => by
  rcases hk with rfl | hk | hk | rfl | ⟨i, hi, hk⟩
  · exact ⟨h.low.1, h.obj.lt⟩
  · exact ⟨(h.lrow.tb hk).1, (h.lrow.tb hk).2.lt⟩
  · exact ⟨(h.wrow.tb hk).1, (h.wrow.tb hk).2.lt⟩
  · exact ⟨h.low.2, h.sd.own.lt⟩
  · exact ⟨(h.nd i hi).low k hk, ((h.nd i hi).u8 k hk).1⟩

theorem Grp.ty (h : Grp w B n g sts W said G D K) : ∀ k, gf n g k → ∀ t, Tb w k t → t = 33 ∨ t = 40 ∨ t = 52 ∨ t = 63 ∨ t = 68 ∨ t = 96 := fun k hk t ht => by
  rcases hk with rfl | hk | hk | rfl | ⟨i, hi, hk⟩
  · exact .inl (ht.same h.obj.tb)
  · exact .inr (.inl (ht.same (h.lrow.tb hk).2))
  · exact .inr (.inr (.inl (ht.same (h.wrow.tb hk).2)))
  · exact (ht.not_map h.sd.isM).elim
  · exact .inr (.inr (.inr ((h.nd i hi).ty k hk t ht)))

theorem Grp.u8 (h : Grp w B n g sts W said G D K) : ∀ k, gf n g k → ¬ Tb w k 5 := fun k hk ht => by
  have := h.ty k hk _ ht
  revert this
  decide

theorem WyOk.turns {F : Nat → Prop} {m : Wy} (h : WyOk w n said G m) (t : Turns F w w') (hu : ∀ k, F k → ¬ Tb w k 5) : WyOk w' n said G m := by
  obtain ⟨h1, h2, h3, u, h4, h5⟩ := h
  exact ⟨h1, h2, h3, u, h4, h5.turns t hu⟩

theorem Grp.turns {F : Nat → Prop} (h : Grp w B n g sts W said G D K) (t : Turns F w w') (hF : ∀ k, gf n g k → ¬ F k) (hu : ∀ k, F k → ¬ Tb w k 5) : Grp w' B n g sts W said G D K :=
  ⟨t.blk h.obj (hF _ (.inl rfl)), h.lrow.turns t (fun k hk => hF k (.inr (.inl hk))), h.wrow.turns t (fun k hk => hF k (.inr (.inr (.inl hk)))), h.wlen, fun m hm => (h.ways m hm).turns t hu, h.sd.turns t (hF _ (.inr (.inr (.inr (.inl rfl))))), h.sn,
    fun i hi => (h.nd i hi).turns t (fun k hk => hF k (.inr (.inr (.inr (.inr ⟨i, hi, hk⟩))))) hu, h.all, h.gi, h.apart, h.sap, h.low⟩

theorem Grp.below (h : Grp w B n g sts W said G D K) (b : Below w.heap.size w w') : Grp w' B n g sts W said G D K := h.turns (Turns.of_below (F := fun _ => False) b) (fun _ _ h => h) (fun _ h => h.elim)

theorem Grp.c0 (h : Grp w B n g sts W said G D K) : w.cell? ⟨g.q, 0, none⟩ = some g.Rl := h.obj.cell (k := 0) (by omega)
theorem Grp.c1 (h : Grp w B n g sts W said G D K) : w.cell? ⟨g.q, 1, none⟩ = some g.Rw := h.obj.cell (k := 1) (by omega)
theorem Grp.c2 (h : Grp w B n g sts W said G D K) : w.cell? ⟨g.q, 2, none⟩ = some (.map (some g.sm)) := h.obj.cell (k := 2) (by omega)

/- Where a monitor's pointer lies. -/
theorem Grp.ptr (h : Grp w B n g sts W said G D K) (h1 : 1 ≤ n) : ∃ lb c, g.Rl = .slice (some ⟨lb, 0, none⟩) n c ∧ n ≤ c ∧ ∀ i, i < n → w.cell? ⟨lb, i, none⟩ = some (.pointer (some ⟨(g.gs i).p, 0, none⟩)) := by
  have hne : ((List.range n).map fun i => (g.gs i).p) ≠ [] := fun e => by
    have := congrArg List.length e
    simp at this
    omega
  obtain ⟨lb, c, e, e2, _⟩ := h.lrow.there hne
  simp only [List.length_map, List.length_range] at e e2
  refine ⟨lb, c, e, e2, fun i hi => ?_⟩
  have hl := h.lrow
  rw [e] at hl
  have := hl.cell nprow.len (k := i) (a := (g.gs i).p) (by simp [hi]) (j := 0) rfl
  rw [Nat.mul_one, Nat.add_zero] at this
  exact this

theorem NodeAll.more {D' K' i : Nat} {l : Ln} {st : Nd} (h : NodeAll n said G D K i l st) (hD : D ≤ D') (hK : K ≤ K') : NodeAll n said G D' K' i l st :=
  ⟨h.ok, h.nb, h.rs.mono hD, h.id, Nat.le_trans h.ser hK, Nat.le_trans h.gn (Nat.mul_le_mul_left _ hK)⟩

theorem Grp.more {D' K' : Nat} (h : Grp w B n g sts W said G D K) (hD : D ≤ D') (hK : K ≤ K') : Grp w B n g sts W said G D' K' :=
  ⟨h.obj, h.lrow, h.wrow, by have := h.wlen; omega, h.ways, h.sd, by have := h.sn; omega, h.nd, fun i hi => (h.all i hi).more hD hK, h.gi, h.apart, h.sap, h.low⟩

/- What a call of the group turns. -/
structure GTo (w w' : World) (n : Nat) (g g' : Gl) (sts sts' : Nat → Nd) : Prop where
  q : g'.q = g.q
  t : Turns (gf n g) w w'
  f : ∀ k, gf n g' k → gf n g k ∨ w.heap.size ≤ k
  dec : ∀ i, i < n → (sts i).dec.length ≤ (sts' i).dec.length

theorem GTo.refl (w : World) (n : Nat) (g : Gl) (sts : Nat → Nd) : GTo w w n g g sts sts := ⟨rfl, Turns.refl _ _, fun k hk => .inl hk, fun i _ => Nat.le_refl _⟩
theorem GTo.of_below (b : Below w.heap.size w w') : GTo w w' n g g sts sts := ⟨rfl, Turns.of_below b, fun k hk => .inl hk, fun i _ => Nat.le_refl _⟩
theorem GTo.trans {w2 : World} {g1 g2 : Gl} {s1 s2 : Nat → Nd} (h : GTo w w' n g g1 sts s1) (k : GTo w' w2 n g1 g2 s1 s2) : GTo w w2 n g g2 sts s2 := by
  refine ⟨k.q.trans h.q, h.t.more k.t h.f, fun j hj => ?_, fun i hi => Nat.le_trans (h.dec i hi) (k.dec i hi)⟩
  rcases k.f j hj with e | e
  · exact h.f j e
  · exact .inr (Nat.le_trans h.t.size e)

def ChM (n : Nat) (G G' : Gh) : Prop := ∀ s v, Ch n G s v → Ch n G' s v

/- One monitor's call. -/
theorem Grp.act (h : Grp w B n g sts W said G D K) {i : Nat} (hi : i < n) {R : Value} {k D' : Nat} (hd : Did n said G w w' B (g.gs i) (sts i) R k D') (hk : k ≤ 20000) (hD : D ≤ D') :
    ∃ g' sts' G', Grp w' B n g' sts' W said G' D' (K + 1) ∧ GTo w w' n g g' sts sts' ∧ MlsK w' w.heap.size R n i k (fun m => Sent n i m ∧ MsgOk n said G' i m) ∧ g'.Rw = g.Rw ∧ g'.Rl = g.Rl ∧ (∀ j, (g'.gs j).p = (g.gs j).p) ∧ ChM n G G' := by
  obtain ⟨st', ⟨G', ⟨g1, u1, u2, u3, u4, u5⟩, s2, s3, s4, s5, s6⟩, hr, hkp⟩ := hd
  have hA := h.all i hi
  rw [hA.id] at s3 s6
  have hF : ∀ j, gf n g j → (∃ m, m < n ∧ m ≠ i ∧ fp (g.gs m) j) ∨ j = g.q ∨ g.Rl.ownBlock = some j ∨ g.Rw.ownBlock = some j ∨ j = g.sm ∨ fp (g.gs i) j := fun j hj => by
    rcases hj with a | a | a | a | ⟨m, hm, a⟩
    · exact .inr (.inl a)
    · exact .inr (.inr (.inl a))
    · exact .inr (.inr (.inr (.inl a)))
    · exact .inr (.inr (.inr (.inr (.inl a))))
    · by_cases e : m = i
      · subst e
        exact .inr (.inr (.inr (.inr (.inr a))))
      · exact .inl ⟨m, hm, e, a⟩
  have hN := h.nd i hi
  have hty := hN.ty
  have hu := fun k (hk : fp (g.gs i) k) => (hN.u8 k hk).2
  have nq : ¬ fp (g.gs i) g.q := fun e => by
    have := hty _ e _ h.obj.tb
    revert this
    decide
  have nl : ∀ j, g.Rl.ownBlock = some j → ¬ fp (g.gs i) j := fun j hj e => by
    have := hty _ e _ (h.lrow.tb hj).2
    revert this
    decide
  have nw : ∀ j, g.Rw.ownBlock = some j → ¬ fp (g.gs i) j := fun j hj e => by
    have := hty _ e _ (h.wrow.tb hj).2
    revert this
    decide
  have hsz := fun m (hm : m < n) j (hj : fp (g.gs m) j) => ((h.nd m hm).u8 j hj).1
  refine ⟨{ g with gs := setF g.gs i g1 }, setF sts i st', G', ⟨u3.blk h.obj nq, ?_, h.wrow.turns u3 nw, by have := h.wlen; omega, fun m hm => ?_, h.sd.turns u3 (h.sap i hi), by have := h.sn; show g.sn ≤ K + 1; omega, fun j hj => ?_, fun j hj => ?_, s2, fun a b ha hb hab j hja hjb => ?_, fun j hj e => ?_, h.low⟩, ⟨rfl, u3.weak (fun j hj => .inr (.inr (.inr (.inr ⟨i, hi, hj⟩)))), fun j hj => ?_, fun j hj => ?_⟩, s6, rfl, rfl, fun j => ?_, fun s v hv => hv.ext (s3 s)⟩
  · have e : ((List.range n).map fun j => (setF g.gs i g1 j).p) = (List.range n).map fun j => (g.gs j).p := List.map_congr_left fun j _ => by
      by_cases e : j = i
      · subst e
        rw [setF_same, u1]
      · rw [setF_other _ _ e]
    show Own w' B _ 1 encP g.Rl ((List.range n).map fun j => (setF g.gs i g1 j).p)
    rw [e]
    exact h.lrow.turns u3 nl
  · obtain ⟨p1, p2, p3, u, ⟨p4, p5⟩, p6⟩ := h.ways m hm
    exact ⟨p1, p2, p3, u, ⟨p4, p5.ext s3 (fun _ h => h)⟩, p6.turns u3 hu⟩
  · by_cases e : j = i
    · subst e
      show NdAt w' B (setF g.gs j g1 j) (setF sts j st' j)
      rw [setF_same, setF_same]
      exact u2
    · show NdAt w' B (setF g.gs i g1 j) (setF sts i st' j)
      rw [setF_other _ _ e, setF_other _ _ e]
      exact (h.nd j hj).turns u3 (fun k hk => h.apart j i hj hi e k hk) hu
  · by_cases e : j = i
    · subst e
      show NodeAll n said G' D' (K + 1) j (setF g.gs j g1 j) (setF sts j st' j)
      rw [setF_same, setF_same]
      exact ⟨s4, s5, hr, hkp.id.trans hA.id, by rw [hkp.ser]; have := hA.ser; omega, by have := hA.gn; omega⟩
    · show NodeAll n said G' D' (K + 1) j (setF g.gs i g1 j) (setF sts i st' j)
      rw [setF_other _ _ e, setF_other _ _ e]
      have hj2 := h.all j hj
      exact ⟨hj2.ok.other s3 (by rw [hj2.id]; exact e) (fun _ h => h), hj2.nb, hj2.rs.mono hD, hj2.id, by have := hj2.ser; omega, by have := hj2.gn; omega⟩
  · have key : ∀ c, c < n → c ≠ i → ∀ j, fp (g.gs c) j → fp g1 j → False := fun c hc hci j hj1 hj2 => by
      rcases u5 j hj2 with e | e
      · exact h.apart c i hc hi hci j hj1 e
      · have := hsz c hc j hj1
        omega
    by_cases e1 : a = i
    · subst e1
      have hja : fp (setF g.gs a g1 a) j := hja
      have hjb : fp (setF g.gs a g1 b) j := hjb
      rw [setF_same] at hja
      rw [setF_other _ _ (fun e => hab e.symm)] at hjb
      exact key b hb (fun e => hab e.symm) j hjb hja
    · have ja : fp (setF g.gs i g1 a) j := hja
      have jb : fp (setF g.gs i g1 b) j := hjb
      rw [setF_other _ _ e1] at ja
      by_cases e2 : b = i
      · rw [e2, setF_same] at jb
        exact key a ha e1 j ja jb
      · rw [setF_other _ _ e2] at jb
        exact h.apart a b ha hb hab j ja jb
  · have e' : fp (setF g.gs i g1 j) g.sm := e
    by_cases e1 : j = i
    · subst e1
      rw [setF_same] at e'
      rcases u5 _ e' with a | a
      · exact h.sap j hj a
      · have := h.sd.own.lt
        omega
    · rw [setF_other _ _ e1] at e'
      exact h.sap j hj e'
  · rcases hj with a | a | a | a | ⟨m, hm, a⟩
    · exact .inl (.inl a)
    · exact .inl (.inr (.inl a))
    · exact .inl (.inr (.inr (.inl a)))
    · exact .inl (.inr (.inr (.inr (.inl a))))
    · have a : fp (setF g.gs i g1 m) j := a
      by_cases e : m = i
      · subst e
        rw [setF_same] at a
        rcases u5 j a with b | b
        · exact .inl (.inr (.inr (.inr (.inr ⟨m, hm, b⟩))))
        · exact .inr b
      · rw [setF_other _ _ e] at a
        exact .inl (.inr (.inr (.inr (.inr ⟨m, hm, a⟩))))
  · by_cases e : j = i
    · subst e
      rw [setF_same]
      exact hkp.dec
    · rw [setF_other _ _ e]
      exact Nat.le_refl _
  · show (setF g.gs i g1 j).p = _
    by_cases e : j = i
    · subst e
      rw [setF_same, u1]
    · rw [setF_other _ _ e]

/- What is on its way is other. -/
theorem Grp.setW (h : Grp w B n g sts W said G D K) {R' : Value} {W' : List Wy} (t : Turns (fun k => g.Rw.ownBlock = some k) w w') (ho : Own w' B 52 3 encW R' W') (hl : W'.length ≤ 2000 + K) (hw : ∀ m ∈ W', WyOk w' n said G m) (hn : ∀ k, R'.ownBlock = some k → g.Rw.ownBlock = some k ∨ w.heap.size ≤ k) :
    w'.cell? ⟨g.q, 1, none⟩ = some g.Rw ∧ w'.frozen? ⟨g.q, 1, none⟩ = false ∧ Grp (w'.setCell ⟨g.q, 1, none⟩ R') B n { g with Rw := R' } sts W' said G D K ∧ GTo w (w'.setCell ⟨g.q, 1, none⟩ R') n g { g with Rw := R' } sts sts := by
  have nty : ∀ k t, Tb w k t → t ≠ 52 → ¬ g.Rw.ownBlock = some k := fun k t ht hne e => hne (ht.same (h.wrow.tb e).2)
  have nmap : ∀ k, Mb w k → ¬ g.Rw.ownBlock = some k := fun k hk e => (h.wrow.tb e).2.not_map hk
  have hu : ∀ k, g.Rw.ownBlock = some k → ¬ Tb w k 5 := fun k hk ht => nty k _ ht (by decide) hk
  have hnd : ∀ i, i < n → ∀ k, fp (g.gs i) k → ¬ g.Rw.ownBlock = some k := fun i hi k hk e => by
    have := (h.nd i hi).ty k hk _ (h.wrow.tb e).2
    revert this
    decide
  have hb := t.blk h.obj (nty _ _ h.obj.tb (by decide))
  have t2 : Turns (atB g.q) w' (w'.setCell ⟨g.q, 1, none⟩ R') := turns_put (Turns.refl _ _) 1 _
  have q8 : ∀ k, atB g.q k → ¬ Tb w' k 5 := fun k hk ht => by
    have e : k = g.q := hk
    subst e
    have := ht.same hb.tb
    revert this
    decide
  have hlr := h.lrow.turns t (fun k hk => nty k _ (h.lrow.tb hk).2 (by decide))
  have hsd := h.sd.turns t (nmap _ h.sd.isM)
  have hnw := fun i hi => (h.nd i hi).turns t (hnd i hi) hu
  have nq : ∀ k t, Tb w' k t → t ≠ 33 → ¬ atB g.q k := fun k t ht hne e => by
    have e : k = g.q := e
    subst e
    exact hne (ht.same hb.tb)
  refine ⟨hb.cell (k := 1) (by omega), hb.frozen 1, ⟨(hb.set 1 R').congr (fun j hj => ?_), hlr.turns t2 (fun k hk => nq k _ (hlr.tb hk).2 (by decide)), ho.turns t2 (fun k hk => nq k _ (ho.tb hk).2 (by decide)), hl, fun m hm => (hw m hm).turns t2 q8, hsd.turns t2 (fun e => ?_), h.sn, fun i hi => (hnw i hi).turns t2 (fun k hk e => ?_) q8, h.all, h.gi, h.apart, h.sap, h.low⟩, ⟨rfl, (t.weak (fun k hk => .inr (.inr (.inl hk)))).trans (t2.weak (fun k hk => .inl hk)), fun k hk => ?_, fun i _ => Nat.le_refl _⟩⟩
  · rcases j with _ | _ | _ | j <;> first | rfl | omega
  · have e : g.sm = g.q := e
    exact hb.tb.not_map (e ▸ hsd.isM)
  · have e : k = g.q := e
    subst e
    have := (hnw i hi).ty _ hk _ hb.tb
    revert this
    decide
  · rcases hk with a | a | a | a | a
    · exact .inl (.inl a)
    · exact .inl (.inr (.inl a))
    · rcases hn k a with b | b
      · exact .inl (.inr (.inr (.inl b)))
      · exact .inr b
    · exact .inl (.inr (.inr (.inr (.inl a))))
    · exact .inl (.inr (.inr (.inr (.inr a))))

end

end Go.Proofs.Ytfgfjfemaniaiaa.Px

/-
  The statement's post: mails are put on their way.
  Conditions: the group lies in memory ('Grp').
-/
namespace Go.Proofs.Ytfgfjfemaniaiaa.Px
open Go.RowKit Wi By Fl Ba
set_option linter.unusedVariables false
set_option linter.unusedSimpArgs false
set_option maxRecDepth 100000

/- How far post is. -/
def Psd (w wr : World) (B n : Nat) (g : Gl) (sts : Nat → Nd) (said : ByteArray → Prop) (G : Gh) (D K : Nat) (g1 : Gl) (W1 : List Wy) : Prop :=
  Grp wr B n g1 sts W1 said G D K ∧ GTo w wr n g g1 sts sts ∧ g1.Rl = g.Rl

section
variable {w : World} {B n : Nat} {g : Gl} {sts : Nat → Nd} {W : List Wy} {said : ByteArray → Prop} {G : Gh} {D K : Nat}

set_option maxHeartbeats 3200000 in
theorem post_any (h : Grp w B n g sts W said G D K) (h1 : 1 ≤ n) (hn : n ≤ 7) (hK : K ≤ 1000) (fr : Nat) (hfr : fr < n) (R : Value) (Bm km : Nat) (hm : MlsK w Bm R n fr km (fun m => Sent n fr m ∧ MsgOk n said G fr m)) (hkm : km ≤ 20000) :
    Calls Try.prog 18 #[.pointer (some ⟨g.q, 0, none⟩), .int .i64 (fr : Int), R] w fun e w' => e = .returned (.bool true) ∧ Hid (∃ g' W', Psd w w' B n g sts said G D K g' W') := by
  obtain ⟨L, l1, l2, l3⟩ := hm
  obtain ⟨x, c, hR, hlc, hx1, hx2⟩ := l1.form
  subst hR
  have H0 : Hid (∃ g1 W1, Psd w w B n g sts said G D K g1 W1) := ⟨g, W, h, GTo.refl _ _ _ _, rfl⟩
  have HL : Hid (OwnMl w Bm (.slice x L.length c) L ∧ (∀ m ∈ L, 0 ≤ m.dst ∧ m.dst < n ∧ m.dst ≠ fr ∧ ∃ msg, (Sent n fr msg ∧ MsgOk n said G fr msg) ∧ Px.Bm w m.x m.n m.c (encM msg fr)) ∧ Grp w B n g sts W said G D K) := ⟨l1, l3, h⟩
  have hll : L.length ≤ 20000 := by omega
  clear h l1 l3 hx1 hx2 hlc l2
  obtain ⟨ln, hln⟩ : ∃ ln, L.length = ln := ⟨_, rfl⟩
  have Hln : Hid (L.length = ln) := hln
  rw [hln] at hll HL ⊢
  clear hln
  generalize hq : g.q = q
  have Hq : Hid (g.q = q) := hq
  clear hq
  go_enter Try.func18, Try.ntmps18
  go_wp2_with fail
  go_loopw [7] (fun i wr => ∃ k : Nat, k ≤ ln ∧ i = .int .i64 k ∧ Hid (∃ g1 W1, Psd w wr B n g sts said G D K g1 W1)) (fun i _ => ln - (intOf i).toNat)
  case atStart => exact ⟨0, by omega, rfl, H0.out⟩
  case round =>
    clear H0
    obtain ⟨k, hk, rfl, HR⟩ := hrel
    by_cases hlt : k < ln
    · obtain ⟨g1, W1, r1, r2, r3⟩ := HR.out
      have hgq : g1.q = q := r2.q.trans Hq.out
      obtain ⟨m, hm⟩ : ∃ m, L[k]? = some m := ⟨L[k]'(by have := Hln.out; omega), List.getElem?_eq_getElem (by have := Hln.out; omega)⟩
      have HM := HL.out.2.1 m (List.mem_of_getElem? hm)
      have hu := HL.out.2.2.u8
      have hnm : ∀ j, gf n g j → ¬ Tb w j 70 := fun j hj ht => by
        have := HL.out.2.2.ty j hj _ ht
        revert this
        decide
      have o1 : OwnMl wr Bm (.slice x ln c) L := HL.out.1.turns r2.t (fun j hj e => hnm j e (HL.out.1.tb hj).2)
      have hne : L ≠ [] := fun e => by have := Hln.out; rw [e] at this; simp at this; omega
      obtain ⟨gm, c', e', _⟩ := o1.there hne
      injection e' with e1 e2 e3
      subst e1
      have v0 : wr.cell? ⟨gm, k * 2, none⟩ = some (.int .i64 m.dst) := o1.cell mrow.len hm (j := 0) rfl
      have v1 : wr.cell? ⟨gm, k * 2 + 1, none⟩ = some (.slice m.x m.n m.c) := o1.cell mrow.len hm (j := 1) rfl
      obtain ⟨lb, lc, hRl, hlc2, _⟩ := r1.ptr h1
      have c0 := r1.c0
      have c1 := r1.c1
      rw [hRl, hgq] at c0
      rw [hgq] at c1
      obtain ⟨xw, cw, hRw, _⟩ := r1.wrow.form
      rw [hRw] at c1
      have bD : Below wr.heap.size wr wr.drew := (Below.refl _ _).drew
      have s0 := keep bD v0
      have s1 := keep bD v1
      have t0 := keep bD c0
      have t1 := keep bD c1
      obtain ⟨md, mx, mn, mc⟩ := m
      dsimp only at HM v0 v1 s0 s1
      have i1 : decide (md < 0) = false := decide_eq_false (by have := HM.1; omega)
      have i2 : decide ((n : Int) ≤ md) = false := decide_eq_false (by have := HM.2.1; omega)
      have i3 : (md == (fr : Int)) = false := by have := HM.2.2.1; simpa using this
      have HG := hid (And.intro r1 (And.intro r2 (And.intro r3 (And.intro HM (And.intro hRw (And.intro (o1.tb (g := gm) rfl).2 hgq))))))
      have hwl := r1.wlen
      obtain ⟨wl, hwl2⟩ : ∃ wl, W1.length = wl := ⟨_, rfl⟩
      rw [hwl2] at hwl t1 hRw c1
      have Hwl : Hid (W1.length = wl) := hwl2
      clear r1 r2 r3 HM hm hu hnm o1 hne e2 e3 v0 v1 c0 c1 hRl hRw hwl2
      go_wp2_with fail
      refine wp_region_held_drew (S := fun v => v.cell? ⟨gm, k * 2, none⟩ = some (.int .i64 md) ∧ v.cell? ⟨q, 0, none⟩ = some (.slice (some ⟨lb, 0, none⟩) n lc)) (by kernel_rfl) ⟨s0, t0⟩ (fun hHeld => ?_)
      generalize wr.drew = wD at *
      refine By.hk 0 ?_
      refine By.hk 1 ?_
      refine By.hk 2 ?_
      refine By.hk 3 ?_
      refine By.hk 4 ?_
      refine By.hk 5 ?_
      refine By.hk 6 ?_
      refine By.hk 7 ?_
      refine By.hk 8 ?_
      refine By.hk 9 ?_
      refine By.hk 10 ?_
      refine By.hk 11 ?_
      refine By.hk 12 ?_
      refine By.hk 13 ?_
      refine By.hk 14 ?_
      refine By.hk 15 ?_
      refine By.hk 16 ?_
      refine By.hk 17 ?_
      refine By.hk 18 ?_
      refine By.hk 19 ?_
      refine By.hk 20 ?_
      refine By.hk 21 ?_
      refine By.hk 22 ?_
      refine By.hk 23 ?_
      refine By.hk 24 ?_
      refine By.hk 25 ?_
      refine By.hk 26 ?_
      refine By.hk 27 ?_
      refine wpAnyH_done (by kernel_rfl) ?_ _
      clear hHeld
      by_cases h2k : wl < 2000
      · have i5 : (wl : Int) < 2000 := by omega
        have bE : Below wD.heap.size wD wD.drew := (Below.refl _ _).drew
        have u0 := keep bE s0
        have u1 := keep bE s1
        have x1 := keep bE t1
        have HU : Hid (∀ wE W2, Below wD.heap.size wD wE → W2 = wE.alloc (.cells #[.int .i64 (fr : Int), .int .i64 md, .slice mx mn mc] 52) → ∃ x' c' w3, (Builtin.append_ #[30, 30] 30 #[.slice xw wl cw, .slice (some ⟨wE.heap.size, 0, none⟩) 1 1]).run Try.prog W2 = .ok (.slice x' (wl + 1) c') w3 ∧ W2.cell? ⟨q, 1, none⟩ = some (.slice xw wl cw) ∧ w3.cell? ⟨q, 1, none⟩ = some (.slice xw wl cw) ∧ w3.frozen? ⟨q, 1, none⟩ = false ∧ W2.cell? ⟨gm, k * 2, none⟩ = some (.int .i64 md) ∧ W2.cell? ⟨gm, k * 2 + 1, none⟩ = some (.slice mx mn mc) ∧ w3.cell? ⟨gm, k * 2, none⟩ = some (.int .i64 md) ∧ w3.cell? ⟨gm, k * 2 + 1, none⟩ = some (.slice mx mn mc) ∧ Hid (∃ g' W', Psd w (w3.setCell ⟨q, 1, none⟩ (.slice x' (wl + 1) c')) B n g sts said G D K g' W')) := by
          intro wE W2 bE hW2
          have x1 := keep bE t1
          have u0 := keep bE s0
          have u1 := keep bE s1
          obtain ⟨r1, r2, r3, HM, hRw, hgm, hgq⟩ := HG.out
          have b2 : Below wE.heap.size wE W2 := by rw [hW2]; exact al _ _
          have bW := on (on bD bE) b2
          have rG := r1.below bW
          have hz : W2.heap.size = wE.heap.size + 1 := by rw [hW2]; simp
          have hBs : B ≤ W2.heap.size := Nat.le_trans r1.low.1 (Nat.le_trans (Nat.le_of_lt r1.obj.lt) bW.size)
          obtain ⟨x', c', w3, hap, HO⟩ := rG.wrow.push wyrow hBs ⟨wE.heap.size, 0, none⟩ 1 1 [⟨fr, md.toNat, mx, mn, mc⟩] rfl (fun j u hj => by
            rw [add_at, Nat.zero_add]
            rw [flat_one] at hj
            have hmd : ((md.toNat : Nat) : Int) = md := by have := HM.1; omega
            rw [hW2]
            match j, hj with
            | 0, hj => simpa [encW] using hj
            | 1, hj => simpa [encW, hmd] using hj
            | 2, hj => simpa [encW] using hj
            | j + 3, hj => simp [encW] at hj) (by have := Hwl.out; omega)
          obtain ⟨o3, t3, n3⟩ := HO.out
          obtain ⟨p1, p2, p3, msg, p4, p5⟩ := HM
          have hty : ∀ j, g1.Rw.ownBlock = some j → ∀ ty, Tb W2 j ty → ty = 52 := fun j hj ty ht => ht.same (rG.wrow.tb hj).2
          have hu3 : ∀ j, g1.Rw.ownBlock = some j → ¬ Tb W2 j 5 := fun j hj ht => by
            have := hty j hj _ ht
            revert this
            decide
          obtain ⟨a1, a2, a3, a4⟩ := rG.setW t3 o3 (by rw [List.length_append]; have := Hwl.out; simp; omega) (fun m9 hm9 => by
            rcases List.mem_append.1 hm9 with hm9 | hm9
            · exact (rG.ways m9 hm9).turns t3 hu3
            · simp at hm9
              subst hm9
              exact ⟨hfr, by show md.toNat < n; omega, by show md.toNat ≠ fr; omega, msg, p4, ((p5.turns r2.t HL.out.2.2.u8).below bW).turns t3 hu3⟩) (fun j hj => by
            rcases n3 j hj with e | e
            · exact .inl e
            · exact .inr (by omega))
          rw [hRw, Hwl.out] at a1 hap
          rw [hgq] at a1 a2 a3 a4
          rw [Hwl.out] at a3 a4
          have gk : ∀ o v, W2.cell? ⟨gm, o, none⟩ = some v → w3.cell? ⟨gm, o, none⟩ = some v := fun o v hv => keept t3 (fun e => by
            have := hty gm e _ (hgm.of_heap (bW.block _ hgm.lt))
            revert this
            decide) hv
          refine ⟨x', c', w3, hap, keep b2 x1, a1, a2, keep b2 u0, keep b2 u1, gk _ _ (keep b2 u0), gk _ _ (keep b2 u1), _, _, a3, (r2.trans (GTo.of_below bW)).trans a4, r3⟩
        obtain ⟨x', c', w3, hap, b1, b3, b4, b5, b6, b7, b8, HN⟩ := HU.out _ _ bE rfl
        clear HU
        go_wp2_with fail
        refine wp_region_last (fun v => v.cell? ⟨q, 1, none⟩ = some (.slice xw wl cw) ∧ v.cell? ⟨gm, k * 2, none⟩ = some (.int .i64 md) ∧ v.cell? ⟨gm, k * 2 + 1, none⟩ = some (.slice mx mn mc)) 21 (by kernel_rfl) ⟨x1, u0, u1⟩ (fun hS => ?_)
        refine By.lk 0 ?_
        refine By.lk 1 ?_
        refine By.lk 2 ?_
        refine By.lk 3 ?_
        refine By.lk 4 ?_
        refine By.lk 5 ?_
        refine By.lk 6 ?_
        refine By.lk 7 ?_
        refine By.lk 8 ?_
        refine By.lk 9 ?_
        refine By.lk 10 ?_
        refine By.lk 11 ?_
        refine By.lk 12 ?_
        refine By.lk 13 ?_
        refine By.lk 14 ?_
        refine By.lk 15 ?_
        refine By.lk 16 ?_
        refine wpAnyL_one (i := 17) (by kernel_rfl) rfl (fun K hK => ?_)
        go_simp
        refine hK.out _ _ (fun _ => ⟨b1, b5, b6⟩) ?_
        clear hK K
        refine wpAnyL_one (i := 18) (by kernel_rfl) rfl (fun K hK => ?_)
        refine ready_append rfl _ _ 30 rfl _ _ rfl rfl hap ?_
        (try simp only [Act.put, List.getElem_toArray, List.getElem_cons_succ, List.getElem_cons_zero, List.setIfInBounds_toArray, List.set_cons_zero, List.set_cons_succ])
        refine hK.out _ _ (fun _ => ⟨b3, b7, b8⟩) ?_
        clear hK K
        refine wpAnyL_one (i := 19) (by kernel_rfl) rfl (fun K hK => ?_)
        go_simp
        refine hK.out _ _ (fun _ => ⟨b3, b7, b8⟩) ?_
        clear hK K
        refine wpAnyL_one (i := 20) (by kernel_rfl) rfl (fun K hK => ?_)
        go_simp
        refine hK.out _ _ (fun _ => ⟨b3, b7, b8⟩) ?_
        clear hK K
        refine wpAnyL_one (i := 21) (by kernel_rfl) rfl (fun K hK => ?_)
        go_simp
        refine hK.out _ _ (fun h => absurd rfl h) ?_
        clear hK K
        refine wpAnyL_done (by kernel_rfl) ?_ _
        go_wp2_with fail
        go_roundw
        case rel => exact ⟨k + 1, by omega, by go_num, HN.out⟩
        case measure => simp [intOf]; omega
      · have i5 : ¬ (wl : Int) < 2000 := by omega
        go_wp2_with fail
        go_roundw
        case rel =>
          obtain ⟨r1, r2, r3, HM, hRw, hgm, hgq⟩ := HG.out
          exact ⟨k + 1, by omega, by go_num, g1, W1, r1.below bD, r2.trans (GTo.of_below bD), r3⟩
        case measure => simp [intOf]; omega
    · obtain rfl : k = ln := by omega
      have hkn : ¬ (k : Int) < (k : Int) := by omega
      go_wp2_with fail
      go_ret
      exact ⟨rfl, HR.out⟩

end

end Go.Proofs.Ytfgfjfemaniaiaa.Px

/-
  The statement's deliver: one mail leaves the list and is received.
  Conditions: the group lies in memory ('Grp').
-/
namespace Go.Proofs.Ytfgfjfemaniaiaa.Px
open Go.RowKit Wi By Fl Ba
set_option linter.unusedVariables false
set_option linter.unusedSimpArgs false
set_option maxRecDepth 100000

def cutL {α : Type} (L : List α) (k : Nat) : List α := L.take k ++ L.drop (k + 1)

section
variable {w : World} {B n : Nat} {g : Gl} {sts : Nat → Nd} {W : List Wy} {said : ByteArray → Prop} {G : Gh} {D K : Nat}

/- The list without one mail. -/
theorem Grp.cut (h : Grp w B n g sts W said G D K) (hK : K ≤ 1000) (i wb cw o : Nat) (hi : i < W.length) (hR : g.Rw = .slice (some ⟨wb, 0, none⟩) W.length cw) (hc : W.length ≤ cw) (ho : i + 1 < cw → o = (i + 1) * 3) :
    ∃ x1 c1 w1 x2 c2 w2, (Builtin.append_ #[30, 30] 30 #[.slice (some ⟨w.heap.size, 0, none⟩) 0 0, .slice (some ⟨wb, 0, none⟩) i cw]).run Try.prog (w.alloc (.cells #[] 52)) = .ok (.slice x1 i c1) w1 ∧
      (Builtin.append_ #[30, 30] 30 #[.slice x1 i c1, .slice (some ⟨wb, o, none⟩) (W.length - (i + 1)) (cw - (i + 1))]).run Try.prog w1 = .ok (.slice x2 (W.length - 1) c2) w2 ∧
      (∀ b o v, b < w.heap.size → w.cell? ⟨b, o, none⟩ = some v → (w.alloc (.cells #[] 52)).cell? ⟨b, o, none⟩ = some v ∧ w1.cell? ⟨b, o, none⟩ = some v ∧ w2.cell? ⟨b, o, none⟩ = some v) ∧ w2.frozen? ⟨g.q, 1, none⟩ = false ∧
      Hid (∃ g', g'.Rl = g.Rl ∧ g'.gs = g.gs ∧ Grp (w2.setCell ⟨g.q, 1, none⟩ (.slice x2 (W.length - 1) c2)) B n g' sts (cutL W i) said G D K ∧ GTo w (w2.setCell ⟨g.q, 1, none⟩ (.slice x2 (W.length - 1) c2)) n g g' sts sts) := by
  have hwl := h.wlen
  have b1 := al w (.cells #[] 52)
  have h1 := h.below b1
  have hBw : B ≤ w.heap.size := Nat.le_trans h.low.1 (Nat.le_of_lt h.obj.lt)
  have e0 : Own (w.alloc (.cells #[] 52)) B 52 3 encW (.slice (some ⟨w.heap.size, 0, none⟩) 0 0) [] := Own.empty w hBw _ _ _
  have own1 := h1.wrow
  rw [hR] at own1
  have cells : ∀ (v : World), Own v B 52 3 encW (.slice (some ⟨wb, 0, none⟩) W.length cw) W → ∀ j u, (flat encW W)[j]? = some u → v.cell? ⟨wb, j, none⟩ = some u := fun v hv j u hj => by
    have := World.ownsRow.cells hv (g := wb) rfl j u hj
    rwa [add_at, Nat.zero_add] at this
  obtain ⟨x1, c1, w1, hap1, H1⟩ := e0.push wyrow (by simp; omega) ⟨wb, 0, none⟩ i cw (W.take i) (by rw [List.length_take]; omega) (fun j u hj => by
    rw [add_at, Nat.zero_add]
    rw [← flat_take wyrow.len, List.getElem?_take] at hj
    split at hj
    · exact cells _ own1 j u hj
    · cases hj) (by simp; omega)
  obtain ⟨o1, T1, N1⟩ := H1.out
  have hg1 : ∀ k, (Value.slice (some ⟨w.heap.size, 0, none⟩) 0 0).ownBlock = some k → k = w.heap.size := fun k hk => by simp [Value.ownBlock] at hk; exact hk.symm
  have hwb := (h.wrow.tb (g := wb) (by rw [hR]; rfl)).2.lt
  have own2 := own1.turns T1 (fun k hk e => by
    have := hg1 k e
    simp [Value.ownBlock] at hk
    omega)
  have s1 : Turns (fun k => w.heap.size ≤ k) w w1 := (Turns.of_below (F := fun k => w.heap.size ≤ k) b1).more T1 (fun k hk => .inl (Nat.le_of_eq (hg1 k hk).symm))
  obtain ⟨x2, c2, w2, hap2, H2⟩ := o1.push wyrow (Nat.le_trans hBw s1.size) ⟨wb, o, none⟩ (W.length - (i + 1)) (cw - (i + 1)) (W.drop (i + 1)) (by rw [List.length_drop]) (fun j u hj => by
    have hlt := (List.getElem?_eq_some_iff.1 hj).1
    rw [flat_len wyrow.len, List.length_drop] at hlt
    have hic : i + 1 < cw := by omega
    rw [add_at, ho hic]
    rw [← flat_drop wyrow.len, List.getElem?_drop] at hj
    exact cells _ own2 _ u hj) (by simp only [List.length_append, List.length_take, List.length_nil]; omega)
  obtain ⟨o2, T2, N2⟩ := H2.out
  have fresh1 : ∀ k, (Value.slice x1 (([] : List Wy).length + i) c1).ownBlock = some k → w.heap.size ≤ k := fun k hk => by
    rcases N1 k hk with e | e
    · exact Nat.le_of_eq (hg1 k e).symm
    · rw [e]; simp
  have s2 : Turns (fun k => w.heap.size ≤ k) w w2 := s1.more T2 (fun k hk => .inl (fresh1 k hk))
  have el : ([] ++ W.take i ++ W.drop (i + 1)) = cutL W i := by simp [cutL]
  have e3 : (([] : List Wy) ++ W.take i).length + (W.length - (i + 1)) = W.length - 1 := by simp; omega
  rw [el] at o2
  have fresh2 : ∀ k, (Value.slice x2 ((([] : List Wy) ++ W.take i).length + (W.length - (i + 1))) c2).ownBlock = some k → w.heap.size ≤ k := fun k hk => by
    rcases N2 k hk with e | e
    · exact fresh1 k e
    · rw [e]; exact s1.size
  rw [e3] at hap2 o2 fresh2
  simp only [List.length_nil, Nat.zero_add] at hap1
  rw [List.length_nil, Nat.zero_add] at hap2
  have Tw : Turns (fun k => g.Rw.ownBlock = some k) w w2 := ⟨s2.os, s2.tape, s2.output, s2.size, fun k hk _ => s2.block k hk (by omega)⟩
  have hcl : (cutL W i).length = W.length - 1 := by unfold cutL; simp; omega
  obtain ⟨a1, a2, a3, a4⟩ := h.setW Tw o2 (by rw [hcl]; omega) (fun m hm => by
    have hm' : m ∈ W := by
      rcases List.mem_append.1 hm with e | e
      · exact List.mem_of_mem_take e
      · exact List.mem_of_mem_drop e
    exact (h.ways m hm').turns s2 (fun k hk ht => by
      have := ht.lt
      omega)) (fun k hk => .inr (fresh2 k hk))
  refine ⟨x1, c1, w1, x2, c2, w2, hap1, hap2, fun b o v ha hv => ⟨keep b1 hv, ?_, ?_⟩, a2, { g with Rw := .slice x2 (W.length - 1) c2 }, rfl, rfl, a3, a4⟩
  · exact keept s1 (fun e => by omega) hv
  · exact keept s2 (fun e => by omega) hv

set_option maxHeartbeats 3200000 in
theorem deliver_any (h : Grp w B n g sts W said G D K) (h1 : 1 ≤ n) (hn : n ≤ 7) (hK : K ≤ 900) (hD : D < 59000) (i : Nat) (hi : i < W.length) :
    Calls Try.prog 20 #[.pointer (some ⟨g.q, 0, none⟩), .int .i64 (i : Int)] w fun e w' => e = .returned (.bool true) ∧ Hid (∃ g' sts' W' G', Grp w' B n g' sts' W' said G' (D + 65) (K + 1) ∧ GTo w w' n g g' sts sts' ∧ ChM n G G') := by
  obtain ⟨m, hm⟩ : ∃ m, W[i]? = some m := ⟨W[i], List.getElem?_eq_getElem hi⟩
  have HM := h.ways m (List.mem_of_getElem? hm)
  obtain ⟨wb, cw, hR, hc, hcm, hBw, hwb⟩ := h.wrow.there (by intro e; rw [e] at hi; simp at hi)
  have own1 := h.wrow
  rw [hR] at own1
  have m0 : w.cell? ⟨wb, i * 3, none⟩ = some (.int .i64 (m.fr : Int)) := own1.cell wyrow.len hm (j := 0) rfl
  have m1 : w.cell? ⟨wb, i * 3 + 1, none⟩ = some (.int .i64 (m.dst : Int)) := own1.cell wyrow.len hm (j := 1) rfl
  have m2 : w.cell? ⟨wb, i * 3 + 2, none⟩ = some (.slice m.x m.n m.c) := own1.cell wyrow.len hm (j := 2) rfl
  have c1 := h.c1
  rw [hR] at c1
  have hcb : cw ≤ 9223372036854775807 := by unfold maxLen at hcm; omega
  obtain ⟨o, ho, hA⟩ : ∃ o, (i + 1 < cw → o = (i + 1) * 3) ∧ (if cw = i + 1 then some (⟨wb, 0, none⟩ : Addr) else some ⟨wb, (i + 1) * 3, none⟩) = some ⟨wb, o, none⟩ := by
    by_cases e : cw = i + 1
    · exact ⟨0, fun h => by omega, by rw [if_pos e]⟩
    · exact ⟨(i + 1) * 3, fun _ => rfl, by rw [if_neg e]⟩
  obtain ⟨fr, dst, mx, mn, mc⟩ := m
  dsimp only at m0 m1 m2 HM
  have HH := hid (And.intro h (And.intro HM (And.intro hR (And.intro hc ho))))
  have hwl := h.wlen
  have hiz : (i : Int) < 9223372036854775807 := by omega
  have hwz : IntKind.i64.wrap ((i : Int) + 1) = (i : Int) + 1 := by
    unfold IntKind.wrap
    simp [IntKind.bits, IntKind.signed]
    omega
  have hwn : ((i : Int) + 1).toNat = i + 1 := by omega
  have hw0 : (0 : Int) ≤ (i : Int) + 1 := by omega
  have hic : i ≤ cw := by omega
  have hin : (i : Int) + 1 ≤ (W.length : Int) := by omega
  have hqs : g.q < w.heap.size := h.obj.lt
  clear h HM hR ho hm own1 hcm hBw
  obtain ⟨wl, hwl2⟩ : ∃ wl, W.length = wl := ⟨_, rfl⟩
  have Hwl : Hid (W.length = wl) := hwl2
  rw [hwl2] at hi hc hin c1 hwl
  clear hwl2
  generalize hq : g.q = q at *
  have Hq : Hid (g.q = q) := hq
  clear hq
  go_enter Try.func20, Try.ntmps20
  go_wp2_with fail
  have bA : Below w.heap.size w (w.alloc (.cells #[.int .i64 (fr : Int), .int .i64 (dst : Int), .slice mx mn mc] 52)).drew := on (al _ _) (Below.refl _ _).drew
  have k0 : (w.alloc (.cells #[.int .i64 (fr : Int), .int .i64 (dst : Int), .slice mx mn mc] 52)).drew.cell? ⟨w.heap.size, 0, none⟩ = some (.int .i64 (fr : Int)) := by go_simp
  have k1 : (w.alloc (.cells #[.int .i64 (fr : Int), .int .i64 (dst : Int), .slice mx mn mc] 52)).drew.cell? ⟨w.heap.size, 1, none⟩ = some (.int .i64 (dst : Int)) := by go_simp
  have k2 : (w.alloc (.cells #[.int .i64 (fr : Int), .int .i64 (dst : Int), .slice mx mn mc] 52)).drew.cell? ⟨w.heap.size, 2, none⟩ = some (.slice mx mn mc) := by go_simp
  have s1 := keep bA c1
  refine wp_region_last (fun v => v.cell? ⟨q, 1, none⟩ = some (.slice (some ⟨wb, 0, none⟩) wl cw)) 19 (by kernel_rfl) s1 (fun hS => ?_)
  generalize (w.alloc (.cells #[.int .i64 (fr : Int), .int .i64 (dst : Int), .slice mx mn mc] 52)).drew = wA at *
  obtain ⟨x1, d1, w1, x2, d2, w2, hap1, hap2, hkeep, hfz, HC⟩ := (HH.out.1.below bA).cut (by omega) i wb cw o (by rw [Hwl.out]; exact hi) HH.out.2.2.1 HH.out.2.2.2.1 HH.out.2.2.2.2
  rw [Hwl.out] at hap2 HC
  rw [Hq.out] at hfz HC
  have hbx : w.heap.size < wA.heap.size := cell_lt' k0
  have hqA : q < wA.heap.size := by omega
  obtain ⟨y1, y2, y3⟩ := hkeep q 1 _ hqA s1
  obtain ⟨-, -, z0⟩ := hkeep w.heap.size 0 _ hbx k0
  obtain ⟨-, -, z1⟩ := hkeep w.heap.size 1 _ hbx k1
  obtain ⟨-, -, z2⟩ := hkeep w.heap.size 2 _ hbx k2
  have hqn : w.heap.size ≠ q := by omega
  clear hkeep
  refine By.lk 0 ?_
  refine By.lk 2 ?_
  refine By.lk 3 ?_
  refine By.lk 4 ?_
  refine By.lk 5 ?_
  refine By.lk 6 ?_
  refine By.lk 7 ?_
  refine By.lk 9 ?_
  refine By.lk 10 ?_
  refine By.lk 11 ?_
  refine By.lk 12 ?_
  refine By.lk 13 ?_
  refine By.lk 14 ?_
  refine By.lk 15 ?_
  refine wpAnyL_one (i := 1) (by kernel_rfl) rfl (fun K hK => ?_)
  go_simp
  refine hK.out _ _ (fun _ => y1) ?_
  clear hK K
  refine wpAnyL_one (i := 8) (by kernel_rfl) rfl (fun K hK => ?_)
  refine ready_append rfl _ _ 30 rfl _ _ rfl rfl hap1 ?_
  (try simp only [Act.put, List.getElem_toArray, List.getElem_cons_succ, List.getElem_cons_zero, List.setIfInBounds_toArray, List.set_cons_zero, List.set_cons_succ])
  refine hK.out _ _ (fun _ => y2) ?_
  clear hK K
  refine wpAnyL_one (i := 16) (by kernel_rfl) rfl (fun K hK => ?_)
  refine ready_append rfl _ _ 30 rfl _ _ rfl rfl hap2 ?_
  (try simp only [Act.put, List.getElem_toArray, List.getElem_cons_succ, List.getElem_cons_zero, List.setIfInBounds_toArray, List.set_cons_zero, List.set_cons_succ])
  refine hK.out _ _ (fun _ => y3) ?_
  clear hK K
  refine wpAnyL_one (i := 17) (by kernel_rfl) rfl (fun K hK => ?_)
  go_simp
  refine hK.out _ _ (fun _ => y3) ?_
  clear hK K
  refine wpAnyL_one (i := 18) (by kernel_rfl) rfl (fun K hK => ?_)
  go_simp
  refine hK.out _ _ (fun _ => y3) ?_
  clear hK K
  refine wpAnyL_one (i := 19) (by kernel_rfl) rfl (fun K hK => ?_)
  go_simp
  refine hK.out _ _ (fun h => absurd rfl h) ?_
  clear hK K
  refine wpAnyL_done (by kernel_rfl) ?_ _
  have tq : Turns (atB q) w2 (w2.setCell ⟨q, 1, none⟩ (.slice x2 (wl - 1) d2)) := turns_put (Turns.refl _ _) 1 _
  have a0 := keept tq hqn z0
  have a1 := keept tq hqn z1
  have a2 := keept tq hqn z2
  clear y1 y2 y3 z0 z1 z2 hap1 hap2 tq hfz k0 k1 k2 s1 c1 m0 m1 m2 hA hwz hwn hw0 hic hin hiz hcb
  generalize w2.setCell ⟨q, 1, none⟩ (.slice x2 (wl - 1) d2) = w3 at *
  go_wp2_with fail
  obtain ⟨g3, e3l, e3g, r3, to3⟩ := HC.out
  have hq3 : g3.q = q := to3.q.trans Hq.out
  obtain ⟨lb, lc, hRl, hlc, hptr⟩ := r3.ptr h1
  have c0 := r3.c0
  rw [hRl, hq3] at c0
  have hdst : dst < n := HH.out.2.1.2.1
  have p0 := hptr dst hdst
  have bF : Below w3.heap.size w3 w3.drew := (Below.refl _ _).drew
  have f0 := keep bF c0
  have f1 := keep bF p0
  have f2 := keep bF a0
  have f3 := keep bF a1
  have f4 := keep bF a2
  have idn : (dst : Int) < (n : Int) := by omega
  have HR3 := hid (And.intro r3 (And.intro to3 (And.intro hRl hq3)))
  clear r3 to3 hRl hptr c0 p0 HC e3l e3g hq3
  generalize hpd : (g3.gs dst).p = pd at *
  have Hpd : Hid ((g3.gs dst).p = pd) := hpd
  clear hpd
  refine wp_region_held_drew (S := fun v => v.cell? ⟨q, 0, none⟩ = some (.slice (some ⟨lb, 0, none⟩) n lc) ∧ v.cell? ⟨lb, dst, none⟩ = some (.pointer (some ⟨pd, 0, none⟩)) ∧ v.cell? ⟨w.heap.size, 0, none⟩ = some (.int .i64 (fr : Int)) ∧ v.cell? ⟨w.heap.size, 1, none⟩ = some (.int .i64 (dst : Int)) ∧ v.cell? ⟨w.heap.size, 2, none⟩ = some (.slice mx mn mc)) (by kernel_rfl) ⟨f0, f1, f2, f3, f4⟩ (fun hHeld => ?_)
  generalize w3.drew = wF at *
  have hbig : w.heap.size < wF.heap.size := cell_lt' f2
  obtain ⟨x5, n5, c5, w5, hap5, hrc, H5⟩ : ∃ x5 n5 c5 w5, (Builtin.append_ #[35, 35] 35 #[.slice (some ⟨wF.heap.size, 0, none⟩) 0 0, .slice mx mn mc]).run Try.prog (wF.alloc (.cells #[] 5)) = .ok (.slice x5 n5 c5) w5 ∧ (Calls Try.prog 22 #[.pointer (some ⟨pd, 0, none⟩), .int .i64 (fr : Int), .slice x5 n5 c5] w5 fun e w' => ∃ R, e = .returned (.tuple #[R, .int .i64 0]) ∧ Hid (∃ g6 sts6 G6, Grp w' B n g6 sts6 (cutL W i) said G6 (D + 65) (K + 1) ∧ GTo w w' n g g6 sts sts6 ∧ MlsK w' w5.heap.size R n dst 10267 (fun m => Sent n dst m ∧ MsgOk n said G6 dst m) ∧ g6.q = q ∧ g6.Rl = g3.Rl ∧ GTo w5 w' n g3 g6 sts sts6 ∧ (g6.gs dst).p = pd ∧ ChM n G G6)) ∧ Hid (Below wF.heap.size wF w5) := by
    obtain ⟨r3, to3, hRl, hq3⟩ := HR3.out
    obtain ⟨h, ⟨p1, p2, p3, u, ⟨p4, p5⟩, p6⟩, hR, _, _⟩ := HH.out
    have q6 := ((p6.below bA).turns to3.t (h.below bA).u8).below bF
    have hsl : Go.Proofs.Ytfgfjfemaniaiaa.Sl wF mx mn mc (encM u fr) := ⟨q6.sl.len, q6.sl.le, q6.sl.nil, q6.sl.row, q6.sl.lt⟩
    have hmn : mn ≤ 500000 := q6.sm
    have hml : (encM u fr).length = mn := q6.sl.len
    have bG := al wF (.cells #[] 5)
    have e0 : OwnL (wF.alloc (.cells #[] 5)) wF.heap.size (.slice (some ⟨wF.heap.size, 0, none⟩) 0 0) [] := Own.empty (α := Nat) wF (Nat.le_refl _) 5 1 (fun _ => [])
    obtain ⟨R5, w5, hr5, o5, b5⟩ := push_list (wF.alloc (.cells #[] 5)) wF wF.heap.size _ [] e0 (by simp) bG mx mn mc _ (hsl.below bG) (by simp; omega)
    obtain ⟨x5, c5, e5, s5, _⟩ := o5.sl (by simpa using q6.sl.lt)
    subst e5
    have s5' : Fl.Sl w5 x5 ([] ++ encM u fr).length c5 (encM u fr) := ⟨by simp, s5.le, s5.nil, s5.row, s5.lt⟩
    have r5 := (r3.below bF).below b5
    have hA := r5.all dst p2
    have hln : ([] ++ encM u fr).length ≤ 140737488351232 := by simp; omega
    have hrv := recv_any (r5.nd dst p2) hA.ok r5.gi hA.nb h1 hn (by have := hA.gn; omega) hA.rs (by omega) fr p1 (by rw [hA.id]; exact fun e => p3 e.symm) u p4 p5 x5 _ c5 s5' hln
    rw [Hpd.out] at hrv
    refine ⟨x5, _, c5, w5, hr5, hrv.mono ?_, b5⟩
    rintro e w' ⟨R, rfl, H⟩
    obtain ⟨g6, sts6, G6, t1, t2, t3, t4, t5, t6, t7⟩ := r5.act p2 H.out (by omega) (by omega)
    exact ⟨R, rfl, g6, sts6, G6, t1, (((GTo.of_below bA).trans to3).trans ((GTo.of_below bF).trans (GTo.of_below b5))).trans t2, t3, t2.q.trans hq3, t5, t2, (t6 dst).trans Hpd.out, t7⟩
  have v0 := keep (al wF (.cells #[] 5)) f0
  have v1 := keep (al wF (.cells #[] 5)) f1
  have v2 := keep (al wF (.cells #[] 5)) f2
  have v3 := keep (al wF (.cells #[] 5)) f3
  have v4 := keep (al wF (.cells #[] 5)) f4
  have u0 := keep H5.out f0
  have u1 := keep H5.out f1
  have u2 := keep H5.out f2
  have u3 := keep H5.out f3
  have u4 := keep H5.out f4
  refine By.hk 0 ?_
  refine By.hk 1 ?_
  refine By.hk 2 ?_
  refine By.hk 3 ?_
  refine By.hk 4 ?_
  refine By.hk 5 ?_
  refine By.hk 6 ?_
  refine By.hk 7 ?_
  refine By.hk 8 ?_
  refine By.hk 9 ?_
  refine By.hk 11 ?_
  refine By.hk 12 ?_
  refine wpAnyH_ready (rs := [10]) (by kernel_rfl) (by simp) ?_
  refine AllReadyH.cons rfl (fun K hK => ?_) AllReadyH.nil
  go_simp
  refine hK.out _ _ ⟨v0, v1, v2, v3, v4⟩ (fun hHeld => ?_)
  clear hK K
  refine wpAnyH_ready (rs := [13]) (by kernel_rfl) (by simp) ?_
  refine AllReadyH.cons rfl (fun K hK => ?_) AllReadyH.nil
  refine st_append rfl _ _ 35 rfl _ _ rfl rfl hap5 ?_
  (try simp only [Act.put, List.getElem_toArray, List.getElem_cons_succ, List.getElem_cons_zero, List.setIfInBounds_toArray, List.set_cons_zero, List.set_cons_succ])
  refine hK.out _ _ ⟨u0, u1, u2, u3, u4⟩ (fun hHeld => ?_)
  clear hK K
  refine wpAnyH_ready (rs := [14]) (by kernel_rfl) (by simp) ?_
  refine AllReadyH.cons rfl (fun K hK => ?_) AllReadyH.nil
  go_simp
  refine hrc.mono ?_
  rintro e w6 ⟨R6, rfl, H6⟩
  have hS6 : w6.cell? ⟨q, 0, none⟩ = some (.slice (some ⟨lb, 0, none⟩) n lc) ∧ w6.cell? ⟨lb, dst, none⟩ = some (.pointer (some ⟨pd, 0, none⟩)) ∧ w6.cell? ⟨w.heap.size, 0, none⟩ = some (.int .i64 (fr : Int)) ∧ w6.cell? ⟨w.heap.size, 1, none⟩ = some (.int .i64 (dst : Int)) ∧ w6.cell? ⟨w.heap.size, 2, none⟩ = some (.slice mx mn mc) := by
    obtain ⟨g6, sts6, G6, t1, t2, t3, t4, t5, t6, t7, t8⟩ := H6.out
    obtain ⟨r3, to3, hRl, hq3⟩ := HR3.out
    have hnb : ¬ gf n g3 w.heap.size := fun e => by
      rcases to3.f _ e with e' | e'
      · have := (HH.out.1.lowB _ e').2
        omega
      · omega
    obtain ⟨lb', lc', hRl', _, hptr'⟩ := t1.ptr h1
    have e9 := hRl'.symm.trans (t5.trans hRl)
    injection e9 with e9 _ _
    injection e9 with e9
    injection e9 with e9 _ _
    subst e9
    have y0 := t1.c0
    rw [t5, hRl, t4] at y0
    have y1 := hptr' dst hdst
    rw [t7] at y1
    exact ⟨y0, y1, keept t6.t hnb u2, keept t6.t hnb u3, keept t6.t hnb u4⟩
  refine hK.out _ _ hS6 (fun hHeld => ?_)
  clear hK K
  refine By.hk 15 ?_
  refine By.hk 16 ?_
  refine By.hk 17 ?_
  refine By.hk 18 ?_
  refine By.hk 19 ?_
  refine wpAnyH_done (by kernel_rfl) ?_ _
  clear hHeld f0 f1 f2 f3 f4 u0 u1 u2 u3 u4 v0 v1 v2 v3 v4 hap5
  obtain ⟨_, _, y2, y3, _⟩ := hS6
  have hPo : Calls Try.prog 18 #[.pointer (some ⟨q, 0, none⟩), .int .i64 (dst : Int), R6] w6 fun e w' => e = .returned (.bool true) ∧ Hid (∃ g' sts' W' G', Grp w' B n g' sts' W' said G' (D + 65) (K + 1) ∧ GTo w w' n g g' sts sts' ∧ ChM n G G') := by
    obtain ⟨g6, sts6, G6, t1, t2, t3, t4, t5, t6, t7, t8⟩ := H6.out
    have p := post_any t1 h1 hn (by omega) dst hdst R6 _ 10267 t3 (by omega)
    rw [t4] at p
    refine p.mono ?_
    rintro e w' ⟨rfl, H⟩
    obtain ⟨g7, W7, j1, j2, j3⟩ := H.out
    exact ⟨rfl, g7, sts6, W7, G6, j1, t2.trans j2, t8⟩
  go_wp2_with (go_at_call 18; refine hPo.mono ?_; rintro e w7 ⟨rfl, H7⟩; clear hPo)
  go_ret
  exact ⟨rfl, H7.out⟩

end

end Go.Proofs.Ytfgfjfemaniaiaa.Px

/-
  What the statement's acts do with a group: a number below another one; a value that is proposed; a crash.
  Conditions: the group lies in memory ('Grp').
-/
namespace Go.Proofs.Ytfgfjfemaniaiaa.Px
open Go.RowKit Wi By Fl Ba
set_option linter.unusedVariables false
set_option linter.unusedSimpArgs false
set_option maxRecDepth 100000

theorem ati_any (a : Int) (n : Nat) (h1 : 1 ≤ n) (h2 : n ≤ 10000) (a1 : -9223372036854775808 ≤ a) (a2 : a ≤ 9223372036854775807) (w : World) :
    Calls Try.prog 9 #[.int .i64 a, .int .i64 (n : Int)] w fun e w' => ∃ r : Nat, r < n ∧ e = .returned (.int .i64 (r : Int)) ∧ w' = w := by
  have e0 : ((n : Int) == 0) = false := by simp; omega
  obtain ⟨t, ht⟩ : ∃ t, t = a.tmod (n : Int) := ⟨_, rfl⟩
  have l1 : t < (n : Int) := by rw [ht]; exact Int.tmod_lt_of_pos a (by omega)
  have l2 : -(n : Int) < t := by
    rw [ht]
    have h9 := Int.tmod_lt_of_pos (-a) (b := (n : Int)) (by omega)
    rw [Int.neg_tmod] at h9
    omega
  have hw : wrap64 t = t := by unfold wrap64; omega
  have hw2 : wrap64 (a.tmod (n : Int)) = t := by rw [← ht]; exact hw
  have hn1 : ¬ ((n : Int) = -1) := by omega
  by_cases h0 : t < 0
  · have l3 : wrap64 (t + (n : Int)) = t + (n : Int) := by unfold wrap64; omega
    have e5 : IntKind.i64.wrap t = t := wrap_i64 (by omega) (by omega)
    obtain ⟨r, hr⟩ : ∃ r : Nat, (r : Int) = t + (n : Int) := ⟨(t + n).toNat, by omega⟩
    have hrn : r < n := by omega
    have Hr := hid hr
    rw [ht] at h0 l1 l2 hr
    clear ht hw hw2 l3 e5
    go_enter Try.func9, Try.ntmps9
    go_wp2_with fail
    go_ret
    refine ⟨r, hrn, ?_, rfl⟩
    rw [hr]
    rfl
  · obtain ⟨r, hr⟩ : ∃ r : Nat, (r : Int) = t := ⟨t.toNat, by omega⟩
    have hrn : r < n := by omega
    rw [ht] at h0 l1 l2 hr
    clear ht hw hw2
    go_enter Try.func9, Try.ntmps9
    go_wp2_with fail
    go_ret
    refine ⟨r, hrn, ?_, rfl⟩
    rw [hr]
    rfl

section
variable {w w2 w3 : World} {B n : Nat} {g : Gl} {sts : Nat → Nd} {W : List Wy} {said said' : ByteArray → Prop} {G : Gh} {D K : Nat}

theorem NodeOk.more {st : Nd} (h : NodeOk n said G st) (k : ∀ v, said v → said' v) : NodeOk n said' G st :=
  ⟨h.sn, h.sid, fun i d q => ⟨(h.dec i d q).1, (h.dec i d q).2.more k⟩, h.acc, h.may, h.bid, fun d q => (h.wait d q).more k⟩

/- A value is proposed, and said. -/
theorem Grp.propose (h : Grp w B n g sts W said G D K) {i : Nat} (hi : i < n) {st' : Nd} (hg : Goes w w2 B (g.gs i) st' 0) (hA : ∀ g1, gnb g1 ≤ 30000 * K → NodeAll n said' G (D + 1) (K + 1) i g1 st') (hdec : (sts i).dec.length ≤ st'.dec.length) (hs : ∀ v, said v → said' v) {nb' : Nat} {D' : DataW Value} (t3 : Turns (atB g.sm) w2 w3) (sd3 : SaidAt w3 g.sm nb' D' said') (hnb : nb' ≤ K + 1) :
    ∃ g', Grp w3 B n g' (setF sts i st') W said' G (D + 1) (K + 1) ∧ GTo w w3 n g g' sts (setF sts i st') := by
  obtain ⟨g1, u1, u2, u3, u4, u5⟩ := hg
  have hN := h.nd i hi
  have hty := hN.ty
  have hu := fun k (hk : fp (g.gs i) k) => (hN.u8 k hk).2
  have nq : ¬ fp (g.gs i) g.q := fun e => by
    have := hty _ e _ h.obj.tb
    revert this
    decide
  have nl : ∀ j, g.Rl.ownBlock = some j → ¬ fp (g.gs i) j := fun j hj e => by
    have := hty _ e _ (h.lrow.tb hj).2
    revert this
    decide
  have nw : ∀ j, g.Rw.ownBlock = some j → ¬ fp (g.gs i) j := fun j hj e => by
    have := hty _ e _ (h.wrow.tb hj).2
    revert this
    decide
  have hsz := fun m (hm : m < n) j (hj : fp (g.gs m) j) => ((h.nd m hm).u8 j hj).1
  have sd2 := h.sd.turns u3 (h.sap i hi)
  have nm : ∀ k t, Tb w2 k t → ¬ atB g.sm k := fun k t ht e => by
    have e' : k = g.sm := e
    exact ht.not_map (e' ▸ sd2.isM)
  have m8 : ∀ k, atB g.sm k → ¬ Tb w2 k 5 := fun k hk ht => nm k _ ht hk
  have o2 := u3.blk h.obj nq
  have l2 : Own w2 B 40 1 encP g.Rl ((List.range n).map fun j => (setF g.gs i g1 j).p) := by
    have e : ((List.range n).map fun j => (setF g.gs i g1 j).p) = (List.range n).map fun j => (g.gs j).p := List.map_congr_left fun j _ => by
      by_cases e : j = i
      · subst e
        rw [setF_same, u1]
      · rw [setF_other _ _ e]
    rw [e]
    exact h.lrow.turns u3 nl
  have w2r := h.wrow.turns u3 nw
  have sm1 : ¬ fp g1 g.sm := fun e => by
    rcases u5 _ e with a | a
    · exact h.sap i hi a
    · have := h.sd.own.lt
      omega
  have nd2 : ∀ j, j < n → NdAt w2 B (setF g.gs i g1 j) (setF sts i st' j) ∧ ¬ fp (setF g.gs i g1 j) g.sm := fun j hj => by
    by_cases e : j = i
    · subst e
      rw [setF_same, setF_same]
      exact ⟨u2, sm1⟩
    · rw [setF_other _ _ e, setF_other _ _ e]
      exact ⟨(h.nd j hj).turns u3 (fun k hk => h.apart j i hj hi e k hk) hu, h.sap j hj⟩
  refine ⟨{ g with gs := setF g.gs i g1, sn := nb', sD := D' }, ⟨t3.blk o2 (nm _ _ o2.tb), l2.turns t3 (fun k hk => nm k _ (l2.tb hk).2), w2r.turns t3 (fun k hk => nm k _ (w2r.tb hk).2), by have := h.wlen; omega, fun m hm => ?_, sd3, hnb, fun j hj => ?_, fun j hj => ?_, h.gi.more hs, fun a b ha hb hab j hja hjb => ?_, fun j hj => (nd2 j hj).2, h.low⟩, ⟨rfl, (u3.weak (fun j hj => .inr (.inr (.inr (.inr ⟨i, hi, hj⟩))))).trans (t3.weak (fun j hj => .inr (.inr (.inr (.inl hj))))), fun j hj => ?_, fun j hj => ?_⟩⟩
  · obtain ⟨p1, p2, p3, u, ⟨p4, p5⟩, p6⟩ := h.ways m hm
    exact ⟨p1, p2, p3, u, ⟨p4, p5.ext (GExt.refl 0 G) hs⟩, (p6.turns u3 hu).turns t3 m8⟩
  · exact (nd2 j hj).1.turns t3 (fun k hk e => by
      have e' : k = g.sm := e
      subst e'
      exact (nd2 j hj).2 hk) m8
  · show NodeAll n said' G (D + 1) (K + 1) j (setF g.gs i g1 j) (setF sts i st' j)
    by_cases e : j = i
    · subst e
      rw [setF_same, setF_same]
      exact hA g1 (by have := (h.all j hj).gn; omega)
    · rw [setF_other _ _ e, setF_other _ _ e]
      have q := (h.all j hj).more (D' := D + 1) (K' := K + 1) (by omega) (by omega)
      exact ⟨q.ok.more hs, q.nb, q.rs, q.id, q.ser, q.gn⟩
  · have key : ∀ c, c < n → c ≠ i → ∀ j, fp (g.gs c) j → fp g1 j → False := fun c hc hci j hj1 hj2 => by
      rcases u5 j hj2 with e | e
      · exact h.apart c i hc hi hci j hj1 e
      · have := hsz c hc j hj1
        omega
    have ja : fp (setF g.gs i g1 a) j := hja
    have jb : fp (setF g.gs i g1 b) j := hjb
    by_cases e1 : a = i
    · rw [e1, setF_same] at ja
      rw [setF_other _ _ (fun e => hab (e1.trans e.symm))] at jb
      exact key b hb (fun e => hab (e1.trans e.symm)) j jb ja
    · rw [setF_other _ _ e1] at ja
      by_cases e2 : b = i
      · rw [e2, setF_same] at jb
        exact key a ha e1 j ja jb
      · rw [setF_other _ _ e2] at jb
        exact h.apart a b ha hb hab j ja jb
  · rcases hj with a | a | a | a | ⟨m, hm, a⟩
    · exact .inl (.inl a)
    · exact .inl (.inr (.inl a))
    · exact .inl (.inr (.inr (.inl a)))
    · exact .inl (.inr (.inr (.inr (.inl a))))
    · have a : fp (setF g.gs i g1 m) j := a
      by_cases e : m = i
      · rw [e, setF_same] at a
        rcases u5 j a with b | b
        · exact .inl (.inr (.inr (.inr (.inr ⟨i, hi, b⟩))))
        · exact .inr b
      · rw [setF_other _ _ e] at a
        exact .inl (.inr (.inr (.inr (.inr ⟨m, hm, a⟩))))
  · by_cases e : j = i
    · subst e
      rw [setF_same]
      exact hdec
    · rw [setF_other _ _ e]
      exact Nat.le_refl _

/- A crash, as a call. -/
theorem crash_did {g : Ln} {st : Nd} (k : NodeOk n said G st) (q : GI n said G) (nb : NB n st) (r : Rs n D st) (hg : Goes w w2 B g (crashed st) 0) : Did n said G w w2 B g st (.slice none 0 0) 0 D :=
  ⟨crashed st, ⟨G, hg, q, GExt.refl _ _, k.crashed, ⟨nb.acc, fun b hb => by cases hb⟩, MlsK.nil _ _ _ _ _⟩, ⟨by show 0 ≤ 256; omega, r.dl, by show 0 < 1000000; omega, fun e => ⟨by have := (r.one e).1; show st.dec.length + 0 + 2 ≤ D; omega, (r.one e).2⟩⟩, ⟨rfl, rfl, Nat.le_refl _⟩⟩

/- What an act leads to. -/
def Acted (w w' : World) (B n : Nat) (g : Gl) (sts : Nat → Nd) (said : ByteArray → Prop) (G : Gh) (D K : Nat) : Prop :=
  ∃ g' sts' W' said' G', Grp w' B n g' sts' W' said' G' (D + 65) (K + 1) ∧ GTo w w' n g g' sts sts' ∧ (∀ v, said v → said' v) ∧ ChM n G G'

end

end Go.Proofs.Ytfgfjfemaniaiaa.Px

/-
  Shards of one's own: where their lists and bytes lie; slices.Clone; a chunk copied.
  Conditions: the lists are short.
-/
import Derived.Test.YtnfflmndejbepaaShMem
import Derived.Deep.RegionWith
namespace Go.Proofs.Ytnfflmndejbepaa.Sh
set_option linter.unusedSectionVars false
variable [Inhabited DZ]
open Go.RowKit By Fl
set_option linter.unusedVariables false
set_option linter.unusedSimpArgs false
set_option maxRecDepth 100000

theorem results_cell1 {fn : Func} {p : Tmp} {ty : TypeId} (h : fn.results = #[.cell p ty]) (tmps : Array Value) (P : Program) (w : World) :
    (results fn tmps).run P w = ((asAddr (tmps.getD p undef)).run P w).andThen fun a w₁ => (loadVar ty a).run P w₁ := by
  simp only [results, h]
  simp [Sem.run_bind, Result.andThen]

def New (w w' : World) (k : Nat) : Prop := w.heap.size ≤ k ∧ k < w'.heap.size
def Nb (G : Nat → Prop) (w : World) (k : Nat) : Prop := G k ∧ Tb w k 5

structure OwS (w : World) (G : Nat → Prop) (v : SV) : Prop where
  oi : Own w 0 79 4 enI (.slice v.x1 v.n1 v.c1) v.I
  oe : Own w 0 67 7 enE (.slice v.x2 v.n2 v.c2) v.E
  ou : Own w 0 89 6 enU (.slice v.x3 v.n3 v.c3) v.U
  gi : ∀ g, (Value.slice v.x1 v.n1 v.c1).ownBlock = some g → G g
  ge : ∀ g, (Value.slice v.x2 v.n2 v.c2).ownBlock = some g → G g
  gu : ∀ g, (Value.slice v.x3 v.n3 v.c3).ownBlock = some g → G g
  ci : ∀ a ∈ v.I, IAt w (Nb G w) a
  ce : ∀ a ∈ v.E, EAt w G a
  cu : ∀ a ∈ v.U, UAt w (Nb G w) a
  li : v.I.length ≤ 100000000
  le : v.E.length ≤ 100000000
  lu : v.U.length ≤ 100000000

section
variable {w w' : World} {G G' : Nat → Prop}

theorem Tb.keeps {k : Nat} {t : TypeId} (h : Tb w k t) (hk : w'.heap[k]? = w.heap[k]?) : Tb w' k t := h.of_heap hk
theorem Nb.keeps (k : Keeps G w w') {b : Nat} (h : Nb G w b) : Nb G w' b := ⟨h.1, h.2.of_heap (k.block b h.1 h.2.lt)⟩
theorem Keeps.weak (k : Keeps G w w') (h : ∀ b, G' b → G b) : Keeps G' w w' := ⟨k.size, fun b hb hl => k.block b (h b hb) hl⟩

theorem OwS.keeps {v : SV} (h : OwS w G v) (k : Keeps G w w') : OwS w' G v := by
  have kb : Keeps (Nb G w) w w' := k.weak fun b hb => hb.1
  exact ⟨h.oi.same fun g hg => k.block g (h.gi g hg) (World.ownsRow.lt h.oi g hg).2, h.oe.same fun g hg => k.block g (h.ge g hg) (World.ownsRow.lt h.oe g hg).2, h.ou.same fun g hg => k.block g (h.gu g hg) (World.ownsRow.lt h.ou g hg).2,
    h.gi, h.ge, h.gu, fun a ha => ((h.ci a ha).keeps kb).weak fun b hb => Nb.keeps k hb, fun a ha => h.ce a ha, fun a ha => ((h.cu a ha).keeps kb).weak fun b hb => Nb.keeps k hb, h.li, h.le, h.lu⟩

theorem OwS.below {v : SV} (h : OwS w G v) (k : Below w.heap.size w w') : OwS w' G v := h.keeps (.below k)

theorem OwS.weak {v : SV} (h : OwS w G v) (k : ∀ b, G b → G' b) : OwS w G' v :=
  ⟨h.oi, h.oe, h.ou, fun g hg => k g (h.gi g hg), fun g hg => k g (h.ge g hg), fun g hg => k g (h.gu g hg), fun a ha => (h.ci a ha).weak fun b hb => ⟨k b hb.1, hb.2⟩, fun a ha => h.ce a ha, fun a ha => (h.cu a ha).weak fun b hb => ⟨k b hb.1, hb.2⟩, h.li, h.le, h.lu⟩

theorem OwS.toS {v : SV} (h : OwS w G v) : SAt w G v :=
  ⟨own_lis irow h.oi h.li h.gi fun a ha => (h.ci a ha).weak fun b hb => hb.1, own_lis erow h.oe h.le h.ge h.ce, own_lis urow h.ou h.lu h.gu fun a ha => (h.cu a ha).weak fun b hb => hb.1⟩
end

/- More behind a list of one's own; a list's cells. -/
section
variable {α : Type} {w w' : World} {B : Nat} {T e : TypeId} {sz bt : Nat} {enc : α → List Value} {R : Value} {L : List α}

theorem push2 (h : Own w B e sz enc R L) (r : Row T e sz bt enc) (hB : B ≤ w.heap.size) (ad : Addr) (m c : Nat) (K : List α) (hm : K.length = m) (hK : ∀ j u, (flat enc K)[j]? = Option.some u → w.cell? (ad.add j) = Option.some u) (hs : L.length + m ≤ 100000000) :
    ∃ x' c' w', (Builtin.append_ #[T, T] T #[R, .slice (Option.some ad) m c]).run Try.prog w = .ok (.slice x' (L.length + m) c') w' ∧
      Hid (Own w' B e sz enc (.slice x' (L.length + m) c') (L ++ K) ∧ Turns (fun j => R.ownBlock = Option.some j) w w' ∧ (∀ g, (Value.slice x' (L.length + m) c').ownBlock = Option.some g → R.ownBlock = Option.some g ∨ g = w.heap.size)) := by
  obtain ⟨i, z, i1, i2, i3, i4, i5⟩ := r.info
  have hbt := r.bpos
  obtain ⟨R', w4, hap, ho, hgr, hnil, hR'⟩ := run_append_own_at (P := Try.prog) w B T T e i z sz bt r.und i1 i2 i3 i4 i5 r.pos R L.length _ h ad m c (flat enc K) (by rw [flat_len r.len, hm]) hK
    (fun u hu => by obtain ⟨a, _, ha⟩ := flat_mem hu; exact r.one a u ha) (by unfold maxLen; omega) (Nat.le_trans (Nat.mul_le_mul hs hbt) (by omega)) hB
  have ho' : Own w4 B e sz enc R' (L ++ K) := by
    unfold Own
    rw [flat_app, List.length_append, hm]
    exact ho
  obtain ⟨x', c', hRe, _⟩ := ho'.form
  rw [List.length_append, hm] at hRe
  subst hRe
  refine ⟨x', c', w4, hap, ho', (Turns.refl _ w).grown hgr (fun k hk => .inl hk), fun g hg => ?_⟩
  rcases hR' with q | q
  · exact .inl (q ▸ hg)
  · right
    rw [q] at hg
    injection hg with hg
    exact hg.symm

theorem flat_cells (hl : ∀ a, (enc a).length = sz) (hz : 0 < sz) {b o : Nat} (h : ∀ (k : Nat) (a : α), L[k]? = some a → ∀ (j : Nat) (v : Value), (enc a)[j]? = some v → w.cell? ⟨b, o + k * sz + j, none⟩ = some v) :
    ∀ j u, (flat enc L)[j]? = some u → w.cell? ((⟨b, o, none⟩ : Addr).add j) = some u := fun j u hu => by
  have hlt := (List.getElem?_eq_some_iff.1 hu).1
  rw [flat_len hl] at hlt
  have hk : j / sz < L.length := (Nat.div_lt_iff_lt_mul hz).2 hlt
  have hj : j % sz < sz := Nat.mod_lt _ hz
  have e : j = j / sz * sz + j % sz := by rw [Nat.mul_comm]; exact (Nat.div_add_mod j sz).symm
  obtain ⟨a, ha⟩ : ∃ a, L[j / sz]? = some a := ⟨_, List.getElem?_eq_getElem hk⟩
  have h2 := flat_get hl L (j / sz) a ha (j % sz) hj
  rw [← e, hu] at h2
  have := h (j / sz) a ha (j % sz) u h2.symm
  rw [add_at]
  rw [show o + j = o + j / sz * sz + j % sz by omega]
  exact this

/- The copy of a list in new memory. -/
def Cloned (w : World) (e : TypeId) (sz : Nat) (enc : α → List Value) (y : Option Addr) (n cy : Nat) (L : List α) (w' : World) : Prop :=
  Own w' 0 e sz enc (.slice y n cy) L ∧ Below w.heap.size w w' ∧ ∀ g, (Value.slice y n cy).ownBlock = Option.some g → New w w' g

theorem clone_run (r : Row T e sz bt enc) {A : World → (Nat → Prop) → α → Prop} {F : Nat → Prop} {ad : Addr} {n c : Nat} (h : Lis enc sz A w F (some ad) n c L) :
    ∃ y cy w', (Builtin.append_ #[T, T] T #[.slice (some ⟨w.heap.size, 0, none⟩) 0 0, .slice (some ad) n c]).run Try.prog (w.alloc (.cells #[] e)) = .ok (.slice y n cy) w' ∧ Hid (Cloned w e sz enc y n cy L w') := by
  have h0 := Own.empty w (Nat.zero_le w.heap.size) e sz enc
  have hb := al w (.cells #[] e)
  have hcell : ∀ j u, (flat enc L)[j]? = some u → (w.alloc (.cells #[] e)).cell? (ad.add j) = some u := by
    rcases h.row with hn | ⟨b, o, hx, hbl, _, hc⟩
    · intro j u hu
      have := (List.getElem?_eq_some_iff.1 hu).1
      rw [flat_len r.len, h.len, hn, Nat.zero_mul] at this
      omega
    · injection hx with hx
      subst hx
      intro j u hu
      have h1 := flat_cells r.len r.pos hc j u hu
      rw [add_at] at h1 ⊢
      exact keep hb h1
  obtain ⟨x', c', w', hr, H⟩ := push2 h0 r (Nat.zero_le _) ad n c L h.len hcell (by have := h.small; simp; omega)
  have e0 : ([] : List α).length + n = n := by simp
  rw [e0] at hr H
  refine ⟨x', c', w', hr, ?_⟩
  obtain ⟨H1, H2, H3⟩ := H.out
  have hbb : Below w.heap.size w w' := by
    refine hb.trans (H2.below (fun k hk => ?_) (by simp))
    simp [Value.ownBlock] at hk
    omega
  refine hid ⟨by simpa using H1, hbb, fun g hg => ?_⟩
  have hlt := (World.ownsRow.lt H1 g hg).2
  refine ⟨?_, hlt⟩
  rcases H3 g hg with q | q
  · simp [Value.ownBlock] at q; omega
  · rw [q]; simp
end

theorem cloneI_any {w : World} {F : Nat → Prop} {x : Option Addr} {n c : Nat} {L : List IV} (h : Is w F x n c L) :
    Calls Try.prog 64 #[.slice x n c] w fun r w' => ∃ y cy, r = .returned (.slice y n cy) ∧ Hid (Cloned w 79 4 enI y n cy L w') := by
  cases x with
  | none =>
    obtain ⟨rfl, rfl⟩ := h.nil rfl
    have hL : L = [] := List.eq_nil_of_length_eq_zero h.len
    have HF : Hid (Cloned w 79 4 enI none 0 0 L w) := hid ⟨by rw [hL]; exact Own.nil w 0 _ _ _, Below.refl _ _, fun g hg => by simp [Value.ownBlock] at hg⟩
    have he : ∀ w : World, (binOp .eql 22 (.slice none 0 0) (.slice none 0 0)).run Try.prog w = .ok (.bool true) w := fun _ => by kernel_rfl
    clear h hL
    go_enter Try.func64, Try.ntmps64
    go_wp2_with fail
    go_ret
    exact ⟨_, _, rfl, HF⟩
  | some ad =>
    obtain ⟨y, cy, w', hrun, HF⟩ := clone_run irow h
    have he : ∀ w : World, (binOp .eql 22 (.slice (some ad) n c) (.slice none 0 0)).run Try.prog w = .ok (.bool false) w := fun _ => by kernel_rfl
    clear h
    go_enter Try.func64, Try.ntmps64
    go_wp2_with (at_builtin; refine wpList_append_run rfl _ _ 22 rfl _ _ rfl rfl hrun ?_; clear hrun)
    go_ret
    exact ⟨_, _, rfl, HF⟩

theorem cloneE_any {w : World} {F : Nat → Prop} {x : Option Addr} {n c : Nat} {L : List Ent} (h : Es w F x n c L) :
    Calls Try.prog 65 #[.slice x n c] w fun r w' => ∃ y cy, r = .returned (.slice y n cy) ∧ Hid (Cloned w 67 7 enE y n cy L w') := by
  cases x with
  | none =>
    obtain ⟨rfl, rfl⟩ := h.nil rfl
    have hL : L = [] := List.eq_nil_of_length_eq_zero h.len
    have HF : Hid (Cloned w 67 7 enE none 0 0 L w) := hid ⟨by rw [hL]; exact Own.nil w 0 _ _ _, Below.refl _ _, fun g hg => by simp [Value.ownBlock] at hg⟩
    have he : ∀ w : World, (binOp .eql 23 (.slice none 0 0) (.slice none 0 0)).run Try.prog w = .ok (.bool true) w := fun _ => by kernel_rfl
    clear h hL
    go_enter Try.func65, Try.ntmps65
    go_wp2_with fail
    go_ret
    exact ⟨_, _, rfl, HF⟩
  | some ad =>
    obtain ⟨y, cy, w', hrun, HF⟩ := clone_run erow h
    have he : ∀ w : World, (binOp .eql 23 (.slice (some ad) n c) (.slice none 0 0)).run Try.prog w = .ok (.bool false) w := fun _ => by kernel_rfl
    clear h
    go_enter Try.func65, Try.ntmps65
    go_wp2_with (at_builtin; refine wpList_append_run rfl _ _ 23 rfl _ _ rfl rfl hrun ?_; clear hrun)
    go_ret
    exact ⟨_, _, rfl, HF⟩

theorem cloneU_any {w : World} {F : Nat → Prop} {x : Option Addr} {n c : Nat} {L : List UV} (h : Us w F x n c L) :
    Calls Try.prog 66 #[.slice x n c] w fun r w' => ∃ y cy, r = .returned (.slice y n cy) ∧ Hid (Cloned w 89 6 enU y n cy L w') := by
  cases x with
  | none =>
    obtain ⟨rfl, rfl⟩ := h.nil rfl
    have hL : L = [] := List.eq_nil_of_length_eq_zero h.len
    have HF : Hid (Cloned w 89 6 enU none 0 0 L w) := hid ⟨by rw [hL]; exact Own.nil w 0 _ _ _, Below.refl _ _, fun g hg => by simp [Value.ownBlock] at hg⟩
    have he : ∀ w : World, (binOp .eql 24 (.slice none 0 0) (.slice none 0 0)).run Try.prog w = .ok (.bool true) w := fun _ => by kernel_rfl
    clear h hL
    go_enter Try.func66, Try.ntmps66
    go_wp2_with fail
    go_ret
    exact ⟨_, _, rfl, HF⟩
  | some ad =>
    obtain ⟨y, cy, w', hrun, HF⟩ := clone_run urow h
    have he : ∀ w : World, (binOp .eql 24 (.slice (some ad) n c) (.slice none 0 0)).run Try.prog w = .ok (.bool false) w := fun _ => by kernel_rfl
    clear h
    go_enter Try.func66, Try.ntmps66
    go_wp2_with (at_builtin; refine wpList_append_run rfl _ _ 24 rfl _ _ rfl rfl hrun ?_; clear hrun)
    go_ret
    exact ⟨_, _, rfl, HF⟩

theorem cloneS_any {w : World} {F : Nat → Prop} {x : Option Addr} {n c : Nat} {L : List SV} (h : Ss w F x n c L) :
    Calls Try.prog 81 #[.slice x n c] w fun r w' => ∃ y cy, r = .returned (.slice y n cy) ∧ Hid (Cloned w 26 5 enS y n cy L w') := by
  cases x with
  | none =>
    obtain ⟨rfl, rfl⟩ := h.nil rfl
    have hL : L = [] := List.eq_nil_of_length_eq_zero h.len
    have HF : Hid (Cloned w 26 5 enS none 0 0 L w) := hid ⟨by rw [hL]; exact Own.nil w 0 _ _ _, Below.refl _ _, fun g hg => by simp [Value.ownBlock] at hg⟩
    have he : ∀ w : World, (binOp .eql 27 (.slice none 0 0) (.slice none 0 0)).run Try.prog w = .ok (.bool true) w := fun _ => by kernel_rfl
    clear h hL
    go_enter Try.func81, Try.ntmps81
    go_wp2_with fail
    go_ret
    exact ⟨_, _, rfl, HF⟩
  | some ad =>
    obtain ⟨y, cy, w', hrun, HF⟩ := clone_run srow h
    have he : ∀ w : World, (binOp .eql 27 (.slice (some ad) n c) (.slice none 0 0)).run Try.prog w = .ok (.bool false) w := fun _ => by kernel_rfl
    clear h
    go_enter Try.func81, Try.ntmps81
    go_wp2_with (at_builtin; refine wpList_append_run rfl _ _ 27 rfl _ _ rfl rfl hrun ?_; clear hrun)
    go_ret
    exact ⟨_, _, rfl, HF⟩

/- Bytes in new memory. -/
theorem cloneB_any {w : World} {F : Nat → Prop} {x : Option Addr} {n c : Nat} {l : List Nat} (h : SlF w F x n c l) :
    Calls Try.prog 69 #[.slice x n c] w fun e w' => ∃ y cy, e = .returned (.slice y n cy) ∧ Hid (SlF w' (Nb (New w w') w') y n cy l ∧ Below w.heap.size w w') := by
  cases x with
  | none =>
    obtain ⟨rfl, rfl⟩ := h.s.nil' rfl
    have hl : l = [] := List.eq_nil_of_length_eq_zero h.s.len
    exact (clone_nil w).mono fun e w' ⟨h1, h2⟩ => ⟨none, 0, h1, hid ⟨by rw [hl]; exact SlF.nil _ _, by rw [h2]; exact Below.refl _ _⟩⟩
  | some ad =>
    obtain ⟨g, cy, w', hrun, h1, h0, h2, h3, h4, h5⟩ := bytes_copy w (some ad) n c (gl l) h.s.row (fun h => by cases h) (by have := h.sm; omega)
    have hcy : n ≤ cy ∧ Tb w' g 5 := by
      rcases h0.2 with ⟨h0, _⟩ | ⟨g', c', cur, e, h6, h7, h8, _⟩
      · cases h0
      · injection e with e1 e2 e3
        injection e1 with e1
        injection e1 with e1 _ _
        subst e1 e3
        exact ⟨h8, _, _, h7⟩
    have HF : Hid (SlF w' (Nb (New w w') w') (some ⟨g, 0, none⟩) n cy l ∧ Below w.heap.size w w') :=
      hid ⟨⟨⟨h.s.len, hcy.1, (fun h => by cases h), h5, h.s.lt⟩, h.sm, fun _ a ha => by injection ha with ha; subst ha; exact ⟨⟨h2, h3⟩, hcy.2⟩⟩, h1⟩
    have he : ∀ w : World, (binOp .eql 33 (.slice (some ad) n c) (.slice none 0 0)).run Try.prog w = .ok (.bool false) w := fun _ => by kernel_rfl
    clear h h0 h1 h2 h3 h4 h5 hcy
    go_enter Try.func69, Try.ntmps69
    go_wp2_with (at_builtin; refine wpList_append_run rfl _ _ 33 rfl _ _ rfl rfl hrun ?_; clear hrun)
    go_ret
    exact ⟨_, _, rfl, HF⟩

theorem Turns.two {w w' : World} {p q : Nat} (h : Turns (fun k => k = p ∨ k = q) w w') {g o : Nat} (hg : g = p ∨ g = q) (v : Value) : Turns (fun k => k = p ∨ k = q) w (w'.setCell ⟨g, o, none⟩ v) := h.setCell (p := ⟨g, o, none⟩) (.inl hg) v

theorem chunk_done {w w1 w2 W : World} {y : Option Addr} {n cy : Nat} {l : List Nat} {p : Nat} (hw : Below w.heap.size w w1) (hp : w.heap.size ≤ p) (hp2 : p + 2 ≤ w1.heap.size) (H : SlF w2 (Nb (New w1 w2) w2) y n cy l ∧ Below w1.heap.size w1 w2) (ht : Turns (fun k => k = p ∨ k = p + 1) w2 W) :
    SlF W (Nb (New w W) W) y n cy l ∧ Below w.heap.size w W := by
  have hb := H.2.size
  have h1 := hw.size
  refine ⟨(H.1.keeps (Keeps.turns ht fun k hk e => ?_)).weak fun k hk => ?_, (on hw H.2).trans (ht.below (fun k hk => by rcases hk with hk | hk <;> omega) (by omega))⟩
  · have := hk.1.1
    rcases e with e | e <;> omega
  · have h2 := hk.1.1
    have h3 := hk.1.2
    exact ⟨⟨by omega, by have := ht.size; omega⟩, hk.2.of_heap (ht.block k h3 (fun e => by rcases e with e | e <;> omega))⟩

/- A chunk in new memory. -/
theorem copiedChunk_any {w : World} {F : Nat → Prop} {v : CV} (h : CAt w F v) :
    Calls Try.prog 41 #[vC v] w fun e w' => ∃ y cy, e = .returned (vC ⟨v.sz, y, v.n, cy, v.dat, v.sum⟩) ∧ Hid (CAt w' (Nb (New w w') w') ⟨v.sz, y, v.n, cy, v.dat, v.sum⟩ ∧ Below w.heap.size w w') := by
  obtain ⟨sz, x, n, c, dat, sum⟩ := v
  obtain ⟨w1, hw1⟩ : ∃ w1, w1 = (w.alloc (.cells #[.int .i64 sz, .slice x n c, .int .u32 sum] 36)).alloc (.cells #[.int .i64 0, .slice none 0 0, .int .u32 0] 36) := ⟨_, rfl⟩
  have bb : Below w.heap.size w w1 := by rw [hw1]; exact on (al _ _) (al _ _)
  have hC := cloneB_any (CAt.below h bb)
  have g0 : w1.heap[w.heap.size]? = some (.cells #[.int .i64 sz, .slice x n c, .int .u32 sum] 36 (0, 0)) := by
    rw [hw1]
    exact ((al (w.alloc (.cells #[.int .i64 sz, .slice x n c, .int .u32 sum] 36)) _).block w.heap.size (by simp)).trans (heap_alloc_new w _)
  have g1 : w1.heap[w.heap.size + 1]? = some (.cells #[.int .i64 0, .slice none 0 0, .int .u32 0] 36 (0, 0)) := by
    rw [hw1]
    have := heap_alloc_new (w.alloc (.cells #[.int .i64 sz, .slice x n c, .int .u32 sum] 36)) (.cells #[.int .i64 0, .slice none 0 0, .int .u32 0] 36)
    simpa using this
  have hsz : w1.heap.size = w.heap.size + 2 := by rw [hw1]; simp
  dsimp only at hC
  have HB := hid bb
  have HG := hid (And.intro g0 (And.intro g1 hsz))
  have HW := hid hw1
  unfold vC
  dsimp only
  rw [hw1] at hC
  clear h bb g0 g1 hsz hw1
  go_enter Try.func41, Try.ntmps41
  go_wp2_with (go_at_call 69; refine hC.mono ?_; rintro e w2 ⟨y, cy, rfl, H2⟩; rw [← HW.out] at H2; have q0 := (H2.out.2.block w.heap.size (by have := HG.out.2.2; omega)).trans HG.out.1; have q1 := (H2.out.2.block (w.heap.size + 1) (by have := HG.out.2.2; omega)).trans HG.out.2.1; have HQ := hid (And.intro q0 q1); have k0 := cell_heap q0 (j := 0) rfl; have k1 := cell_heap q0 (j := 1) rfl; have k2 := cell_heap q0 (j := 2) rfl; have l0 := cell_heap q1 (j := 0) rfl; have l1 := cell_heap q1 (j := 1) rfl; have l2 := cell_heap q1 (j := 2) rfl; have f0 := fr_heap q0 0; have f1 := fr_heap q0 1; have f2 := fr_heap q0 2; have m0 := fr_heap q1 0; have m1 := fr_heap q1 1; have m2 := fr_heap q1 2; clear hC q0 q1)
  refine bodyPost_ret (v := .agg #[.int .i64 sz, .slice y n cy, .int .u32 sum]) ?_ rfl ?_
  · rw [results_cell1 rfl]
    go_simp
  · refine ⟨y, cy, rfl, hid (chunk_done HB.out (Nat.le_refl _) (by rw [HG.out.2.2]; exact Nat.le_refl _) H2.out ?_)⟩
    repeat (first | exact Turns.refl _ _ | refine Turns.two ?_ (by first | exact .inl rfl | exact .inr rfl) _)

end Go.Proofs.Ytnfflmndejbepaa.Sh

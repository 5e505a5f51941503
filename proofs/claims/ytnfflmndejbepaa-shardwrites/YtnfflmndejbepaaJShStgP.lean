/-
  2 texts of this proof, one behind the other: ShStgP, ShStg.
-/
import Derived.Test.YtnfflmndejbepaaJShWrP
import Derived.Test.YtnfflmndejbepaaJShSeat
/-
  Stage, plainly; what is left of a holder one of whose shards that stand by is another one, or that has one more.
  Conditions: none.
-/
namespace Go.Proofs.Ytnfflmndejbepaa.Sh
set_option linter.unusedSectionVars false
variable [Inhabited DZ]
open Go.RowKit By Fl
set_option linter.unusedVariables false
set_option linter.unusedSimpArgs false
set_option maxRecDepth 100000

def stageP (H : Hld) (s : Shd) : Hld × Int :=
  if bz (okH H) then (if bz (s.si ≠ 0 ∧ okS s) then (if s.si < H.fe ∨ s.si ≤ H.now.si then (H, 7) else if (H.nx.filter fun x => decide (x.si < s.si)).length < 64 then (⟨s.si, H.now, stageL s H.nx⟩, 0) else (H, 2)) else (H, 1)) else (zH, 1)

theorem nexts_nil {last fe : Int} {L : List Shd} (h : Nexts last L fe) (hf : fe ≤ last) : L = [] := by
  cases L with
  | nil => rfl
  | cons y L => have := h.1; have := h.2.1; omega

theorem stage_put {t x : Shd} : ∀ {L : List Shd} {last fe : Int} {k : Nat}, Nexts last L fe → fe ≤ t.si → L[k]? = some x → x.si = t.si → L.set k t = stageL t L ∧ (L.filter fun x => decide (x.si < t.si)).length + 1 = L.length
  | [], _, _, k, _, _, h, _ => by simp at h
  | y :: L, last, fe, 0, hn, hf, h, hx => by
    simp at h
    subst h
    have e : L = [] := nexts_nil hn.2.2.2 (by omega)
    subst e
    have e2 : ([y] : List Shd).filter (fun x => decide (x.si < t.si)) = [] := by
      rw [List.filter_cons_of_neg (by simp; omega)]; rfl
    unfold stageL
    rw [e2]
    exact ⟨rfl, rfl⟩
  | y :: L, last, fe, k + 1, hn, hf, h, hx => by
    have h' : L[k]? = some x := by simpa using h
    obtain ⟨i1, i2⟩ := stage_put hn.2.2.2 hf h' hx
    have hy : y.si < t.si := by
      have := (nexts_mem hn.2.2.2 x (List.mem_of_getElem? h')).2.2
      omega
    have e2 : (y :: L).filter (fun x => decide (x.si < t.si)) = y :: L.filter (fun x => decide (x.si < t.si)) := List.filter_cons_of_pos (by simpa using hy)
    unfold stageL at i1 ⊢
    rw [e2, List.set_cons_succ, i1]
    exact ⟨rfl, by rw [List.length_cons, List.length_cons, i2]⟩

theorem stage_new {t : Shd} {L : List Shd} {last fe : Int} (hn : Nexts last L fe) (hf : fe ≤ t.si) (h : ∀ x ∈ L, x.si ≠ t.si) : stageL t L = L ++ [t] ∧ (L.filter fun x => decide (x.si < t.si)) = L := by
  have e : (L.filter fun x => decide (x.si < t.si)) = L := List.filter_eq_self.2 fun x hx => by
    have := (nexts_mem hn x hx).2.1
    have := h x hx
    simp
    omega
  unfold stageL
  rw [e]
  exact ⟨rfl, rfl⟩

section
variable {w wr wx wA wz w4 w' W : World} {G0 Gl : Nat → Prop} {GN : Nat → Nat → Prop} {v : HV} {s' : SV}

/- One of those that stand by is another one. -/
theorem OwH.put {g k : Nat} {a : SV} (h : OwH wr G0 Gl GN v) (hx : v.x = some ⟨g, 0, none⟩) (ha : v.N[k]? = some a) (hq : ∀ q, AllG G0 Gl GN q → q < wr.heap.size) (hb : Below wr.heap.size wr wx) (hb2 : Below wx.heap.size wx wz) (hs : OwS wz (New wx wz) s') :
    OwH (put5 wz g (k * 5) s') G0 Gl (upG GN k (New wx wz)) ⟨v.fe, v.now, v.x, v.n, v.c, v.N.set k s'⟩ ∧ (∀ q, AllG G0 Gl (upG GN k (New wx wz)) q → AllG G0 Gl GN q ∨ New wx wz q) ∧ Turns (fun q => q = g) wz (put5 wz g (k * 5) s') := by
  have b := on hb hb2
  have z := h.below b
  have t := turns_put5 wz g (k * 5) s'
  have s1 := hb.size
  have hg : Gl g := h.gl g (by rw [hx]; rfl)
  have hgq := hq g (.inr (.inl hg))
  refine ⟨⟨z.now.keeps (.turns t fun q hq e => h.d0 q hq (e ▸ hg)), ?_, h.gl, fun i s hi => ?_, h.d0, fun i q hi => ?_, fun i j q hij hi hj => ?_, by show (v.N.set k s').length ≤ _; rw [List.length_set]; exact h.ln⟩, fun q hq => ?_, t⟩
  · have o := z.own
    rw [hx] at o ⊢
    exact Own.setS o k s'
  · by_cases e : i = k
    · subst e
      have hil : i < v.N.length := (List.getElem?_eq_some_iff.1 ha).1
      have hi' : (v.N.set i s')[i]? = some s := hi
      rw [List.getElem?_set, if_pos rfl, if_pos hil] at hi'
      injection hi' with hi'
      subst hi'
      rw [upG_same]
      exact hs.keeps (.turns t fun q hq e => by have := hq.1; omega)
    · have hi' : (v.N.set k s')[i]? = some s := hi
      rw [List.getElem?_set, if_neg (Ne.symm e)] at hi'
      rw [upG_ne _ _ e]
      exact (z.nx i s hi').keeps (.turns t fun q hq e => (h.d1 i q hq).2 (e ▸ hg))
  · rcases upG_or hi with ⟨_, hi⟩ | ⟨_, hi⟩
    · exact ⟨fun e => by have := hq q (.inl e); have := hi.1; omega, fun e => by have := hq q (.inr (.inl e)); have := hi.1; omega⟩
    · exact h.d1 i q hi
  · rcases upG_or hi with ⟨_, hi⟩ | ⟨_, hi⟩ <;> rcases upG_or hj with ⟨_, hj⟩ | ⟨_, hj⟩
    · omega
    · have := hq q (.inr (.inr ⟨j, hj⟩)); have := hi.1; omega
    · have := hq q (.inr (.inr ⟨i, hi⟩)); have := hj.1; omega
    · exact h.d2 i j q hij hi hj
  · rcases hq with e | e | ⟨i, e⟩
    · exact .inl (.inl e)
    · exact .inl (.inr (.inl e))
    · rcases upG_or e with ⟨_, e⟩ | ⟨_, e⟩
      · exact .inr e
      · exact .inl (.inr (.inr ⟨i, e⟩))

/- One more stands by. -/
theorem OwH.app {y : Option Addr} {c' : Nat} (h : OwH wr G0 Gl GN v) (hq : ∀ q, AllG G0 Gl GN q → q < wr.heap.size) (hb : Below wr.heap.size wr wx) (hb2 : Below wx.heap.size wx wz) (hs : OwS wz (New wx wz) s') (hb3 : Below wz.heap.size wz wA) (hl : v.N.length < 100000000)
    (H : Own w4 0 26 5 enS (.slice y (v.N.length + 1) c') (v.N ++ [s']) ∧ Turns (fun j => (Value.slice v.x v.n v.c).ownBlock = some j) wA w4 ∧ (∀ g, (Value.slice y (v.N.length + 1) c').ownBlock = some g → (Value.slice v.x v.n v.c).ownBlock = some g ∨ g = wA.heap.size)) :
    OwH w4 G0 (fun q => Gl q ∨ New wz w4 q) (upG GN v.N.length (New wx wz)) ⟨v.fe, v.now, y, v.N.length + 1, c', v.N ++ [s']⟩ ∧ (∀ q, AllG G0 (fun q => Gl q ∨ New wz w4 q) (upG GN v.N.length (New wx wz)) q → AllG G0 Gl GN q ∨ New wx w4 q) := by
  have b := on (on hb hb2) hb3
  have z := h.below b
  have t := H.2.1
  have s1 := hb.size
  have s2 := hb2.size
  have s3 := hb3.size
  have s4 := t.size
  have nl : ∀ q, (Value.slice v.x v.n v.c).ownBlock = some q → Gl q := h.gl
  refine ⟨⟨z.now.keeps (.turns t fun q hq e => h.d0 q hq (nl q e)), H.1, fun g hg => ?_, fun i s hi => ?_, fun q hi hn => ?_, fun i q hi => ?_, fun i j q hij hi hj => ?_, by show (v.N ++ [s']).length ≤ _; rw [List.length_append]; exact hl⟩, fun q hq => ?_⟩
  · rcases H.2.2 g hg with e | e
    · exact .inl (nl g e)
    · exact .inr ⟨by omega, (World.ownsRow.lt H.1 g hg).2⟩
  · have hi' : (v.N ++ [s'])[i]? = some s := hi
    by_cases e : i < v.N.length
    · rw [List.getElem?_append_left e] at hi'
      rw [upG_ne _ _ (by omega)]
      exact (z.nx i s hi').keeps (.turns t fun q hq e => (h.d1 i q hq).2 (nl q e))
    · rw [List.getElem?_append_right (by omega)] at hi'
      have e2 : i = v.N.length := by
        by_cases e3 : i - v.N.length = 0
        · omega
        · obtain ⟨d, hd⟩ : ∃ d, i - v.N.length = d + 1 := ⟨i - v.N.length - 1, by omega⟩
          rw [hd] at hi'
          simp at hi'
      subst e2
      simp at hi'
      subst hi'
      rw [upG_same]
      exact (hs.below hb3).keeps (.turns t fun q hq' e => by have := hq q (.inr (.inl (nl q e))); have := hq'.1; omega)
  · rcases hn with hn | hn
    · exact h.d0 q hi hn
    · have := hq q (.inl hi); have := hn.1; omega
  · rcases upG_or hi with ⟨_, hi⟩ | ⟨_, hi⟩
    · refine ⟨fun e => by have := hq q (.inl e); have := hi.1; omega, fun e => ?_⟩
      rcases e with e | e
      · have := hq q (.inr (.inl e)); have := hi.1; omega
      · have := hi.2; have := e.1; omega
    · refine ⟨(h.d1 i q hi).1, fun e => ?_⟩
      rcases e with e | e
      · exact (h.d1 i q hi).2 e
      · have := hq q (.inr (.inr ⟨i, hi⟩)); have := e.1; omega
  · rcases upG_or hi with ⟨_, hi⟩ | ⟨_, hi⟩ <;> rcases upG_or hj with ⟨_, hj⟩ | ⟨_, hj⟩
    · omega
    · have := hq q (.inr (.inr ⟨j, hj⟩)); have := hi.1; omega
    · have := hq q (.inr (.inr ⟨i, hi⟩)); have := hj.1; omega
    · exact h.d2 i j q hij hi hj
  · rcases hq with e | (e | e) | ⟨i, e⟩
    · exact .inl (.inl e)
    · exact .inl (.inr (.inl e))
    · exact .inr ⟨by have := e.1; omega, e.2⟩
    · rcases upG_or e with ⟨_, e⟩ | ⟨_, e⟩
      · exact .inr ⟨e.1, by have := e.2; omega⟩
      · exact .inl (.inr (.inr ⟨i, e⟩))

theorem own_fin {wc : World} {r : Nat} {H : Hld} {z : Int} (hb : Below w.heap.size w wc) (hr : w.heap.size ≤ r) (h : OwH wc G0 Gl GN v) (hp : pH v = H) (hq : ∀ q, AllG G0 Gl GN q → r < q ∧ q < wc.heap.size) (t : Turns (fun k => k = r) wc W) : Tells w H z (.returned (.tuple #[vH v, .int .i64 z])) W := by
  have s1 := hb.size
  have s2 := t.size
  refine ⟨v, rfl, hid ⟨G0, Gl, GN, h.keeps (.turns t fun q hg e => by have := (hq q hg).1; omega), hp, hb.trans (t.below (fun q e => by omega) (by omega)), fun q hg => ?_⟩⟩
  have := hq q hg
  exact ⟨by omega, by omega⟩
end

end Go.Proofs.Ytnfflmndejbepaa.Sh

/-
  Stage.
  Conditions: the holder and the shard lie in memory.
-/
namespace Go.Proofs.Ytnfflmndejbepaa.Sh
set_option linter.unusedSectionVars false
variable [Inhabited DZ]
open Go.RowKit By Fl
set_option linter.unusedVariables false
set_option linter.unusedSimpArgs false
set_option maxRecDepth 100000

theorem three_boxes (w : World) (A B C : Array Value) (t1 t2 t3 : TypeId) : ∃ w1, w1 = ((w.alloc (.cells A t1)).alloc (.cells B t2)).alloc (.cells C t3) ∧ Below w.heap.size w w1 ∧ w1.heap.size = w.heap.size + 3 ∧
    w1.heap[w.heap.size]? = some (.cells A t1 (0, 0)) ∧ w1.heap[w.heap.size + 1]? = some (.cells B t2 (0, 0)) ∧ w1.heap[w.heap.size + 2]? = some (.cells C t3 (0, 0)) := by
  obtain ⟨b1, s1, h0, h1⟩ := two_boxes2 w A B t1 t2
  have b2 := al ((w.alloc (.cells A t1)).alloc (.cells B t2)) (.cells C t3)
  have h2 := heap_alloc_new ((w.alloc (.cells A t1)).alloc (.cells B t2)) (.cells C t3)
  refine ⟨_, rfl, on b1 b2, by simp, (b2.block _ (by omega)).trans h0, (b2.block _ (by omega)).trans h1, ?_⟩
  rw [s1] at h2
  exact h2

set_option maxHeartbeats 12800000 in
theorem stage_any {w : World} {F G : Nat → Prop} {v : HV} {s : SV} (h : HAt w F v) (hs : SAt w G s) :
    Calls Try.prog 30 #[vH v, vS s] w fun r w' => Tells w (stageP (pH v) (pS s)).1 (stageP (pH v) (pS s)).2 r w' := by
  obtain ⟨w1, hw1, bb, hsz, g0, g1, g2⟩ := three_boxes w #[.int .i64 v.fe, .int .i64 v.now.pl, .int .i64 v.now.si, .slice v.now.x1 v.now.n1 v.now.c1, .slice v.now.x2 v.now.n2 v.now.c2, .slice v.now.x3 v.now.n3 v.now.c3, .slice v.x v.n v.c] #[.int .i64 s.pl, .int .i64 s.si, .slice s.x1 s.n1 s.c1, .slice s.x2 s.n2 s.c2, .slice s.x3 s.n3 s.c3] #[.int .i64 0, .int .i64 0, .int .i64 0, .slice none 0 0, .slice none 0 0, .slice none 0 0, .slice none 0 0] 29 26 29
  have hC1 := check_any (h.below bb)
  have HCp := hid (fun W (hW : Below w1.heap.size w1 W) => copied_any (h.below (on bb hW)))
  have HCs := hid (fun W (hW : Below w.heap.size w W) => checkShard_any (hs.below hW))
  have HCd := hid (fun W (hW : Below w.heap.size w W) => copiedShard_any (hs.below hW))
  obtain ⟨tK, htK⟩ : ∃ t, t = bz (okH (pH v)) := ⟨_, rfl⟩
  obtain ⟨tS, htS⟩ : ∃ t, t = bz (okS (pS s)) := ⟨_, rfl⟩
  have HW1 : Hid (tK = false → stageP (pH v) (pS s) = (zH, 1)) := hid fun k => by unfold stageP; rw [← htK, k]; rfl
  have HW2 : Hid (tK = true → (s.si = 0 ∨ tS = false) → stageP (pH v) (pS s) = (pH v, 1)) := hid fun k q => by
    unfold stageP
    rw [← htK, k, bz_false (p := (pS s).si ≠ 0 ∧ okS (pS s)) (fun hh => by
      rcases q with q | q
      · exact hh.1 q
      · rw [htS] at q; exact bz_not q hh.2)]
    rfl
  have HW3 : Hid (tK = true → s.si ≠ 0 → tS = true → (s.si < v.fe ∨ s.si ≤ v.now.si) → stageP (pH v) (pS s) = (pH v, 7)) := hid fun k q1 q2 q3 => by
    unfold stageP
    rw [← htK, k, bz_true (p := (pS s).si ≠ 0 ∧ okS (pS s)) ⟨q1, bz_of (by rw [← htS]; exact q2)⟩]
    simp only [if_true]
    rw [if_pos (show (pS s).si < (pH v).fe ∨ (pS s).si ≤ (pH v).now.si from q3)]
  have HW4 : Hid (tK = true → s.si ≠ 0 → tS = true → ¬ (s.si < v.fe ∨ s.si ≤ v.now.si) → (∀ (k : Nat) (x : Shd), (v.N.map pS)[k]? = some x → x.si = s.si → stageP (pH v) (pS s) = (⟨s.si, pS v.now, (v.N.map pS).set k (pS s)⟩, 0)) ∧
      ((∀ x ∈ v.N.map pS, x.si ≠ s.si) → (v.N.length = 64 → stageP (pH v) (pS s) = (pH v, 2)) ∧ (v.N.length ≠ 64 → stageP (pH v) (pS s) = (⟨s.si, pS v.now, v.N.map pS ++ [pS s]⟩, 0)))) := hid fun k q1 q2 q3 => by
    have hok : okH (pH v) := bz_of (by rw [← htK]; exact k)
    have hnx : Nexts (pH v).now.si (v.N.map pS) (pH v).fe := hok.2.2.2.2
    have h64 : (v.N.map pS).length ≤ 64 := hok.2.2.2.1
    have hf : (pH v).fe ≤ (pS s).si := by have : ¬ (pS s).si < (pH v).fe := fun e => q3 (.inl e); omega
    unfold stageP
    rw [← htK, k, bz_true (p := (pS s).si ≠ 0 ∧ okS (pS s)) ⟨q1, bz_of (by rw [← htS]; exact q2)⟩]
    simp only [if_true]
    rw [if_neg (show ¬ ((pS s).si < (pH v).fe ∨ (pS s).si ≤ (pH v).now.si) from q3)]
    refine ⟨fun i x hi hx => ?_, fun hn => ?_⟩
    · obtain ⟨e1, e2⟩ := stage_put (t := pS s) hnx hf hi hx
      rw [if_pos (show ((pH v).nx.filter fun x => decide (x.si < (pS s).si)).length < 64 by show ((v.N.map pS).filter fun x => decide (x.si < (pS s).si)).length < 64; omega)]
      show ((⟨(pS s).si, pS v.now, stageL (pS s) (v.N.map pS)⟩ : Hld), (0 : Int)) = _
      rw [← e1]
      rfl
    · obtain ⟨e1, e2⟩ := stage_new (t := pS s) hnx hf hn
      have e3 : ((pH v).nx.filter fun x => decide (x.si < (pS s).si)) = v.N.map pS := e2
      rw [e3, List.length_map]
      refine ⟨fun e => by rw [if_neg (by omega)], fun e => ?_⟩
      rw [List.length_map] at h64
      rw [if_pos (by omega)]
      show ((⟨(pS s).si, pS v.now, stageL (pS s) (v.N.map pS)⟩ : Hld), (0 : Int)) = _
      rw [e1]
      rfl
  rw [← htK] at hC1
  rw [← htS] at HCs
  have HOkN : Hid (tK = true → v.N.length ≤ 64) := hid fun k => by
    have hok : okH (pH v) := bz_of (by rw [← htK]; exact k)
    have h64 : (v.N.map pS).length ≤ 64 := hok.2.2.2.1
    rw [List.length_map] at h64
    exact h64
  generalize stageP (pH v) (pS s) = PP at *
  have HB := hid bb
  have HSz := hid hsz
  have HG0 := hid g0
  have HKs : Hid (∀ W, Below w1.heap.size w1 W → W.cell? ⟨w.heap.size + 1, 0, none⟩ = some (.int .i64 s.pl) ∧ W.cell? ⟨w.heap.size + 1, 1, none⟩ = some (.int .i64 s.si) ∧ W.cell? ⟨w.heap.size + 1, 2, none⟩ = some (.slice s.x1 s.n1 s.c1) ∧ W.cell? ⟨w.heap.size + 1, 3, none⟩ = some (.slice s.x2 s.n2 s.c2) ∧ W.cell? ⟨w.heap.size + 1, 4, none⟩ = some (.slice s.x3 s.n3 s.c3)) := hid fun W hW => ⟨keep hW (cell_heap g1 rfl), keep hW (cell_heap g1 rfl), keep hW (cell_heap g1 rfl), keep hW (cell_heap g1 rfl), keep hW (cell_heap g1 rfl)⟩
  have HKa : Hid (∀ W, Below w1.heap.size w1 W → W.cell? ⟨w.heap.size, 0, none⟩ = some (.int .i64 v.fe) ∧ W.cell? ⟨w.heap.size, 1, none⟩ = some (.int .i64 v.now.pl) ∧ W.cell? ⟨w.heap.size, 2, none⟩ = some (.int .i64 v.now.si) ∧ W.cell? ⟨w.heap.size, 3, none⟩ = some (.slice v.now.x1 v.now.n1 v.now.c1) ∧ W.cell? ⟨w.heap.size, 4, none⟩ = some (.slice v.now.x2 v.now.n2 v.now.c2) ∧ W.cell? ⟨w.heap.size, 5, none⟩ = some (.slice v.now.x3 v.now.n3 v.now.c3) ∧ W.cell? ⟨w.heap.size, 6, none⟩ = some (.slice v.x v.n v.c)) := hid fun W hW => ⟨keep hW (cell_heap g0 rfl), keep hW (cell_heap g0 rfl), keep hW (cell_heap g0 rfl), keep hW (cell_heap g0 rfl), keep hW (cell_heap g0 rfl), keep hW (cell_heap g0 rfl), keep hW (cell_heap g0 rfl)⟩
  have HKr : Hid (∀ W, Below w1.heap.size w1 W → W.heap[w.heap.size + 2]? = some (.cells #[.int .i64 0, .int .i64 0, .int .i64 0, .slice none 0 0, .slice none 0 0, .slice none 0 0, .slice none 0 0] 29 (0, 0))) := hid fun W hW => (hW.block _ (by omega)).trans g2
  have HKb : Hid (∀ W, Below w1.heap.size w1 W → W.heap[w.heap.size]? = some (.cells #[.int .i64 v.fe, .int .i64 v.now.pl, .int .i64 v.now.si, .slice v.now.x1 v.now.n1 v.now.c1, .slice v.now.x2 v.now.n2 v.now.c2, .slice v.now.x3 v.now.n3 v.now.c3, .slice v.x v.n v.c] 29 (0, 0))) := hid fun W hW => (hW.block _ (by omega)).trans g0
  have HKt : Hid (w1.heap[w.heap.size + 1]? = some (.cells #[.int .i64 s.pl, .int .i64 s.si, .slice s.x1 s.n1 s.c1, .slice s.x2 s.n2 s.c2, .slice s.x3 s.n3 s.c3] 26 (0, 0))) := hid g1
  clear h hs bb hsz g0 g1 g2 htK htS
  unfold vH at hC1 HCp ⊢
  unfold vS at HCs HCd ⊢
  have HW := hid hw1
  obtain ⟨a0, a1, a2, a3, a4, a5, a6⟩ := HKa.out w1 (Below.refl _ _)
  rw [hw1] at hC1 a0 a1 a2 a3 a4 a5 a6
  clear hw1
  cases tK with
  | false =>
    have HPP := hid (HW1.out rfl)
    go_enter Try.func30, Try.ntmps30
    go_wp2_with (go_at_call 13; refine hC1.mono ?_; rintro r wa ⟨rfl, H1⟩; rw [← HW.out] at H1; have HBW := hid H1; have gr := HKr.out wa H1; have b0 := cell_heap gr (j := 0) rfl; have fb0 := fr_heap gr 0; have b1 := cell_heap gr (j := 1) rfl; have fb1 := fr_heap gr 1; have b2 := cell_heap gr (j := 2) rfl; have fb2 := fr_heap gr 2; have b3 := cell_heap gr (j := 3) rfl; have fb3 := fr_heap gr 3; have b4 := cell_heap gr (j := 4) rfl; have fb4 := fr_heap gr 4; have b5 := cell_heap gr (j := 5) rfl; have fb5 := fr_heap gr 5; have b6 := cell_heap gr (j := 6) rfl; have fb6 := fr_heap gr 6; clear gr; clear H1 hC1 a0 a1 a2 a3 a4 a5 a6)
    refine bodyPost_ret (v := .tuple #[vH zHV, .int .i64 1]) ?_ rfl ?_
    · rw [results_cell2 rfl]
      unfold vH zHV zSV
      go_simp
    · rw [HPP.out]
      refine own_end (r := w.heap.size + 2) HB.out ⟨by omega, by have := HSz.out; omega⟩ HBW.out (zHV_own wa) zHV_is (fun q hq => by rcases hq with hq | hq | ⟨i, hq⟩ <;> exact hq.elim) ?_
      repeat (first | with_reducible exact Turns.refl _ _ | with_reducible refine turns_put ?_ _ _)
  | true =>
  replace HW2 := hid (HW2.out rfl)
  replace HW3 := hid (HW3.out rfl)
  replace HW4 := hid (HW4.out rfl)
  replace HOkN := hid (HOkN.out rfl)
  clear HW1
  go_enter Try.func30, Try.ntmps30
  go_upto_region 4 with (first
    | (go_at_call 13; refine hC1.mono ?_; rintro r wa ⟨rfl, H1⟩; rw [← HW.out] at H1; have HBa := hid H1; clear H1 hC1 a0 a1 a2 a3 a4 a5 a6; obtain ⟨a0, a1, a2, a3, a4, a5, a6⟩ := HKa.out wa HBa.out)
    | (go_at_call 56; refine (HCp.out _ HBa.out).mono ?_; rintro r wc ⟨u, rfl, H2⟩; have HBc := hid (on HBa.out (by obtain ⟨_, _, _, _, _, bq, _⟩ := H2.out; exact bq)); clear a0 a1 a2 a3 a4 a5 a6; have ga := HKb.out wc HBc.out; have a0 := cell_heap ga (j := 0) rfl; have fa0 := fr_heap ga 0; have a1 := cell_heap ga (j := 1) rfl; have fa1 := fr_heap ga 1; have a2 := cell_heap ga (j := 2) rfl; have fa2 := fr_heap ga 2; have a3 := cell_heap ga (j := 3) rfl; have fa3 := fr_heap ga 3; have a4 := cell_heap ga (j := 4) rfl; have fa4 := fr_heap ga 4; have a5 := cell_heap ga (j := 5) rfl; have fa5 := fr_heap ga 5; have a6 := cell_heap ga (j := 6) rfl; have fa6 := fr_heap ga 6; clear ga))
  obtain ⟨G0, Gl, GN, o2, e2, b2, q2⟩ := H2.out
  have e7 : ((((((wc.setCell ⟨w.heap.size, 0, none⟩ (.int .i64 u.fe)).setCell ⟨w.heap.size, 1, none⟩ (.int .i64 u.now.pl)).setCell ⟨w.heap.size, 2, none⟩ (.int .i64 u.now.si)).setCell ⟨w.heap.size, 3, none⟩ (.slice u.now.x1 u.now.n1 u.now.c1)).setCell ⟨w.heap.size, 4, none⟩ (.slice u.now.x2 u.now.n2 u.now.c2)).setCell ⟨w.heap.size, 5, none⟩ (.slice u.now.x3 u.now.n3 u.now.c3)).setCell ⟨w.heap.size, 6, none⟩ (.slice u.x u.n u.c) = put7 wc w.heap.size u := rfl
  rw [e7]
  have t7 := turns_put7 wc w.heap.size u
  have hg7 := put7_box (HKb.out wc HBc.out) rfl u
  have hr7 := (t7.block (w.heap.size + 2) (lt_heap (HKr.out wc HBc.out)) (by omega)).trans (HKr.out wc HBc.out)
  have hs7 := (t7.block (w.heap.size + 1) (by have := HBc.out.size; have := HSz.out; omega) (by omega)).trans ((HBc.out.block _ (by have := HSz.out; omega)).trans HKt.out)
  have q7 : ∀ q, AllG G0 Gl GN q → w1.heap.size ≤ q ∧ q < (put7 wc w.heap.size u).heap.size := fun q hq => ⟨by have := (q2 q hq).1; have := HBa.out.size; omega, by have := (q2 q hq).2; have := t7.size; omega⟩
  have o7 := o2.keeps (.turns t7 fun q hq e => by have := (q7 q hq).1; have := HSz.out; omega)
  have bw7 : Below w.heap.size w (put7 wc w.heap.size u) := (on HB.out HBc.out).trans (t7.below (fun q e => by omega) (on HB.out HBc.out).size)
  have z7 : w1.heap.size ≤ (put7 wc w.heap.size u).heap.size := Nat.le_trans HBc.out.size t7.size
  generalize put7 wc w.heap.size u = wS at *
  have HO := hid (And.intro o7 (And.intro e2 q7))
  have HBs := hid (And.intro bw7 z7)
  have HG7 := hid (And.intro hg7 (And.intro hs7 hr7))
  clear e7 t7 o7 e2 q7 bw7 z7 H2 o2 b2 q2 a0 a1 a2 a3 a4 a5 a6 fa0 fa1 fa2 fa3 fa4 fa5 fa6
  have hfe : u.fe = v.fe := congrArg Hld.fe HO.out.2.1
  have hsi : u.now.si = v.now.si := congrArg (fun H => H.now.si) HO.out.2.1
  have hnx : u.N.map pS = v.N.map pS := congrArg Hld.nx HO.out.2.1
  have hln : u.N.length = u.n := HO.out.1.toH.n.len
  have hll : v.N.length = u.n := by have := congrArg List.length hnx; rw [List.length_map, List.length_map] at this; omega
  rw [← hfe, ← hsi] at HW3
  rw [← hfe, ← hsi, ← hnx, hll] at HW4
  rw [hll] at HOkN
  have HL := hid (And.intro hln (And.intro hfe hsi))
  clear hfe hsi hnx hln hll
  have fin : ∀ (wc W : World) (z : Int), Below wS.heap.size wS wc → Turns (fun k => k = w.heap.size + 2) wc W → PP = (pH v, z) → Tells w PP.1 PP.2 (.returned (.tuple #[vH u, .int .i64 z])) W := fun wc W z hb t hpp => by
    have h1 := HBs.out.1
    have h2 := HBs.out.2
    have h3 := hb.size
    have h4 := HSz.out
    have h5 := HB.out.size
    rw [hpp]
    have bwc := h1.trans (hb.mono h1.size)
    have hk := (HO.out.1.below hb).keeps (.turns t fun q hq e => by have := (HO.out.2.2 q hq).1; omega)
    refine ⟨u, rfl, hid ⟨G0, Gl, GN, hk, HO.out.2.1, bwc.trans (t.below (fun q e => by omega) bwc.size), fun q hq => ?_⟩⟩
    have h6 := HO.out.2.2 q hq
    have h7 := t.size
    exact ⟨by omega, by omega⟩
  have HFin := hid fin
  clear fin
  have HKu : Hid (∀ W, Below wS.heap.size wS W → W.cell? ⟨w.heap.size, 0, none⟩ = some (.int .i64 u.fe) ∧ W.cell? ⟨w.heap.size, 1, none⟩ = some (.int .i64 u.now.pl) ∧ W.cell? ⟨w.heap.size, 2, none⟩ = some (.int .i64 u.now.si) ∧ W.cell? ⟨w.heap.size, 3, none⟩ = some (.slice u.now.x1 u.now.n1 u.now.c1) ∧ W.cell? ⟨w.heap.size, 4, none⟩ = some (.slice u.now.x2 u.now.n2 u.now.c2) ∧ W.cell? ⟨w.heap.size, 5, none⟩ = some (.slice u.now.x3 u.now.n3 u.now.c3) ∧ W.cell? ⟨w.heap.size, 6, none⟩ = some (.slice u.x u.n u.c)) := hid fun W hW => hcells ((hW.block _ (lt_heap HG7.out.1)).trans HG7.out.1)
  have HKe : Hid (∀ W, Below wS.heap.size wS W → W.cell? ⟨w.heap.size + 1, 0, none⟩ = some (.int .i64 s.pl) ∧ W.cell? ⟨w.heap.size + 1, 1, none⟩ = some (.int .i64 s.si) ∧ W.cell? ⟨w.heap.size + 1, 2, none⟩ = some (.slice s.x1 s.n1 s.c1) ∧ W.cell? ⟨w.heap.size + 1, 3, none⟩ = some (.slice s.x2 s.n2 s.c2) ∧ W.cell? ⟨w.heap.size + 1, 4, none⟩ = some (.slice s.x3 s.n3 s.c3)) := hid fun W hW => ⟨keep hW (cell_heap HG7.out.2.1 rfl), keep hW (cell_heap HG7.out.2.1 rfl), keep hW (cell_heap HG7.out.2.1 rfl), keep hW (cell_heap HG7.out.2.1 rfl), keep hW (cell_heap HG7.out.2.1 rfl)⟩
  have HKr2 : Hid (∀ W, Below wS.heap.size wS W → W.heap[w.heap.size + 2]? = some (.cells #[.int .i64 0, .int .i64 0, .int .i64 0, .slice none 0 0, .slice none 0 0, .slice none 0 0, .slice none 0 0] 29 (0, 0))) := hid fun W hW => (hW.block _ (lt_heap HG7.out.2.2)).trans HG7.out.2.2
  by_cases hz : s.si = 0
  · have hzb : (s.si == 0) = true := by simp [hz]
    have HPP := hid (HW2.out (.inl hz))
    obtain ⟨e0, e1, e2, e3, e4⟩ := HKe.out wS (Below.refl _ _)
    obtain ⟨k0, k1, k2, k3, k4, k5, k6⟩ := HKu.out wS (Below.refl _ _)
    have gr := HKr2.out wS (Below.refl _ _)
    have b0 := cell_heap gr (j := 0) rfl
    have fb0 := fr_heap gr 0
    have b1 := cell_heap gr (j := 1) rfl
    have fb1 := fr_heap gr 1
    have b2 := cell_heap gr (j := 2) rfl
    have fb2 := fr_heap gr 2
    have b3 := cell_heap gr (j := 3) rfl
    have fb3 := fr_heap gr 3
    have b4 := cell_heap gr (j := 4) rfl
    have fb4 := fr_heap gr 4
    have b5 := cell_heap gr (j := 5) rfl
    have fb5 := fr_heap gr 5
    have b6 := cell_heap gr (j := 6) rfl
    have fb6 := fr_heap gr 6
    clear gr
    clear hz
    go_wp2_with fail
    refine bodyPost_ret (v := .tuple #[vH u, .int .i64 1]) ?_ rfl ?_
    · rw [results_cell2 rfl]
      unfold vH
      go_simp
    · refine HFin.out wS _ 1 (Below.refl _ _) ?_ (HPP.out)
      repeat (first | with_reducible exact Turns.refl _ _ | with_reducible refine turns_put ?_ _ _)
  have hzb : (s.si == 0) = false := by simp [hz]
  have HZ := hid hz
  obtain ⟨e0, e1, e2, e3, e4⟩ := HKe.out wS (Below.refl _ _)
  clear hz
  cases tS with
  | false =>
    have HPP := hid (HW2.out (.inr rfl))
    go_upto_region 5 with (go_at_call 16; refine (HCs.out _ HBs.out.1).mono ?_; rintro r wT ⟨rfl, hb3⟩; have HBT := hid hb3; clear hb3 e0 e1 e2 e3 e4)
    obtain ⟨k0, k1, k2, k3, k4, k5, k6⟩ := HKu.out wT HBT.out
    have gr := HKr2.out wT HBT.out
    have b0 := cell_heap gr (j := 0) rfl
    have fb0 := fr_heap gr 0
    have b1 := cell_heap gr (j := 1) rfl
    have fb1 := fr_heap gr 1
    have b2 := cell_heap gr (j := 2) rfl
    have fb2 := fr_heap gr 2
    have b3 := cell_heap gr (j := 3) rfl
    have fb3 := fr_heap gr 3
    have b4 := cell_heap gr (j := 4) rfl
    have fb4 := fr_heap gr 4
    have b5 := cell_heap gr (j := 5) rfl
    have fb5 := fr_heap gr 5
    have b6 := cell_heap gr (j := 6) rfl
    have fb6 := fr_heap gr 6
    clear gr
    go_wp2_with fail
    refine bodyPost_ret (v := .tuple #[vH u, .int .i64 1]) ?_ rfl ?_
    · rw [results_cell2 rfl]
      unfold vH
      go_simp
    · refine HFin.out wT _ 1 HBT.out ?_ (HPP.out)
      repeat (first | with_reducible exact Turns.refl _ _ | with_reducible refine turns_put ?_ _ _)
  | true =>
  replace HW3 := hid (HW3.out HZ.out rfl)
  replace HW4 := hid (HW4.out HZ.out rfl)
  go_upto_region 6 with (go_at_call 16; refine (HCs.out _ HBs.out.1).mono ?_; rintro r wT ⟨rfl, hb3⟩; have HBT := hid hb3; clear hb3 e0 e1 e2 e3 e4)
  obtain ⟨k0, k1, k2, k3, k4, k5, k6⟩ := HKu.out wT HBT.out
  obtain ⟨e0, e1, e2, e3, e4⟩ := HKe.out wT HBT.out
  by_cases hlt : s.si < u.fe
  · have HPP := hid (HW3.out (.inl hlt))
    have gr := HKr2.out wT HBT.out
    have b0 := cell_heap gr (j := 0) rfl
    have fb0 := fr_heap gr 0
    have b1 := cell_heap gr (j := 1) rfl
    have fb1 := fr_heap gr 1
    have b2 := cell_heap gr (j := 2) rfl
    have fb2 := fr_heap gr 2
    have b3 := cell_heap gr (j := 3) rfl
    have fb3 := fr_heap gr 3
    have b4 := cell_heap gr (j := 4) rfl
    have fb4 := fr_heap gr 4
    have b5 := cell_heap gr (j := 5) rfl
    have fb5 := fr_heap gr 5
    have b6 := cell_heap gr (j := 6) rfl
    have fb6 := fr_heap gr 6
    clear gr
    go_wp2_with fail
    refine bodyPost_ret (v := .tuple #[vH u, .int .i64 7]) ?_ rfl ?_
    · rw [results_cell2 rfl]
      unfold vH
      go_simp
    · refine HFin.out wT _ 7 HBT.out ?_ (HPP.out)
      repeat (first | with_reducible exact Turns.refl _ _ | with_reducible refine turns_put ?_ _ _)
  by_cases hle : s.si ≤ u.now.si
  · have HPP := hid (HW3.out (.inr hle))
    have gr := HKr2.out wT HBT.out
    have b0 := cell_heap gr (j := 0) rfl
    have fb0 := fr_heap gr 0
    have b1 := cell_heap gr (j := 1) rfl
    have fb1 := fr_heap gr 1
    have b2 := cell_heap gr (j := 2) rfl
    have fb2 := fr_heap gr 2
    have b3 := cell_heap gr (j := 3) rfl
    have fb3 := fr_heap gr 3
    have b4 := cell_heap gr (j := 4) rfl
    have fb4 := fr_heap gr 4
    have b5 := cell_heap gr (j := 5) rfl
    have fb5 := fr_heap gr 5
    have b6 := cell_heap gr (j := 6) rfl
    have fb6 := fr_heap gr 6
    clear gr
    go_wp2_with fail
    refine bodyPost_ret (v := .tuple #[vH u, .int .i64 7]) ?_ rfl ?_
    · rw [results_cell2 rfl]
      unfold vH
      go_simp
    · refine HFin.out wT _ 7 HBT.out ?_ (HPP.out)
      repeat (first | with_reducible exact Turns.refl _ _ | with_reducible refine turns_put ?_ _ _)
  replace HW4 := hid (HW4.out (fun h => h.elim hlt hle))
  have hseat := seat_any s.si (HO.out.1.below HBT.out).toH.n
  go_upto_region 10 with (go_at_call 40; refine hseat.mono ?_; rintro r wU ⟨z, rfl, H5⟩; clear hseat k0 k1 k2 k3 k4 k5 k6 e0 e1 e2 e3 e4)
  have HBU := hid (on HBT.out H5.out.2)
  rcases H5.out.1 with ⟨rfl, hno⟩ | ⟨k, x, rfl, hk, hxs, _⟩
  · have HPP := hid (HW4.out.2 (fun x hx => by
      obtain ⟨y, hy, rfl⟩ := List.mem_map.1 hx
      exact hno y hy))
    clear hno
    by_cases h64 : u.n = 64
    · have HQ := hid (HPP.out.1 h64)
      obtain ⟨k0, k1, k2, k3, k4, k5, k6⟩ := HKu.out wU HBU.out
      have h64b : ((u.n : Int) == 64) = true := by simp; omega
      have gr := HKr2.out wU HBU.out
      have b0 := cell_heap gr (j := 0) rfl
      have fb0 := fr_heap gr 0
      have b1 := cell_heap gr (j := 1) rfl
      have fb1 := fr_heap gr 1
      have b2 := cell_heap gr (j := 2) rfl
      have fb2 := fr_heap gr 2
      have b3 := cell_heap gr (j := 3) rfl
      have fb3 := fr_heap gr 3
      have b4 := cell_heap gr (j := 4) rfl
      have fb4 := fr_heap gr 4
      have b5 := cell_heap gr (j := 5) rfl
      have fb5 := fr_heap gr 5
      have b6 := cell_heap gr (j := 6) rfl
      have fb6 := fr_heap gr 6
      clear gr
      go_wp2_with fail
      refine bodyPost_ret (v := .tuple #[vH u, .int .i64 2]) ?_ rfl ?_
      · rw [results_cell2 rfl]
        unfold vH
        go_simp
      · refine HFin.out wU _ 2 HBU.out ?_ (HQ.out)
        repeat (first | with_reducible exact Turns.refl _ _ | with_reducible refine turns_put ?_ _ _)
    · have HQ := hid (HPP.out.2 h64)
      obtain ⟨k0, k1, k2, k3, k4, k5, k6⟩ := HKu.out wU HBU.out
      have h64b : ((u.n : Int) == 64) = false := by simp; omega
      go_upto_region 9 with (fail)
      have bD := HBU.out.drew
      have S1 := (⟨(HKu.out _ bD).2.2.2.2.2.2, HKe.out _ bD⟩ : wU.drew.cell? ⟨w.heap.size, 6, none⟩ = some (.slice u.x u.n u.c) ∧ wU.drew.cell? ⟨w.heap.size + 1, 0, none⟩ = some (.int .i64 s.pl) ∧ wU.drew.cell? ⟨w.heap.size + 1, 1, none⟩ = some (.int .i64 s.si) ∧ wU.drew.cell? ⟨w.heap.size + 1, 2, none⟩ = some (.slice s.x1 s.n1 s.c1) ∧ wU.drew.cell? ⟨w.heap.size + 1, 3, none⟩ = some (.slice s.x2 s.n2 s.c2) ∧ wU.drew.cell? ⟨w.heap.size + 1, 4, none⟩ = some (.slice s.x3 s.n3 s.c3))
      refine wp_region_tail (fun W => W.cell? ⟨w.heap.size, 6, none⟩ = some (.slice u.x u.n u.c) ∧ W.cell? ⟨w.heap.size + 1, 0, none⟩ = some (.int .i64 s.pl) ∧ W.cell? ⟨w.heap.size + 1, 1, none⟩ = some (.int .i64 s.si) ∧ W.cell? ⟨w.heap.size + 1, 2, none⟩ = some (.slice s.x1 s.n1 s.c1) ∧ W.cell? ⟨w.heap.size + 1, 3, none⟩ = some (.slice s.x2 s.n2 s.c2) ∧ W.cell? ⟨w.heap.size + 1, 4, none⟩ = some (.slice s.x3 s.n3 s.c3)) [6, 7] (by kernel_rfl) S1 (fun hS => ?_)
      have HBD := hid bD
      clear S1 bD k0 k1 k2 k3 k4 k5 k6
      generalize wU.drew = wD at *
      refine By.tk 0 ?_
      refine By.tk 1 ?_
      refine By.tk 2 ?_
      refine wpAnyT_one (i := 3) (by kernel_rfl) rfl (fun K hK => ?_)
      go_simp
      refine (HCd.out wD (HBs.out.1.trans (HBD.out.mono HBs.out.1.size))).mono ?_
      rintro r' wV ⟨s', rfl, H6⟩
      have b6 := H6.out.2.2
      have S2 := (⟨(HKu.out _ (on HBD.out b6)).2.2.2.2.2.2, HKe.out _ (on HBD.out b6)⟩ : wV.cell? ⟨w.heap.size, 6, none⟩ = some (.slice u.x u.n u.c) ∧ wV.cell? ⟨w.heap.size + 1, 0, none⟩ = some (.int .i64 s.pl) ∧ wV.cell? ⟨w.heap.size + 1, 1, none⟩ = some (.int .i64 s.si) ∧ wV.cell? ⟨w.heap.size + 1, 2, none⟩ = some (.slice s.x1 s.n1 s.c1) ∧ wV.cell? ⟨w.heap.size + 1, 3, none⟩ = some (.slice s.x2 s.n2 s.c2) ∧ wV.cell? ⟨w.heap.size + 1, 4, none⟩ = some (.slice s.x3 s.n3 s.c3))
      clear hS
      refine hK.out _ _ (fun _ => S2) ?_
      clear hK K
      refine wpAnyT_one (i := 4) (by kernel_rfl) rfl (fun K hK => ?_)
      go_simp
      have b7 := al wV (.cells #[.int .i64 s'.pl, .int .i64 s'.si, .slice s'.x1 s'.n1 s'.c1, .slice s'.x2 s'.n2 s'.c2, .slice s'.x3 s'.n3 s'.c3] 26)
      have l7 := heap_alloc_new wV (.cells #[.int .i64 s'.pl, .int .i64 s'.si, .slice s'.x1 s'.n1 s'.c1, .slice s'.x2 s'.n2 s'.c2, .slice s'.x3 s'.n3 s'.c3] 26)
      obtain ⟨y, c', w4, hap, H7⟩ := push2 (HO.out.1.own.below (on (on HBD.out b6) b7)) srow (Nat.zero_le _) ⟨wV.heap.size, 0, none⟩ 1 1 [s'] rfl (fun j z hj => by
        rw [show ((⟨wV.heap.size, 0, none⟩ : Addr).add j) = ⟨wV.heap.size, j, none⟩ by rw [add_at, Nat.zero_add]]
        exact cell_heap l7 (by simpa [enS, flat_one] using hj)) (by have := HL.out.1; have := HOkN.out; omega)
      have b8 := on (on HBD.out b6) b7
      have S3 := (⟨(HKu.out _ b8).2.2.2.2.2.2, HKe.out _ b8⟩ : (wV.alloc (.cells #[.int .i64 s'.pl, .int .i64 s'.si, .slice s'.x1 s'.n1 s'.c1, .slice s'.x2 s'.n2 s'.c2, .slice s'.x3 s'.n3 s'.c3] 26)).cell? ⟨w.heap.size, 6, none⟩ = some (.slice u.x u.n u.c) ∧ (wV.alloc (.cells #[.int .i64 s'.pl, .int .i64 s'.si, .slice s'.x1 s'.n1 s'.c1, .slice s'.x2 s'.n2 s'.c2, .slice s'.x3 s'.n3 s'.c3] 26)).cell? ⟨w.heap.size + 1, 0, none⟩ = some (.int .i64 s.pl) ∧ (wV.alloc (.cells #[.int .i64 s'.pl, .int .i64 s'.si, .slice s'.x1 s'.n1 s'.c1, .slice s'.x2 s'.n2 s'.c2, .slice s'.x3 s'.n3 s'.c3] 26)).cell? ⟨w.heap.size + 1, 1, none⟩ = some (.int .i64 s.si) ∧ (wV.alloc (.cells #[.int .i64 s'.pl, .int .i64 s'.si, .slice s'.x1 s'.n1 s'.c1, .slice s'.x2 s'.n2 s'.c2, .slice s'.x3 s'.n3 s'.c3] 26)).cell? ⟨w.heap.size + 1, 2, none⟩ = some (.slice s.x1 s.n1 s.c1) ∧ (wV.alloc (.cells #[.int .i64 s'.pl, .int .i64 s'.si, .slice s'.x1 s'.n1 s'.c1, .slice s'.x2 s'.n2 s'.c2, .slice s'.x3 s'.n3 s'.c3] 26)).cell? ⟨w.heap.size + 1, 3, none⟩ = some (.slice s.x2 s.n2 s.c2) ∧ (wV.alloc (.cells #[.int .i64 s'.pl, .int .i64 s'.si, .slice s'.x1 s'.n1 s'.c1, .slice s'.x2 s'.n2 s'.c2, .slice s'.x3 s'.n3 s'.c3] 26)).cell? ⟨w.heap.size + 1, 4, none⟩ = some (.slice s.x3 s.n3 s.c3))
      clear S2
      refine hK.out _ _ (fun _ => S3) ?_
      clear hK K
      have HB8 := hid b8
      have HB67 := hid (And.intro b6 b7)
      have ne : ∀ b : Nat, b < w1.heap.size → (Value.slice u.x u.n u.c).ownBlock ≠ some b := fun b hb h => by have := (HO.out.2.2 b (.inr (.inl (HO.out.1.gl b h)))).1; omega
      have h4 : ∀ b o, b < w1.heap.size → wS.heap[b]? = some o → w4.heap[b]? = some o := fun b o hb ho => (H7.out.2.1.block b (Nat.lt_of_lt_of_le (lt_heap ho) b8.size) (ne b hb)).trans ((b8.block b (lt_heap ho)).trans ho)
      have hb4 := h4 _ _ (by have := HSz.out; omega) HG7.out.1
      have hs4 := h4 _ _ (by have := HSz.out; omega) HG7.out.2.1
      have hr4 := h4 _ _ (by have := HSz.out; omega) HG7.out.2.2
      have H4 := hid (And.intro hb4 (And.intro hs4 hr4))
      have S4 := (⟨(hcells hb4).2.2.2.2.2.2, cell_heap hs4 rfl, cell_heap hs4 rfl, cell_heap hs4 rfl, cell_heap hs4 rfl, cell_heap hs4 rfl⟩ : w4.cell? ⟨w.heap.size, 6, none⟩ = some (.slice u.x u.n u.c) ∧ w4.cell? ⟨w.heap.size + 1, 0, none⟩ = some (.int .i64 s.pl) ∧ w4.cell? ⟨w.heap.size + 1, 1, none⟩ = some (.int .i64 s.si) ∧ w4.cell? ⟨w.heap.size + 1, 2, none⟩ = some (.slice s.x1 s.n1 s.c1) ∧ w4.cell? ⟨w.heap.size + 1, 3, none⟩ = some (.slice s.x2 s.n2 s.c2) ∧ w4.cell? ⟨w.heap.size + 1, 4, none⟩ = some (.slice s.x3 s.n3 s.c3))
      have q6 := S4.1
      have f6 := fr_heap hb4 6
      clear S3 b8 b6 b7 l7 ne h4 hb4 hs4 hr4
      refine wpAnyT_one (i := 5) (by kernel_rfl) rfl (fun K hK => ?_)
      refine st_append rfl _ _ 27 rfl _ _ rfl rfl hap ?_
      (try simp only [Act.put, List.getElem_toArray, List.getElem_cons_succ, List.getElem_cons_zero, List.setIfInBounds_toArray, List.set_cons_zero, List.set_cons_succ])
      refine hK.out _ _ (fun _ => S4) ?_
      clear hK K
      clear hap S4
      refine wpAnyT_one (i := 6) (by kernel_rfl) rfl (fun K hK => ?_)
      go_simp
      refine hK.out _ _ (fun h => absurd (by decide) h) ?_
      clear hK K
      refine wpAnyT_one (i := 7) (by kernel_rfl) rfl (fun K hK => ?_)
      go_simp
      refine hK.out _ _ (fun h => absurd (by decide) h) ?_
      clear hK K
      refine wpAnyT_done (by kernel_rfl) ?_ _
      clear q6 f6
      have oA := OwH.app HO.out.1 (fun q hq => (HO.out.2.2 q hq).2) HBD.out HB67.out.1 H6.out.1 HB67.out.2 (by have := HL.out.1; have := HOkN.out; omega) H7.out
      have hb5 := heap_set H4.out.1 (j := 6) (.slice y (u.N.length + 1) c')
      have t5 := turns_put (j := 6) (Turns.refl (fun k => k = w.heap.size) w4) (.slice y (u.N.length + 1) c')
      obtain ⟨uX, huX⟩ : ∃ uX : HV, uX = ⟨u.fe, u.now, y, u.N.length + 1, c', u.N ++ [s']⟩ := ⟨_, rfl⟩
      obtain ⟨GlX, hGl⟩ : ∃ GlX : Nat → Prop, GlX = fun q => Gl q ∨ New wV w4 q := ⟨_, rfl⟩
      obtain ⟨GNX, hGN⟩ : ∃ GNX : Nat → Nat → Prop, GNX = upG GN u.N.length (New wD wV) := ⟨_, rfl⟩
      rw [← huX, ← hGl, ← hGN] at oA
      have hbX : (w4.setCell ⟨w.heap.size, 6, none⟩ (.slice y (u.N.length + 1) c')).heap[w.heap.size]? = some (.cells (HCells uX) 29 (0, 0)) := hb5.trans (by rw [huX]; unfold HCells; rfl)
      have hsX := (t5.block _ (lt_heap H4.out.2.1) (by omega)).trans H4.out.2.1
      have hrX := (t5.block _ (lt_heap H4.out.2.2) (by omega)).trans H4.out.2.2
      have z4 : wS.heap.size ≤ w4.heap.size := Nat.le_trans HB8.out.size H7.out.2.1.size
      have lo : ∀ q, AllG G0 GlX GNX q → w1.heap.size ≤ q ∧ q < w4.heap.size := fun q hq => by
        rcases oA.2 q hq with h | h
        · have := HO.out.2.2 q h; omega
        · have := h.1; have := HBD.out.size; have := HBs.out.2; exact ⟨by omega, h.2⟩
      have aX : ∀ q, AllG G0 GlX GNX q → w1.heap.size ≤ q ∧ q < (w4.setCell ⟨w.heap.size, 6, none⟩ (.slice y (u.N.length + 1) c')).heap.size := fun q hq => ⟨(lo q hq).1, Nat.lt_of_lt_of_le (lo q hq).2 t5.size⟩
      have oX := oA.1.keeps (.turns t5 fun q hq e => by have := (lo q hq).1; have := HSz.out; omega)
      have bX : Below w.heap.size w (w4.setCell ⟨w.heap.size, 6, none⟩ (.slice y (u.N.length + 1) c')) := by
        have h1 := HBs.out.1.trans (HB8.out.mono HBs.out.1.size)
        have h2 := h1.trans (H7.out.2.1.below (fun q hq => by have := (HO.out.2.2 q (.inr (.inl (HO.out.1.gl q hq)))).1; have := HB.out.size; omega) h1.size)
        exact h2.trans (t5.below (fun q e => by omega) h2.size)
      have pX : pH ⟨s.si, uX.now, uX.x, uX.n, uX.c, uX.N⟩ = ⟨s.si, pS v.now, u.N.map pS ++ [pS s]⟩ := by
        rw [huX]
        show (⟨s.si, pS u.now, (u.N ++ [s']).map pS⟩ : Hld) = _
        have en : pS u.now = pS v.now := congrArg Hld.now HO.out.2.1
        rw [List.map_append, en]
        show (⟨s.si, pS v.now, u.N.map pS ++ [pS s']⟩ : Hld) = _
        rw [H6.out.2.1]
      generalize w4.setCell ⟨w.heap.size, 6, none⟩ (.slice y (u.N.length + 1) c') = wX at *
      clear t5 oA hb5 z4 lo huX hGl hGN H7 H4 HB8 HB67 H6
      obtain ⟨e0, e1, e2, e3, e4⟩ : wX.cell? ⟨w.heap.size + 1, 0, none⟩ = some (.int .i64 s.pl) ∧ wX.cell? ⟨w.heap.size + 1, 1, none⟩ = some (.int .i64 s.si) ∧ wX.cell? ⟨w.heap.size + 1, 2, none⟩ = some (.slice s.x1 s.n1 s.c1) ∧ wX.cell? ⟨w.heap.size + 1, 3, none⟩ = some (.slice s.x2 s.n2 s.c2) ∧ wX.cell? ⟨w.heap.size + 1, 4, none⟩ = some (.slice s.x3 s.n3 s.c3) := ⟨cell_heap hsX rfl, cell_heap hsX rfl, cell_heap hsX rfl, cell_heap hsX rfl, cell_heap hsX rfl⟩
      have k0 := (hcells hbX).1
      have f0 := fr_heap hbX 0
      have HX := hid (And.intro oX (And.intro aX (And.intro bX pX)))
      have HXb := hid (And.intro hbX hrX)
      clear oX aX bX pX hbX hsX hrX
      go_upto_region 15 with (fail)
      have hb6 := heap_set HXb.out.1 (j := 0) (.int .i64 s.si)
      have t6 := turns_put (j := 0) (Turns.refl (fun k => k = w.heap.size) wX) (.int .i64 s.si)
      have hr6 := (t6.block _ (lt_heap HXb.out.2) (by omega)).trans HXb.out.2
      generalize wX.setCell ⟨w.heap.size, 0, none⟩ (.int .i64 s.si) = w6 at *
      obtain ⟨u6, hu6⟩ : ∃ u6 : HV, u6 = ⟨s.si, uX.now, uX.x, uX.n, uX.c, uX.N⟩ := ⟨_, rfl⟩
      have hb7 : w6.heap[w.heap.size]? = some (.cells (HCells u6) 29 (0, 0)) := hb6.trans (by rw [hu6]; unfold HCells; rfl)
      have HU6 := hid hu6
      have HT6 := hid t6
      clear hb6 t6 k0 f0 e0 e1 e2 e3 e4 hu6
      obtain ⟨k0, k1, k2, k3, k4, k5, k6⟩ := hcells hb7
      have b0 := cell_heap hr6 (j := 0) rfl
      have fb0 := fr_heap hr6 0
      have b1 := cell_heap hr6 (j := 1) rfl
      have fb1 := fr_heap hr6 1
      have b2 := cell_heap hr6 (j := 2) rfl
      have fb2 := fr_heap hr6 2
      have b3 := cell_heap hr6 (j := 3) rfl
      have fb3 := fr_heap hr6 3
      have b4 := cell_heap hr6 (j := 4) rfl
      have fb4 := fr_heap hr6 4
      have b5 := cell_heap hr6 (j := 5) rfl
      have fb5 := fr_heap hr6 5
      have b6 := cell_heap hr6 (j := 6) rfl
      have fb6 := fr_heap hr6 6
      clear hb7 hr6
      go_wp2_with fail
      refine bodyPost_ret (v := .tuple #[vH u6, .int .i64 0]) ?_ rfl ?_
      · rw [results_cell2 rfl]
        unfold vH
        go_simp
      · rw [HQ.out]
        have hwx := HX.out.2.2.1
        have hbw : Below w.heap.size w w6 := hwx.trans (HT6.out.below (fun q e => by omega) hwx.size)
        refine own_fin (r := w.heap.size + 2) hbw (by omega) (G0 := G0) (Gl := GlX) (GN := GNX) ?_ ?_ (fun q hq => ?_) ?_
        · rw [HU6.out]
          exact (HX.out.1.keeps (.turns HT6.out fun q hq e => by have := (HX.out.2.1 q hq).1; have := HSz.out; omega)).fence s.si
        · rw [HU6.out]
          exact HX.out.2.2.2
        · have := HX.out.2.1 q hq
          have := HT6.out.size
          have := HSz.out
          exact ⟨by omega, by omega⟩
        · repeat (first | with_reducible exact Turns.refl _ _ | with_reducible refine turns_put ?_ _ _)
  · have hkn : k < u.n := by have := (List.getElem?_eq_some_iff.1 hk).1; have := HL.out.1; omega
    have hkn2 : (k : Int) < (u.n : Int) := by omega
    have hkp : (0 : Int) ≤ (k : Int) := by omega
    obtain ⟨g, cg, hR, hcle, _, _, _⟩ := HO.out.1.own.there (fun e => by rw [e] at hk; simp at hk)
    have hux : u.x = some ⟨g, 0, none⟩ := by injection hR
    have huc : u.c = cg := by injection hR
    have HQ := hid (HW4.out.1 k (pS x) (by rw [List.getElem?_map, hk]; rfl) hxs)
    have HK := hid (And.intro hk hux)
    clear hR hcle hxs
    go_upto_region 11 with (fail)
    have bD := HBU.out.drew
    have k6 := (HKu.out _ bD).2.2.2.2.2.2
    rw [hux] at k6
    have S1 := (⟨k6, HKe.out _ bD⟩ : wU.drew.cell? ⟨w.heap.size, 6, none⟩ = some (.slice (some ⟨g, 0, none⟩) u.n u.c) ∧ wU.drew.cell? ⟨w.heap.size + 1, 0, none⟩ = some (.int .i64 s.pl) ∧ wU.drew.cell? ⟨w.heap.size + 1, 1, none⟩ = some (.int .i64 s.si) ∧ wU.drew.cell? ⟨w.heap.size + 1, 2, none⟩ = some (.slice s.x1 s.n1 s.c1) ∧ wU.drew.cell? ⟨w.heap.size + 1, 3, none⟩ = some (.slice s.x2 s.n2 s.c2) ∧ wU.drew.cell? ⟨w.heap.size + 1, 4, none⟩ = some (.slice s.x3 s.n3 s.c3))
    refine wp_region_tail (fun W => W.cell? ⟨w.heap.size, 6, none⟩ = some (.slice (some ⟨g, 0, none⟩) u.n u.c) ∧ W.cell? ⟨w.heap.size + 1, 0, none⟩ = some (.int .i64 s.pl) ∧ W.cell? ⟨w.heap.size + 1, 1, none⟩ = some (.int .i64 s.si) ∧ W.cell? ⟨w.heap.size + 1, 2, none⟩ = some (.slice s.x1 s.n1 s.c1) ∧ W.cell? ⟨w.heap.size + 1, 3, none⟩ = some (.slice s.x2 s.n2 s.c2) ∧ W.cell? ⟨w.heap.size + 1, 4, none⟩ = some (.slice s.x3 s.n3 s.c3)) [5, 6] (by kernel_rfl) S1 (fun hS => ?_)
    have HBD := hid bD
    clear S1 bD k6 hux hk
    generalize wU.drew = wD at *
    refine By.tk 0 ?_
    refine By.tk 1 ?_
    refine By.tk 2 ?_
    refine By.tk 3 ?_
    refine wpAnyT_one (i := 4) (by kernel_rfl) rfl (fun K hK => ?_)
    go_simp
    refine (HCd.out wD (HBs.out.1.trans (HBD.out.mono HBs.out.1.size))).mono ?_
    rintro r' wV ⟨s', rfl, H6⟩
    have b6 := H6.out.2.2
    have S2 := (⟨by have := (HKu.out _ (on HBD.out b6)).2.2.2.2.2.2; rw [HK.out.2] at this; exact this, HKe.out _ (on HBD.out b6)⟩ : wV.cell? ⟨w.heap.size, 6, none⟩ = some (.slice (some ⟨g, 0, none⟩) u.n u.c) ∧ wV.cell? ⟨w.heap.size + 1, 0, none⟩ = some (.int .i64 s.pl) ∧ wV.cell? ⟨w.heap.size + 1, 1, none⟩ = some (.int .i64 s.si) ∧ wV.cell? ⟨w.heap.size + 1, 2, none⟩ = some (.slice s.x1 s.n1 s.c1) ∧ wV.cell? ⟨w.heap.size + 1, 3, none⟩ = some (.slice s.x2 s.n2 s.c2) ∧ wV.cell? ⟨w.heap.size + 1, 4, none⟩ = some (.slice s.x3 s.n3 s.c3))
    clear hS
    refine hK.out _ _ (fun _ => S2) ?_
    clear hK K
    have ow := HO.out.1.own.below (on HBD.out b6)
    rw [HK.out.2] at ow
    have HB6 := hid b6
    have c0 := ow.cell srow.len HK.out.1 (j := 0) (v := .int .i64 x.pl) rfl
    have fc0 := ow.frozen (k := k * 5)
    have c1 := ow.cell srow.len HK.out.1 (j := 1) (v := .int .i64 x.si) rfl
    have fc1 := ow.frozen (k := k * 5 + 1)
    have c2 := ow.cell srow.len HK.out.1 (j := 2) (v := .slice x.x1 x.n1 x.c1) rfl
    have fc2 := ow.frozen (k := k * 5 + 2)
    have c3 := ow.cell srow.len HK.out.1 (j := 3) (v := .slice x.x2 x.n2 x.c2) rfl
    have fc3 := ow.frozen (k := k * 5 + 3)
    have c4 := ow.cell srow.len HK.out.1 (j := 4) (v := .slice x.x3 x.n3 x.c3) rfl
    have fc4 := ow.frozen (k := k * 5 + 4)
    rw [Nat.add_zero] at c0
    clear S2 b6 ow
    refine wpAnyT_one (i := 5) (by kernel_rfl) rfl (fun K hK => ?_)
    go_simp
    refine hK.out _ _ (fun h => absurd (by decide) h) ?_
    clear hK K
    refine wpAnyT_one (i := 6) (by kernel_rfl) rfl (fun K hK => ?_)
    go_simp
    refine hK.out _ _ (fun h => absurd (by decide) h) ?_
    clear hK K
    refine wpAnyT_done (by kernel_rfl) ?_ _
    have e5 : ((((wV.setCell ⟨g, k * 5, none⟩ (.int .i64 s'.pl)).setCell ⟨g, k * 5 + 1, none⟩ (.int .i64 s'.si)).setCell ⟨g, k * 5 + 2, none⟩ (.slice s'.x1 s'.n1 s'.c1)).setCell ⟨g, k * 5 + 3, none⟩ (.slice s'.x2 s'.n2 s'.c2)).setCell ⟨g, k * 5 + 4, none⟩ (.slice s'.x3 s'.n3 s'.c3) = put5 wV g (k * 5) s' := rfl
    rw [e5]
    obtain ⟨oA, aA, t5⟩ := OwH.put HO.out.1 HK.out.2 HK.out.1 (fun q hq => (HO.out.2.2 q hq).2) HBD.out HB6.out H6.out.1
    have hgg := HO.out.2.2 g (.inr (.inl (HO.out.1.gl g (by rw [HK.out.2]; rfl))))
    obtain ⟨uX, huX⟩ : ∃ uX : HV, uX = ⟨u.fe, u.now, u.x, u.n, u.c, u.N.set k s'⟩ := ⟨_, rfl⟩
    obtain ⟨GlX, hGl⟩ : ∃ GlX : Nat → Prop, GlX = Gl := ⟨_, rfl⟩
    obtain ⟨GNX, hGN⟩ : ∃ GNX : Nat → Nat → Prop, GNX = upG GN k (New wD wV) := ⟨_, rfl⟩
    rw [← huX, ← hGl, ← hGN] at oA
    rw [← hGl, ← hGN] at aA
    have b8 := on HBD.out HB6.out
    have hX : ∀ b o, b < w1.heap.size → wS.heap[b]? = some o → (put5 wV g (k * 5) s').heap[b]? = some o := fun b o hb ho => (t5.block b (Nat.lt_of_lt_of_le (lt_heap ho) b8.size) (by omega)).trans ((b8.block b (lt_heap ho)).trans ho)
    have hbX : (put5 wV g (k * 5) s').heap[w.heap.size]? = some (.cells (HCells uX) 29 (0, 0)) := (hX _ _ (by have := HSz.out; omega) HG7.out.1).trans (by rw [huX]; rfl)
    have hsX := hX _ _ (by have := HSz.out; omega) HG7.out.2.1
    have hrX := hX _ _ (by have := HSz.out; omega) HG7.out.2.2
    have aX : ∀ q, AllG G0 GlX GNX q → w1.heap.size ≤ q ∧ q < (put5 wV g (k * 5) s').heap.size := fun q hq => by
      have s5 := t5.size
      have s8 := b8.size
      have sS := HBs.out.2
      rcases aA q hq with h | h
      · rw [hGl] at h
        have := HO.out.2.2 q h; omega
      · have := h.1; have := h.2; have := HBD.out.size; exact ⟨by omega, by omega⟩
    have oX := oA
    have bX : Below w.heap.size w (put5 wV g (k * 5) s') := by
      have h1 := HBs.out.1.trans (b8.mono HBs.out.1.size)
      exact h1.trans (t5.below (fun q e => by have := HB.out.size; omega) h1.size)
    have pX : pH ⟨s.si, uX.now, uX.x, uX.n, uX.c, uX.N⟩ = ⟨s.si, pS v.now, (u.N.map pS).set k (pS s)⟩ := by
      rw [huX]
      show (⟨s.si, pS u.now, (u.N.set k s').map pS⟩ : Hld) = _
      have en : pS u.now = pS v.now := congrArg Hld.now HO.out.2.1
      rw [List.map_set, en, H6.out.2.1]
    generalize put5 wV g (k * 5) s' = wX at *
    clear t5 oA aA hgg b8 hX huX hGl hGN H6 HB6 e5 c0 fc0 c1 fc1 c2 fc2 c3 fc3 c4 fc4
    obtain ⟨e0, e1, e2, e3, e4⟩ : wX.cell? ⟨w.heap.size + 1, 0, none⟩ = some (.int .i64 s.pl) ∧ wX.cell? ⟨w.heap.size + 1, 1, none⟩ = some (.int .i64 s.si) ∧ wX.cell? ⟨w.heap.size + 1, 2, none⟩ = some (.slice s.x1 s.n1 s.c1) ∧ wX.cell? ⟨w.heap.size + 1, 3, none⟩ = some (.slice s.x2 s.n2 s.c2) ∧ wX.cell? ⟨w.heap.size + 1, 4, none⟩ = some (.slice s.x3 s.n3 s.c3) := ⟨cell_heap hsX rfl, cell_heap hsX rfl, cell_heap hsX rfl, cell_heap hsX rfl, cell_heap hsX rfl⟩
    have k0 := (hcells hbX).1
    have f0 := fr_heap hbX 0
    have HX := hid (And.intro oX (And.intro aX (And.intro bX pX)))
    have HXb := hid (And.intro hbX hrX)
    clear oX aX bX pX hbX hsX hrX
    go_upto_region 15 with (fail)
    have hb6 := heap_set HXb.out.1 (j := 0) (.int .i64 s.si)
    have t6 := turns_put (j := 0) (Turns.refl (fun k => k = w.heap.size) wX) (.int .i64 s.si)
    have hr6 := (t6.block _ (lt_heap HXb.out.2) (by omega)).trans HXb.out.2
    generalize wX.setCell ⟨w.heap.size, 0, none⟩ (.int .i64 s.si) = w6 at *
    obtain ⟨u6, hu6⟩ : ∃ u6 : HV, u6 = ⟨s.si, uX.now, uX.x, uX.n, uX.c, uX.N⟩ := ⟨_, rfl⟩
    have hb7 : w6.heap[w.heap.size]? = some (.cells (HCells u6) 29 (0, 0)) := hb6.trans (by rw [hu6]; unfold HCells; rfl)
    have HU6 := hid hu6
    have HT6 := hid t6
    clear hb6 t6 k0 f0 e0 e1 e2 e3 e4 hu6
    obtain ⟨k0, k1, k2, k3, k4, k5, k6⟩ := hcells hb7
    have b0 := cell_heap hr6 (j := 0) rfl
    have fb0 := fr_heap hr6 0
    have b1 := cell_heap hr6 (j := 1) rfl
    have fb1 := fr_heap hr6 1
    have b2 := cell_heap hr6 (j := 2) rfl
    have fb2 := fr_heap hr6 2
    have b3 := cell_heap hr6 (j := 3) rfl
    have fb3 := fr_heap hr6 3
    have b4 := cell_heap hr6 (j := 4) rfl
    have fb4 := fr_heap hr6 4
    have b5 := cell_heap hr6 (j := 5) rfl
    have fb5 := fr_heap hr6 5
    have b6 := cell_heap hr6 (j := 6) rfl
    have fb6 := fr_heap hr6 6
    clear hb7 hr6
    go_wp2_with fail
    refine bodyPost_ret (v := .tuple #[vH u6, .int .i64 0]) ?_ rfl ?_
    · rw [results_cell2 rfl]
      unfold vH
      go_simp
    · rw [HQ.out]
      have hwx := HX.out.2.2.1
      have hbw : Below w.heap.size w w6 := hwx.trans (HT6.out.below (fun q e => by omega) hwx.size)
      refine own_fin (r := w.heap.size + 2) hbw (by omega) (G0 := G0) (Gl := GlX) (GN := GNX) ?_ ?_ (fun q hq => ?_) ?_
      · rw [HU6.out]
        exact (HX.out.1.keeps (.turns HT6.out fun q hq e => by have := (HX.out.2.1 q hq).1; have := HSz.out; omega)).fence s.si
      · rw [HU6.out]
        exact HX.out.2.2.2
      · have := HX.out.2.1 q hq
        have := HT6.out.size
        have := HSz.out
        exact ⟨by omega, by omega⟩
      · repeat (first | with_reducible exact Turns.refl _ _ | with_reducible refine turns_put ?_ _ _)

end Go.Proofs.Ytnfflmndejbepaa.Sh

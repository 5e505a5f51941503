/-
  Lists of structs as they lie in memory, read or one's own; boxes; what a call leaves.
  Conditions: none.
-/
import Derived.Test.YtgcjecmgjncclaaFlBase
import Derived.Test.YtgcjecmgjncclaaMxOrders
import Derived.Laws.Slices
import Derived.Laws.StructEq
import Derived.Laws.AppendOwnNone
import Derived.BigQuiet
namespace Go.Proofs.Ytgcjecmgjncclaa.Pz
open Go.RowKit By Fl
set_option linter.unusedVariables false
set_option linter.unusedSimpArgs false
set_option maxRecDepth 100000


theorem keep {w v : World} {b o : Nat} {x : Value} (hb : Below w.heap.size w v) (h : w.cell? ⟨b, o, none⟩ = some x) : v.cell? ⟨b, o, none⟩ = some x := (hb.cell (p := ⟨b, o, none⟩) (cell_lt' h)).trans h
theorem on {a b c : World} (h : Below a.heap.size a b) (k : Below b.heap.size b c) : Below a.heap.size a c := h.trans (k.mono h.size)
theorem al (w : World) (o : Obj) : Below w.heap.size w (w.alloc o) := (Below.refl _ w).alloc (Nat.le_refl _) _
theorem bel_drewN (w : World) (n : Nat) : Below w.heap.size w (w.drewN n) := ⟨rfl, rfl, rfl, Nat.le_refl _, fun _ _ => rfl⟩

theorem heap_set {w : World} {a j : Nat} {cs : Array Value} {t : TypeId} (h : w.heap[a]? = some (.cells cs t (0, 0))) (v : Value) : (w.setCell ⟨a, j, none⟩ v).heap[a]? = some (.cells (cs.setIfInBounds j v) t (0, 0)) := by
  rw [setCell_eq_setRow w a j cs t (0, 0) v h]
  exact setRow_heap w a cs _ t (0, 0) h
theorem cell_heap {w : World} {a j : Nat} {cs : Array Value} {t : TypeId} (h : w.heap[a]? = some (.cells cs t (0, 0))) {v : Value} (hv : cs[j]? = some v) : w.cell? ⟨a, j, none⟩ = some v := by
  simp only [World.cell?, h]
  simpa using hv
theorem fr_heap {w : World} {a : Nat} {cs : Array Value} {t : TypeId} (h : w.heap[a]? = some (.cells cs t (0, 0))) (j : Nat) : w.frozen? ⟨a, j, none⟩ = false := by
  simp [World.frozen?, h]
theorem lt_heap {w : World} {a : Nat} {o : Obj} (h : w.heap[a]? = some o) : a < w.heap.size := (Array.getElem?_eq_some_iff.1 h).1
theorem put_block {w : World} {g k b : Nat} {v : Value} (hlt : b < w.heap.size) (hne : b ≠ g) : (w.setCell ⟨g, k, none⟩ v).heap[b]? = w.heap[b]? :=
  Below.heap_setCell _ _ _ _ (fun e => hne e)
theorem cell_put {w : World} {g k b o : Nat} {v u : Value} (h : w.cell? ⟨b, o, none⟩ = some u) (hne : b ≠ g) : (w.setCell ⟨g, k, none⟩ v).cell? ⟨b, o, none⟩ = some u :=
  (World.cell?_of_block (a := ⟨b, o, none⟩) (put_block (cell_lt' h) hne)).trans h

/- A world in which all that lay in w lies unturned. -/
structure After (w : World) where
  W : World
  h : Below w.heap.size w W
theorem After.ne (w : World) : Nonempty (After w) := ⟨⟨w, Below.refl _ _⟩⟩
theorem wp_region_after {P : Program} {id : Nat} {Q : Exit → Act → World → Prop} {a : Act} {w : World} {l : List Oper} (hm : P.follows .mixedOrders = true) (hB : Region.lexB .any l.toArray = true)
    (h : wpQuiet P l.toArray (fun w' => ∃ p : After w, w' = p.W) (fun a' => ∀ w', (∃ p : After w, w' = p.W) → Q .normal a' w') l a) : (Code.region id l.toArray true).wp P Q a w :=
  wp_region_quiet (C := fun w' => ∃ p : After w, w' = p.W) hm hB ⟨⟨w.drew, (Below.refl _ _).drew⟩, rfl⟩ (by simpa using h)
theorem Calls.after_of {P : Program} {f : FuncId} {args : Array Value} {w : World} {p : After w} {v : Value}
    (h : Calls P f args p.W fun e w' => e = .returned v ∧ Below p.W.heap.size p.W w') : Calls P f args p.W fun e w'' => e = .returned v ∧ ∃ q : After w, w'' = q.W :=
  h.mono fun _ w' ⟨he, hb⟩ => ⟨he, ⟨w', on p.h hb⟩, rfl⟩
theorem Calls.after_same {P : Program} {f : FuncId} {args : Array Value} {w : World} {p : After w} {v : Value}
    (h : Calls P f args p.W fun e w' => e = .returned v ∧ w' = p.W) : Calls P f args p.W fun e w'' => e = .returned v ∧ ∃ q : After w, w'' = q.W :=
  h.mono fun _ w' ⟨he, hb⟩ => ⟨he, p, hb⟩
theorem After.cell {w : World} {b o : Nat} {v : Value} (h : w.cell? ⟨b, o, none⟩ = some v) (p : After w) : p.W.cell? ⟨b, o, none⟩ = some v := keep p.h h

/- What stays of some blocks. -/
structure Keeps (F : Nat → Prop) (w w' : World) : Prop where
  size : w.heap.size ≤ w'.heap.size
  block : ∀ k, F k → k < w.heap.size → w'.heap[k]? = w.heap[k]?
section
variable {F G : Nat → Prop} {w w' w'' : World}
theorem Keeps.below (h : Below w.heap.size w w') : Keeps F w w' := ⟨h.size, fun k _ hk => h.block k hk⟩
theorem Keeps.turns (h : Turns G w w') (hF : ∀ k, F k → ¬ G k) : Keeps F w w' := ⟨h.size, fun k hk hl => h.block k hl (hF k hk)⟩
theorem Keeps.trans (h : Keeps F w w') (k : Keeps F w' w'') : Keeps F w w'' := ⟨Nat.le_trans h.size k.size, fun i hi hl => (k.block i hi (Nat.lt_of_lt_of_le hl h.size)).trans (h.block i hi hl)⟩
theorem Keeps.refl (F : Nat → Prop) (w : World) : Keeps F w w := ⟨Nat.le_refl _, fun _ _ _ => rfl⟩
theorem Keeps.cell (h : Keeps F w w') {b o : Nat} {v : Value} (hb : F b) (hv : w.cell? ⟨b, o, none⟩ = some v) : w'.cell? ⟨b, o, none⟩ = some v :=
  (World.cell?_of_block (a := ⟨b, o, none⟩) (h.block b hb (cell_lt' hv))).trans hv
end

/- Bytes that lie in blocks of F. -/
structure SlF (w : World) (F : Nat → Prop) (x : Option Addr) (n c : Nat) (l : List Nat) : Prop where
  s : Sl w x n c l
  sm : n ≤ 17592186043904
  fp : n ≠ 0 → ∀ a, x = some a → F a.block

section
variable {F G : Nat → Prop} {w w' : World} {x : Option Addr} {n c : Nat} {l : List Nat}
theorem SlF.keeps (h : SlF w F x n c l) (k : Keeps F w w') : SlF w' F x n c l := by
  refine ⟨⟨h.s.len, h.s.le, h.s.nil, ?_, h.s.lt⟩, h.sm, h.fp⟩
  rcases h.s.row with h0 | ⟨b, o, h1, h2, h3⟩
  · exact .inl h0
  · by_cases h0 : n = 0
    · exact .inl h0
    · exact .inr ⟨b, o, h1, Nat.lt_of_lt_of_le h2 k.size, fun i hi => k.cell (h.fp h0 _ h1) (h3 i hi)⟩
theorem SlF.weak (h : SlF w F x n c l) (hG : ∀ k, F k → G k) : SlF w G x n c l := ⟨h.s, h.sm, fun h0 a ha => hG _ (h.fp h0 a ha)⟩
theorem SlF.nil (w : World) (F : Nat → Prop) : SlF w F none 0 0 [] := ⟨Sl.empty w, by omega, fun h => absurd rfl h⟩
end

/- A list of structs that is read. -/
structure Lis {α : Type} (en : α → List Value) (sz : Nat) (A : World → (Nat → Prop) → α → Prop) (w : World) (F : Nat → Prop) (x : Option Addr) (n c : Nat) (L : List α) : Prop where
  len : L.length = n
  le : n ≤ c
  small : n ≤ 17592186043904
  nil : x = none → n = 0 ∧ c = 0
  row : n = 0 ∨ ∃ b o, x = some ⟨b, o, none⟩ ∧ b < w.heap.size ∧ F b ∧ ∀ (k : Nat) (a : α), L[k]? = some a → ∀ (j : Nat) (v : Value), (en a)[j]? = some v → w.cell? ⟨b, o + k * sz + j, none⟩ = some v
  each : ∀ a ∈ L, A w F a

section
variable {α : Type} {en : α → List Value} {sz : Nat} {A : World → (Nat → Prop) → α → Prop} {F G : Nat → Prop} {w w' : World} {x : Option Addr} {n c : Nat} {L : List α}
theorem Lis.keeps (hA : ∀ a, A w F a → A w' F a) (h : Lis en sz A w F x n c L) (k : Keeps F w w') : Lis en sz A w' F x n c L := by
  refine ⟨h.len, h.le, h.small, h.nil, ?_, fun a ha => hA a (h.each a ha)⟩
  rcases h.row with h0 | ⟨b, o, h1, h2, h3, h4⟩
  · exact .inl h0
  · exact .inr ⟨b, o, h1, Nat.lt_of_lt_of_le h2 k.size, h3, fun i a hi j v hv => k.cell h3 (h4 i a hi j v hv)⟩
theorem Lis.weak (hA : ∀ a, A w F a → A w G a) (h : Lis en sz A w F x n c L) (k : ∀ k, F k → G k) : Lis en sz A w G x n c L := by
  refine ⟨h.len, h.le, h.small, h.nil, ?_, fun a ha => hA a (h.each a ha)⟩
  rcases h.row with h0 | ⟨b, o, h1, h2, h3, h4⟩
  · exact .inl h0
  · exact .inr ⟨b, o, h1, h2, k b h3, h4⟩
theorem Lis.empty (w : World) (F : Nat → Prop) : Lis en sz A w F none 0 0 [] := ⟨rfl, Nat.le_refl _, by omega, fun _ => ⟨rfl, rfl⟩, .inl rfl, fun a ha => by cases ha⟩
theorem Lis.some (h : Lis en sz A w F x n c L) {k : Nat} (hk : k < n) : ∃ a, L[k]? = Option.some a ∧ a ∈ L := by
  have hl := h.len
  exact ⟨L[k]'(by omega), List.getElem?_eq_getElem (by omega), List.getElem_mem (by omega)⟩

/- Its beginning. -/
theorem Lis.take (h : Lis en sz A w F x n c L) {k : Nat} (hk : k ≤ n) : Lis en sz A w F x k c (L.take k) := by
  have hl := h.len
  refine ⟨by rw [List.length_take]; omega, by have := h.le; omega, by have := h.small; omega, fun e => by have := h.nil e; omega, ?_, fun a ha => h.each a (List.mem_of_mem_take ha)⟩
  rcases h.row with h0 | ⟨b, o, h1, h2, h3, h4⟩
  · exact .inl (by omega)
  · refine .inr ⟨b, o, h1, h2, h3, fun q a hq j v hv => h4 q a ?_ j v hv⟩
    rw [List.getElem?_take] at hq
    split at hq
    · exact hq
    · cases hq

def cutO (sz : Nat) (x : Option Addr) (c k : Nat) : Option Addr := if c = k then x else x.map (·.add (k * sz))

/- Its end. -/
theorem Lis.drop (h : Lis en sz A w F x n c L) (k : Nat) (hk : k ≤ n) : Lis en sz A w F (cutO sz x c k) (n - k) (c - k) (L.drop k) := by
  have hle := h.le
  have hl := h.len
  refine ⟨by rw [List.length_drop, h.len], by omega, by have := h.small; omega, fun e => ?_, ?_, fun a ha => h.each a (List.mem_of_mem_drop ha)⟩
  · unfold cutO at e
    split at e
    · have := h.nil e; omega
    · cases x with
      | none => have := h.nil rfl; omega
      | some a => cases e
  · by_cases h0 : n - k = 0
    · exact .inl h0
    · rcases h.row with hr | ⟨b, o, rfl, hb, hf, hc⟩
      · omega
      · refine .inr ⟨b, o + k * sz, ?_, hb, hf, fun i a hi j v hv => ?_⟩
        · unfold cutO
          rw [if_neg (by omega)]
          simp [add_at]
        · rw [List.getElem?_drop] at hi
          have := hc (k + i) a hi j v hv
          rw [show o + k * sz + i * sz + j = o + (k + i) * sz + j by rw [Nat.add_mul]; omega]
          exact this
end

/- A list of one's own is one that is read. -/
theorem own_lis {α : Type} {en : α → List Value} {sz bt : Nat} {T e : TypeId} {A : World → (Nat → Prop) → α → Prop} {F : Nat → Prop} {w : World} {B : Nat} {x : Option Addr} {n c : Nat} {L : List α} (r : Row T e sz bt en)
    (h : Own w B e sz en (.slice x n c) L) (hs : L.length ≤ 17592186043904) (hF : ∀ g, (Value.slice x n c).ownBlock = some g → F g) (he : ∀ a ∈ L, A w F a) : Lis en sz A w F x n c L := by
  obtain ⟨x', c', e, h1, h2, h3⟩ := h.form
  injection e with e1 e2 e3
  subst e1 e2 e3
  refine ⟨rfl, h1, hs, h2, ?_, he⟩
  by_cases h0 : L.length = 0
  · exact .inl h0
  · cases x with
    | none => exact .inl (h2 rfl).1
    | some ad =>
      obtain ⟨g, rfl, hB, hg⟩ := h3 ad rfl
      exact .inr ⟨g, 0, rfl, hg, hF g rfl, fun k a hk j v hv => by rw [Nat.zero_add]; exact h.cell r.len hk hv⟩

theorem results_cell1 {fn : Func} {p : Tmp} {ty : TypeId} (h : fn.results = #[.cell p ty]) (tmps : Array Value) (P : Program) (w : World) :
    (results fn tmps).run P w = ((asAddr (tmps.getD p undef)).run P w).andThen fun a w₁ => (loadVar ty a).run P w₁ := by
  simp only [results, h]
  simp [Sem.run_bind, Result.andThen]

theorem results_cell2 {fn : Func} {p q : Tmp} {ty : TypeId} (h : fn.results = #[.cell p ty, .tmp q]) (tmps : Array Value) (P : Program) (w : World) :
    (results fn tmps).run P w = ((asAddr (tmps.getD p undef)).run P w).andThen fun a w₁ => ((loadVar ty a).run P w₁).andThen fun v w₂ => .ok (.tuple #[v, tmps.getD q undef]) w₂ := by
  simp only [results, h]
  simp [Sem.run_bind, Result.andThen]

def New (w w' : World) (k : Nat) : Prop := w.heap.size ≤ k ∧ k < w'.heap.size

section
variable {w w' : World} {G G' : Nat → Prop}
theorem Keeps.weak (k : Keeps G w w') (h : ∀ b, G' b → G b) : Keeps G' w w' := ⟨k.size, fun b hb hl => k.block b (h b hb) hl⟩
end


theorem turns_put {a : Nat} {w w' : World} (t : Turns (fun k => k = a) w w') (j : Nat) (v : Value) : Turns (fun k => k = a) w (w'.setCell ⟨a, j, none⟩ v) := t.setCell (p := ⟨a, j, none⟩) (.inl rfl) v

theorem two_boxes (w : World) (A B : Array Value) (t : TypeId) : Below w.heap.size w ((w.alloc (.cells A t)).alloc (.cells B t)) ∧ ((w.alloc (.cells A t)).alloc (.cells B t)).heap.size = w.heap.size + 2 ∧
    ((w.alloc (.cells A t)).alloc (.cells B t)).heap[w.heap.size]? = some (.cells A t (0, 0)) ∧ ((w.alloc (.cells A t)).alloc (.cells B t)).heap[w.heap.size + 1]? = some (.cells B t (0, 0)) := by
  refine ⟨on (al _ _) (al _ _), by simp, ((al (w.alloc (.cells A t)) _).block w.heap.size (by simp)).trans (heap_alloc_new w _), ?_⟩
  have := heap_alloc_new (w.alloc (.cells A t)) (.cells B t)
  simpa using this

theorem two_boxes2 (w : World) (A B : Array Value) (t u : TypeId) : Below w.heap.size w ((w.alloc (.cells A t)).alloc (.cells B u)) ∧ ((w.alloc (.cells A t)).alloc (.cells B u)).heap.size = w.heap.size + 2 ∧
    ((w.alloc (.cells A t)).alloc (.cells B u)).heap[w.heap.size]? = some (.cells A t (0, 0)) ∧ ((w.alloc (.cells A t)).alloc (.cells B u)).heap[w.heap.size + 1]? = some (.cells B u (0, 0)) := by
  refine ⟨on (al _ _) (al _ _), by simp, ((al (w.alloc (.cells A t)) _).block w.heap.size (by simp)).trans (heap_alloc_new w _), ?_⟩
  have := heap_alloc_new (w.alloc (.cells A t)) (.cells B u)
  simpa using this

theorem take_map {α β : Type} {f : α → β} {L M : List α} {k : Nat} {a b : α} (ha : L[k]? = some a) (hb : M[k]? = some b) (h : (L.take k).map f = (M.take k).map f) (e : f a = f b) : (L.take (k + 1)).map f = (M.take (k + 1)).map f := by
  rw [List.take_add_one, List.take_add_one, ha, hb]
  simp only [Option.toList_some, List.map_append, List.map_cons, List.map_nil, h, e]

theorem take_all {α β : Type} {f : α → β} {L M : List α} {n : Nat} (ha : L.length = n) (hb : M.length = n) (h : (L.take n).map f = (M.take n).map f) : L.map f = M.map f := by
  rwa [List.take_of_length_le (by omega), List.take_of_length_le (by omega)] at h

theorem map_at {α β : Type} {f : α → β} {L M : List α} {k : Nat} {a b : α} (ha : L[k]? = some a) (hb : M[k]? = some b) (h : L.map f = M.map f) : f a = f b := by
  have := congrArg (fun l => l[k]?) h
  simpa [ha, hb] using this

theorem set_same' {α : Type} {l : List α} {i : Nat} {v : α} (h : l[i]? = some v) : l.set i v = l := by
  apply List.ext_getElem?
  intro j
  rw [List.getElem?_set]
  split
  · rename_i e
    subst e
    rw [h]
    have := (List.getElem?_eq_some_iff.1 h).1
    simp [this]
  · rfl

theorem arr_ne {A : Array Value} {i j : Nat} {v : Value} (h : j ≠ i) : (A.setIfInBounds i v)[j]? = A[j]? := by
  rw [Array.getElem?_setIfInBounds, if_neg (Ne.symm h)]

theorem arr_eq {A : Array Value} {i : Nat} {v u : Value} (h : A[i]? = some u) : (A.setIfInBounds i v)[i]? = some v := by
  have := (Array.getElem?_eq_some_iff.1 h).1
  rw [Array.getElem?_setIfInBounds, if_pos rfl, if_pos this]

/- More behind a list of one's own; a list's cells. -/
section
variable {α : Type} {w w' : World} {B : Nat} {T e : TypeId} {sz bt : Nat} {enc : α → List Value} {R : Value} {L : List α}

theorem push2 (h : Own w B e sz enc R L) (r : Row T e sz bt enc) (hB : B ≤ w.heap.size) (ad : Addr) (m c : Nat) (K : List α) (hm : K.length = m) (hK : ∀ j u, (flat enc K)[j]? = Option.some u → w.cell? (ad.add j) = Option.some u) (hs2 : L.length + m ≤ 17592186043904) (hs : (L.length + m) * bt ≤ 140737488351232) :
    ∃ x' c' w', (Builtin.append_ #[T, T] T #[R, .slice (Option.some ad) m c]).run Try.prog w = .ok (.slice x' (L.length + m) c') w' ∧
      Hid (Own w' B e sz enc (.slice x' (L.length + m) c') (L ++ K) ∧ Turns (fun j => R.ownBlock = Option.some j) w w' ∧ (∀ g, (Value.slice x' (L.length + m) c').ownBlock = Option.some g → R.ownBlock = Option.some g ∨ g = w.heap.size)) := by
  obtain ⟨i, z, i1, i2, i3, i4, i5⟩ := r.info
  have hbt := r.bpos
  obtain ⟨R', w4, hap, ho, hgr, hnil, hR'⟩ := run_append_own_at (P := Try.prog) w B T T e i z sz bt r.und i1 i2 i3 i4 i5 r.pos R L.length _ h ad m c (flat enc K) (by rw [flat_len r.len, hm]) hK
    (fun u hu => by obtain ⟨a, _, ha⟩ := flat_mem hu; exact r.one a u ha) (by unfold maxLen; omega) (Nat.le_trans hs (by omega)) hB
  have ho' : Own w4 B e sz enc R' (L ++ K) := by
    unfold Own
    rw [flat_app, List.length_append, hm]
    exact ho
  obtain ⟨x', c', hRe, _⟩ := ho'.form
  rw [List.length_append, hm] at hRe
  subst hRe
  refine ⟨x', c', w4, hap, ho', (Turns.refl _ w).grown hgr (fun k hk => .inl hk), fun g hg => ?_⟩
  rcases hR' with q | q
  · exact .inl (q ▸ hg)
  · right
    rw [q] at hg
    injection hg with hg
    exact hg.symm

theorem flat_cells (hl : ∀ a, (enc a).length = sz) (hz : 0 < sz) {b o : Nat} (h : ∀ (k : Nat) (a : α), L[k]? = some a → ∀ (j : Nat) (v : Value), (enc a)[j]? = some v → w.cell? ⟨b, o + k * sz + j, none⟩ = some v) :
    ∀ j u, (flat enc L)[j]? = some u → w.cell? ((⟨b, o, none⟩ : Addr).add j) = some u := fun j u hu => by
  have hlt := (List.getElem?_eq_some_iff.1 hu).1
  rw [flat_len hl] at hlt
  have hk : j / sz < L.length := (Nat.div_lt_iff_lt_mul hz).2 hlt
  have hj : j % sz < sz := Nat.mod_lt _ hz
  have e : j = j / sz * sz + j % sz := by rw [Nat.mul_comm]; exact (Nat.div_add_mod j sz).symm
  obtain ⟨a, ha⟩ : ∃ a, L[j / sz]? = some a := ⟨_, List.getElem?_eq_getElem hk⟩
  have h2 := flat_get hl L (j / sz) a ha (j % sz) hj
  rw [← e, hu] at h2
  have := h (j / sz) a ha (j % sz) u h2.symm
  rw [add_at]
  rw [show o + j = o + j / sz * sz + j % sz by omega]
  exact this

/- The copy of a list in new memory. -/
def Cloned (w : World) (e : TypeId) (sz : Nat) (enc : α → List Value) (y : Option Addr) (n cy : Nat) (L : List α) (w' : World) : Prop :=
  Own w' 0 e sz enc (.slice y n cy) L ∧ Below w.heap.size w w' ∧ ∀ g, (Value.slice y n cy).ownBlock = Option.some g → New w w' g

theorem clone_run (r : Row T e sz bt enc) {A : World → (Nat → Prop) → α → Prop} {F : Nat → Prop} {ad : Addr} {n c : Nat} (h : Lis enc sz A w F (some ad) n c L) (hz : n * bt ≤ 140737488351232) :
    ∃ y cy w', (Builtin.append_ #[T, T] T #[.slice (some ⟨w.heap.size, 0, none⟩) 0 0, .slice (some ad) n c]).run Try.prog (w.alloc (.cells #[] e)) = .ok (.slice y n cy) w' ∧ Hid (Cloned w e sz enc y n cy L w') := by
  have h0 := Own.empty w (Nat.zero_le w.heap.size) e sz enc
  have hb := al w (.cells #[] e)
  have hcell : ∀ j u, (flat enc L)[j]? = some u → (w.alloc (.cells #[] e)).cell? (ad.add j) = some u := by
    rcases h.row with hn | ⟨b, o, hx, hbl, _, hc⟩
    · intro j u hu
      have := (List.getElem?_eq_some_iff.1 hu).1
      rw [flat_len r.len, h.len, hn, Nat.zero_mul] at this
      omega
    · injection hx with hx
      subst hx
      intro j u hu
      have h1 := flat_cells r.len r.pos hc j u hu
      rw [add_at] at h1 ⊢
      exact keep hb h1
  obtain ⟨x', c', w', hr, H⟩ := push2 h0 r (Nat.zero_le _) ad n c L h.len hcell (by have := h.small; simp; omega) (by simpa using hz)
  have e0 : ([] : List α).length + n = n := by simp
  rw [e0] at hr H
  refine ⟨x', c', w', hr, ?_⟩
  obtain ⟨H1, H2, H3⟩ := H.out
  have hbb : Below w.heap.size w w' := by
    refine hb.trans (H2.below (fun k hk => ?_) (by simp))
    simp [Value.ownBlock] at hk
    omega
  refine hid ⟨by simpa using H1, hbb, fun g hg => ?_⟩
  have hlt := (World.ownsRow.lt H1 g hg).2
  refine ⟨?_, hlt⟩
  rcases H3 g hg with q | q
  · simp [Value.ownBlock] at q; omega
  · rw [q]; simp
end

section
variable {α : Type} {w1 wr : World} {B : Nat} {T e : TypeId} {sz bt : Nat} {enc : α → List Value} {R : Value} {K N : List α} {p : α → Bool} {a : α} {k : Nat}

theorem push_one2 (A : Array Value) (hA : A.toList = enc a) (r : Row T e sz bt enc) (h1 : Own wr B e sz enc R K) (hB : B ≤ wr.heap.size) (hs : K.length + 1 ≤ 17592186043904) (hz : (K.length + 1) * bt ≤ 140737488351232) :
    ∃ x' n' c' w3, (Builtin.append_ #[T, T] T #[R, .slice (some ⟨wr.heap.size, 0, none⟩) 1 1]).run Try.prog (wr.alloc (.cells A e)) = .ok (.slice x' n' c') w3 ∧ Own w3 B e sz enc (.slice x' n' c') (K ++ [a]) ∧ Below B wr w3 ∧ Turns (fun q => R.ownBlock = some q) wr w3 ∧ (∀ g, (Value.slice x' n' c').ownBlock = some g → R.ownBlock = some g ∨ wr.heap.size ≤ g) := by
  have b := al wr (.cells A e)
  have l := heap_alloc_new wr (.cells A e)
  obtain ⟨x', c', w3, hap, H⟩ := push2 (h1.below b) r (Nat.le_trans hB b.size) ⟨wr.heap.size, 0, none⟩ 1 1 [a] rfl (fun j u hj => by
    rw [show ((⟨wr.heap.size, 0, none⟩ : Addr).add j) = ⟨wr.heap.size, j, none⟩ by rw [add_at, Nat.zero_add]]
    refine cell_heap l ?_
    rw [flat_one, ← hA] at hj
    simpa using hj) hs hz
  have tt : Turns (fun q => R.ownBlock = some q) wr w3 := (Turns.of_below b).trans H.out.2.1
  exact ⟨x', _, c', w3, hap, H.out.1, tt.below (fun q hq => (World.ownsRow.lt h1 q hq).1) hB, tt, fun g hg => (H.out.2.2 g hg).imp id fun h => by rw [h]; exact b.size⟩

theorem Own.lower {B' : Nat} (h : Own wr B e sz enc R K) (hb : B' ≤ B) : Own wr B' e sz enc R K := ⟨h.1, h.2.imp id (fun ⟨g, cap, cur, q1, q2, q3⟩ => ⟨g, cap, cur, q1, Nat.le_trans hb q2, q3⟩)⟩
end

section
variable {α : Type} {w : World} {B : Nat} {T e : TypeId} {sz bt : Nat} {enc : α → List Value} {R : Value} {K L : List α} {a : α}

/- A list that is read, behind an empty one of one's own. -/
theorem app_all (r : Row T e sz bt enc) {A : World → (Nat → Prop) → α → Prop} {F : Nat → Prop} {x : Option Addr} {n c : Nat} (h : Lis enc sz A w F x n c L) (hO : Own w B e sz enc R []) (hB : B ≤ w.heap.size) (hz : n * bt ≤ 140737488351232) :
    ∃ y cy w', (Builtin.append_ #[T, T] T #[R, .slice x n c]).run Try.prog w = .ok (.slice y n cy) w' ∧ Own w' B e sz enc (.slice y n cy) L ∧ Turns (fun q => R.ownBlock = some q) w w' := by
  cases x with
  | none =>
    obtain ⟨hn, hc⟩ := h.nil rfl
    subst hn hc
    have hL : L = [] := List.eq_nil_of_length_eq_zero h.len
    subst hL
    obtain ⟨y, cy, hR, _⟩ := hO.form
    have hR' : R = .slice y 0 cy := hR
    obtain ⟨i, z, i1, i2, i3, i4, i5⟩ := r.info
    refine ⟨y, cy, w, ?_, by rw [← hR']; exact hO, Turns.refl _ _⟩
    have hrun := run_append_owned_none (P := Try.prog) (w := w) B T T e i sz r.und i1 R _ _ hO
    rw [hR'] at hrun ⊢
    exact hrun
  | some ad =>
    have hcell : ∀ j u, (flat enc L)[j]? = some u → w.cell? (ad.add j) = some u := by
      rcases h.row with hn | ⟨b, o, hx, hbl, _, hc⟩
      · intro j u hu
        have := (List.getElem?_eq_some_iff.1 hu).1
        rw [flat_len r.len, h.len, hn, Nat.zero_mul] at this
        omega
      · injection hx with hx
        subst hx
        intro j u hu
        have h1 := flat_cells r.len r.pos hc j u hu
        rw [add_at] at h1 ⊢
        exact h1
    obtain ⟨x', c', w', hr, H⟩ := push2 hO r hB ad n c L h.len hcell (by have := h.small; simp; omega) (by simpa using hz)
    have e0 : ([] : List α).length + n = n := by simp
    rw [e0] at hr H
    exact ⟨x', c', w', hr, by simpa using H.out.1, H.out.2.1⟩

/- One more that lies in a block. -/
theorem app_one (r : Row T e sz bt enc) {g : Nat} {A : Array Value} (hO : Own w B e sz enc R K) (hB : B ≤ w.heap.size) (hg : w.heap[g]? = some (.cells A e (0, 0))) (hA : A.toList = enc a) (hs : K.length + 1 ≤ 17592186043904) (hz : (K.length + 1) * bt ≤ 140737488351232) :
    ∃ y cy w', (Builtin.append_ #[T, T] T #[R, .slice (some ⟨g, 0, none⟩) 1 1]).run Try.prog w = .ok (.slice y (K.length + 1) cy) w' ∧ Own w' B e sz enc (.slice y (K.length + 1) cy) (K ++ [a]) ∧ Turns (fun q => R.ownBlock = some q) w w' := by
  obtain ⟨x', c', w3, hap, H⟩ := push2 hO r hB ⟨g, 0, none⟩ 1 1 [a] rfl (fun j u hj => by
    rw [show ((⟨g, 0, none⟩ : Addr).add j) = ⟨g, j, none⟩ by rw [add_at, Nat.zero_add]]
    refine cell_heap hg ?_
    rw [flat_one, ← hA] at hj
    simpa using hj) hs hz
  exact ⟨x', c', w3, hap, H.out.1, H.out.2.1⟩
end

end Go.Proofs.Ytgcjecmgjncclaa.Pz

/-
  Lists of one's own, of bytes and of lists of bytes: an append behind them, with all that stays; a list from a place on.
  Conditions: none.
-/
import Derived.Test.YthfpljfndnjcnaaJoPart
namespace Go.Proofs.Ythfpljfndnjcnaa
open Go.RowKit By Dk Su Jo
set_option linter.unusedVariables false
set_option linter.unusedSimpArgs false

/- An append of any number, none too: where the list lies then. -/
theorem push_all (w : World) (t e : TypeId) (i : TypeInfo) (z : Value) (size bytes : Nat) (ht : Try.prog.underlying t = some (.slice e)) (hi : Try.prog.info? e = some i) (hz : i.zero = some z)
    (hsize : i.size = size) (hby : i.bytes = bytes) (hzs : z.cells.size = size) (hsz : 0 < size) (R : Value) (n : Nat) (xs : List Value) (hown : w.ownsRow 0 e size R n xs)
    (ad : Addr) (m c : Nat) (news : List Value) (hl : news.length = m * size) (hnews : ∀ j u, news[j]? = some u → w.cell? (ad.add j) = some u) (h1 : ∀ u ∈ news, u.oneCell' = true)
    (h63 : n + m ≤ maxLen) (hbytes : (n + m) * bytes ≤ 140737488355328) :
    ∃ R' w', (Builtin.append_ #[t, t] t #[R, .slice (some ad) m c]).run Try.prog w = .ok R' w' ∧ w'.ownsRow 0 e size R' (n + m) (xs ++ news) ∧ w.grownBy w' R.ownBlock ∧ (∀ g, R'.ownBlock = some g → R.ownBlock = some g ∨ w.heap.size ≤ g) := by
  by_cases hm : 0 < m
  · exact push_gen w t e i z size bytes ht hi hz hsize hby hzs hsz R n xs hown ad m c news hl hnews h1 hm h63 hbytes
  · obtain ⟨v', w'', hr2, h2, h3, h4⟩ := run_append_own (P := Try.prog) w 0 t t e i z size bytes ht hi hz hsize hby hzs hsz R n xs hown ad m c news hl hnews h1 h63 hbytes (Nat.zero_le _)
    refine ⟨v', w'', hr2, h2, h3, fun g hg => ?_⟩
    obtain rfl : m = 0 := by omega
    subst hsize
    subst hby
    rcases hown.2 with ⟨rfl, hn0⟩ | ⟨g0, cap, cur, rfl, hbg, hgc, hnc, hcm, hcs, htake⟩
    · rw [h4.2 ⟨rfl, rfl⟩] at hg
      cases hg
    · left
      have hfit : n * i.size + news.length ≤ cur.size := by rw [hl, hcs, ← Nat.add_mul]; exact Nat.mul_le_mul_right _ hnc
      have hr3 := run_append_room (P := Try.prog) w t t e i ht hi g0 n cap cur hgc ad 0 c news hl hnews h1 hnc hfit
      rw [hr2] at hr3
      injection hr3 with e1 _
      rw [e1] at hg
      simp [Value.ownBlock] at hg
      simp [Value.ownBlock, hg]

/- Bytes behind bytes of one's own. -/
def cat2 (f : Nat → Nat) (n : Nat) (g : Nat → Nat) : Nat → Nat := fun i => if i < n then f i else g (i - n)

theorem bytesOf_cat (f g : Nat → Nat) (n m : Nat) : bytesOf f n ++ bytesOf g m = bytesOf (cat2 f n g) (n + m) := by
  unfold bytesOf
  rw [List.range_add, List.map_append, List.map_map]
  congr 1
  · refine List.map_congr_left fun i hi => ?_
    have := List.mem_range.1 hi
    simp [cat2, this]
  · refine List.map_congr_left fun i hi => ?_
    simp [cat2, show ¬ n + i < n by omega]

theorem bytesOf_congr {f g : Nat → Nat} {n : Nat} (h : ∀ i, i < n → f i = g i) : bytesOf f n = bytesOf g n := List.map_congr_left fun i hi => by rw [h i (List.mem_range.1 hi)]

theorem push_bytes (w : World) (R : Value) (n : Nat) (f : Nat → Nat) (hown : w.ownsRow 0 5 1 R n (bytesOf f n)) (x : Option Addr) (m c : Nat) (g : Nat → Nat) (hnil : x = none → m = 0 ∧ c = 0) (hg : RowAt w x m g) (hs : n + m ≤ 140737488355328) :
    ∃ R' w', (Builtin.append_ #[31, 31] 31 #[R, .slice x m c]).run Try.prog w = .ok R' w' ∧ w'.ownsRow 0 5 1 R' (n + m) (bytesOf (cat2 f n g) (n + m)) ∧ w.grownBy w' R.ownBlock ∧ (∀ k, R'.ownBlock = some k → R.ownBlock = some k ∨ w.heap.size ≤ k) := by
  obtain ⟨i0, hi, hz0, hz1, hz2⟩ := info_parts info_byte
  cases x with
  | none =>
    obtain ⟨rfl, rfl⟩ := hnil rfl
    have hrun := run_append_owned_none (P := Try.prog) (w := w) 0 31 31 5 i0 1 Try.underlying31 hi R n _ hown
    refine ⟨R, w, hrun, ?_, ⟨rfl, rfl, rfl, Nat.le_refl _, fun _ _ _ => rfl⟩, fun k hk => .inl hk⟩
    rw [← bytesOf_cat]
    simpa [bytesOf] using hown
  | some ad =>
    rw [← bytesOf_cat]
    exact push_all w 31 5 i0 (.int .u8 0) 1 1 Try.underlying31 hi hz0 hz1 hz2 rfl (by decide) R n (bytesOf f n) hown ad m c (bytesOf g m) (by simp [bytesOf]) (fun j u hj => by
        have hjm : j < m := by
          have := (List.getElem?_eq_some_iff.1 hj).1
          simpa [bytesOf] using this
        have e : u = .int .u8 (g j : Int) := by simp [bytesOf, hjm] at hj; exact hj.symm
        rcases hg with hg | ⟨b, o, hx, hb, hc⟩
        · omega
        · injection hx with hx
          subst hx
          rw [e, add_at]
          exact hc j hjm) (fun u hu => by
        simp [bytesOf] at hu
        obtain ⟨j, _, rfl⟩ := hu
        rfl) (by unfold maxLen; omega) (by omega)

/- A list of lists of one's own. -/
theorem info_list : (Try.prog.info? 31).map (fun i => (i.zero, i.size, i.bytes)) = some (some (.slice none 0 0), 1, 24) := by kernel_rfl

def slV (A : Nat → Option Addr) (ln C : Nat → Nat) : Nat → Value := fun i => .slice (A i) (ln i) (C i)

structure Elt (w : World) (x : Option Addr) (l c : Nat) (f : Nat → Nat) : Prop where
  row : RowAt w x l f
  nil : x = none → l = 0 ∧ c = 0
  le : l ≤ c
  sm : l ≤ 140737488351232
  lt : ∀ j, f j < 256
  old : ∀ ad, x = some ad → ad.block < w.heap.size

structure OwnG (w : World) (B : Nat) (R : Value) (m : Nat) (A : Nat → Option Addr) (ln C : Nat → Nat) (ft : Nat → Nat → Nat) : Prop where
  own : w.ownsRow 0 31 1 R m (rowOf (slV A ln C) m)
  ob : ∀ g, R.ownBlock = some g → B ≤ g
  elt : ∀ i, i < m → Elt w (A i) (ln i) (C i) (ft i)
  far : ∀ i, i < m → ∀ ad, A i = some ad → R.ownBlock ≠ some ad.block

section
variable {w w' : World} {B : Nat} {R : Value} {m : Nat} {A : Nat → Option Addr} {ln C : Nat → Nat} {ft : Nat → Nat → Nat}

theorem Elt.turns {x : Option Addr} {l c : Nat} {f : Nat → Nat} {G : Nat → Prop} (h : Elt w x l c f) (t : Turns G w w') (hx : ∀ ad, x = some ad → ¬ G ad.block) : Elt w' x l c f :=
  ⟨t.row h.row hx, h.nil, h.le, h.sm, h.lt, fun ad e => Nat.lt_of_lt_of_le (h.old ad e) t.size⟩

theorem Elt.below {x : Option Addr} {l c : Nat} {f : Nat → Nat} (h : Elt w x l c f) (t : Below w.heap.size w w') : Elt w' x l c f :=
  h.turns (Turns.of_below (F := fun _ => False) t) (fun _ _ h => h)

theorem Elt.congr {x : Option Addr} {l c : Nat} {f g : Nat → Nat} (h : Elt w x l c f) (e : ∀ i, i < l → f i = g i) (hg : ∀ i, g i < 256) : Elt w x l c g := ⟨h.row.congr e, h.nil, h.le, h.sm, hg, h.old⟩

theorem OwnG.olt (h : OwnG w B R m A ln C ft) : ∀ g, R.ownBlock = some g → g < w.heap.size := fun g hg => (h.own.lt g hg).2

theorem OwnG.turns {G : Nat → Prop} (h : OwnG w B R m A ln C ft) (t : Turns G w w') (h1 : ∀ g, R.ownBlock = some g → ¬ G g) (h2 : ∀ i, i < m → ∀ ad, A i = some ad → ¬ G ad.block) : OwnG w' B R m A ln C ft :=
  ⟨ownsRow_same h.own (fun g hg => t.block g (h.olt g hg) (h1 g hg)), h.ob, fun i hi => (h.elt i hi).turns t (h2 i hi), h.far⟩

theorem OwnG.below (h : OwnG w B R m A ln C ft) (t : Below w.heap.size w w') : OwnG w' B R m A ln C ft :=
  h.turns (Turns.of_below (F := fun _ => False) t) (fun _ _ h => h) (fun _ _ _ _ h => h)

theorem OwnG.drewN (h : OwnG w B R m A ln C ft) (k : Nat) : OwnG (w.drewN k) B R m A ln C ft := h.below ⟨rfl, rfl, rfl, Nat.le_refl _, fun _ _ => rfl⟩

theorem OwnG.form (h : OwnG w B R m A ln C ft) : ∃ x c, R = .slice x m c ∧ m ≤ c ∧ (x = none → m = 0 ∧ c = 0) ∧ ∀ i, i < m → ∃ g, x = some ⟨g, 0, none⟩ ∧ w.cell? ⟨g, i, none⟩ = some (.slice (A i) (ln i) (C i)) := by
  obtain ⟨x, c, h1, h2, h3, h4⟩ := ownsRow_form h.own
  refine ⟨x, c, h1, h2, h3, fun i hi => ?_⟩
  rcases h4 with h4 | ⟨g, h5, h6⟩
  · omega
  · refine ⟨g, h5, ?_⟩
    have := h6 i _ (rowOf_get _ m i hi)
    rwa [Nat.zero_add] at this

theorem OwnG.congr {A' : Nat → Option Addr} {ln' C' : Nat → Nat} {ft' : Nat → Nat → Nat} (h : OwnG w B R m A ln C ft) (e : ∀ i, i < m → A i = A' i ∧ ln i = ln' i ∧ C i = C' i ∧ (∀ j, j < ln i → ft i j = ft' i j) ∧ ∀ j, ft' i j < 256) : OwnG w B R m A' ln' C' ft' := by
  have er : rowOf (slV A ln C) m = rowOf (slV A' ln' C') m := rowOf_congr fun i hi => by unfold slV; rw [(e i hi).1, (e i hi).2.1, (e i hi).2.2.1]
  refine ⟨by rw [← er]; exact h.own, h.ob, fun i hi => ?_, fun i hi ad ha => h.far i hi ad ((e i hi).1.trans ha)⟩
  obtain ⟨e1, e2, e3, e4, e5⟩ := e i hi
  rw [← e1, ← e2, ← e3]
  exact (h.elt i hi).congr e4 e5

theorem OwnG.none (w : World) (B : Nat) (A : Nat → Option Addr) (ln C : Nat → Nat) (ft : Nat → Nat → Nat) : OwnG w B (.slice none 0 0) 0 A ln C ft :=
  ⟨⟨rfl, .inl ⟨rfl, rfl⟩⟩, (fun g hg => by cases hg), (fun i hi => by omega), (fun i hi => by omega)⟩

theorem OwnG.empty (w : World) (B : Nat) (hB : B ≤ w.heap.size) (A : Nat → Option Addr) (ln C : Nat → Nat) (ft : Nat → Nat → Nat) : OwnG (w.alloc (.cells #[] 31)) B (.slice (some ⟨w.heap.size, 0, Option.none⟩) 0 0) 0 A ln C ft :=
  ⟨⟨rfl, .inr ⟨w.heap.size, 0, #[], rfl, Nat.zero_le _, heap_alloc_new _ _, Nat.le_refl _, Nat.zero_le _, rfl, rfl⟩⟩, fun g hg => by simp [Value.ownBlock] at hg; omega, fun i hi => by omega, fun i hi => by omega⟩

/- One more list behind it. -/
theorem OwnG.push (h : OwnG w B R m A ln C ft) (hB : B ≤ w.heap.size) {x : Option Addr} {l c : Nat} {f : Nat → Nat} (k : Elt w x l c f) (hx : ∀ ad, x = some ad → R.ownBlock ≠ some ad.block) (hm : (m + 1) * 24 ≤ 140737488355328) :
    ∃ x' c' w', (Builtin.append_ #[38, 38] 38 #[R, .slice (some ⟨w.heap.size, 0, Option.none⟩) 1 1]).run Try.prog (w.alloc (.cells #[.slice x l c] 31)) = .ok (.slice x' (m + 1) c') w' ∧
      OwnG w' B (.slice x' (m + 1) c') (m + 1) (ext A m x) (ext ln m l) (ext C m c) (ext ft m f) ∧ Turns (fun k => R.ownBlock = some k) w w' ∧ (∀ g, (Value.slice x' (m + 1) c').ownBlock = some g → R.ownBlock = some g ∨ w.heap.size ≤ g) := by
  have b1 : Below w.heap.size w (w.alloc (.cells #[.slice x l c] 31)) := (Below.refl _ _).alloc (Nat.le_refl _) _
  have h1 := h.below b1
  have k1 := k.below b1
  obtain ⟨i0, hi, hz0, hz1, hz2⟩ := info_parts info_list
  obtain ⟨R', w4, hap, ho, hgr, hR'⟩ := push_gen (w.alloc (.cells #[.slice x l c] 31)) 38 31 i0 (.slice Option.none 0 0) 1 24 Try.underlying38 hi hz0 hz1 hz2 rfl (by decide) R m _ h1.own
    ⟨w.heap.size, 0, Option.none⟩ 1 1 [.slice x l c] rfl (fun j u hj => by
      match j, hj with
      | 0, hj => rw [add_at]; simpa using hj
      | j + 1, hj => simp at hj) (fun u hu => by simp at hu; subst hu; rfl) (by omega) (by unfold maxLen; omega) hm
  obtain ⟨x', c', hRe, _⟩ := ownsRow_form ho
  subst hRe
  have T4 : Turns (fun k => R.ownBlock = some k) w w4 := (Turns.of_below b1).grown hgr (fun k hk => .inl hk)
  have hsz : (w.alloc (.cells #[.slice x l c] 31)).heap.size = w.heap.size + 1 := by simp
  have hR2 : ∀ g, (Value.slice x' (m + 1) c').ownBlock = some g → R.ownBlock = some g ∨ w.heap.size ≤ g := fun g hg => by
    rcases hR' g hg with e | e
    · exact .inl e
    · right; omega
  have hrow : rowOf (slV A ln C) m ++ [.slice x l c] = rowOf (slV (ext A m x) (ext ln m l) (ext C m c)) (m + 1) := by
    rw [rowOf_succ]
    congr 1
    · exact rowOf_congr fun i hi => by unfold slV; rw [ext_old _ _ _ hi, ext_old _ _ _ hi, ext_old _ _ _ hi]
    · unfold slV
      rw [ext_new, ext_new, ext_new]
  refine ⟨x', c', w4, hap, ⟨by rw [← hrow]; exact ho, fun g hg => ?_, fun i hi => ?_, fun i hi ad ha => ?_⟩, T4, hR2⟩
  · rcases hR2 g hg with e | e
    · exact h.ob g e
    · omega
  · by_cases e : i < m
    · rw [ext_old _ _ _ e, ext_old _ _ _ e, ext_old _ _ _ e, ext_old _ _ _ e]
      exact (h.elt i e).turns T4 (h.far i e)
    · obtain rfl : i = m := by omega
      rw [ext_new, ext_new, ext_new, ext_new]
      exact k.turns T4 hx
  · have hne : R.ownBlock ≠ some ad.block ∧ ad.block < w.heap.size := by
      by_cases e : i < m
      · rw [ext_old _ _ _ e] at ha
        exact ⟨h.far i e ad ha, (h.elt i e).old ad ha⟩
      · obtain rfl : i = m := by omega
        rw [ext_new] at ha
        exact ⟨hx ad ha, k.old ad ha⟩
    intro hg
    rcases hR2 _ hg with e | e
    · exact hne.1 e
    · omega

end

/- A list from a place on, in any world. -/
theorem cut_any (g o m c d : Nat) (h1 : d ≤ m) (h2 : m ≤ c) :
    ∃ x, (∀ v, (Instr.slice 31 (.slice (some ⟨g, o, none⟩) m c) (some (.int .i64 (d : Int))) none none).run Try.prog v = .ok (.slice x (m - d) (c - d)) v) ∧ (x ≠ none) ∧ ∀ w f, RowAt w (some ⟨g, o, none⟩) m f → RowAt w x (m - d) (fun i => f (d + i)) := by
  by_cases h3 : d < c
  · exact ⟨_, fun v => cut_row g o m c d v h1 h3, (fun h => by cases h), fun w f h => row_drop (m := d) (by rw [show d + (m - d) = m by omega]; exact h)⟩
  · obtain rfl : d = c := by omega
    refine ⟨some ⟨g, o, none⟩, fun v => ?_, (fun h => by cases h), fun w f h => .inl (by omega)⟩
    rw [run_slice_l v 31 _ _ _ elem_row .i64 (d : Int) (by omega) (by omega), elem_is, size_byte]
    simp only [Result.andThen, sliced, Int.toNat_natCast, Nat.mul_one, Option.map]
    simp

end Go.Proofs.Ythfpljfndnjcnaa

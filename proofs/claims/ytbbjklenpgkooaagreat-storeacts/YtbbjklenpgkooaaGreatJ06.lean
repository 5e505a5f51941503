/-
  3 texts of this proof, one behind the other: JoMem, JoGen, JoRec.
-/
import Derived.Test.YtbbjklenpgkooaaGreatJ05
/-
  Lists of one's own, of bytes and of lists of bytes: an append behind them, with all that stays; a list from a place on.
  Conditions: none.
-/
namespace Go.Proofs.YtbbjklenpgkooaaGreat
open Go.RowKit By Dk Su Jo
set_option linter.unusedVariables false
set_option linter.unusedSimpArgs false
set_option maxRecDepth 100000

/- An append of any number, none too: where the list lies then. -/
theorem push_all (w : World) (t e : TypeId) (i : TypeInfo) (z : Value) (size bytes : Nat) (ht : Tryz.prog.underlying t = some (.slice e)) (hi : Tryz.prog.info? e = some i) (hz : i.zero = some z)
    (hsize : i.size = size) (hby : i.bytes = bytes) (hzs : z.cells.size = size) (hsz : 0 < size) (R : Value) (n : Nat) (xs : List Value) (hown : w.ownsRow 0 e size R n xs)
    (ad : Addr) (m c : Nat) (news : List Value) (hl : news.length = m * size) (hnews : ∀ j u, news[j]? = some u → w.cell? (ad.add j) = some u) (h1 : ∀ u ∈ news, u.oneCell' = true)
    (h63 : n + m ≤ maxLen) (hbytes : (n + m) * bytes ≤ 140737488355328) :
    ∃ R' w', (Builtin.append_ #[t, t] t #[R, .slice (some ad) m c]).run Tryz.prog w = .ok R' w' ∧ w'.ownsRow 0 e size R' (n + m) (xs ++ news) ∧ w.grownBy w' R.ownBlock ∧ (∀ g, R'.ownBlock = some g → R.ownBlock = some g ∨ w.heap.size ≤ g) := by
  by_cases hm : 0 < m
  · exact push_gen w t e i z size bytes ht hi hz hsize hby hzs hsz R n xs hown ad m c news hl hnews h1 hm h63 hbytes
  · obtain ⟨v', w'', hr2, h2, h3, h4⟩ := run_append_own (P := Tryz.prog) w 0 t t e i z size bytes ht hi hz hsize hby hzs hsz R n xs hown ad m c news hl hnews h1 h63 hbytes (Nat.zero_le _)
    refine ⟨v', w'', hr2, h2, h3, fun g hg => ?_⟩
    obtain rfl : m = 0 := by omega
    subst hsize
    subst hby
    rcases hown.2 with ⟨rfl, hn0⟩ | ⟨g0, cap, cur, rfl, hbg, hgc, hnc, hcm, hcs, htake⟩
    · rw [h4.2 ⟨rfl, rfl⟩] at hg
      cases hg
    · left
      have hfit : n * i.size + news.length ≤ cur.size := by rw [hl, hcs, ← Nat.add_mul]; exact Nat.mul_le_mul_right _ hnc
      have hr3 := run_append_room (P := Tryz.prog) w t t e i ht hi g0 n cap cur hgc ad 0 c news hl hnews h1 hnc hfit
      rw [hr2] at hr3
      injection hr3 with e1 _
      rw [e1] at hg
      simp [Value.ownBlock] at hg
      simp [Value.ownBlock, hg]

/- Bytes behind bytes of one's own. -/
def cat2 (f : Nat → Nat) (n : Nat) (g : Nat → Nat) : Nat → Nat := fun i => if i < n then f i else g (i - n)

theorem bytesOf_cat (f g : Nat → Nat) (n m : Nat) : bytesOf f n ++ bytesOf g m = bytesOf (cat2 f n g) (n + m) := by
  unfold bytesOf
  rw [List.range_add, List.map_append, List.map_map]
  congr 1
  · refine List.map_congr_left fun i hi => ?_
    have := List.mem_range.1 hi
    simp [cat2, this]
  · refine List.map_congr_left fun i hi => ?_
    simp [cat2, show ¬ n + i < n by omega]

theorem bytesOf_congr {f g : Nat → Nat} {n : Nat} (h : ∀ i, i < n → f i = g i) : bytesOf f n = bytesOf g n := List.map_congr_left fun i hi => by rw [h i (List.mem_range.1 hi)]

theorem push_bytes (w : World) (R : Value) (n : Nat) (f : Nat → Nat) (hown : w.ownsRow 0 5 1 R n (bytesOf f n)) (x : Option Addr) (m c : Nat) (g : Nat → Nat) (hnil : x = none → m = 0 ∧ c = 0) (hg : RowAt w x m g) (hs : n + m ≤ 140737488355328) :
    ∃ R' w', (Builtin.append_ #[22, 22] 22 #[R, .slice x m c]).run Tryz.prog w = .ok R' w' ∧ w'.ownsRow 0 5 1 R' (n + m) (bytesOf (cat2 f n g) (n + m)) ∧ w.grownBy w' R.ownBlock ∧ (∀ k, R'.ownBlock = some k → R.ownBlock = some k ∨ w.heap.size ≤ k) := by
  obtain ⟨i0, hi, hz0, hz1, hz2⟩ := info_parts info_byte
  cases x with
  | none =>
    obtain ⟨rfl, rfl⟩ := hnil rfl
    have hrun := run_append_owned_none (P := Tryz.prog) (w := w) 0 22 22 5 i0 1 Tryz.underlying22 hi R n _ hown
    refine ⟨R, w, hrun, ?_, ⟨rfl, rfl, rfl, Nat.le_refl _, fun _ _ _ => rfl⟩, fun k hk => .inl hk⟩
    rw [← bytesOf_cat]
    simpa [bytesOf] using hown
  | some ad =>
    rw [← bytesOf_cat]
    exact push_all w 22 5 i0 (.int .u8 0) 1 1 Tryz.underlying22 hi hz0 hz1 hz2 rfl (by decide) R n (bytesOf f n) hown ad m c (bytesOf g m) (by simp [bytesOf]) (fun j u hj => by
        have hjm : j < m := by
          have := (List.getElem?_eq_some_iff.1 hj).1
          simpa [bytesOf] using this
        have e : u = .int .u8 (g j : Int) := by simp [bytesOf, hjm] at hj; exact hj.symm
        rcases hg with hg | ⟨b, o, hx, hb, hc⟩
        · omega
        · injection hx with hx
          subst hx
          rw [e, add_at]
          exact hc j hjm) (fun u hu => by
        simp [bytesOf] at hu
        obtain ⟨j, _, rfl⟩ := hu
        rfl) (by unfold maxLen; omega) (by omega)

/- A list of lists of one's own. -/
theorem info_list : (Tryz.prog.info? 22).map (fun i => (i.zero, i.size, i.bytes)) = some (some (.slice none 0 0), 1, 24) := by kernel_rfl

def slV (A : Nat → Option Addr) (ln C : Nat → Nat) : Nat → Value := fun i => .slice (A i) (ln i) (C i)

structure Elt (w : World) (x : Option Addr) (l c : Nat) (f : Nat → Nat) : Prop where
  row : RowAt w x l f
  nil : x = none → l = 0 ∧ c = 0
  le : l ≤ c
  sm : l ≤ 140737488351232
  lt : ∀ j, f j < 256
  old : ∀ ad, x = some ad → ad.block < w.heap.size

structure OwnG (w : World) (B : Nat) (R : Value) (m : Nat) (A : Nat → Option Addr) (ln C : Nat → Nat) (ft : Nat → Nat → Nat) : Prop where
  own : w.ownsRow 0 22 1 R m (rowOf (slV A ln C) m)
  ob : ∀ g, R.ownBlock = some g → B ≤ g
  elt : ∀ i, i < m → Elt w (A i) (ln i) (C i) (ft i)
  far : ∀ i, i < m → ∀ ad, A i = some ad → R.ownBlock ≠ some ad.block

section
variable {w w' : World} {B : Nat} {R : Value} {m : Nat} {A : Nat → Option Addr} {ln C : Nat → Nat} {ft : Nat → Nat → Nat}

theorem Elt.turns {x : Option Addr} {l c : Nat} {f : Nat → Nat} {G : Nat → Prop} (h : Elt w x l c f) (t : Turns G w w') (hx : ∀ ad, x = some ad → ¬ G ad.block) : Elt w' x l c f :=
  ⟨t.row h.row hx, h.nil, h.le, h.sm, h.lt, fun ad e => Nat.lt_of_lt_of_le (h.old ad e) t.size⟩

theorem Elt.below {x : Option Addr} {l c : Nat} {f : Nat → Nat} (h : Elt w x l c f) (t : Below w.heap.size w w') : Elt w' x l c f :=
  h.turns (Turns.of_below (F := fun _ => False) t) (fun _ _ h => h)

theorem Elt.congr {x : Option Addr} {l c : Nat} {f g : Nat → Nat} (h : Elt w x l c f) (e : ∀ i, i < l → f i = g i) (hg : ∀ i, g i < 256) : Elt w x l c g := ⟨h.row.congr e, h.nil, h.le, h.sm, hg, h.old⟩

theorem OwnG.olt (h : OwnG w B R m A ln C ft) : ∀ g, R.ownBlock = some g → g < w.heap.size := fun g hg => (h.own.lt g hg).2

theorem OwnG.turns {G : Nat → Prop} (h : OwnG w B R m A ln C ft) (t : Turns G w w') (h1 : ∀ g, R.ownBlock = some g → ¬ G g) (h2 : ∀ i, i < m → ∀ ad, A i = some ad → ¬ G ad.block) : OwnG w' B R m A ln C ft :=
  ⟨ownsRow_same h.own (fun g hg => t.block g (h.olt g hg) (h1 g hg)), h.ob, fun i hi => (h.elt i hi).turns t (h2 i hi), h.far⟩

theorem OwnG.below (h : OwnG w B R m A ln C ft) (t : Below w.heap.size w w') : OwnG w' B R m A ln C ft :=
  h.turns (Turns.of_below (F := fun _ => False) t) (fun _ _ h => h) (fun _ _ _ _ h => h)

theorem OwnG.drewN (h : OwnG w B R m A ln C ft) (k : Nat) : OwnG (w.drewN k) B R m A ln C ft := h.below ⟨rfl, rfl, rfl, Nat.le_refl _, fun _ _ => rfl⟩

theorem OwnG.form (h : OwnG w B R m A ln C ft) : ∃ x c, R = .slice x m c ∧ m ≤ c ∧ (x = none → m = 0 ∧ c = 0) ∧ ∀ i, i < m → ∃ g, x = some ⟨g, 0, none⟩ ∧ w.cell? ⟨g, i, none⟩ = some (.slice (A i) (ln i) (C i)) := by
  obtain ⟨x, c, h1, h2, h3, h4⟩ := ownsRow_form h.own
  refine ⟨x, c, h1, h2, h3, fun i hi => ?_⟩
  rcases h4 with h4 | ⟨g, h5, h6⟩
  · omega
  · refine ⟨g, h5, ?_⟩
    have := h6 i _ (rowOf_get _ m i hi)
    rwa [Nat.zero_add] at this

theorem OwnG.congr {A' : Nat → Option Addr} {ln' C' : Nat → Nat} {ft' : Nat → Nat → Nat} (h : OwnG w B R m A ln C ft) (e : ∀ i, i < m → A i = A' i ∧ ln i = ln' i ∧ C i = C' i ∧ (∀ j, j < ln i → ft i j = ft' i j) ∧ ∀ j, ft' i j < 256) : OwnG w B R m A' ln' C' ft' := by
  have er : rowOf (slV A ln C) m = rowOf (slV A' ln' C') m := rowOf_congr fun i hi => by unfold slV; rw [(e i hi).1, (e i hi).2.1, (e i hi).2.2.1]
  refine ⟨by rw [← er]; exact h.own, h.ob, fun i hi => ?_, fun i hi ad ha => h.far i hi ad ((e i hi).1.trans ha)⟩
  obtain ⟨e1, e2, e3, e4, e5⟩ := e i hi
  rw [← e1, ← e2, ← e3]
  exact (h.elt i hi).congr e4 e5

theorem OwnG.none (w : World) (B : Nat) (A : Nat → Option Addr) (ln C : Nat → Nat) (ft : Nat → Nat → Nat) : OwnG w B (.slice none 0 0) 0 A ln C ft :=
  ⟨⟨rfl, .inl ⟨rfl, rfl⟩⟩, (fun g hg => by cases hg), (fun i hi => by omega), (fun i hi => by omega)⟩

theorem OwnG.empty (w : World) (B : Nat) (hB : B ≤ w.heap.size) (A : Nat → Option Addr) (ln C : Nat → Nat) (ft : Nat → Nat → Nat) : OwnG (w.alloc (.cells #[] 22)) B (.slice (some ⟨w.heap.size, 0, Option.none⟩) 0 0) 0 A ln C ft :=
  ⟨⟨rfl, .inr ⟨w.heap.size, 0, #[], rfl, Nat.zero_le _, heap_alloc_new _ _, Nat.le_refl _, Nat.zero_le _, rfl, rfl⟩⟩, fun g hg => by simp [Value.ownBlock] at hg; omega, fun i hi => by omega, fun i hi => by omega⟩

/- One more list behind it. -/
theorem OwnG.push (h : OwnG w B R m A ln C ft) (hB : B ≤ w.heap.size) {x : Option Addr} {l c : Nat} {f : Nat → Nat} (k : Elt w x l c f) (hx : ∀ ad, x = some ad → R.ownBlock ≠ some ad.block) (hm : (m + 1) * 24 ≤ 140737488355328) :
    ∃ x' c' w', (Builtin.append_ #[46, 46] 46 #[R, .slice (some ⟨w.heap.size, 0, Option.none⟩) 1 1]).run Tryz.prog (w.alloc (.cells #[.slice x l c] 22)) = .ok (.slice x' (m + 1) c') w' ∧
      OwnG w' B (.slice x' (m + 1) c') (m + 1) (ext A m x) (ext ln m l) (ext C m c) (ext ft m f) ∧ Turns (fun k => R.ownBlock = some k) w w' ∧ (∀ g, (Value.slice x' (m + 1) c').ownBlock = some g → R.ownBlock = some g ∨ w.heap.size ≤ g) := by
  have b1 : Below w.heap.size w (w.alloc (.cells #[.slice x l c] 22)) := (Below.refl _ _).alloc (Nat.le_refl _) _
  have h1 := h.below b1
  have k1 := k.below b1
  obtain ⟨i0, hi, hz0, hz1, hz2⟩ := info_parts info_list
  obtain ⟨R', w4, hap, ho, hgr, hR'⟩ := push_gen (w.alloc (.cells #[.slice x l c] 22)) 46 22 i0 (.slice Option.none 0 0) 1 24 Tryz.underlying46 hi hz0 hz1 hz2 rfl (by decide) R m _ h1.own
    ⟨w.heap.size, 0, Option.none⟩ 1 1 [.slice x l c] rfl (fun j u hj => by
      match j, hj with
      | 0, hj => rw [add_at]; simpa using hj
      | j + 1, hj => simp at hj) (fun u hu => by simp at hu; subst hu; rfl) (by omega) (by unfold maxLen; omega) hm
  obtain ⟨x', c', hRe, _⟩ := ownsRow_form ho
  subst hRe
  have T4 : Turns (fun k => R.ownBlock = some k) w w4 := (Turns.of_below b1).grown hgr (fun k hk => .inl hk)
  have hsz : (w.alloc (.cells #[.slice x l c] 22)).heap.size = w.heap.size + 1 := by simp
  have hR2 : ∀ g, (Value.slice x' (m + 1) c').ownBlock = some g → R.ownBlock = some g ∨ w.heap.size ≤ g := fun g hg => by
    rcases hR' g hg with e | e
    · exact .inl e
    · right; omega
  have hrow : rowOf (slV A ln C) m ++ [.slice x l c] = rowOf (slV (ext A m x) (ext ln m l) (ext C m c)) (m + 1) := by
    rw [rowOf_succ]
    congr 1
    · exact rowOf_congr fun i hi => by unfold slV; rw [ext_old _ _ _ hi, ext_old _ _ _ hi, ext_old _ _ _ hi]
    · unfold slV
      rw [ext_new, ext_new, ext_new]
  refine ⟨x', c', w4, hap, ⟨by rw [← hrow]; exact ho, fun g hg => ?_, fun i hi => ?_, fun i hi ad ha => ?_⟩, T4, hR2⟩
  · rcases hR2 g hg with e | e
    · exact h.ob g e
    · omega
  · by_cases e : i < m
    · rw [ext_old _ _ _ e, ext_old _ _ _ e, ext_old _ _ _ e, ext_old _ _ _ e]
      exact (h.elt i e).turns T4 (h.far i e)
    · obtain rfl : i = m := by omega
      rw [ext_new, ext_new, ext_new, ext_new]
      exact k.turns T4 hx
  · have hne : R.ownBlock ≠ some ad.block ∧ ad.block < w.heap.size := by
      by_cases e : i < m
      · rw [ext_old _ _ _ e] at ha
        exact ⟨h.far i e ad ha, (h.elt i e).old ad ha⟩
      · obtain rfl : i = m := by omega
        rw [ext_new] at ha
        exact ⟨hx ad ha, k.old ad ha⟩
    intro hg
    rcases hR2 _ hg with e | e
    · exact hne.1 e
    · omega

end

/- A list from a place on, in any world. -/
theorem cut_any (g o m c d : Nat) (h1 : d ≤ m) (h2 : m ≤ c) :
    ∃ x, (∀ v, (Instr.slice 22 (.slice (some ⟨g, o, none⟩) m c) (some (.int .i64 (d : Int))) none none).run Tryz.prog v = .ok (.slice x (m - d) (c - d)) v) ∧ (x ≠ none) ∧ ∀ w f, RowAt w (some ⟨g, o, none⟩) m f → RowAt w x (m - d) (fun i => f (d + i)) := by
  by_cases h3 : d < c
  · exact ⟨_, fun v => cut_row g o m c d v h1 h3, (fun h => by cases h), fun w f h => row_drop (m := d) (by rw [show d + (m - d) = m by omega]; exact h)⟩
  · obtain rfl : d = c := by omega
    refine ⟨some ⟨g, o, none⟩, fun v => ?_, (fun h => by cases h), fun w f h => .inl (by omega)⟩
    rw [run_slice_l v 22 _ _ _ elem_row .i64 (d : Int) (by omega) (by omega), elem_is, size_byte]
    simp only [Result.andThen, sliced, Int.toNat_natCast, Nat.mul_one, Option.map]
    simp

end Go.Proofs.YtbbjklenpgkooaaGreat

/-
  What the inner greatestGen of package journal does: a contract over plain numbers ('JoPlain').
  Conditions: the sectors lie in memory, one behind the other.
-/
namespace Go.Proofs.YtbbjklenpgkooaaGreat
open Go.RowKit By Dk Su Jo
set_option linter.unusedVariables false
set_option linter.unusedSimpArgs false
set_option maxRecDepth 100000

/- The greatest generation. -/
structure Top (ok : (Nat → Nat) → Prop) (S : Nat → Nat → Nat) (n G : Nat) : Prop where
  le : ∀ k, k < n → ok (S k) → genS (S k) ≤ G
  is : G = 0 ∨ ∃ k, k < n ∧ ok (S k) ∧ genS (S k) = G

theorem Top.zero (ok : (Nat → Nat) → Prop) (S : Nat → Nat → Nat) : Top ok S 0 0 := ⟨fun k hk => by omega, .inl rfl⟩

theorem Top.no {ok : (Nat → Nat) → Prop} {S : Nat → Nat → Nat} {n G : Nat} (h : Top ok S n G) (hn : ok (S n) → genS (S n) ≤ G) : Top ok S (n + 1) G := by
  refine ⟨fun k hk ho => ?_, ?_⟩
  · by_cases e : k = n
    · subst e; exact hn ho
    · exact h.le k (by omega) ho
  · rcases h.is with e | ⟨k, h1, h2, h3⟩
    · exact .inl e
    · exact .inr ⟨k, by omega, h2, h3⟩

theorem Top.yes {ok : (Nat → Nat) → Prop} {S : Nat → Nat → Nat} {n G : Nat} (h : Top ok S n G) (ho : ok (S n)) (hG : G ≤ genS (S n)) : Top ok S (n + 1) (genS (S n)) := by
  refine ⟨fun k hk hk2 => ?_, .inr ⟨n, by omega, ho, rfl⟩⟩
  by_cases e : k = n
  · subst e; exact Nat.le_refl _
  · have := h.le k (by omega) hk2
    omega

theorem Top.congr {ok ok' : (Nat → Nat) → Prop} {S : Nat → Nat → Nat} {n G : Nat} (h : Top ok S n G) (e : ∀ k, k < n → (ok (S k) ↔ ok' (S k))) : Top ok' S n G :=
  ⟨fun k hk ho => h.le k hk ((e k hk).2 ho), h.is.imp id fun ⟨k, h1, h2, h3⟩ => ⟨k, h1, (e k h1).1 h2, h3⟩⟩

theorem Top.uniq {ok : (Nat → Nat) → Prop} {S : Nat → Nat → Nat} {n G G' : Nat} (h : Top ok S n G) (k : Top ok S n G') : G = G' := by
  have h1 : G ≤ G' := by
    rcases h.is with e | ⟨j, a, b, c⟩
    · omega
    · rw [← c]; exact k.le j a b
  have h2 : G' ≤ G := by
    rcases k.is with e | ⟨j, a, b, c⟩
    · omega
    · rw [← c]; exact h.le j a b
  omega

theorem vs_lt {f : Nat → Nat} (h : ∀ i, f i < 256) (k j : Nat) : vs f k j < 256 := cut_lt (fun i => h _) j

theorem gen_lt {s : Nat → Nat} (h : ∀ i, s i < 256) : genS s < 65536 := by
  have := h 1
  have := h 2
  unfold genS
  omega

/- The sectors from one on, as a list of bytes. -/
structure Rest (w : World) (x : Option Addr) (l c n k : Nat) (F : Nat → Nat) : Prop where
  len : l = 64 * (n - k)
  le : l ≤ c
  row : RowAt w x l (fun i => F (64 * k + i))

theorem Rest.here {w : World} {x : Option Addr} {l c n k : Nat} {F : Nat → Nat} (h : Rest w x l c n k F) (hk : k < n) :
    ∃ b o, x = some ⟨b, o, none⟩ ∧ 64 ≤ l ∧ RowAt w (some ⟨b, o, none⟩) 64 (vs F k) ∧ ∃ x', (∀ v, (Instr.slice 22 (.slice (some ⟨b, o, none⟩) l c) (some (.int .i64 64)) none none).run Tryz.prog v = .ok (.slice x' (l - 64) (c - 64)) v) ∧ ∀ v, RowAt v (some ⟨b, o, none⟩) l (fun i => F (64 * k + i)) → Rest v x' (l - 64) (c - 64) n (k + 1) F := by
  have hl := h.len
  have hc := h.le
  have h64 : 64 ≤ l := by omega
  have hr := h.row
  rcases hr with h0 | ⟨b, o, rfl, h1, h2⟩
  · omega
  · obtain ⟨x', e1, _, e2⟩ := cut_any b o l c 64 h64 hc
    refine ⟨b, o, rfl, h64, ?_, x', e1, fun v hv => ⟨by omega, by omega, (e2 v _ hv).congr fun i hi => by congr 1; omega⟩⟩
    exact (h.row.take h64).congr fun i hi => by unfold vs cut sec; rw [if_pos hi]

theorem Rest.below {w w' : World} {x : Option Addr} {l c n k : Nat} {F : Nat → Nat} (h : Rest w x l c n k F) (t : Below w.heap.size w w') : Rest w' x l c n k F := ⟨h.len, h.le, h.row.below t⟩

def slLen : Value → Nat
  | .slice _ l _ => l
  | _ => 0

set_option maxHeartbeats 1000000 in
theorem greatest_any (n c l : Nat) (x : Option Addr) (F : Nat → Nat) (w : World) (hF : ∀ i, F i < 256) (hn : n ≤ 4096) (h : Rest w x l c n 0 F) :
    Calls Tryz.prog 60 #[.slice x l c] w fun e w' => ∃ G : Nat, e = .returned (.int .i64 (G : Int)) ∧ Below w.heap.size w w' ∧ Top OkP (vs F) n G ∧ G < 65536 := by
  have H0 := hid h
  clear h
  go_enter Tryz.func60, Tryz.ntmps60
  go_wp2_with fail
  go_loopw [0, 3] (fun s g wr => ∃ (k : Nat) (x : Option Addr) (l c G : Nat), k ≤ n ∧ G < 65536 ∧ s = .slice x l c ∧ g = .int .i64 G ∧ Hid (Rest wr x l c n k F ∧ Top OkP (vs F) k G ∧ Below w.heap.size w wr)) (fun s _ _ => slLen s)
  case atStart => exact ⟨0, x, l, c, 0, by omega, by omega, rfl, rfl, H0.out, Top.zero _ _, Below.refl _ _⟩
  case round =>
    clear H0
    obtain ⟨k, x, l, c, G, hk, hG, rfl, rfl, HR⟩ := hrel
    obtain ⟨hrest, htop, hbel⟩ := HR.out
    by_cases hlt : k < n
    · obtain ⟨b, o, rfl, h64, hrow, x', hcut, hnext⟩ := hrest.here hlt
      have hlc := hrest.le
      have hl0 : (0 : Int) < (l : Int) := by omega
      have hc64 : 64 ≤ c := by omega
      have hkeep : ∀ v, Below wr.heap.size wr v → Hid (Rest v x' (l - 64) (c - 64) n (k + 1) F) := fun v hv => hnext v (hrest.row.below hv)
      have HB := hid hbel
      by_cases hok : OkP (vs F k)
      · have hp := partof_yes b o c (vs F k) wr (vs_lt hF k) hc64 hrow hok
        have hgl := gen_lt (vs_lt hF k)
        have HT1 : G ≤ genS (vs F k) → Hid (Top OkP (vs F) (k + 1) (genS (vs F k))) := fun e => htop.yes hok e
        have HT2 : genS (vs F k) ≤ G → Hid (Top OkP (vs F) (k + 1) G) := fun e => htop.no fun _ => e
        clear hrest htop hbel HR hnext hrow hok
        generalize genS (vs F k) = g at *
        generalize num (vs F k) = N at *
        generalize vs F k 7 = P at *
        generalize lst (vs F k) = L at *
        generalize cnt (vs F k) = M at *
        have HT : Hid (Top OkP (vs F) (k + 1) (if G < g then g else G)) := by
          by_cases e : G < g
          · rw [if_pos e]; exact HT1 (by omega)
          · rw [if_neg e]; exact HT2 (by omega)
        have hG2 : (if G < g then g else G) < 65536 := by split <;> omega
        have hv : (if G < g then (g : Int) else (G : Int)) = ((if G < g then g else G : Nat) : Int) := by split <;> rfl
        have HE := hid (And.intro hG2 hv)
        clear HT1 HT2 hG2 hv
        go_wp2_with (first
          | (go_at_call 80; refine hp.mono ?_; rintro e w1 ⟨y, cy, rfl, hb1, _⟩; clear hp))
        have hb2 : Below wr.heap.size wr (w1.alloc (.cells #[.int .i64 (g : Int), .int .u32 (N : Int), .int .i64 (P : Int), .bool L, .slice (some ⟨y, 9, none⟩) M cy] 122)) := hb1.alloc hb1.size _
        first
          | exact ⟨⟨k + 1, x', l - 64, c - 64, _, hlt, HE.out.1, rfl, by rw [HE.out.2], hkeep _ hb2, HT.out, HB.out.trans (hb2.mono HB.out.size)⟩, by simp only [slLen]; omega⟩
          | (go_roundw
             case rel => exact ⟨k + 1, x', l - 64, c - 64, _, hlt, HE.out.1, rfl, by rw [HE.out.2], hkeep _ hb2, HT.out, HB.out.trans (hb2.mono HB.out.size)⟩
             case measure => simp only [slLen]; omega)
      · have hp := partof_no b o c (vs F k) wr (vs_lt hF k) hc64 hrow hok
        have HT : Hid (Top OkP (vs F) (k + 1) G) := htop.no fun h => absurd h hok
        clear hrest htop hbel HR hnext hrow hok
        unfold noPart at hp
        go_wp2_with (first
          | (go_at_call 80; refine hp.mono ?_; rintro e w1 ⟨rfl, hb1⟩; clear hp))
        have hb2 : Below wr.heap.size wr (w1.alloc (.cells #[.int .i64 0, .int .u32 0, .int .i64 0, .bool false, .slice none 0 0] 122)) := hb1.alloc hb1.size _
        first
          | exact ⟨⟨k + 1, x', l - 64, c - 64, G, hlt, hG, rfl, rfl, hkeep _ hb2, HT.out, HB.out.trans (hb2.mono HB.out.size)⟩, by simp only [slLen]; omega⟩
          | (go_roundw
             case rel => exact ⟨k + 1, x', l - 64, c - 64, G, hlt, hG, rfl, rfl, hkeep _ hb2, HT.out, HB.out.trans (hb2.mono HB.out.size)⟩
             case measure => simp only [slLen]; omega)
    · obtain rfl : k = n := by omega
      have hl0 : l = 0 := by have := hrest.len; omega
      have HT := hid htop
      have HB := hid hbel
      clear hrest htop hbel HR
      subst hl0
      go_wp2_with fail
      go_ret
      exact ⟨G, rfl, HB.out, HT.out, hG⟩

end Go.Proofs.YtbbjklenpgkooaaGreat

/-
  What the inner readRecord of package journal does: a contract over plain numbers ('JoPlain').
  Conditions: the sectors lie in memory, one behind the other.
-/
namespace Go.Proofs.YtbbjklenpgkooaaGreat
open Go.RowKit By Dk Su Jo
set_option linter.unusedVariables false
set_option linter.unusedSimpArgs false
set_option maxRecDepth 100000

theorem own_elt {w : World} {x : Option Addr} {n c : Nat} {f : Nat → Nat} (h : w.ownsRow 0 5 1 (.slice x n c) n (bytesOf f n)) (hf : ∀ i, f i < 256) (hn : n ≤ 140737488351232) : Elt w x n c f := by
  obtain ⟨x', c', e, h1, h2, h3⟩ := ownsRow_form h
  injection e with e1 _ e3
  subst e1 e3
  refine ⟨?_, h2, h1, hn, hf, fun ad e => ?_⟩
  · rcases h3 with h3 | ⟨g, rfl, hc⟩
    · exact .inl h3
    · exact .inr ⟨g, 0, rfl, (h.lt g rfl).2, fun i hi => hc i _ (bytesOf_get f n i hi)⟩
  · subst e
    exact (h.lt ad.block rfl).2

/- Bytes behind those that an object's third cell holds. -/
theorem rec_push (v : World) (Q n : Nat) (G K R : Value) (f : Nat → Nat) (hQ : Blk v Q 136 3 (obj3 G K R)) (hown : v.ownsRow 0 5 1 R n (bytesOf f n)) (x : Option Addr) (m c : Nat) (g : Nat → Nat) (hnil : x = none → m = 0 ∧ c = 0) (hg : RowAt v x m g) (hs : n + m ≤ 140737488355328) :
    ∃ x' c' v', (Builtin.append_ #[22, 22] 22 #[R, .slice x m c]).run Tryz.prog v = .ok (.slice x' (n + m) c') v' ∧ Blk v' Q 136 3 (obj3 G K R) ∧
      Blk (v'.setCell ⟨Q, 2, none⟩ (.slice x' (n + m) c')) Q 136 3 (obj3 G K (.slice x' (n + m) c')) ∧ (v'.setCell ⟨Q, 2, none⟩ (.slice x' (n + m) c')).ownsRow 0 5 1 (.slice x' (n + m) c') (n + m) (bytesOf (cat2 f n g) (n + m)) ∧
      Turns (fun k => R.ownBlock = some k) v v' ∧ Turns (fun k => k = Q ∨ R.ownBlock = some k) v (v'.setCell ⟨Q, 2, none⟩ (.slice x' (n + m) c')) ∧ (∀ k, (Value.slice x' (n + m) c').ownBlock = some k → R.ownBlock = some k ∨ v.heap.size ≤ k) := by
  obtain ⟨R', v', hr, ho, hgr, hR'⟩ := push_bytes v R n f hown x m c g hnil hg hs
  obtain ⟨x', c', hRe, _⟩ := ownsRow_form ho
  subst hRe
  have hne : R.ownBlock ≠ some Q := ownsRow_ne hown hQ (by decide)
  have T1 : Turns (fun k => R.ownBlock = some k) v v' := (Turns.refl _ v).grown hgr (fun k hk => .inl hk)
  have hQ1 := T1.blk hQ hne
  have hne' : (Value.slice x' (n + m) c').ownBlock ≠ some Q := fun e => by
    rcases hR' _ e with h1 | h1
    · exact hne h1
    · have := hQ.lt
      omega
  refine ⟨x', c', v', hr, hQ1, (hQ1.set 2 _).congr fun k hk => ?_, ownsRow_same ho (fun k hk => Below.heap_setCell _ _ _ _ (fun e => hne' (by rw [hk, e]))), T1, (T1.weak (fun k hk => .inr hk)).setCell (p := ⟨Q, 2, none⟩) (.inl (.inl rfl)) _, hR'⟩
  unfold upd obj3
  by_cases e : k = 2
  · simp [e]
  · have : k = 0 ∨ k = 1 := by omega
    rcases this with rfl | rfl <;> simp

def gAt (S : Nat → Nat → Nat) (a k : Nat) : Nat := if k = 0 then 0 else genS (S a)

structure RSt (w wr : World) (S : Nat → Nat → Nat) (a r k : Nat) (R : Value) : Prop where
  bel : Below w.heap.size w wr
  res : Blk wr w.heap.size 136 3 (obj3 (.int .i64 0) (.int .i64 0) (.slice none 0 0))
  rec_ : Blk wr (w.heap.size + 1) 136 3 (obj3 (.int .i64 (gAt S a k : Int)) (.int .i64 (k : Int)) R)
  own : wr.ownsRow 0 5 1 R (51 * k) (bytesOf (rbyte S a) (51 * k))
  ob : ∀ g, R.ownBlock = some g → w.heap.size ≤ g
  fit : ∀ j, j < k → OkP (S (a + j)) ∧ num (S (a + j)) = r ∧ S (a + j) 7 = j ∧ genS (S (a + j)) = genS (S a) ∧ lst (S (a + j)) = false

theorem RSt.no {w wr : World} {S : Nat → Nat → Nat} {a r k n : Nat} {R : Value} (h : RSt w wr S a r k R) (hb : ¬ (a + k < n ∧ OkP (S (a + k)) ∧ num (S (a + k)) = r ∧ S (a + k) 7 = k ∧ genS (S (a + k)) = genS (S a))) : ∀ c, ¬ Rec OkP S n a r c := fun c hc => by
  by_cases e : c ≤ k
  · have h1 := (h.fit (c - 1) (by have := hc.pos; omega)).2.2.2.2
    rw [hc.last] at h1
    cases h1
  · exact hb ⟨by have := hc.fits; omega, hc.ok k (by omega), hc.num k (by omega), hc.plc k (by omega), hc.gen k (by omega)⟩

theorem RSt.yes {w wr : World} {S : Nat → Nat → Nat} {a r k n : Nat} {R : Value} (h : RSt w wr S a r k R) (hk : a + k < n) (ho : OkP (S (a + k))) (h1 : num (S (a + k)) = r) (h2 : S (a + k) 7 = k) (h3 : genS (S (a + k)) = genS (S a)) (hl : lst (S (a + k)) = true) : Rec OkP S n a r (k + 1) :=
  ⟨by omega, by omega, fun j hj => by
      by_cases e : j = k
      · subst e; exact ho
      · exact (h.fit j (by omega)).1, fun j hj => by
      by_cases e : j = k
      · subst e; exact h1
      · exact (h.fit j (by omega)).2.1, fun j hj => by
      by_cases e : j = k
      · subst e; exact h2
      · exact (h.fit j (by omega)).2.2.1, fun j hj => by
      by_cases e : j = k
      · subst e; exact h3
      · exact (h.fit j (by omega)).2.2.2.1, fun j hj => (h.fit j (by omega)).2.2.2.2, hl⟩

theorem cat_rbyte (S : Nat → Nat → Nat) (a k M : Nat) (hM : M ≤ 51) : ∀ i, i < 51 * k + M → cat2 (rbyte S a) (51 * k) (fun i => S (a + k) (9 + i)) i = rbyte S a i := fun i hi => by
  unfold cat2 rbyte
  by_cases e : i < 51 * k
  · rw [if_pos e]
  · rw [if_neg e]
    by_cases e2 : i - 51 * k < 51
    · rw [show i / 51 = k by omega, show i % 51 = i - 51 * k by omega]
    · omega

theorem ok_cnt {s : Nat → Nat} (h : OkP s) : cnt s ≤ 51 ∧ (lst s = false → cnt s = 51) := by
  refine ⟨canB_le h.can, fun e => ?_⟩
  have := h.can
  unfold canB at this
  rw [e] at this
  simp at this
  exact this.1

theorem rst_start (w : World) (S : Nat → Nat → Nat) (a r : Nat) : RSt w ((w.alloc (.cells #[.int .i64 0, .int .i64 0, .slice none 0 0] 136)).alloc (.cells #[.int .i64 0, .int .i64 0, .slice none 0 0] 136)) S a r 0 (.slice none 0 0) := by
  have h1 : Blk (w.alloc (.cells #[.int .i64 0, .int .i64 0, .slice none 0 0] 136)) w.heap.size 136 3 (obj3 (.int .i64 0) (.int .i64 0) (.slice none 0 0)) := Blk.new _ _ _ _ _ rfl
  have e : (w.alloc (.cells #[.int .i64 0, .int .i64 0, .slice none 0 0] 136)).heap.size = w.heap.size + 1 := by simp
  have h2 := Blk.new (w.alloc (.cells #[.int .i64 0, .int .i64 0, .slice none 0 0] 136)) 136 3 (obj3 (.int .i64 0) (.int .i64 0) (.slice none 0 0)) #[.int .i64 0, .int .i64 0, .slice none 0 0] rfl
  rw [e] at h2
  exact ⟨((Below.refl _ _).alloc (Nat.le_refl _) _).alloc (by simp) _, h1.of_heap (heap_alloc_old _ _ h1.lt), h2, ⟨rfl, .inl ⟨rfl, rfl⟩⟩, (fun g hg => by cases hg), fun j hj => by omega⟩

/- One part more: what an append behind the record's bytes leaves. -/
def GoOn (w w1 v2 : World) (ob : Obj) (S : Nat → Nat → Nat) (a k g k1 y M cy : Nat) (R : Value) : Prop :=
    ∃ x' c' v3 LN, Hid (LN = 51 * k + M) ∧ (Builtin.append_ #[22, 22] 22 #[R, .slice (some ⟨y, 9, none⟩) M cy]).run Tryz.prog v2 = .ok (.slice x' LN c') v3 ∧
      (∀ j, v3.frozen? ⟨w.heap.size + 1, j, none⟩ = false) ∧ (∀ j, v3.frozen? ⟨w.heap.size, j, none⟩ = false) ∧
      (v3.cell? ⟨w.heap.size + 1, 0, none⟩ = some (.int .i64 (g : Int)) ∧ v3.cell? ⟨w.heap.size + 1, 1, none⟩ = some (.int .i64 (k1 : Int)) ∧ v3.cell? ⟨w.heap.size + 1, 2, none⟩ = some R) ∧
      (v3.cell? ⟨w.heap.size, 0, none⟩ = some (.int .i64 0) ∧ v3.cell? ⟨w.heap.size, 1, none⟩ = some (.int .i64 0) ∧ v3.cell? ⟨w.heap.size, 2, none⟩ = some (.slice none 0 0)) ∧
      (∀ u j, (w1.alloc ob).cell? ⟨w1.heap.size, j, none⟩ = some u → v3.cell? ⟨w1.heap.size, j, none⟩ = some u) ∧ w.heap.size + 1 < w1.heap.size ∧
      Hid (Below w.heap.size w (v3.setCell ⟨w.heap.size + 1, 2, none⟩ (.slice x' LN c')) ∧ Blk (v3.setCell ⟨w.heap.size + 1, 2, none⟩ (.slice x' LN c')) w.heap.size 136 3 (obj3 (.int .i64 0) (.int .i64 0) (.slice none 0 0)) ∧
        Blk (v3.setCell ⟨w.heap.size + 1, 2, none⟩ (.slice x' LN c')) (w.heap.size + 1) 136 3 (obj3 (.int .i64 (g : Int)) (.int .i64 (k1 : Int)) (.slice x' LN c')) ∧
        (v3.setCell ⟨w.heap.size + 1, 2, none⟩ (.slice x' LN c')).ownsRow 0 5 1 (.slice x' LN c') LN (bytesOf (rbyte S a) LN) ∧ (∀ g, (Value.slice x' LN c').ownBlock = some g → w.heap.size ≤ g))

theorem rst_go {w wr w1 v2 : World} {S : Nat → Nat → Nat} {a r k g k1 y M cy : Nat} {R : Value} {ob : Obj} (h : RSt w wr S a r k R) (b1 : Below wr.heap.size wr w1) (T2 : Turns (fun j => j = w.heap.size + 1) (w1.alloc ob) v2)
    (hQ : Blk v2 (w.heap.size + 1) 136 3 (obj3 (.int .i64 (g : Int)) (.int .i64 (k1 : Int)) R)) (hrow : RowAt v2 (some ⟨y, 9, none⟩) M (fun i => S (a + k) (9 + i))) (hM : M ≤ 51) (hk : k ≤ 4096) : GoOn w w1 v2 ob S a k g k1 y M cy R := by
  have hbo : Below wr.heap.size wr (w1.alloc ob) := b1.alloc b1.size _
  have hRlt : ∀ q, R.ownBlock = some q → q < wr.heap.size := fun q hq => (h.own.lt q hq).2
  have hRQ : R.ownBlock ≠ some (w.heap.size + 1) := ownsRow_ne h.own h.rec_ (by decide)
  have hRP : R.ownBlock ≠ some w.heap.size := ownsRow_ne h.own h.res (by decide)
  have hsz := b1.size
  have hQl := h.rec_.lt
  have hPl := h.res.lt
  have hown2 : v2.ownsRow 0 5 1 R (51 * k) (bytesOf (rbyte S a) (51 * k)) := ownsRow_same h.own fun q hq => (T2.block q (by have := hRlt q hq; simp; omega) (fun e => hRQ (by rw [hq, e]))).trans (hbo.block q (hRlt q hq))
  have hP2 : Blk v2 w.heap.size 136 3 (obj3 (.int .i64 0) (.int .i64 0) (.slice none 0 0)) := T2.blk (h.res.of_heap (hbo.block _ hPl)) (by omega)
  obtain ⟨x', c', v3, hr, hQ3, hQ4, ho4, T3, T4, hR'⟩ := rec_push v2 (w.heap.size + 1) (51 * k) _ _ R _ hQ hown2 (some ⟨y, 9, none⟩) M cy _ (fun h => by cases h) hrow (by omega)
  have hP3 := T3.blk hP2 hRP
  have hs2 : w1.heap.size < v2.heap.size := by have := T2.size; simp at this; omega
  have hR2 : ∀ q, (Value.slice x' (51 * k + M) c').ownBlock = some q → w.heap.size ≤ q := fun q hq => by
    rcases hR' q hq with e | e
    · exact h.ob q e
    · have := h.bel.size
      omega
  have hb2 : Below w.heap.size w v2 := (h.bel.trans (hbo.mono h.bel.size)).trans (T2.below (fun q hq => by omega) (by have := h.bel.size; simp; omega))
  refine ⟨x', c', v3, 51 * k + M, rfl, hr, hQ3.frozen, hP3.frozen, ⟨hQ3.cell (k := 0) (by omega), hQ3.cell (k := 1) (by omega), hQ3.cell (k := 2) (by omega)⟩, ⟨hP3.cell (k := 0) (by omega), hP3.cell (k := 1) (by omega), hP3.cell (k := 2) (by omega)⟩, fun u j hu => ?_, by omega, hb2.trans (T4.below (fun q hq => ?_) hb2.size), ?_, hQ4, ?_, hR2⟩
  · have e1 := T3.block w1.heap.size hs2 (fun e => by have := hRlt _ e; omega)
    have e2 := T2.block w1.heap.size (by simp) (by omega)
    rw [World.cell?_of_block (a := ⟨w1.heap.size, j, none⟩) e1, World.cell?_of_block (a := ⟨w1.heap.size, j, none⟩) e2]
    exact hu
  · rcases hq with e | e
    · omega
    · exact h.ob q e
  · exact hP3.of_heap (Below.heap_setCell _ _ _ _ (by simp))
  · rw [bytesOf_congr (fun i hi => (cat_rbyte S a k M hM i hi).symm)]
    exact ho4

theorem rst_done {w v : World} {x : Option Addr} {n c : Nat} {f : Nat → Nat} {p0 p1 p2 a0 a1 a2 : Value} (z1 : Below w.heap.size w v) (z2 : Blk v w.heap.size 136 3 (obj3 p0 p1 p2)) (z4 : v.ownsRow 0 5 1 (.slice x n c) n (bytesOf f n)) (hf : ∀ i, f i < 256) (hn : n ≤ 140737488351232) :
    Below w.heap.size w (((v.setCell ⟨w.heap.size, 0, none⟩ a0).setCell ⟨w.heap.size, 1, none⟩ a1).setCell ⟨w.heap.size, 2, none⟩ a2) ∧ Elt (((v.setCell ⟨w.heap.size, 0, none⟩ a0).setCell ⟨w.heap.size, 1, none⟩ a1).setCell ⟨w.heap.size, 2, none⟩ a2) x n c f := by
  have hne := ownsRow_ne z4 z2 (by decide)
  refine ⟨((z1.setCell (p := ⟨w.heap.size, 0, none⟩) (Nat.le_refl _) _).setCell (p := ⟨w.heap.size, 1, none⟩) (Nat.le_refl _) _).setCell (p := ⟨w.heap.size, 2, none⟩) (Nat.le_refl _) _, (own_elt z4 hf hn).turns (G := fun j => j = w.heap.size) ((((Turns.refl (fun j => j = w.heap.size) v).setCell (p := ⟨w.heap.size, 0, none⟩) (.inl rfl) _).setCell (p := ⟨w.heap.size, 1, none⟩) (.inl rfl) _).setCell (p := ⟨w.heap.size, 2, none⟩) (.inl rfl) _) (fun ad e h => hne (by rw [e]; exact congrArg some h))⟩

theorem rst_next {w wr v : World} {S : Nat → Nat → Nat} {a r k k1 g M LN : Nat} {R R' : Value} (h : RSt w wr S a r k R) (hk1 : k1 = k + 1) (hg : g = genS (S a)) (hM : M = 51) (hLN : LN = 51 * k + M)
    (z : Below w.heap.size w v ∧ Blk v w.heap.size 136 3 (obj3 (.int .i64 0) (.int .i64 0) (.slice none 0 0)) ∧ Blk v (w.heap.size + 1) 136 3 (obj3 (.int .i64 (g : Int)) (.int .i64 (k1 : Int)) R') ∧ v.ownsRow 0 5 1 R' LN (bytesOf (rbyte S a) LN) ∧ (∀ g, R'.ownBlock = some g → w.heap.size ≤ g))
    (hf : ∀ j, j < k + 1 → OkP (S (a + j)) ∧ num (S (a + j)) = r ∧ S (a + j) 7 = j ∧ genS (S (a + j)) = genS (S a) ∧ lst (S (a + j)) = false) : RSt w v S a r k1 R' := by
  obtain ⟨z1, z2, z3, z4, z5⟩ := z
  subst hk1 hg hM
  have e : LN = 51 * (k + 1) := by omega
  subst e
  exact ⟨z1, z2, by unfold gAt; rw [if_neg (by omega)]; exact z3, z4, z5, hf⟩

theorem row_off {w : World} {y M q j : Nat} {f : Nat → Nat} {v : Value} (h : RowAt w (some ⟨y, 9, none⟩) M f) (hj : j < 9) : RowAt (w.setCell ⟨q, j, none⟩ v) (some ⟨y, 9, none⟩) M f := by
  rcases h with h0 | ⟨b', o', e1, e2, e3⟩
  · exact .inl h0
  · injection e1 with e1
    injection e1 with e1 e4 _
    subst e1 e4
    exact .inr ⟨_, _, rfl, by simpa [World.setCell] using e2, fun i hi => (cell_off (fun e => by injection e with _ e _; omega)).trans (e3 i hi)⟩

theorem rst_zero {w wr w1 : World} {S : Nat → Nat → Nat} {a r g k1 y M : Nat} {R : Value} (cy : Nat) (ob : Obj) (h : RSt w wr S a r 0 R) (b1 : Below wr.heap.size wr w1) (hrow : RowAt w1 (some ⟨y, 9, none⟩) M (fun i => S (a + 0) (9 + i))) (hM : M ≤ 51) :
    GoOn w w1 (((w1.alloc ob).setCell ⟨w.heap.size + 1, 0, none⟩ (.int .i64 (g : Int))).setCell ⟨w.heap.size + 1, 1, none⟩ (.int .i64 (k1 : Int))) ob S a 0 g k1 y M cy R := by
  have hbo : Below wr.heap.size wr (w1.alloc ob) := b1.alloc b1.size _
  refine rst_go h b1 (((Turns.refl (fun j => j = w.heap.size + 1) _).setCell (p := ⟨w.heap.size + 1, 0, none⟩) (.inl rfl) _).setCell (p := ⟨w.heap.size + 1, 1, none⟩) (.inl rfl) _) ((((h.rec_.of_heap (hbo.block _ h.rec_.lt)).set 0 _).set 1 _).congr fun j hj => ?_) (row_off (row_off (hrow.below ((Below.refl _ _).alloc (Nat.le_refl _) ob)) (by omega)) (by omega)) hM (by omega)
  unfold upd obj3
  have : j = 0 ∨ j = 1 ∨ j = 2 := by omega
  rcases this with rfl | rfl | rfl <;> simp

theorem rst_more {w wr w1 : World} {S : Nat → Nat → Nat} {a r k k1 y M : Nat} {R : Value} (cy : Nat) (ob : Obj) (h : RSt w wr S a r k R) (hk0 : k ≠ 0) (hk : k ≤ 4096) (b1 : Below wr.heap.size wr w1) (hrow : RowAt w1 (some ⟨y, 9, none⟩) M (fun i => S (a + k) (9 + i))) (hM : M ≤ 51) :
    GoOn w w1 ((w1.alloc ob).setCell ⟨w.heap.size + 1, 1, none⟩ (.int .i64 (k1 : Int))) ob S a k (genS (S a)) k1 y M cy R := by
  have hbo : Below wr.heap.size wr (w1.alloc ob) := b1.alloc b1.size _
  refine rst_go h b1 ((Turns.refl (fun j => j = w.heap.size + 1) _).setCell (p := ⟨w.heap.size + 1, 1, none⟩) (.inl rfl) _) (((h.rec_.of_heap (hbo.block _ h.rec_.lt)).set 1 _).congr fun j hj => ?_) (row_off (hrow.below ((Below.refl _ _).alloc (Nat.le_refl _) ob)) (by omega)) hM hk
  unfold upd obj3
  have : j = 0 ∨ j = 1 ∨ j = 2 := by omega
  rcases this with rfl | rfl | rfl <;> simp [gAt, hk0]

theorem below_three {B p : Nat} {w w1 : World} (h : Below B w w1) (hp : B ≤ p) (v0 v1 v2 : Value) : Below B w (((w1.setCell ⟨p, 0, none⟩ v0).setCell ⟨p, 1, none⟩ v1).setCell ⟨p, 2, none⟩ v2) :=
  ((h.setCell (p := ⟨p, 0, none⟩) hp _).setCell (p := ⟨p, 1, none⟩) hp _).setCell (p := ⟨p, 2, none⟩) hp _

set_option maxHeartbeats 1500000 in
set_option maxRecDepth 100000 in
theorem readrec_any (n a c l r : Nat) (x : Option Addr) (F : Nat → Nat) (w : World) (hF : ∀ i, F i < 256) (hn : n ≤ 4096) (ha : a ≤ n) (hr : r < 4294967296) (h : Rest w x l c n a F) :
    Calls Tryz.prog 81 #[.slice x l c, .int .u32 (r : Int)] w fun e w' => Below w.heap.size w w' ∧
      ((∃ cc y cy, Rec OkP (vs F) n a r cc ∧ e = .returned (.tuple #[.agg #[.int .i64 (genS (vs F a) : Int), .int .i64 (cc : Int), .slice y (rlen (vs F) a cc) cy], .bool true]) ∧ Elt w' y (rlen (vs F) a cc) cy (rbyte (vs F) a) ∧ ∀ ad, y = some ad → w.heap.size ≤ ad.block) ∨
       ((∀ cc, ¬ Rec OkP (vs F) n a r cc) ∧ e = .returned (.tuple #[.agg #[.int .i64 0, .int .i64 0, .slice none 0 0], .bool false]))) := by
  have H0 := hid h
  clear h
  go_enter Tryz.func81, Tryz.ntmps81
  go_wp2_with fail
  go_loopw [0] (fun s wr => ∃ (k : Nat) (x : Option Addr) (l c : Nat) (R : Value), a + k ≤ n ∧ s = .slice x l c ∧ Hid (Rest w x l c n (a + k) F ∧ RSt w wr (vs F) a r k R)) (fun s _ => slLen s)
  case atStart => exact ⟨0, x, l, c, _, ha, rfl, H0.out, rst_start w (vs F) a r⟩
  case round =>
    clear H0
    obtain ⟨k, x, l, c, R, hk, rfl, HR⟩ := hrel
    obtain ⟨hrest, hst⟩ := HR.out
    have HS := hid hst
    have hfac : ∀ v, Below wr.heap.size wr v → (∀ ob, (v.alloc ob).cell? ⟨w.heap.size + 1, 0, none⟩ = some (.int .i64 (gAt (vs F) a k : Int)) ∧ (v.alloc ob).cell? ⟨w.heap.size + 1, 1, none⟩ = some (.int .i64 (k : Int)) ∧ (v.alloc ob).cell? ⟨w.heap.size + 1, 2, none⟩ = some R ∧
        (v.alloc ob).frozen? ⟨w.heap.size + 1, 0, none⟩ = false ∧ (v.alloc ob).frozen? ⟨w.heap.size + 1, 1, none⟩ = false ∧ (v.alloc ob).frozen? ⟨w.heap.size + 1, 2, none⟩ = false) ∧
        (∀ ob, (v.alloc ob).cell? ⟨w.heap.size, 0, none⟩ = some (.int .i64 0) ∧ (v.alloc ob).cell? ⟨w.heap.size, 1, none⟩ = some (.int .i64 0) ∧ (v.alloc ob).cell? ⟨w.heap.size, 2, none⟩ = some (.slice none 0 0) ∧
        (v.alloc ob).frozen? ⟨w.heap.size, 0, none⟩ = false ∧ (v.alloc ob).frozen? ⟨w.heap.size, 1, none⟩ = false ∧ (v.alloc ob).frozen? ⟨w.heap.size, 2, none⟩ = false) ∧ Below w.heap.size w v := fun v hv => by
      have e : ∀ ob, Below wr.heap.size wr (v.alloc ob) := fun ob => hv.alloc hv.size _
      have q := fun ob => hst.rec_.of_heap ((e ob).block _ hst.rec_.lt)
      have p := fun ob => hst.res.of_heap ((e ob).block _ hst.res.lt)
      exact ⟨fun ob => ⟨(q ob).cell (k := 0) (by omega), (q ob).cell (k := 1) (by omega), (q ob).cell (k := 2) (by omega), (q ob).frozen 0, (q ob).frozen 1, (q ob).frozen 2⟩, fun ob => ⟨(p ob).cell (k := 0) (by omega), (p ob).cell (k := 1) (by omega), (p ob).cell (k := 2) (by omega), (p ob).frozen 0, (p ob).frozen 1, (p ob).frozen 2⟩, hst.bel.trans (hv.mono hst.bel.size)⟩
    by_cases hlt : a + k < n
    · obtain ⟨b, o, rfl, h64, hrow0, x', hcut, hnext⟩ := hrest.here hlt
      have hlc := hrest.le
      have hl0 : (0 : Int) < (l : Int) := by omega
      have hc64 : 64 ≤ c := by omega
      have hrow := hrow0.below (hst.bel)
      have HN : Hid (Rest w x' (l - 64) (c - 64) n (a + k + 1) F) := hnext w hrest.row
      by_cases hok : OkP (vs F (a + k))
      · have hp := partof_yes b o c (vs F (a + k)) wr (vs_lt hF _) hc64 hrow hok
        have hgl := gen_lt (vs_lt hF (a + k))
        have hPl := vs_lt hF (a + k) 7
        by_cases hfit : num (vs F (a + k)) = r ∧ vs F (a + k) 7 = k ∧ genS (vs F (a + k)) = genS (vs F a)
        · obtain ⟨e1, e2, e3⟩ := hfit
          have hcn := ok_cnt hok
          have hM5 : cnt (vs F (a + k)) ≤ 51 := hcn.1
          have HYES : lst (vs F (a + k)) = true → Hid (Rec OkP (vs F) n a r (k + 1)) := fun e => hst.yes hlt hok e1 e2 e3 e
          have HFIT : lst (vs F (a + k)) = false → Hid (∀ j, j < k + 1 → OkP (vs F (a + j)) ∧ num (vs F (a + j)) = r ∧ vs F (a + j) 7 = j ∧ genS (vs F (a + j)) = genS (vs F a) ∧ lst (vs F (a + j)) = false) := fun e j hj => by
            by_cases ej : j = k
            · subst ej; exact ⟨hok, e1, e2, e3, e⟩
            · exact hst.fit j (by omega)
          have HM : Hid (rlen (vs F) a (k + 1) = 51 * k + cnt (vs F (a + k))) := rfl
          have HM2 := hid hcn.2
          have HF2 := hid (vs_lt hF)
          rw [e1, e2, e3] at hp
          rw [e3] at hgl
          obtain ⟨k1, hk1⟩ : ∃ k1, k1 = k + 1 := ⟨_, rfl⟩
          have HK1 := hid hk1
          have hk1' : (k : Int) + 1 = (k1 : Int) := by omega
          have hk4 : k ≤ 4096 := by omega
          obtain ⟨g, hg⟩ : ∃ g, g = genS (vs F a) := ⟨_, rfl⟩
          have HG := hid hg
          rw [← hg] at hp hgl
          clear hg
          clear hrest hnext hrow hrow0 hok hcn HR hst hk1 e1 e2 e3
          cases hL : lst (vs F (a + k)) with
          | true =>
            rw [hL] at hp
            have HREC := HYES hL
            clear HYES HFIT hL
            by_cases hk0 : k = 0
            · subst hk0
              have hk1' : (0 : Int) + 1 = (k1 : Int) := hk1'
              have hfac0 : ∀ v, Below wr.heap.size wr v → (∀ ob, (v.alloc ob).cell? ⟨w.heap.size + 1, 0, none⟩ = some (.int .i64 0) ∧ (v.alloc ob).cell? ⟨w.heap.size + 1, 1, none⟩ = some (.int .i64 0) ∧ (v.alloc ob).cell? ⟨w.heap.size + 1, 2, none⟩ = some R ∧
    (v.alloc ob).frozen? ⟨w.heap.size + 1, 0, none⟩ = false ∧ (v.alloc ob).frozen? ⟨w.heap.size + 1, 1, none⟩ = false ∧ (v.alloc ob).frozen? ⟨w.heap.size + 1, 2, none⟩ = false) := fun v hv => (hfac v hv).1
              have hprep := fun (w1 : World) (y cy : Nat) (ob : Obj) b1 hr => rst_zero (w1 := w1) (g := g) (k1 := k1) (y := y) (M := cnt (vs F (a + 0))) cy ob HS.out b1 hr hM5
              generalize cnt (vs F (a + 0)) = M at *
              go_wp2_with (first
                | (go_at_call 80; refine hp.mono ?_; rintro e w1 ⟨y, cy, rfl, hb1, hr1, _⟩; clear hp
                   obtain ⟨xA, cA, v3, LN, HLN, hap, fq, fp, ⟨r0, r1, r2⟩, ⟨p0, p1, p2⟩, hL3, hne, HV⟩ := hprep w1 y cy (.cells #[.int .i64 (g : Int), .int .u32 (r : Int), .int .i64 0, .bool true, .slice (some ⟨y, 9, none⟩) M cy] 122) hb1 hr1
                   obtain ⟨q0, q1, q2, g0, g1, g2⟩ := hfac0 w1 hb1 (.cells #[.int .i64 (g : Int), .int .u32 (r : Int), .int .i64 0, .bool true, .slice (some ⟨y, 9, none⟩) M cy] 122)
                   have fq2 := fq 2
                   have fp0 := fp 0
                   have fp1 := fp 1
                   have fp2 := fp 2
                   have hl3 := hL3 (.bool true) 3 (by simp)
                   have hne1 : w1.heap.size ≠ w.heap.size + 1 := by omega
                   have hne2 : w.heap.size + 1 ≠ w1.heap.size := by omega
                   have HB1 := hid hb1
                   clear hprep hfac hfac0 hb1 hr1 fq fp hL3 hne)
                | (at_builtin; refine wpList_append_run rfl _ _ 22 rfl _ _ rfl rfl hap ?_; clear hap))
              refine bodyPost_ret (v := .tuple #[.agg #[.int .i64 (g : Int), .int .i64 (k1 : Int), .slice xA LN cA], .bool true]) ?_ rfl ?_
              · rw [results_cell_tmp rfl]; go_simp
              · have hlen : rlen (vs F) a k1 = LN := by rw [HK1.out, HM.out, HLN.out]
                obtain ⟨d1, d2⟩ := rst_done (a0 := .int .i64 (g : Int)) (a1 := .int .i64 (k1 : Int)) (a2 := .slice xA LN cA) HV.out.1 HV.out.2.1 HV.out.2.2.2.1 (fun i => HF2.out _ _) (by have := HLN.out; omega)
                refine ⟨d1, .inl ⟨k1, xA, cA, by rw [HK1.out]; exact HREC.out, by rw [hlen, ← HG.out], by rw [hlen]; exact d2, fun ad e => HV.out.2.2.2.2 _ (by rw [e]; rfl)⟩⟩
            · have hk0' : ((k : Int) == 0) = false := by rw [beq_eq_false_iff_ne]; omega
              have hga : gAt (vs F) a k = g := by unfold gAt; rw [if_neg hk0]; exact HG.out.symm
              rw [hga] at hfac
              clear hga
              have hfac0 := fun v hv => (hfac v hv).1
              have hprep : ∀ (w1 : World) (y cy : Nat) (ob : Obj), Below wr.heap.size wr w1 → RowAt w1 (some ⟨y, 9, none⟩) (cnt (vs F (a + k))) (fun i => vs F (a + k) (9 + i)) → GoOn w w1 ((w1.alloc ob).setCell ⟨w.heap.size + 1, 1, none⟩ (.int .i64 (k1 : Int))) ob (vs F) a k g k1 y (cnt (vs F (a + k))) cy R := fun w1 y cy ob b1 hr => by rw [HG.out]; exact rst_more cy ob HS.out hk0 hk4 b1 hr hM5
              generalize cnt (vs F (a + k)) = M at *
              go_wp2_with (first
                | (go_at_call 80; refine hp.mono ?_; rintro e w1 ⟨y, cy, rfl, hb1, hr1, _⟩; clear hp
                   obtain ⟨xA, cA, v3, LN, HLN, hap, fq, fp, ⟨r0, r1, r2⟩, ⟨p0, p1, p2⟩, hL3, hne, HV⟩ := hprep w1 y cy (.cells #[.int .i64 (g : Int), .int .u32 (r : Int), .int .i64 (k : Int), .bool true, .slice (some ⟨y, 9, none⟩) M cy] 122) hb1 hr1
                   obtain ⟨q0, q1, q2, g0, g1, g2⟩ := hfac0 w1 hb1 (.cells #[.int .i64 (g : Int), .int .u32 (r : Int), .int .i64 (k : Int), .bool true, .slice (some ⟨y, 9, none⟩) M cy] 122)
                   have fq2 := fq 2
                   have fp0 := fp 0
                   have fp1 := fp 1
                   have fp2 := fp 2
                   have hl3 := hL3 (.bool true) 3 (by simp)
                   have hne1 : w1.heap.size ≠ w.heap.size + 1 := by omega
                   have hne2 : w.heap.size + 1 ≠ w1.heap.size := by omega
                   have HB1 := hid hb1
                   clear hprep hfac hfac0 hb1 hr1 fq fp hL3 hne)
                | (at_builtin; refine wpList_append_run rfl _ _ 22 rfl _ _ rfl rfl hap ?_; clear hap))
              refine bodyPost_ret (v := .tuple #[.agg #[.int .i64 (g : Int), .int .i64 (k1 : Int), .slice xA LN cA], .bool true]) ?_ rfl ?_
              · rw [results_cell_tmp rfl]; go_simp
              · have hlen : rlen (vs F) a k1 = LN := by rw [HK1.out, HM.out, HLN.out]
                obtain ⟨d1, d2⟩ := rst_done (a0 := .int .i64 (g : Int)) (a1 := .int .i64 (k1 : Int)) (a2 := .slice xA LN cA) HV.out.1 HV.out.2.1 HV.out.2.2.2.1 (fun i => HF2.out _ _) (by have := HLN.out; omega)
                refine ⟨d1, .inl ⟨k1, xA, cA, by rw [HK1.out]; exact HREC.out, by rw [hlen, ← HG.out], by rw [hlen]; exact d2, fun ad e => HV.out.2.2.2.2 _ (by rw [e]; rfl)⟩⟩
          | false =>
            rw [hL] at hp
            have HFI := HFIT hL
            have HM3 := hid (HM2.out hL)
            clear HYES HFIT hL
            by_cases hk0 : k = 0
            · subst hk0
              have hk1' : (0 : Int) + 1 = (k1 : Int) := hk1'
              have hfac0 : ∀ v, Below wr.heap.size wr v → (∀ ob, (v.alloc ob).cell? ⟨w.heap.size + 1, 0, none⟩ = some (.int .i64 0) ∧ (v.alloc ob).cell? ⟨w.heap.size + 1, 1, none⟩ = some (.int .i64 0) ∧ (v.alloc ob).cell? ⟨w.heap.size + 1, 2, none⟩ = some R ∧
    (v.alloc ob).frozen? ⟨w.heap.size + 1, 0, none⟩ = false ∧ (v.alloc ob).frozen? ⟨w.heap.size + 1, 1, none⟩ = false ∧ (v.alloc ob).frozen? ⟨w.heap.size + 1, 2, none⟩ = false) := fun v hv => (hfac v hv).1
              have hprep := fun (w1 : World) (y cy : Nat) (ob : Obj) b1 hr => rst_zero (w1 := w1) (g := g) (k1 := k1) (y := y) (M := cnt (vs F (a + 0))) cy ob HS.out b1 hr hM5
              generalize cnt (vs F (a + 0)) = M at *
              go_wp2_with (first
                | (go_at_call 80; refine hp.mono ?_; rintro e w1 ⟨y, cy, rfl, hb1, hr1, _⟩; clear hp
                   obtain ⟨xA, cA, v3, LN, HLN, hap, fq, fp, ⟨r0, r1, r2⟩, ⟨p0, p1, p2⟩, hL3, hne, HV⟩ := hprep w1 y cy (.cells #[.int .i64 (g : Int), .int .u32 (r : Int), .int .i64 0, .bool false, .slice (some ⟨y, 9, none⟩) M cy] 122) hb1 hr1
                   obtain ⟨q0, q1, q2, g0, g1, g2⟩ := hfac0 w1 hb1 (.cells #[.int .i64 (g : Int), .int .u32 (r : Int), .int .i64 0, .bool false, .slice (some ⟨y, 9, none⟩) M cy] 122)
                   have fq2 := fq 2
                   have fp0 := fp 0
                   have fp1 := fp 1
                   have fp2 := fp 2
                   have hl3 := hL3 (.bool false) 3 (by simp)
                   have hne1 : w1.heap.size ≠ w.heap.size + 1 := by omega
                   have hne2 : w.heap.size + 1 ≠ w1.heap.size := by omega
                   have HB1 := hid hb1
                   clear hprep hfac hfac0 hb1 hr1 fq fp hL3 hne)
                | (at_builtin; refine wpList_append_run rfl _ _ 22 rfl _ _ rfl rfl hap ?_; clear hap))
              have HRS := rst_next HS.out HK1.out HG.out HM3.out HLN.out HV.out HFI.out
              first
                | exact ⟨⟨k1, x', l - 64, c - 64, _, by have := HK1.out; omega, rfl, by rw [HK1.out]; exact HN.out, HRS⟩, by simp only [slLen]; omega⟩
                | (go_roundw
                   case rel => exact ⟨k1, x', l - 64, c - 64, _, by have := HK1.out; omega, rfl, by rw [HK1.out]; exact HN.out, HRS⟩
                   case measure => simp only [slLen]; omega)
            · have hk0' : ((k : Int) == 0) = false := by rw [beq_eq_false_iff_ne]; omega
              have hga : gAt (vs F) a k = g := by unfold gAt; rw [if_neg hk0]; exact HG.out.symm
              rw [hga] at hfac
              clear hga
              have hfac0 := fun v hv => (hfac v hv).1
              have hprep : ∀ (w1 : World) (y cy : Nat) (ob : Obj), Below wr.heap.size wr w1 → RowAt w1 (some ⟨y, 9, none⟩) (cnt (vs F (a + k))) (fun i => vs F (a + k) (9 + i)) → GoOn w w1 ((w1.alloc ob).setCell ⟨w.heap.size + 1, 1, none⟩ (.int .i64 (k1 : Int))) ob (vs F) a k g k1 y (cnt (vs F (a + k))) cy R := fun w1 y cy ob b1 hr => by rw [HG.out]; exact rst_more cy ob HS.out hk0 hk4 b1 hr hM5
              generalize cnt (vs F (a + k)) = M at *
              go_wp2_with (first
                | (go_at_call 80; refine hp.mono ?_; rintro e w1 ⟨y, cy, rfl, hb1, hr1, _⟩; clear hp
                   obtain ⟨xA, cA, v3, LN, HLN, hap, fq, fp, ⟨r0, r1, r2⟩, ⟨p0, p1, p2⟩, hL3, hne, HV⟩ := hprep w1 y cy (.cells #[.int .i64 (g : Int), .int .u32 (r : Int), .int .i64 (k : Int), .bool false, .slice (some ⟨y, 9, none⟩) M cy] 122) hb1 hr1
                   obtain ⟨q0, q1, q2, g0, g1, g2⟩ := hfac0 w1 hb1 (.cells #[.int .i64 (g : Int), .int .u32 (r : Int), .int .i64 (k : Int), .bool false, .slice (some ⟨y, 9, none⟩) M cy] 122)
                   have fq2 := fq 2
                   have fp0 := fp 0
                   have fp1 := fp 1
                   have fp2 := fp 2
                   have hl3 := hL3 (.bool false) 3 (by simp)
                   have hne1 : w1.heap.size ≠ w.heap.size + 1 := by omega
                   have hne2 : w.heap.size + 1 ≠ w1.heap.size := by omega
                   have HB1 := hid hb1
                   clear hprep hfac hfac0 hb1 hr1 fq fp hL3 hne)
                | (at_builtin; refine wpList_append_run rfl _ _ 22 rfl _ _ rfl rfl hap ?_; clear hap))
              have HRS := rst_next HS.out HK1.out HG.out HM3.out HLN.out HV.out HFI.out
              first
                | exact ⟨⟨k1, x', l - 64, c - 64, _, by have := HK1.out; omega, rfl, by rw [HK1.out]; exact HN.out, HRS⟩, by simp only [slLen]; omega⟩
                | (go_roundw
                   case rel => exact ⟨k1, x', l - 64, c - 64, _, by have := HK1.out; omega, rfl, by rw [HK1.out]; exact HN.out, HRS⟩
                   case measure => simp only [slLen]; omega)
        · have hno := hst.no (n := n) (fun h => hfit h.2.2)
          have HNO := hid hno
          clear hrest hnext hrow hrow0 hok hcut HN HS HR hno
          by_cases e1 : num (vs F (a + k)) = r
          · rw [e1] at hp
            by_cases e2 : vs F (a + k) 7 = k
            · have e3 : genS (vs F (a + k)) ≠ genS (vs F a) := fun e => hfit ⟨e1, e2, e⟩
              have hk0 : k ≠ 0 := fun e => e3 (by rw [e]; rfl)
              have hk0' : ((k : Int) == 0) = false := by rw [beq_eq_false_iff_ne]; omega
              have hga : gAt (vs F) a k = genS (vs F a) := by unfold gAt; rw [if_neg hk0]
              rw [hga] at hfac
              rw [e2] at hp
              have e3' : ((genS (vs F (a + k)) : Int) != (genS (vs F a) : Int)) = true := by
                rw [bne_iff_ne]
                omega
              clear hst hfit e1 e2 e3 hga
              generalize genS (vs F (a + k)) = g at *
              generalize genS (vs F a) = g' at *
              generalize lst (vs F (a + k)) = L at *
              generalize cnt (vs F (a + k)) = M at *
              go_wp2_with (first
                | (go_at_call 80; refine hp.mono ?_; rintro e w1 ⟨y, cy, rfl, hb1, _⟩; clear hp
                   obtain ⟨h1, h2, h3⟩ := hfac w1 hb1
                   have HB := hid h3
                   obtain ⟨p0, p1, p2, f0, f1, f2⟩ := h2 (.cells #[.int .i64 (g : Int), .int .u32 (r : Int), .int .i64 (k : Int), .bool L, .slice (some ⟨y, 9, none⟩) M cy] 122)
                   obtain ⟨q0, q1, q2, _, _, _⟩ := h1 (.cells #[.int .i64 (g : Int), .int .u32 (r : Int), .int .i64 (k : Int), .bool L, .slice (some ⟨y, 9, none⟩) M cy] 122)
                   clear hfac h1 h2 h3 hb1))
              refine bodyPost_ret (v := .tuple #[.agg #[.int .i64 0, .int .i64 0, .slice none 0 0], .bool false]) ?_ rfl ?_
              · rw [results_cell_tmp rfl]; go_simp
              · exact ⟨below_three (HB.out.alloc HB.out.size _) (Nat.le_refl _) _ _ _, .inr ⟨HNO.out, rfl⟩⟩
            · have e2' : ((vs F (a + k) 7 : Int) != (k : Int)) = true := by
                rw [bne_iff_ne]
                omega
              clear hst hfit e1 e2
              generalize genS (vs F (a + k)) = g at *
              generalize vs F (a + k) 7 = P at *
              generalize lst (vs F (a + k)) = L at *
              generalize cnt (vs F (a + k)) = M at *
              go_wp2_with (first
                | (go_at_call 80; refine hp.mono ?_; rintro e w1 ⟨y, cy, rfl, hb1, _⟩; clear hp
                   obtain ⟨h1, h2, h3⟩ := hfac w1 hb1
                   have HB := hid h3
                   obtain ⟨p0, p1, p2, f0, f1, f2⟩ := h2 (.cells #[.int .i64 (g : Int), .int .u32 (r : Int), .int .i64 (P : Int), .bool L, .slice (some ⟨y, 9, none⟩) M cy] 122)
                   obtain ⟨q0, q1, q2, _, _, _⟩ := h1 (.cells #[.int .i64 (g : Int), .int .u32 (r : Int), .int .i64 (P : Int), .bool L, .slice (some ⟨y, 9, none⟩) M cy] 122)
                   clear hfac h1 h2 h3 hb1))
              refine bodyPost_ret (v := .tuple #[.agg #[.int .i64 0, .int .i64 0, .slice none 0 0], .bool false]) ?_ rfl ?_
              · rw [results_cell_tmp rfl]; go_simp
              · exact ⟨below_three (HB.out.alloc HB.out.size _) (Nat.le_refl _) _ _ _, .inr ⟨HNO.out, rfl⟩⟩
          · have e1' : ((num (vs F (a + k)) : Int) != (r : Int)) = true := by
              rw [bne_iff_ne]
              omega
            clear hst hfit e1
            generalize genS (vs F (a + k)) = g at *
            generalize num (vs F (a + k)) = N at *
            generalize vs F (a + k) 7 = P at *
            generalize lst (vs F (a + k)) = L at *
            generalize cnt (vs F (a + k)) = M at *
            go_wp2_with (first
              | (go_at_call 80; refine hp.mono ?_; rintro e w1 ⟨y, cy, rfl, hb1, _⟩; clear hp
                 obtain ⟨h1, h2, h3⟩ := hfac w1 hb1
                 have HB := hid h3
                 obtain ⟨p0, p1, p2, f0, f1, f2⟩ := h2 (.cells #[.int .i64 (g : Int), .int .u32 (N : Int), .int .i64 (P : Int), .bool L, .slice (some ⟨y, 9, none⟩) M cy] 122)
                 obtain ⟨q0, q1, q2, _, _, _⟩ := h1 (.cells #[.int .i64 (g : Int), .int .u32 (N : Int), .int .i64 (P : Int), .bool L, .slice (some ⟨y, 9, none⟩) M cy] 122)
                 clear hfac h1 h2 h3 hb1))
            refine bodyPost_ret (v := .tuple #[.agg #[.int .i64 0, .int .i64 0, .slice none 0 0], .bool false]) ?_ rfl ?_
            · rw [results_cell_tmp rfl]; go_simp
            · exact ⟨below_three (HB.out.alloc HB.out.size _) (Nat.le_refl _) _ _ _, .inr ⟨HNO.out, rfl⟩⟩
      · have hno := hst.no (n := n) (fun h => hok h.2.1)
        have hp := partof_no b o c (vs F (a + k)) wr (vs_lt hF _) hc64 hrow hok
        have HNO := hid hno
        clear hrest hst HR hnext hrow hrow0 hok hno hcut HN HS
        unfold noPart at hp
        go_wp2_with (first
          | (go_at_call 80; refine hp.mono ?_; rintro e w1 ⟨rfl, hb1⟩; clear hp
             obtain ⟨h1, h2, h3⟩ := hfac w1 hb1
             have HB := hid h3
             obtain ⟨p0, p1, p2, f0, f1, f2⟩ := h2 (.cells #[.int .i64 0, .int .u32 0, .int .i64 0, .bool false, .slice none 0 0] 122)
             clear hfac h1 h2 h3 hb1))
        refine bodyPost_ret (v := .tuple #[.agg #[.int .i64 0, .int .i64 0, .slice none 0 0], .bool false]) ?_ rfl ?_
        · rw [results_cell_tmp rfl]; go_simp
        · exact ⟨below_three (HB.out.alloc HB.out.size _) (Nat.le_refl _) _ _ _, .inr ⟨HNO.out, rfl⟩⟩
    · have hno := hst.no (n := n) (fun h => hlt h.1)
      have hl0 : l = 0 := by have := hrest.len; omega
      have HNO := hid hno
      have HB := hid hst.bel
      have p0 := hst.res.cell (k := 0) (by omega)
      have p1 := hst.res.cell (k := 1) (by omega)
      have p2 := hst.res.cell (k := 2) (by omega)
      have f0 := hst.res.frozen 0
      have f1 := hst.res.frozen 1
      have f2 := hst.res.frozen 2
      have p0 : wr.cell? ⟨w.heap.size, 0, none⟩ = some (.int .i64 0) := p0
      have p1 : wr.cell? ⟨w.heap.size, 1, none⟩ = some (.int .i64 0) := p1
      have p2 : wr.cell? ⟨w.heap.size, 2, none⟩ = some (.slice none 0 0) := p2
      clear hrest hst HR hfac HS hno
      subst hl0
      go_wp2_with fail
      refine bodyPost_ret (v := .tuple #[.agg #[.int .i64 0, .int .i64 0, .slice none 0 0], .bool false]) ?_ rfl ?_
      · rw [results_cell_tmp rfl]; go_simp
      · exact ⟨below_three HB.out (Nat.le_refl _) _ _ _, .inr ⟨HNO.out, rfl⟩⟩

end Go.Proofs.YtbbjklenpgkooaaGreat

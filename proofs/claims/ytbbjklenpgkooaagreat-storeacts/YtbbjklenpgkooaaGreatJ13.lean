/-
  4 texts of this proof, one behind the other: StMap, StBack, StHas, StClone.
-/
import Derived.Test.YtbbjklenpgkooaaGreatJ12
import Derived.Maps.OwnSet
import Derived.Maps.RangeWalk
import Derived.Maps.Ext
import Derived.RangeFuncNested
import Derived.RangeFuncBound
import Derived.RangeFuncCalls
import Derived.RangeFuncLeaves
import Derived.Shelf.Abstract
import Derived.Shelf.RegionOpen
import Derived.WalkKit
import Derived.OwnWalkIn
import Derived.TacticsInMore
import Derived.LoopNIn
import Derived.LoopIn
import Derived.Shelf.LaysM
import Derived.Shelf.Strconv.Clone
import Derived.Test.YtbbjklenpgkooaaGreatJ11
/-
  Keys and values, plainly; the program's map of them as it lies in memory.
  Conditions: none.
-/
namespace Go.Proofs.YtbbjklenpgkooaaGreat
open Go.RowKit By Dk Wi St
set_option linter.unusedVariables false
set_option linter.unusedSimpArgs false
set_option maxRecDepth 100000

abbrev KV := ByteArray → Option (List Nat)

def doA (M : KV) (a : PA) : KV := fun s => if s = str a.key then (if a.set = true then some a.data else none) else M s

def doL (M : KV) (l : List PA) : KV := l.foldl doA M

theorem doL_snoc (M : KV) (l : List PA) (a : PA) : doL M (l ++ [a]) = doA (doL M l) a := by simp [doL]

def canL (M : KV) (l : List PA) : Prop := ∀ i a, l[i]? = some a → a.set = false → (doL M (l.take i) (str a.key)).isSome = true

theorem pas_get (V : Nat → AV) {n i : Nat} (h : i < n) : (pas V n)[i]? = some (pa (V i)) := by simp [pas, h]

theorem pas_take (V : Nat → AV) {n k : Nat} (h : k ≤ n) : (pas V n).take k = pas V k := by
  unfold pas
  rw [← List.map_take, List.take_range, Nat.min_eq_left h]

theorem str_key (v : AV) : str (pa v).key = v.key := str_nat v.key

theorem canL_at {M : KV} {V : Nat → AV} {n : Nat} (h : canL M (pas V n)) {i : Nat} (hi : i < n) (hs : (V i).set = false) : (doL M (pas V i) (V i).key).isSome = true := by
  have := h i _ (pas_get V hi) hs
  rwa [pas_take V (Nat.le_of_lt hi), str_key] at this

theorem canL_of {M : KV} {V : Nat → AV} {n : Nat} (h : ∀ i, i < n → (V i).set = false → (doL M (pas V i) (V i).key).isSome = true) : canL M (pas V n) := fun i a ha hs => by
  have hi : i < n := by
    have := (List.getElem?_eq_some_iff.1 ha).1
    rwa [pas_len] at this
  rw [pas_get V hi] at ha
  injection ha with ha
  subst ha
  rw [pas_take V (Nat.le_of_lt hi), str_key]
  exact h i hi hs

def lit (s : ByteArray) : Lit := .string s.data.toList

theorem lit_inj {s t : ByteArray} (h : lit s = lit t) : s = t := by
  injection h with h
  exact ByteArray.ext (Array.toList_inj.1 h)

theorem lit_key (s : ByteArray) : WideAt.IsKeyLit (lit s) := trivial

/- How a value is told: as it stands. -/
def hv (v : Value) : Option (DataW Value × List MemPlace) :=
  match v with
  | .slice a n c => some (.held (.slice a n c), [])
  | _ => none

theorem hv_slice (a : Option Addr) (n c : Nat) : hv (.slice a n c) = some (.held (.slice a n c), []) := rfl

theorem hv_inv {v : Value} {z : DataW Value × List MemPlace} (h : hv v = some z) : ∃ a n c, v = .slice a n c ∧ z = (.held (.slice a n c), []) := by
  unfold hv at h
  cases v <;> simp at h
  subst h
  exact ⟨_, _, _, rfl, rfl⟩

theorem slaw : Maps.Keyed Tryz.prog 9 := Maps.string_keyed Tryz.underlying9

theorem szero (w : World) : (zeroValue 22).run Tryz.prog w = .ok (.slice none 0 0) w := by kernel_rfl

theorem skey {s : ByteArray} (h : s.size ≤ 140737488355328) : keyOf Tryz.prog 9 (.string s) = some (lit s) := WideMaps.keyOf_string_mk Tryz.underlying9 (by unfold maxLen; omega)

structure MapAt (w : World) (mb nb : Nat) (D : DataW Value) (M : KV) (U : Nat → Prop) : Prop where
  own : w.ownsMap Tryz.prog 9 hv mb nb D
  has : ∀ s, Maps.has D (lit s) = (M s).isSome
  val : ∀ s l, M s = some l → ∃ x n c, (∀ z, D.atKey (lit s) z = .held (.slice x n c)) ∧ Sl w x n c l ∧ n ≤ 4096 ∧ ∀ a, x = some a → a.block < w.heap.size ∧ ¬ U a.block ∧ a.block ≠ mb
  keys : ∀ s, (M s).isSome = true → s.size ≤ 64

section
variable {w w' : World} {mb nb : Nat} {D : DataW Value} {M : KV} {U : Nat → Prop}

theorem MapAt.lt (h : MapAt w mb nb D M U) : mb < w.heap.size := h.own.lt

theorem MapAt.turns {G : Nat → Prop} (h : MapAt w mb nb D M U) (t : Turns G w w') (hm : ¬ G mb) (hG : ∀ k, k < w.heap.size → G k → U k) : MapAt w' mb nb D M U := by
  obtain ⟨es, clock, hb, r⟩ := h.own
  refine ⟨⟨es, clock, (t.block mb h.lt hm).trans hb, r⟩, h.has, fun s l hs => ?_, h.keys⟩
  obtain ⟨x, n, c, h1, h2, h3, h4⟩ := h.val s l hs
  exact ⟨x, n, c, h1, h2.turns t (fun _ a ha hg => (h4 a ha).2.1 (hG _ (h4 a ha).1 hg)), h3, fun a ha => ⟨Nat.lt_of_lt_of_le (h4 a ha).1 t.size, (h4 a ha).2⟩⟩

theorem MapAt.below (h : MapAt w mb nb D M U) (t : Below w.heap.size w w') : MapAt w' mb nb D M U :=
  h.turns (Turns.of_below (F := fun _ => False) t) (fun h => h) (fun _ _ h => h.elim)

theorem MapAt.weak {U' : Nat → Prop} (h : MapAt w mb nb D M U) (hU : ∀ k, k < w.heap.size → U' k → U k) : MapAt w mb nb D M U' :=
  ⟨h.own, h.has, fun s l hs => by
    obtain ⟨x, n, c, h1, h2, h3, h4⟩ := h.val s l hs
    exact ⟨x, n, c, h1, h2, h3, fun a ha => ⟨(h4 a ha).1, fun hu => (h4 a ha).2.1 (hU _ (h4 a ha).1 hu), (h4 a ha).2.2⟩⟩, h.keys⟩

theorem MapAt.new (w : World) (U : Nat → Prop) : MapAt (w.alloc (.map #[] 0)) w.heap.size 0 (.map []) (fun _ => none) U :=
  ⟨World.ownsMap_made w Tryz.prog 9 hv, fun s => rfl, (fun s l h => by cases h), fun s h => by cases h⟩

theorem MapAt.look (h : MapAt w mb nb D M U) (s : ByteArray) (hs : s.size ≤ 140737488355328) : ∃ x n c, (Instr.lookup 77 (.map (some mb)) (.string s) true).run Tryz.prog w = .ok (.tuple #[.slice x n c, .bool (M s).isSome]) w ∧ (M s = none → x = none ∧ n = 0 ∧ c = 0) ∧ ∀ l, M s = some l → Sl w x n c l ∧ n ≤ 4096 := by
  obtain ⟨v, ps, h1, h2⟩ := h.own.look_ok (t := 77) (e := 22) slaw Tryz.underlying77 (szero w) (hv_slice none 0 0) (skey hs)
  obtain ⟨x, n, c, rfl, h3⟩ := hv_inv h2
  rw [h.has] at h1
  refine ⟨x, n, c, h1, fun hn => ?_, fun l hl => ?_⟩
  · have : Maps.has D (lit s) = false := by rw [h.has, hn]; rfl
    have e := congrArg Prod.fst h3
    dsimp only at e
    rw [Maps.atKey_of_not_has this] at e
    injection e with e
    injection e with e1 e2 e3
    exact ⟨e1.symm, e2.symm, e3.symm⟩
  · obtain ⟨x', n', c', k1, k2, k3, k4⟩ := h.val s l hl
    have e := congrArg Prod.fst h3
    dsimp only at e
    rw [k1] at e
    injection e with e
    injection e with e1 e2 e3
    subst e1
    subst e2
    subst e3
    exact ⟨k2, k3⟩

theorem MapAt.lookq (h : MapAt w mb nb D M U) (s : ByteArray) (hs : s.size ≤ 140737488355328) : ∃ x n c, ∀ q, (Instr.lookup 77 (.map (some mb)) (.string s) true).run Tryz.prog (w.drewN q) = .ok (.tuple #[.slice x n c, .bool (M s).isSome]) (w.drewN q) := by
  obtain ⟨v, ps, h1, h2⟩ := h.own.look_ok (t := 77) (e := 22) slaw Tryz.underlying77 (szero w) (hv_slice none 0 0) (skey hs)
  obtain ⟨x, n, c, rfl, h3⟩ := hv_inv h2
  refine ⟨x, n, c, fun q => ?_⟩
  have hq : MapAt (w.drewN q) mb nb D M U := h.below ⟨rfl, rfl, rfl, Nat.le_refl _, fun _ _ => rfl⟩
  obtain ⟨v, ps', k1, k2⟩ := hq.own.look_ok (t := 77) (e := 22) slaw Tryz.underlying77 (szero _) (hv_slice none 0 0) (skey hs)
  obtain ⟨x', n', c', rfl, k3⟩ := hv_inv k2
  have e1 := congrArg Prod.fst h3
  have e2 := congrArg Prod.fst k3
  dsimp only at e1 e2
  have e := e1.symm.trans e2
  clear e1 e2
  injection e with e
  injection e with e1 e2 e3
  subst e1
  subst e2
  subst e3
  rw [h.has] at k1
  exact k1

theorem grown_turns {row : Nat} (h : w.grownBy w' (some row)) : Turns (fun k => k = row) w w' := ⟨h.os, h.tape, h.output, h.size, fun k hk hr => h.block k hk (fun e => hr (by injection e))⟩

theorem MapAt.put (h : MapAt w mb nb D M U) (hn : nb < 1000000000) (s : ByteArray) (hs : s.size ≤ 64) (x : Option Addr) (n c : Nat) (l : List Nat) (hl : Sl w x n c l) (hn4 : n ≤ 4096) (hx : ∀ a, x = some a → a.block < w.heap.size ∧ ¬ U a.block ∧ a.block ≠ mb) :
    ∃ w1, (Instr.mapUpdate 77 (.map (some mb)) (.string s) (.slice x n c)).run Tryz.prog w = .ok () w1 ∧ MapAt w1 mb (nb + 1) (D.put (lit s) (.held (.slice x n c))) (fun t => if t = s then some l else M t) U ∧ Turns (fun k => k = mb) w w1 := by
  obtain ⟨w1, h1, h2, h3⟩ := h.own.update (t := 77) (e := 22) slaw Tryz.underlying77 (by unfold maxLen; omega) (skey (s := s) (by omega)) (hv_slice x n c)
  have t := grown_turns h3
  refine ⟨w1, h1, ⟨h2, fun u => ?_, fun u l' hu => ?_, fun u hu => ?_⟩, t⟩
  · by_cases e : u = s
    · subst e
      rw [Maps.has_put_same h.own.isMap (lit_key u)]
      simp
    · rw [Maps.has_put_other (fun h => e (lit_inj h)), h.has]
      simp [e]
  · by_cases e : u = s
    · subst e
      simp at hu
      subst hu
      exact ⟨x, n, c, fun z => Maps.atKey_put_same h.own.isMap (lit_key u) _ z, hl.turns t (fun _ a ha e => (hx a ha).2.2 e), hn4, fun a ha => ⟨Nat.lt_of_lt_of_le (hx a ha).1 t.size, (hx a ha).2⟩⟩
    · simp only [e, if_false] at hu
      obtain ⟨x', n', c', k1, k2, k3, k4⟩ := h.val u l' hu
      exact ⟨x', n', c', fun z => by rw [Maps.atKey_put_other (fun h => e (lit_inj h))]; exact k1 z, k2.turns t (fun _ a ha e => (k4 a ha).2.2 e), k3, fun a ha => ⟨Nat.lt_of_lt_of_le (k4 a ha).1 t.size, (k4 a ha).2⟩⟩
  · by_cases e : u = s
    · subst e; exact hs
    · simp only [e, if_false] at hu
      exact h.keys u hu

theorem MapAt.del (h : MapAt w mb nb D M U) (s : ByteArray) (hs : s.size ≤ 140737488355328) (ty : TypeId) :
    ∃ w1, (Builtin.delete_ #[77, 9] ty #[.map (some mb), .string s]).run Tryz.prog w = .ok (.tuple #[]) w1 ∧ MapAt w1 mb nb (D.del (lit s)) (fun t => if t = s then none else M t) U ∧ Turns (fun k => k = mb) w w1 := by
  obtain ⟨w1, h1, h2, h3⟩ := h.own.drop (t := 77) (e := 22) slaw Tryz.underlying77 (skey hs) ty
  have t := grown_turns h3.grown
  refine ⟨w1, h1, ⟨h2, fun u => ?_, fun u l' hu => ?_, fun u hu => ?_⟩, t⟩
  · by_cases e : u = s
    · subst e
      rw [Maps.has_del_same]
      simp
    · rw [Maps.has_del_other (fun h => e (lit_inj h)), h.has]
      simp [e]
  · by_cases e : u = s
    · subst e
      simp at hu
    · simp only [e, if_false] at hu
      obtain ⟨x', n', c', k1, k2, k3, k4⟩ := h.val u l' hu
      exact ⟨x', n', c', fun z => by rw [Maps.atKey_del_other (fun h => e (lit_inj h))]; exact k1 z, k2.turns t (fun _ a ha e => (k4 a ha).2.2 e), k3, fun a ha => ⟨Nat.lt_of_lt_of_le (k4 a ha).1 t.size, (k4 a ha).2⟩⟩
  · by_cases e : u = s
    · subst e; simp at hu
    · simp only [e, if_false] at hu
      exact h.keys u hu

theorem MapAt.len (h : MapAt w mb nb D M U) (ty : TypeId) : (Builtin.len_ #[77] ty #[.map (some mb)]).run Tryz.prog w = .ok (.int .i64 (Maps.size D)) w :=
  h.own.len (t := 77) (e := 22) Tryz.underlying77 ty

theorem MapAt.congr {M' : KV} (h : MapAt w mb nb D M U) (e : M = M') : MapAt w mb nb D M' U := by subst e; exact h

end

theorem doA_set (M : KV) (v : AV) (h : v.set = true) : doA M (pa v) = fun t => if t = v.key then some v.d else M t := by
  funext t
  unfold doA
  rw [str_key]
  show (if t = v.key then (if v.set = true then some v.d else none) else M t) = _
  rw [if_pos h]

theorem doA_del (M : KV) (v : AV) (h : v.set = false) : doA M (pa v) = fun t => if t = v.key then none else M t := by
  funext t
  unfold doA
  rw [str_key]
  show (if t = v.key then (if v.set = true then some v.d else none) else M t) = _
  rw [if_neg (show ¬ (v.set = true) by simp [h])]

theorem doL_succ (M : KV) (V : Nat → AV) (k : Nat) : doL M (pas V (k + 1)) = doA (doL M (pas V k)) (pa (V k)) := by rw [pas_succ, doL_snoc]

/- A store as it lies in memory: the journal's place and the map's. -/
structure StAt (w : World) (sp jp mb nb : Nat) (D : DataW Value) (M : KV) (U : Nat → Prop) : Prop where
  obj : Blk w sp 79 2 (fun i => if i = 0 then .pointer (some ⟨jp, 0, none⟩) else .map (some mb))
  map : MapAt w mb nb D M U
  ne : sp ≠ mb

section
variable {w w' : World} {sp jp mb nb : Nat} {D : DataW Value} {M : KV} {U : Nat → Prop}

theorem StAt.c0 (h : StAt w sp jp mb nb D M U) : w.cell? ⟨sp, 0, none⟩ = some (.pointer (some ⟨jp, 0, none⟩)) := h.obj.cell (k := 0) (by omega)
theorem StAt.c1 (h : StAt w sp jp mb nb D M U) : w.cell? ⟨sp, 1, none⟩ = some (.map (some mb)) := h.obj.cell (k := 1) (by omega)

theorem StAt.turns {G : Nat → Prop} (h : StAt w sp jp mb nb D M U) (t : Turns G w w') (hs : ¬ G sp) (hm : ¬ G mb) (hG : ∀ k, k < w.heap.size → G k → U k) : StAt w' sp jp mb nb D M U :=
  ⟨t.blk h.obj hs, h.map.turns t hm hG, h.ne⟩

theorem StAt.below (h : StAt w sp jp mb nb D M U) (t : Below w.heap.size w w') : StAt w' sp jp mb nb D M U :=
  h.turns (Turns.of_below (F := fun _ => False) t) (fun h => h) (fun h => h) (fun _ _ h => h.elim)

theorem sopen_yes (h : StAt w sp jp mb nb D M U) : Calls Tryz.prog 42 #[.pointer (some ⟨sp, 0, none⟩)] w fun e w' => e = .returned (.bool true) ∧ w' = w := by
  have c0 := h.c0
  clear h
  go_enter Tryz.func42, Tryz.ntmps42
  go_wp2_with fail
  go_ret
  exact ⟨rfl, rfl⟩

theorem get_any (h : StAt w sp jp mb nb D M U) (s : ByteArray) (hs : s.size ≤ 140737488355328) :
    Calls Tryz.prog 21 #[.pointer (some ⟨sp, 0, none⟩), .string s] w fun e w' => ∃ y n c, e = .returned (.tuple #[.slice y n c, .bool (M s).isSome]) ∧ Below w.heap.size w w' ∧ (∀ a, y = some a → w.heap.size ≤ a.block) ∧ ∀ l, M s = some l → Sl w' y n c l ∧ n ≤ 4096 := by
  have hO := sopen_yes h
  have c1 := h.c1
  obtain ⟨x, n, c, hlook, hno, hyes⟩ := h.map.look s hs
  have hC : Calls Tryz.prog 47 #[.slice x n c] w fun e w' => ∃ y n2 c2, e = .returned (.slice y n2 c2) ∧ Hid (Below w.heap.size w w' ∧ (∀ a, y = some a → w.heap.size ≤ a.block) ∧ ∀ l, M s = some l → Sl w' y n2 c2 l ∧ n2 ≤ 4096) := by
    cases hM : M s with
    | none =>
      obtain ⟨rfl, rfl, rfl⟩ := hno hM
      refine (clone_sl none 0 0 [] w (Sl.empty w) (by omega)).mono fun e w' ⟨y, cy, h1, h2, h3, h4⟩ => ⟨y, 0, cy, h1, h2, fun a ha => (h4 a ha).1, fun l hl => by cases hl⟩
    | some l =>
      obtain ⟨k1, k2⟩ := hyes l hM
      refine (clone_sl x n c l w k1 (by omega)).mono fun e w' ⟨y, cy, h1, h2, h3, h4⟩ => ⟨y, n, cy, h1, h2, fun a ha => (h4 a ha).1, fun l' hl => ?_⟩
      injection hl with hl
      subst hl
      exact ⟨h3, k2⟩
  clear h hno hyes
  generalize (M s).isSome = t at *
  go_enter Tryz.func21, Tryz.ntmps21
  go_wp2_with (first
    | (go_at_call 42; refine hO.mono ?_; rintro e w' ⟨rfl, hw⟩; subst w'; clear hO)
    | (go_at_call 47; refine hC.mono ?_; rintro e w2 ⟨y, n2, c2, rfl, HC⟩; clear hC))
  go_ret2
  exact ⟨y, n2, c2, rfl, HC.out.1, HC.out.2.1, HC.out.2.2⟩

theorem len_any (h : StAt w sp jp mb nb D M U) : Calls Tryz.prog 37 #[.pointer (some ⟨sp, 0, none⟩)] w fun e w' => e = .returned (.int .i64 (Maps.size D)) ∧ w' = w := by
  have hO := sopen_yes h
  have c1 := h.c1
  have hlen := fun ty => h.map.len ty
  clear h
  go_enter Tryz.func37, Tryz.ntmps37
  go_wp2_with (first
    | (go_at_call 42; refine hO.mono ?_; rintro e w' ⟨rfl, hw⟩; subst w'; clear hO))
  go_ret
  exact ⟨rfl, rfl⟩

end

end Go.Proofs.YtbbjklenpgkooaaGreat

/-
  slices.Backward over acts: what it hands to a loop.
  Conditions: the acts lie in memory.
-/
namespace Go.Proofs.YtbbjklenpgkooaaGreat
open Go.RowKit Go.Shelf By Dk Wi St
set_option linter.unusedVariables false
set_option linter.unusedSimpArgs false
set_option maxRecDepth 100000
attribute [local go_sem] Oper.semAt_some

def agv (v : AV) : Value := .agg #[.string v.key, .bool v.set, .slice v.x v.n v.c]

def dn (V : Nat → AV) (len k : Nat) : List (Nat × AV) := (List.range k).map fun j => (len - 1 - j, V (len - 1 - j))

theorem dn_succ (V : Nat → AV) (len k : Nat) : dn V len (k + 1) = dn V len k ++ [(len - 1 - k, V (len - 1 - k))] := by simp [dn, List.range_succ]
theorem dn_len (V : Nat → AV) (len k : Nat) : (dn V len k).length = k := by simp [dn]

theorem back1_in (F : Fence) (n : Nat) (hf : F.fn 94) (hro : F.round = none) (hn : 1 ≤ n) (l Bs n₀ b o M m cap : Nat) (hM : M = m + 1) (V : Nat → AV) (hlen : M ≤ 140737488351232) (hb : b < n₀) (J Jx : List (Nat × AV) → World → Prop)
    (hY : ∀ pre x W, J pre W → pre.length < M → YieldAt F (n - 1) Tryz.prog l #[.int .i64 (x.1 : Int), agv x.2] W fun e W' =>
      (e = .returned (.bool true) ∧ J (pre ++ [x]) W' ∧ Below n₀ W W') ∨ (e = .returned (.bool false) ∧ Jx (pre ++ [x]) W'))
    (W : World) (hBn : Bs < n₀) (hBs : W.cell? ⟨Bs, 0, none⟩ = some (.slice (some ⟨b, o, none⟩) M cap))
    (hc : ∀ i, i < M → W.cell? ⟨b, o + i * 3, none⟩ = some (.string (V i).key) ∧ W.cell? ⟨b, o + i * 3 + 1, none⟩ = some (.bool (V i).set) ∧ W.cell? ⟨b, o + i * 3 + 2, none⟩ = some (.slice (V i).x (V i).n (V i).c)) (h0 : J [] W) :
    CallsIn F n Tryz.prog 94 #[.func (.yield l) #[] #[], .pointer (some ⟨Bs, 0, none⟩)] W fun e W' => (∃ v, e = .returned v) ∧
      ((∃ ys, ys = dn V M M ∧ J ys W') ∨ (∃ pre, (∃ k, k ≤ M ∧ pre = dn V M k) ∧ Jx pre W')) := by
  have e2 : (M : Int) - 1 = (m : Int) := by omega
  have HM := hid hM
  clear hM
  refine callsIn_of_wp Tryz.func94 rfl hf ?_ hro
  simp only [Tryz.ntmps94, List.size_toArray, List.length_cons, List.length_nil, Nat.reduceAdd, Nat.reduceSub, Array.replicate_succ, Array.replicate_zero, List.push_toArray, List.append_toArray, List.nil_append, List.cons_append]
  gi_wp2
  gi_loopw [3] (fun i wr => ∃ k : Nat, k ≤ M ∧ ((k = 0 ∧ i = .int .i64 (-1)) ∨ ∃ j : Nat, k = j + 1 ∧ i = .int .i64 (j : Int)) ∧ J (dn V M (M - k)) wr ∧ Below n₀ W wr) (fun i _ => (intOf i + 1).toNat)
  case atStart => exact ⟨M, Nat.le_refl _, .inr ⟨m, HM.out, by first | rfl | (congr 1; omega) | simp [e2]⟩, by rw [Nat.sub_self]; exact h0, Below.refl _ _⟩
  case round =>
    obtain ⟨k, hk, hki, hJs, hnx⟩ := hrel
    rcases hki with ⟨rfl, rfl⟩ | ⟨j, rfl, rfl⟩
    · gi_wp2
      go_end0
      exact ⟨⟨_, rfl⟩, .inl ⟨_, rfl, hJs⟩⟩
    · have hjM : j < M := by omega
      have hj0 : (0 : Int) ≤ (j : Int) := by omega
      have hjM' : (j : Int) < (M : Int) := by omega
      obtain ⟨f0, f1, f2⟩ := hc j hjM
      have k0 := (hnx.cell (p := ⟨b, o + j * 3, none⟩) hb).trans f0
      have k1 := (hnx.cell (p := ⟨b, o + j * 3 + 1, none⟩) hb).trans f1
      have k2 := (hnx.cell (p := ⟨b, o + j * 3 + 2, none⟩) hb).trans f2
      have ks := (hnx.cell (p := ⟨Bs, 0, none⟩) hBn).trans hBs
      have hstep : dn V M (M - (j + 1)) ++ [(j, V j)] = dn V M (M - j) := by
        have : M - j = (M - (j + 1)) + 1 := by omega
        rw [this, dn_succ, show M - 1 - (M - (j + 1)) = j by omega]
      obtain ⟨fn, tmps, assign, body, hy, hR⟩ := hY (dn V M (M - (j + 1))) (j, V j) wr hJs (by rw [dn_len]; omega)
      unfold agv at hy
      dsimp only at hy
      rw [hstep] at hR
      clear hc f0 f1 f2 hstep hY
      gi_wp2
      refine hR.mono ?_
      rintro e W3 (⟨rfl, hJ3, hk3⟩ | ⟨rfl, hJx3⟩)
      · cases j with
        | zero =>
          gi_wp2
          go_roundw
          case rel => exact ⟨0, by omega, .inl ⟨rfl, by first | rfl | simp⟩, hJ3, hnx.trans hk3⟩
          case measure => simp [intOf]
        | succ i =>
          have e3 : ((i + 1 : Nat) : Int) - 1 = (i : Int) := by omega
          have e4 : ((i : Int) + 1) - 1 = (i : Int) := by omega
          gi_wp2
          go_roundw
          case rel => exact ⟨i + 1, by omega, .inr ⟨i, rfl, by first | rfl | simp | go_num⟩, hJ3, hnx.trans hk3⟩
          case measure => simp [intOf]; omega
      · gi_wp2
        refine bodyPost_ret (results_none rfl _ _ _) rfl ?_
        exact ⟨⟨_, rfl⟩, .inr ⟨_, ⟨M - j, by omega, rfl⟩, hJx3⟩⟩

theorem back0_in (F : Fence) (n : Nat) (hf : F.fn 94) (hro : F.round = none) (l Bs : Nat) (a : Option Addr) (cap : Nat) (J : List (Nat × AV) → World → Prop) (W : World) (hBs : W.cell? ⟨Bs, 0, none⟩ = some (.slice a 0 cap)) (h0 : J [] W) :
    CallsIn F n Tryz.prog 94 #[.func (.yield l) #[] #[], .pointer (some ⟨Bs, 0, none⟩)] W fun e W' => (∃ v, e = .returned v) ∧ J [] W' := by
  refine callsIn_of_wp Tryz.func94 rfl hf ?_ hro
  simp only [Tryz.ntmps94, List.size_toArray, List.length_cons, List.length_nil, Nat.reduceAdd, Nat.reduceSub, Array.replicate_succ, Array.replicate_zero, List.push_toArray, List.append_toArray, List.nil_append, List.cons_append]
  gi_wp2
  gi_loopw [3] (fun i wr => i = .int .i64 (-1) ∧ J [] wr) (fun _ _ => 0)
  case atStart => exact ⟨by first | rfl | simp, h0⟩
  case round =>
    obtain ⟨rfl, hJs⟩ := hrel
    gi_wp2
    go_end0
    exact ⟨⟨_, rfl⟩, hJs⟩

theorem backmake_any (a : Option Addr) (len cap : Nat) (w : World) :
    Calls Tryz.prog 82 #[.slice a len cap] w fun e w' => e = .returned (.func (.func 94) #[] #[.pointer (some ⟨w.heap.size, 0, none⟩)]) ∧ w' = w.alloc (.cells #[.slice a len cap] 24) := by
  go_enter Tryz.func82, Tryz.ntmps82
  go_wp2_with fail
  go_ret
  exact ⟨rfl, rfl⟩

theorem back_stops (F : Fence) (n : Nat) (hf : F.fn 94) (hro : F.round = none) (hn : 1 ≤ n) (Bs n₀ : Nat) (a : Option Addr) (len cap : Nat) (V : Nat → AV) (hlen : len ≤ 140737488351232) (w : World) (hBs : Bs < n₀) (hn₀ : n₀ ≤ w.heap.size)
    (hc : w.cell? ⟨Bs, 0, none⟩ = some (.slice a len cap)) (hA : ActsAt w a len V) (hlow : len ≠ 0 → ∀ ad, a = some ad → ad.block < n₀) :
    SeqStopsK F n Tryz.prog 94 #[.pointer (some ⟨Bs, 0, none⟩)] (fun x : Nat × AV => #[Value.int .i64 (x.1 : Int), agv x.2]) (Below n₀) (fun ys => ys = dn V len len) (fun pre => ∃ k, k ≤ len ∧ pre = dn V len k) len w := fun l J Jx W hW _ _ hY h0 => by
  have hc' := ((hW.mono hn₀).cell (p := ⟨Bs, 0, none⟩) hBs).trans hc
  cases hm : len with
  | zero =>
    subst hm
    exact (back0_in F n hf hro l Bs a cap J W hc' h0).mono fun e W' ⟨he, hj⟩ => ⟨he, .inl ⟨_, rfl, hj⟩⟩
  | succ m =>
    rcases hA.row with h0' | ⟨b, o, rfl, hb, hcs⟩
    · omega
    · have hbn := hlow (by omega) _ rfl
      rw [← hm]
      exact back1_in F n hf hro hn l Bs n₀ b o len m cap hm V hlen hbn J Jx hY W hBs hc' (fun i hi => by
        obtain ⟨q0, q1, q2⟩ := hcs i hi
        exact ⟨((hW.mono hn₀).cell (p := ⟨b, o + i * 3, none⟩) hbn).trans q0, ((hW.mono hn₀).cell (p := ⟨b, o + i * 3 + 1, none⟩) hbn).trans q1, ((hW.mono hn₀).cell (p := ⟨b, o + i * 3 + 2, none⟩) hbn).trans q2⟩) h0

end Go.Proofs.YtbbjklenpgkooaaGreat

/-
  Package store's has and canDo: whether a key would be there behind some acts.
  Conditions: the acts lie in memory.
-/
namespace Go.Proofs.YtbbjklenpgkooaaGreat
open Go.RowKit Go.Shelf By Dk Wi St
set_option linter.unusedVariables false
set_option linter.unusedSimpArgs false
set_option maxRecDepth 100000
attribute [local go_sem] Oper.semAt_some

theorem doL_away (M : KV) (V : Nat → AV) (s : ByteArray) : ∀ n, (∀ i, i < n → (V i).key ≠ s) → doL M (pas V n) s = M s
  | 0, _ => rfl
  | n + 1, h => by
    rw [doL_succ]
    unfold doA
    rw [str_key, if_neg (fun e => h n (by omega) e.symm)]
    exact doL_away M V s n (fun i hi => h i (by omega))

theorem doL_hit (M : KV) (V : Nat → AV) (s : ByteArray) (j : Nat) (hj : (V j).key = s) : ∀ n, j < n → (∀ i, i < n → j < i → (V i).key ≠ s) → (doL M (pas V n) s).isSome = (V j).set
  | 0, h, _ => by omega
  | n + 1, h, ha => by
    rw [doL_succ]
    by_cases e : n = j
    · subst e
      unfold doA
      rw [str_key, if_pos hj.symm]
      show (if (V n).set = true then some (V n).d else none).isSome = (V n).set
      cases (V n).set <;> rfl
    · unfold doA
      rw [str_key, if_neg (fun e2 => ha n (by omega) (by omega) e2.symm)]
      exact doL_hit M V s j hj n (by omega) (fun i hi hij => ha i (by omega) hij)

theorem beq_same (s : ByteArray) : (s.toList == s.toList) = true := by simp
theorem beq_diff {s t : ByteArray} (h : s ≠ t) : (s.toList == t.toList) = false := by
  simp only [beq_eq_false_iff_ne, ne_eq]
  exact fun e => h (toList_inj e)

theorem act_own {β : Type} (v : AV) (t : TypeId) (Bx : Nat) : Own (fun (_ : β) W => W.heap[Bx]? = some (.cells #[.string v.key, .bool v.set, .slice v.x v.n v.c] t (0, 0))) := fun s X Y row hs hg hrow => by
  refine (hg.block Bx (Array.getElem?_eq_some_iff.1 hs).1 (fun e => ?_)).trans hs
  obtain ⟨o, ho, hc⟩ := hrow Bx e.symm
  rw [hs] at ho
  cases ho
  cases hc

set_option maxHeartbeats 4000000 in
theorem shas_any {w : World} {sp jp mb nb : Nat} {D : DataW Value} {M : KV} {U : Nat → Prop} (h : StAt w sp jp mb nb D M U) (s : ByteArray) (hs : s.size ≤ 140737488351232) (a : Option Addr) (len cap : Nat) (V : Nat → AV) (hA : ActsAt w a len V) (hlen : len ≤ 140737488351232) :
    Calls Tryz.prog 63 #[.pointer (some ⟨sp, 0, none⟩), .string s, .slice a len cap] w fun e w' => e = .returned (.bool (doL M (pas V len) s).isSome) ∧ Below w.heap.size w w' := by
  generalize hT : (doL M (pas V len) s).isSome = T
  have HT := hid hT
  clear hT
  have hM := backmake_any a len cap ((w.alloc (.cells #[.string s] 9)).alloc (.cells #[.bool false] 4))
  refine (callsIn_wide (n := 5)).1 ?_
  refine callsIn_of_wp_marks Tryz.func63 rfl trivial ?_ rfl
  refine wpIn_wide.2 ?_
  simp only [Tryz.ntmps63, List.size_toArray, List.length_cons, List.length_nil, Nat.reduceAdd, Nat.reduceSub, Array.replicate_succ, Array.replicate_zero, List.push_toArray, List.append_toArray, List.nil_append, List.cons_append]
  go_wp2_with (go_at_call 82; refine hM.mono ?_; rintro e w' ⟨rfl, rfl⟩; clear hM)
  have bK := ((Boxed.new w 9 (.string s)).alloc (.cells #[.bool false] 4)).alloc (.cells #[.slice a len cap] 24)
  have bR := (Boxed.new (w.alloc (.cells #[.string s] 9)) 4 (.bool false)).alloc (.cells #[.slice a len cap] 24)
  have bS := Boxed.new ((w.alloc (.cells #[.string s] 9)).alloc (.cells #[.bool false] 4)) 24 (.slice a len cap)
  simp only [World.size_alloc] at bR bS
  have hB0 : Below w.heap.size w (((w.alloc (.cells #[.string s] 9)).alloc (.cells #[.bool false] 4)).alloc (.cells #[.slice a len cap] 24)) := (((Below.refl _ w).alloc (Nat.le_refl _) _).alloc (by simp) _).alloc (by simp; omega) _
  have hsz : (((w.alloc (.cells #[.string s] 9)).alloc (.cells #[.bool false] 4)).alloc (.cells #[.slice a len cap] 24)).heap.size = w.heap.size + 3 := by simp
  obtain ⟨W0, hW0⟩ : ∃ W0, ((w.alloc (.cells #[.string s] 9)).alloc (.cells #[.bool false] 4)).alloc (.cells #[.slice a len cap] 24) = W0 := ⟨_, rfl⟩
  rw [hW0] at bK bR bS hB0 hsz ⊢
  clear hW0
  have hA0 := hA.below hB0
  have hlow : len ≠ 0 → ∀ ad, a = some ad → ad.block < W0.heap.size := fun h0 ad e => by
    rcases hA.row with h1 | ⟨b, o, e1, h2, _⟩
    · exact absurd h1 h0
    · rw [e] at e1
      injection e1 with e1
      subst e1
      show b < W0.heap.size
      omega
  have HST := hid h
  clear h hA
  refine (wpIn_wide (n := 5)).1 ?_
  refine wpIn_rangeFunc_ownH rfl (by omega) (gf := 94) (lb := #[.pointer (some ⟨w.heap.size + 1 + 1, 0, none⟩)]) rfl trivial (enters_of Tryz.func94 (by kernel_rfl) rfl)
    (back_stops Fence.wide _ trivial rfl (by omega) (w.heap.size + 1 + 1) W0.heap.size a len cap V hlen W0 (by omega) (Nat.le_refl _) bS.cell hA0 hlow) belowK_t (belowK_b (Nat.le_refl _)) (Below.refl _ _) (fun _ => rfl)
    (fun pre W => (∀ p ∈ pre, p.2.key ≠ s) ∧ Below W0.heap.size W0 W)
    (fun c pre W => (c = .ret ∧ ∃ ini last, pre = ini ++ [last] ∧ (∀ p ∈ ini, p.2.key ≠ s) ∧ last.2.key = s ∧ Boxed W (w.heap.size + 1) 4 (.bool last.2.set)) ∧ Below w.heap.size w W)
    (OwnFrom.and (ownFrom_pure _ _) (ownFrom_below (Nat.le_refl _) (Nat.le_refl _)))
    (fun c => OwnFrom.and (Own.from (fun s' A B row hs hg hr => by
      obtain ⟨hc, ini, last, e1, e2, e3, e4⟩ := hs
      exact ⟨hc, ini, last, e1, e2, e3, boxed_own _ _ (fun _ => .bool last.2.set) s' A B row e4 hg hr⟩) _) (ownFrom_below (Nat.le_refl _) (by omega)))
    ⟨by simp, Below.refl _ _⟩
    (fun x a' W => ∃ Bx, W0.heap.size ≤ Bx ∧ W.heap[Bx]? = some (.cells #[.string x.2.key, .bool x.2.set, .slice x.2.x x.2.n x.2.c] 54 (0, 0)) ∧ a' = { tmps := #[.pointer (some ⟨sp, 0, none⟩), .string s, .slice a len cap, undef, .pointer (some ⟨w.heap.size, 0, none⟩), undef, .pointer (some ⟨w.heap.size + 1, 0, none⟩), undef, .pointer (some ⟨Bx, 0, none⟩), undef, undef, .slice a len cap, .func (.func 94) #[] #[.pointer (some ⟨w.heap.size + 1 + 1, 0, none⟩)], .int .i64 (x.1 : Int), .agg #[.string x.2.key, .bool x.2.set, .slice x.2.x x.2.n x.2.c], undef, undef, undef, undef, undef, undef, undef, undef, undef, undef, undef, undef, undef, undef, undef, undef], defers := [] })
    (fun x a' => fun s' X Y row hs hg hr => by
      obtain ⟨Bx, h1, h2, h3⟩ := hs
      exact ⟨Bx, h1, act_own x.2 _ Bx () X Y row h2 hg (fun r e => (hr r e).2), h3⟩) ?assign ?body ?done ?stop
  case assign =>
    rintro l pre x W K ⟨q1, q4⟩ hK
    unfold agv
    gi_wp2
    exact hK _ _ ((KeepsOthers.alloc _ _).from _) ((Below.refl _ W).alloc q4.size _) ⟨q1, q4.alloc q4.size _⟩ ⟨W.heap.size, q4.size, World.alloc_heap_new W _, rfl⟩
  case body =>
    rintro l pre x a' W hl ⟨r, hr⟩ ⟨q1, q4⟩ ⟨Bx, hBx, bX, rfl⟩ hlt
    have x0 : W.cell? ⟨Bx, 0, none⟩ = some (.string x.2.key) := by simp [World.cell?, bX]
    have x1 : W.cell? ⟨Bx, 1, none⟩ = some (.bool x.2.set) := by simp [World.cell?, bX]
    have hkc : W.cell? ⟨w.heap.size, 0, none⟩ = some (.string s) := (q4.cell (p := ⟨w.heap.size, 0, none⟩) (by show w.heap.size < W0.heap.size; omega)).trans bK.cell
    have bR' : Boxed W (w.heap.size + 1) 4 (.bool false) := (q4.block (w.heap.size + 1) (by omega)).trans bR
    have hrc := bR'.cell
    have hrf := bR'.frozen
    have HB := hid (And.intro bR' (hB0.trans (q4.mono (by omega))))
    have HQ := hid (And.intro q1 q4)
    clear q1 q4 bX bR'
    by_cases hk : x.2.key = s
    · have hbe : (x.2.key.toList == s.toList) = true := by rw [hk]; exact beq_same s
      have HK := hid hk
      clear hk
      gi_wp2
      exact ⟨(KeepsOthers.setCell _ _ _).from _, ⟨rfl, pre, x, rfl, HQ.out.1, HK.out, HB.out.1.set _⟩, HB.out.2.setCell (p := ⟨w.heap.size + 1, 0, none⟩) (Nat.le_succ _) _⟩
    · have hbe : (x.2.key.toList == s.toList) = false := beq_diff hk
      have HK := hid hk
      clear hk
      gi_wp2
      exact ⟨KeepsFrom.refl _ _, Below.refl _ _, (fun p hp => (List.mem_append.1 hp).elim (HQ.out.1 p) (fun e => by simp at e; subst e; exact HK.out)), HQ.out.2⟩
  case done =>
    rintro D' ys W hD rfl ⟨q1, q4⟩ hK
    have hbW : Below w.heap.size w W := hB0.trans (q4.mono (by omega))
    have hst := HST.out.below hbW
    have c1 := hst.c1
    have hkc : W.cell? ⟨w.heap.size, 0, none⟩ = some (.string s) := (q4.cell (p := ⟨w.heap.size, 0, none⟩) (by show w.heap.size < W0.heap.size; omega)).trans bK.cell
    have bR' : Boxed W (w.heap.size + 1) 4 (.bool false) := (q4.block (w.heap.size + 1) (by omega)).trans bR
    have hrc := bR'.cell
    have hrf := bR'.frozen
    obtain ⟨x, n, c, hlook⟩ := hst.map.lookq s (by omega)
    have hres : doL M (pas V len) s = M s := doL_away M V s len (fun i hi => by
      have := q1 (i, V i) (by
        simp only [dn, List.mem_map, List.mem_range]
        exact ⟨len - 1 - i, by omega, by rw [show len - 1 - (len - 1 - i) = i by omega]⟩)
      exact this)
    have hTt : (M s).isSome = T := by rw [← hres]; exact HT.out
    rw [hTt] at hlook
    have HF := hid (And.intro hbW (And.intro bR' hK))
    clear hst q1 q4 hbW bR' hres hTt HT
    go_wp2_with fail
    go_quiet (fail)
    go_wp2_with fail
    obtain ⟨z1, z2, z3⟩ := HF.out
    have z3' : (W.drewN nq).heap[D']? = some (.deferred (some [])) := z3
    have hK' := (KeepsOthers.setCell (W.drewN nq) ⟨w.heap.size + 1, 0, none⟩ (.bool T)).same D' _ z3' rfl
    refine ⟨by simp, .inl ⟨_, _, rfl, run_takeDeferred hK', ?_⟩⟩
    have z2' : Boxed (W.drewN nq) (w.heap.size + 1) 4 (.bool false) := z2
    have hc5 := cell_kept ((z2'.set (.bool T)).cell) (grownBy_putObj' _ D' (.deferred none)) (fun r e => by cases e; exact ⟨_, hK', rfl⟩)
    refine ⟨.bool T, ?_, rfl, (((below_drewN' z1 nq).setCell (p := ⟨w.heap.size + 1, 0, none⟩) (Nat.le_succ _) _)).trans (belowK_b (w := w) (Nat.le_refl _) _ D' _ _ (by omega) hK' rfl rfl)⟩
    rw [results_cell rfl]
    go_simp
  case stop =>
    rintro D' c pre W hD ⟨k, hk, rfl⟩ ⟨⟨rfl, ini, last, e1, e2, e3, e4⟩, q4⟩ hK
    obtain ⟨k', rfl⟩ : ∃ k', k = k' + 1 := by
      cases k with
      | zero => simp [dn] at e1
      | succ k' => exact ⟨k', rfl⟩
    rw [dn_succ] at e1
    obtain ⟨rfl, e5⟩ := List.append_inj' e1 rfl
    obtain rfl : (len - 1 - k', V (len - 1 - k')) = last := by simpa using e5
    have hres : (doL M (pas V len) s).isSome = (V (len - 1 - k')).set := doL_hit M V s (len - 1 - k') e3 len (by omega) (fun i hi hji => by
      have := e2 (i, V i) (by
        simp only [dn, List.mem_map, List.mem_range]
        exact ⟨len - 1 - i, by omega, by rw [show len - 1 - (len - 1 - i) = i by omega]⟩)
      exact this)
    have hTt : (V (len - 1 - k')).set = T := by rw [← hres]; exact HT.out
    dsimp only at e4
    rw [hTt] at e4
    clear hres hTt HT
    gi_wp2
    refine ⟨by simp, .inl ⟨_, _, rfl, run_takeDeferred hK, ?_⟩⟩
    have hc5 := cell_kept e4.cell (grownBy_putObj' _ D' (.deferred none)) (fun r e => by cases e; exact ⟨_, hK, rfl⟩)
    refine ⟨.bool T, ?_, rfl, q4.trans (belowK_b (w := w) (Nat.le_refl _) W D' _ _ (by omega) hK rfl rfl)⟩
    rw [results_cell rfl]
    go_simp

theorem aelem_row : Tryz.prog.underlying 24 = some (.slice (Tryz.prog.elem 24)) := by kernel_rfl
theorem aelem_is : Tryz.prog.elem 24 = 54 := by kernel_rfl
theorem asize_act (w : World) : (sizeOf 54).run Tryz.prog w = .ok 3 w := by kernel_rfl

theorem cut_acts (x : Option Addr) (n c m : Nat) (w : World) (h : m ≤ c) :
    (Instr.slice 24 (.slice x n c) none (some (.int .i64 (m : Int))) none).run Tryz.prog w = .ok (.slice x m c) w := by
  rw [run_slice_h w 24 _ _ _ aelem_row .i64 (m : Int) (by omega) (by omega), aelem_is, asize_act]
  simp only [Result.andThen, sliced, Int.toNat_natCast, Nat.zero_mul, Nat.sub_zero]
  have : (if c = 0 then x else x.map (·.add 0)) = x := by
    split
    · rfl
    · cases x with
      | none => rfl
      | some a => simp [Addr.add]
  rw [this]

set_option maxHeartbeats 1000000 in
theorem cando_any {w : World} {sp jp mb nb : Nat} {D : DataW Value} {M : KV} {U : Nat → Prop} (h : StAt w sp jp mb nb D M U) (a : Option Addr) (len cap : Nat) (V : Nat → AV) (hA : ActsAt w a len V) (hlen : len ≤ 140737488351232) (hcap : len ≤ cap) (t : Bool) (ht : t = true ↔ canL M (pas V len)) :
    Calls Tryz.prog 33 #[.pointer (some ⟨sp, 0, none⟩), .slice a len cap] w fun e w' => e = .returned (.bool t) ∧ Below w.heap.size w w' := by
  have HS := hid h
  have HA := hid hA
  have HT := hid ht
  clear h hA ht
  go_enter Tryz.func33, Tryz.ntmps33
  go_wp2_with fail
  go_loopw [9] (fun i wr => ∃ k : Nat, k ≤ len ∧ i = .int .i64 k ∧ Hid ((∀ j, j < k → (V j).set = false → (doL M (pas V j) (V j).key).isSome = true) ∧ Below w.heap.size w wr)) (fun i _ => len - (intOf i).toNat)
  case atStart => exact ⟨0, by omega, rfl, ⟨(fun j hj => by omega), Below.refl _ _⟩⟩
  case round =>
    obtain ⟨k, hk, rfl, HR⟩ := hrel
    by_cases hkl : k < len
    · have hkl' : (k : Int) < (len : Int) := by omega
      have hbw := HR.out.2
      have hacts := HA.out.below hbw
      have hst := HS.out.below hbw
      rcases hacts.row with h0 | ⟨b, o, rfl, hbl, hc⟩
      · omega
      obtain ⟨k0, k1, k2⟩ := hc k hkl
      have ho := hacts.act k hkl
      have hbo : Below wr.heap.size wr (wr.alloc (.cells #[.string (V k).key, .bool (V k).set, .slice (V k).x (V k).n (V k).c] 54)) := (Below.refl _ _).alloc (Nat.le_refl _) _
      by_cases hset : (V k).set = true
      · have HN : Hid (∀ q, (∀ j, j < k + 1 → (V j).set = false → (doL M (pas V j) (V j).key).isSome = true) ∧ Below w.heap.size w ((wr.alloc (.cells #[.string (V k).key, .bool (V k).set, .slice (V k).x (V k).n (V k).c] 54)).drewN q)) := fun q => ⟨fun j hj hs => by
          by_cases e : j = k
          · subst e; rw [hset] at hs; cases hs
          · exact HR.out.1 j (by omega) hs, below_drewN' (hbw.trans (hbo.mono hbw.size)) q⟩
        clear hc ho hbo hst hacts hbw HR
        rw [hset] at k1 HN
        generalize (V k).key = Kk at *
        generalize (V k).x = Kx at *
        generalize (V k).n = Kn at *
        generalize (V k).c = Kc at *
        go_wp2_with fail
        generalize hWb : wr.alloc (.cells #[.string Kk, .bool true, .slice Kx Kn Kc] 54) = Wb at *
        have s0 : Wb.cell? ⟨wr.heap.size, 0, none⟩ = some (.string Kk) := by rw [← hWb]; simp
        have s1 : Wb.cell? ⟨wr.heap.size, 1, none⟩ = some (.bool true) := by rw [← hWb]; simp
        clear hWb
        go_quiet (fail)
        go_wp2_with fail
        go_roundw
        case rel => exact ⟨k + 1, by omega, by go_num, HN.out _⟩
        case measure => simp [intOf]; omega
      · have hset' : (V k).set = false := by simpa using hset
        have hbd : Below wr.heap.size wr (wr.alloc (.cells #[.string (V k).key, .bool (V k).set, .slice (V k).x (V k).n (V k).c] 54)).drew := hbo.drew
        have hH := shas_any (hst.below hbd) (V k).key ho.ks (some ⟨b, o, none⟩) k cap V ((hacts.take hk).below hbd) (by omega)
        have hcut := fun v => cut_acts (some ⟨b, o, none⟩) len cap k v (by omega)
        have HH : Hid (∀ v, Below (wr.heap.size + 1) (wr.alloc (.cells #[.string (V k).key, .bool (V k).set, .slice (V k).x (V k).n (V k).c] 54)).drew v → (v.cell? ⟨wr.heap.size, 0, none⟩ = some (.string (V k).key) ∧ v.cell? ⟨wr.heap.size, 1, none⟩ = some (.bool (V k).set)) ∧ Below w.heap.size w v) := fun v hv =>
          ⟨⟨(hv.cell (p := ⟨wr.heap.size, 0, none⟩) (Nat.lt_succ_self _)).trans (by simp), (hv.cell (p := ⟨wr.heap.size, 1, none⟩) (Nat.lt_succ_self _)).trans (by simp)⟩, hbw.trans ((hbd.mono hbw.size).trans (hv.mono (by have := hbw.size; omega)))⟩
        cases hr : (doL M (pas V k) (V k).key).isSome with
        | true =>
          rw [hr] at hH
          have HN : Hid (∀ j, j < k + 1 → (V j).set = false → (doL M (pas V j) (V j).key).isSome = true) := fun j hj hs => by
            by_cases e : j = k
            · subst e; exact hr
            · exact HR.out.1 j (by omega) hs
          clear hc ho hbo hst hacts hbw HR hbd hset hr
          rw [hset'] at k1 hH HH
          generalize (V k).key = Kk at *
          generalize (V k).x = Kx at *
          generalize (V k).n = Kn at *
          generalize (V k).c = Kc at *
          go_wp2_with fail
          refine wp_region_held_drew (S := fun v => v.cell? ⟨wr.heap.size, 0, none⟩ = some (.string Kk) ∧ v.cell? ⟨wr.heap.size, 1, none⟩ = some (.bool false)) (by kernel_rfl) ⟨by simp, by simp⟩ (fun hHeld => ?_)
          refine wpAnyH_take (i := 0) (v := ?_) rfl (by kernel_rfl) (by kernel_rfl) (by kernel_rfl) (fun _ _ _ h => h) (Or.inl ⟨by rfl, ?_⟩) (by assumption) ?_
          case refine_2 => (intro w hSw; (try dsimp only at hSw); go_simp; (try with_reducible rfl))
          (try simp only [Act.put, List.getElem_toArray, List.getElem_cons_succ, List.getElem_cons_zero, List.setIfInBounds_toArray, List.set_cons_zero, List.set_cons_succ])
          refine wpAnyH_take (i := 1) (v := ?_) rfl (by kernel_rfl) (by kernel_rfl) (by kernel_rfl) (fun _ _ _ h => h) (Or.inl ⟨by rfl, ?_⟩) (by assumption) ?_
          case refine_2 => (intro w hSw; (try dsimp only at hSw); go_simp; (try with_reducible rfl))
          (try simp only [Act.put, List.getElem_toArray, List.getElem_cons_succ, List.getElem_cons_zero, List.setIfInBounds_toArray, List.set_cons_zero, List.set_cons_succ])
          refine wpAnyH_take (i := 2) (v := ?_) rfl (by kernel_rfl) (by kernel_rfl) (by kernel_rfl) (fun _ _ _ h => h) (Or.inl ⟨by rfl, ?_⟩) (by assumption) ?_
          case refine_2 => (intro w hSw; (try dsimp only at hSw); go_simp; (try with_reducible rfl))
          (try simp only [Act.put, List.getElem_toArray, List.getElem_cons_succ, List.getElem_cons_zero, List.setIfInBounds_toArray, List.set_cons_zero, List.set_cons_succ])
          refine wpAnyH_take (i := 3) (v := ?_) rfl (by kernel_rfl) (by kernel_rfl) (by kernel_rfl) (fun _ _ _ h => h) (Or.inl ⟨by rfl, ?_⟩) (by assumption) ?_
          case refine_2 => (intro w hSw; (try dsimp only at hSw); go_simp; (try with_reducible rfl))
          (try simp only [Act.put, List.getElem_toArray, List.getElem_cons_succ, List.getElem_cons_zero, List.setIfInBounds_toArray, List.set_cons_zero, List.set_cons_succ])
          refine wpAnyH_take (i := 4) (v := ?_) rfl (by kernel_rfl) (by kernel_rfl) (by kernel_rfl) (fun _ _ _ h => h) (Or.inl ⟨by rfl, ?_⟩) (by assumption) ?_
          case refine_2 => (intro w hSw; (try dsimp only at hSw); go_simp; (try with_reducible rfl))
          (try simp only [Act.put, List.getElem_toArray, List.getElem_cons_succ, List.getElem_cons_zero, List.setIfInBounds_toArray, List.set_cons_zero, List.set_cons_succ])
          refine wpAnyH_take (i := 5) (v := ?_) rfl (by kernel_rfl) (by kernel_rfl) (by kernel_rfl) (fun _ _ _ h => h) (Or.inl ⟨by rfl, ?_⟩) (by assumption) ?_
          case refine_2 => (intro w hSw; (try dsimp only at hSw); go_simp; (try with_reducible rfl))
          (try simp only [Act.put, List.getElem_toArray, List.getElem_cons_succ, List.getElem_cons_zero, List.setIfInBounds_toArray, List.set_cons_zero, List.set_cons_succ])
          refine wpAnyH_take (i := 6) (v := ?_) rfl (by kernel_rfl) (by kernel_rfl) (by kernel_rfl) (fun _ _ _ h => h) (Or.inl ⟨by rfl, ?_⟩) (by assumption) ?_
          case refine_2 => (intro w hSw; (try dsimp only at hSw); go_simp; (try with_reducible rfl))
          (try simp only [Act.put, List.getElem_toArray, List.getElem_cons_succ, List.getElem_cons_zero, List.setIfInBounds_toArray, List.set_cons_zero, List.set_cons_succ])
          refine wpAnyH_take (i := 7) (v := ?_) rfl (by kernel_rfl) (by kernel_rfl) (by kernel_rfl) (fun _ _ _ h => h) (Or.inl ⟨by rfl, ?_⟩) (by assumption) ?_
          case refine_2 => (intro w hSw; (try dsimp only at hSw); go_simp; (try with_reducible rfl))
          (try simp only [Act.put, List.getElem_toArray, List.getElem_cons_succ, List.getElem_cons_zero, List.setIfInBounds_toArray, List.set_cons_zero, List.set_cons_succ])
          refine wpAnyH_take (i := 8) (v := ?_) rfl (by kernel_rfl) (by kernel_rfl) (by kernel_rfl) (fun _ _ _ h => h) (Or.inl ⟨by rfl, ?_⟩) (by assumption) ?_
          case refine_2 => (intro w hSw; (try dsimp only at hSw); go_simp; (try with_reducible rfl))
          (try simp only [Act.put, List.getElem_toArray, List.getElem_cons_succ, List.getElem_cons_zero, List.setIfInBounds_toArray, List.set_cons_zero, List.set_cons_succ])
          refine wpAnyH_take (i := 9) (v := ?_) rfl (by kernel_rfl) (by kernel_rfl) (by kernel_rfl) (fun _ _ _ h => h) (Or.inl ⟨by rfl, ?_⟩) (by assumption) ?_
          case refine_2 => (intro w hSw; (try dsimp only at hSw); go_simp; (try with_reducible rfl))
          (try simp only [Act.put, List.getElem_toArray, List.getElem_cons_succ, List.getElem_cons_zero, List.setIfInBounds_toArray, List.set_cons_zero, List.set_cons_succ])
          refine wpAnyH_ready (rs := [10]) (by kernel_rfl) (by simp) ?_
          refine AllReadyH.cons rfl (fun K hK => ?_) AllReadyH.nil
          go_simp
          refine hH.mono ?_
          rintro e v ⟨rfl, hv⟩
          obtain ⟨s1, hbv⟩ := HH.out v (by simpa using hv)
          have HB := hid hbv
          clear hH HH hv hbv
          refine hK.out _ _ s1 (fun hHeld => ?_)
          clear hK K
          refine wpAnyH_take (i := 11) (v := ?_) rfl (by kernel_rfl) (by kernel_rfl) (by kernel_rfl) (fun _ _ _ h => h) (Or.inl ⟨by rfl, ?_⟩) (by assumption) ?_
          case refine_2 => (intro w hSw; (try dsimp only at hSw); go_simp; (try with_reducible rfl))
          (try simp only [Act.put, List.getElem_toArray, List.getElem_cons_succ, List.getElem_cons_zero, List.setIfInBounds_toArray, List.set_cons_zero, List.set_cons_succ])
          refine wpAnyH_take (i := 12) (v := ?_) rfl (by kernel_rfl) (by kernel_rfl) (by kernel_rfl) (fun _ _ _ h => h) (Or.inl ⟨by rfl, ?_⟩) (by assumption) ?_
          case refine_2 => (intro w hSw; (try dsimp only at hSw); go_simp; (try with_reducible rfl))
          (try simp only [Act.put, List.getElem_toArray, List.getElem_cons_succ, List.getElem_cons_zero, List.setIfInBounds_toArray, List.set_cons_zero, List.set_cons_succ])
          refine wpAnyH_done (by kernel_rfl) ?_ _
          go_wp2_with fail
          go_roundw
          case rel => exact ⟨k + 1, by omega, by go_num, ⟨HN.out, HB.out⟩⟩
          case measure => simp [intOf]; omega
        | false =>
          rw [hr] at hH
          have htf : t = false := by
            cases t
            · rfl
            · have := canL_at (HT.out.1 rfl) hkl hset'
              rw [hr] at this
              cases this
          clear hc ho hbo hst hacts hbw HR hbd hset hr HT
          subst htf
          rw [hset'] at k1 hH HH
          generalize (V k).key = Kk at *
          generalize (V k).x = Kx at *
          generalize (V k).n = Kn at *
          generalize (V k).c = Kc at *
          go_wp2_with fail
          refine wp_region_held_drew (S := fun v => v.cell? ⟨wr.heap.size, 0, none⟩ = some (.string Kk) ∧ v.cell? ⟨wr.heap.size, 1, none⟩ = some (.bool false)) (by kernel_rfl) ⟨by simp, by simp⟩ (fun hHeld => ?_)
          refine wpAnyH_take (i := 0) (v := ?_) rfl (by kernel_rfl) (by kernel_rfl) (by kernel_rfl) (fun _ _ _ h => h) (Or.inl ⟨by rfl, ?_⟩) (by assumption) ?_
          case refine_2 => (intro w hSw; (try dsimp only at hSw); go_simp; (try with_reducible rfl))
          (try simp only [Act.put, List.getElem_toArray, List.getElem_cons_succ, List.getElem_cons_zero, List.setIfInBounds_toArray, List.set_cons_zero, List.set_cons_succ])
          refine wpAnyH_take (i := 1) (v := ?_) rfl (by kernel_rfl) (by kernel_rfl) (by kernel_rfl) (fun _ _ _ h => h) (Or.inl ⟨by rfl, ?_⟩) (by assumption) ?_
          case refine_2 => (intro w hSw; (try dsimp only at hSw); go_simp; (try with_reducible rfl))
          (try simp only [Act.put, List.getElem_toArray, List.getElem_cons_succ, List.getElem_cons_zero, List.setIfInBounds_toArray, List.set_cons_zero, List.set_cons_succ])
          refine wpAnyH_take (i := 2) (v := ?_) rfl (by kernel_rfl) (by kernel_rfl) (by kernel_rfl) (fun _ _ _ h => h) (Or.inl ⟨by rfl, ?_⟩) (by assumption) ?_
          case refine_2 => (intro w hSw; (try dsimp only at hSw); go_simp; (try with_reducible rfl))
          (try simp only [Act.put, List.getElem_toArray, List.getElem_cons_succ, List.getElem_cons_zero, List.setIfInBounds_toArray, List.set_cons_zero, List.set_cons_succ])
          refine wpAnyH_take (i := 3) (v := ?_) rfl (by kernel_rfl) (by kernel_rfl) (by kernel_rfl) (fun _ _ _ h => h) (Or.inl ⟨by rfl, ?_⟩) (by assumption) ?_
          case refine_2 => (intro w hSw; (try dsimp only at hSw); go_simp; (try with_reducible rfl))
          (try simp only [Act.put, List.getElem_toArray, List.getElem_cons_succ, List.getElem_cons_zero, List.setIfInBounds_toArray, List.set_cons_zero, List.set_cons_succ])
          refine wpAnyH_take (i := 4) (v := ?_) rfl (by kernel_rfl) (by kernel_rfl) (by kernel_rfl) (fun _ _ _ h => h) (Or.inl ⟨by rfl, ?_⟩) (by assumption) ?_
          case refine_2 => (intro w hSw; (try dsimp only at hSw); go_simp; (try with_reducible rfl))
          (try simp only [Act.put, List.getElem_toArray, List.getElem_cons_succ, List.getElem_cons_zero, List.setIfInBounds_toArray, List.set_cons_zero, List.set_cons_succ])
          refine wpAnyH_take (i := 5) (v := ?_) rfl (by kernel_rfl) (by kernel_rfl) (by kernel_rfl) (fun _ _ _ h => h) (Or.inl ⟨by rfl, ?_⟩) (by assumption) ?_
          case refine_2 => (intro w hSw; (try dsimp only at hSw); go_simp; (try with_reducible rfl))
          (try simp only [Act.put, List.getElem_toArray, List.getElem_cons_succ, List.getElem_cons_zero, List.setIfInBounds_toArray, List.set_cons_zero, List.set_cons_succ])
          refine wpAnyH_take (i := 6) (v := ?_) rfl (by kernel_rfl) (by kernel_rfl) (by kernel_rfl) (fun _ _ _ h => h) (Or.inl ⟨by rfl, ?_⟩) (by assumption) ?_
          case refine_2 => (intro w hSw; (try dsimp only at hSw); go_simp; (try with_reducible rfl))
          (try simp only [Act.put, List.getElem_toArray, List.getElem_cons_succ, List.getElem_cons_zero, List.setIfInBounds_toArray, List.set_cons_zero, List.set_cons_succ])
          refine wpAnyH_take (i := 7) (v := ?_) rfl (by kernel_rfl) (by kernel_rfl) (by kernel_rfl) (fun _ _ _ h => h) (Or.inl ⟨by rfl, ?_⟩) (by assumption) ?_
          case refine_2 => (intro w hSw; (try dsimp only at hSw); go_simp; (try with_reducible rfl))
          (try simp only [Act.put, List.getElem_toArray, List.getElem_cons_succ, List.getElem_cons_zero, List.setIfInBounds_toArray, List.set_cons_zero, List.set_cons_succ])
          refine wpAnyH_take (i := 8) (v := ?_) rfl (by kernel_rfl) (by kernel_rfl) (by kernel_rfl) (fun _ _ _ h => h) (Or.inl ⟨by rfl, ?_⟩) (by assumption) ?_
          case refine_2 => (intro w hSw; (try dsimp only at hSw); go_simp; (try with_reducible rfl))
          (try simp only [Act.put, List.getElem_toArray, List.getElem_cons_succ, List.getElem_cons_zero, List.setIfInBounds_toArray, List.set_cons_zero, List.set_cons_succ])
          refine wpAnyH_take (i := 9) (v := ?_) rfl (by kernel_rfl) (by kernel_rfl) (by kernel_rfl) (fun _ _ _ h => h) (Or.inl ⟨by rfl, ?_⟩) (by assumption) ?_
          case refine_2 => (intro w hSw; (try dsimp only at hSw); go_simp; (try with_reducible rfl))
          (try simp only [Act.put, List.getElem_toArray, List.getElem_cons_succ, List.getElem_cons_zero, List.setIfInBounds_toArray, List.set_cons_zero, List.set_cons_succ])
          refine wpAnyH_ready (rs := [10]) (by kernel_rfl) (by simp) ?_
          refine AllReadyH.cons rfl (fun K hK => ?_) AllReadyH.nil
          go_simp
          refine hH.mono ?_
          rintro e v ⟨rfl, hv⟩
          obtain ⟨s1, hbv⟩ := HH.out v (by simpa using hv)
          have HB := hid hbv
          clear hH HH hv hbv
          refine hK.out _ _ s1 (fun hHeld => ?_)
          clear hK K
          refine wpAnyH_take (i := 11) (v := ?_) rfl (by kernel_rfl) (by kernel_rfl) (by kernel_rfl) (fun _ _ _ h => h) (Or.inl ⟨by rfl, ?_⟩) (by assumption) ?_
          case refine_2 => (intro w hSw; (try dsimp only at hSw); go_simp; (try with_reducible rfl))
          (try simp only [Act.put, List.getElem_toArray, List.getElem_cons_succ, List.getElem_cons_zero, List.setIfInBounds_toArray, List.set_cons_zero, List.set_cons_succ])
          refine wpAnyH_take (i := 12) (v := ?_) rfl (by kernel_rfl) (by kernel_rfl) (by kernel_rfl) (fun _ _ _ h => h) (Or.inl ⟨by rfl, ?_⟩) (by assumption) ?_
          case refine_2 => (intro w hSw; (try dsimp only at hSw); go_simp; (try with_reducible rfl))
          (try simp only [Act.put, List.getElem_toArray, List.getElem_cons_succ, List.getElem_cons_zero, List.setIfInBounds_toArray, List.set_cons_zero, List.set_cons_succ])
          refine wpAnyH_done (by kernel_rfl) ?_ _
          go_wp2_with fail
          go_ret
          exact ⟨rfl, HB.out⟩
    · obtain rfl : k = len := by omega
      have htt : t = true := HT.out.2 (canL_of HR.out.1)
      subst htt
      go_wp2_with fail
      go_ret
      exact ⟨rfl, HR.out.2⟩

end Go.Proofs.YtbbjklenpgkooaaGreat

/-
  strings.Clone, by the library's contract.
  Conditions: the text is at most 2^48 bytes long.
-/
namespace Go.Proofs.YtbbjklenpgkooaaGreat.St
open Go.RowKit Go.Shelf
set_option linter.unusedVariables false
set_option linter.unusedSimpArgs false
set_option maxRecDepth 100000

def ren316 : Go.Shelf.Ren := ⟨fun | 316 => 83 | n => n, fun | 0 => 0 | 3 => 3 | 4 => 4 | 5 => 5 | 9 => 9 | 37 => 22 | 127 => 149 | n => n, fun | n => n⟩
theorem lays316 : Go.Proofs.LaysM.n316 Tryz.prog ren316 where
  mixed := by kernel_rfl
  f316 := Tryz.func83.trans (congrArg some (by kernel_rfl))
  t0 := Tryz.underlying0
  a0 := Tryz.isAgg0
  z0 := Tryz.sizeOf0
  v0 := Tryz.zeroValue0
  t3 := Tryz.underlying3
  a3 := Tryz.isAgg3
  z3 := Tryz.sizeOf3
  v3 := Tryz.zeroValue3
  t4 := Tryz.underlying4
  a4 := Tryz.isAgg4
  z4 := Tryz.sizeOf4
  v4 := Tryz.zeroValue4
  t9 := Tryz.underlying9
  a9 := Tryz.isAgg9
  z9 := Tryz.sizeOf9
  v9 := Tryz.zeroValue9
  t37 := Tryz.underlying22
  a37 := Tryz.isAgg22
  z37 := Tryz.sizeOf22
  v37 := Tryz.zeroValue22
  t127 := Tryz.underlying149
  a127 := Tryz.isAgg149
  z127 := Tryz.sizeOf149
  v127 := Tryz.zeroValue149
  t5 := Tryz.underlying5
  a5 := Tryz.isAgg5
  z5 := Tryz.sizeOf5
  v5 := Tryz.zeroValue5
  i0 := by kernel_rfl
  i3 := by kernel_rfl
  i4 := by kernel_rfl
  i5 := by kernel_rfl
  i9 := by kernel_rfl
  i37 := by kernel_rfl
  i127 := by kernel_rfl

theorem clonelite_any (s : ByteArray) (w : World) (h : s.size ≤ 281474976710656) :
    Calls Tryz.prog 83 #[.string s] w fun e w' => e = .returned (.string s) ∧ Below w.heap.size w w' := Any.stringslite_Clone lays316 s w h

theorem sclone_any (s : ByteArray) (w : World) (h : s.size ≤ 281474976710656) :
    Calls Tryz.prog 64 #[.string s] w fun e w' => e = .returned (.string s) ∧ Below w.heap.size w w' := by
  have c := clonelite_any s w h
  clear h
  go_enter Tryz.func64, Tryz.ntmps64
  go_wp2_with (go_at_call 83; refine c.mono ?_; clear c; rintro e w' ⟨rfl, hb⟩)
  go_ret
  exact ⟨rfl, hb⟩

end Go.Proofs.YtbbjklenpgkooaaGreat.St

/-
  3 texts of this proof, one behind the other: PxItem, PxDoesB, PxDoesC.
-/
import Derived.Test.YtfgfjfemaniaiaaJ25
import Derived.Deep.Slices
import Derived.Test.YtfgfjfemaniaiaaJ01
/-
  What a law is told of an Act, and of a list of Acts, that came in, with their reach.
  Conditions: none.
-/
namespace Go.Proofs.Ytfgfjfemaniaiaa.Px
open Go.RowKit Go.ChangeShapes Go.WideShapes Go.Deep By Fl Ba
set_option linter.unusedVariables false
set_option linter.unusedSimpArgs false
set_option maxRecDepth 100000

theorem mem_weightsAll {H : Type} {P : Program} {e : TypeId} {d : DataW H} {n : Nat} (hn : n ∈ d.weights P e) : ∀ {ds : List (DataW H)}, d ∈ ds → n ∈ DataW.weightsAll P e ds
  | d0 :: ds, h => by
    simp only [DataW.weightsAll, List.mem_append]
    rcases List.mem_cons.1 h with h | h
    · subst h; exact .inl hn
    · exact .inr (mem_weightsAll hn h)

structure ActV where
  do_ : Int
  a : Int
  x : Option Addr
  n : Nat
  c : Nat
  d : List Nat

structure ActIn (w : World) (v : ActV) : Prop where
  hdo : wfi v.do_
  ha : wfi v.a
  sl : Fl.Sl w v.x v.n v.c v.d
  sm : v.n ≤ 140737488351232

structure ActsIn (w : World) (a : Option Addr) (len cap : Nat) (V : Nat → ActV) : Prop where
  le : len ≤ cap
  nil : a = none → len = 0 ∧ cap = 0
  small : len ≤ 140737488351232
  row : len = 0 ∨ ∃ b o, a = some ⟨b, o, none⟩ ∧ b < w.heap.size ∧ ∀ i, i < len → w.cell? ⟨b, o + i * 3, none⟩ = some (.int .i64 (V i).do_) ∧ w.cell? ⟨b, o + i * 3 + 1, none⟩ = some (.int .i64 (V i).a) ∧ w.cell? ⟨b, o + i * 3 + 2, none⟩ = some (.slice (V i).x (V i).n (V i).c)
  act : ∀ i, i < len → ActIn w (V i)

section
variable {H : Type} {enc : TypeId × Value → H} {W : World} {base : Nat} {held : Bool} {d : DataW H} {p : List MemPlace}

theorem act_cells {fuel : Nat} {e0 e1 e2 : Value} (hf : DataW.trod enc Try.prog W base (fun _ => true) held fuel 37 [e0, e1, e2] = some (d, p)) (hw : ∀ x ∈ d.weights Try.prog 37, x ≤ reachBytes) :
    ∃ v : ActV, e0 = .int .i64 v.do_ ∧ e1 = .int .i64 v.a ∧ e2 = .slice v.x v.n v.c ∧ ActIn W v := by
  have c3 : Try.prog.cellsOf 3 = 1 := by kernel_rfl
  have c22 : Try.prog.cellsOf 35 = 1 := by kernel_rfl
  obtain ⟨xs, n, _, hx, _, hxl, hF⟩ := DataW.trod_struct Try.underlying37 hf
  simp only [Prod.mk.injEq] at hx
  obtain ⟨hd, _⟩ := hx
  subst hd
  obtain ⟨x0, x1, x2, rfl⟩ : ∃ x0 x1 x2, xs = [x0, x1, x2] := by
    match xs, hxl with
    | [x0, x1, x2], _ => exact ⟨x0, x1, x2, rfl⟩
  have f0' : DataW.trod enc Try.prog W base (fun _ => true) held n 3 (([e0, e1, e2].drop 0).take (Try.prog.cellsOf 3)) = some x0 := hF 0 _ rfl
  rw [c3] at f0'
  have f0 : DataW.trod enc Try.prog W base (fun _ => true) held n 3 [e0] = some x0 := f0'
  have f1' : DataW.trod enc Try.prog W base (fun _ => true) held n 3 (([e0, e1, e2].drop 1).take (Try.prog.cellsOf 3)) = some x1 := hF 1 _ rfl
  rw [c3] at f1'
  have f1 : DataW.trod enc Try.prog W base (fun _ => true) held n 3 [e1] = some x1 := f1'
  have f2' : DataW.trod enc Try.prog W base (fun _ => true) held n 35 (([e0, e1, e2].drop 2).take (Try.prog.cellsOf 35)) = some x2 := hF 2 _ rfl
  rw [c22] at f2'
  have f2 : DataW.trod enc Try.prog W base (fun _ => true) held n 35 [e2] = some (x2.1, x2.2) := f2'
  obtain ⟨D, d1, _, d3⟩ := DataW.trod_int Try.underlying3 f0
  obtain ⟨N, n1, _, n3⟩ := DataW.trod_int Try.underlying3 f1
  simp at d1 n1
  subst d1 n1
  simp only [DataW.weights, Try.underlying37] at hw
  obtain ⟨a, len, cap, f, g1, g2⟩ := bytes_in f2 (fun x hx => hw x (DataW.weights_mem_each (j := 2) (t := 35) rfl rfl x hx))
  simp at g1
  exact ⟨⟨D, N, a, len, cap, (List.range len).map f⟩, rfl, rfl, g1, ⟨d3, n3, Fl.Sl.of_in g2, Nat.le_trans g2.le g2.small⟩⟩

theorem three_cells : Try.prog.cellsOf 37 = 3 := by kernel_rfl

theorem acts_open {fuel : Nat} {cs : List Value} (hf : DataW.trod enc Try.prog W base (fun _ => true) held fuel 22 cs = some (d, p)) :
    (cs = [.slice none 0 0] ∧ d = .nil) ∨
    ∃ (a : Addr) (len cap n : Nat) (DD : Nat → DataW H) (Pl : Nat → List MemPlace), cs = [.slice (some a) len cap] ∧ len ≤ cap ∧ d = .slice ((List.range len).map DD) ((List.range (cap - len)).map fun j => DD (len + j)) ∧
      ∀ i, i < cap → ∃ e0 e1 e2, W.cell? (a.add (i * 3)) = some e0 ∧ W.cell? (a.add (i * 3 + 1)) = some e1 ∧ W.cell? (a.add (i * 3 + 2)) = some e2 ∧ DataW.trod enc Try.prog W base (fun _ => true) held n 37 [e0, e1, e2] = some (DD i, Pl i) := by
  rcases open_slice Try.underlying22 hf with ⟨h1, h2⟩ | ⟨a, len, cap, m, n, DD, Pl, rfl, hb, hl, hm, hmm, hx, hcell⟩
  · simp only [Prod.mk.injEq] at h2
    exact .inl ⟨h1, h2.1⟩
  · simp only [if_true] at hmm
    subst hmm
    simp only [Prod.mk.injEq] at hx
    refine .inr ⟨a, len, m, n, DD, Pl, rfl, hl, hx.1, fun i hi => ?_⟩
    obtain ⟨cs', h1, h2⟩ := hcell i hi
    rw [three_cells] at h1
    obtain ⟨_, hlen, hc⟩ := World.cells?_some h1
    match cs', hlen with
    | [e0, e1, e2], _ =>
      have q0 := hc 0 (by omega)
      have q1 := hc 1 (by omega)
      have q2 := hc 2 (by omega)
      rw [add_add] at q0 q1 q2
      exact ⟨e0, e1, e2, by simpa using q0, by simpa using q1, by simpa using q2, h2⟩

def noAct : ActV := ⟨0, 0, none, 0, 0, []⟩

theorem acts_in {fuel : Nat} {cs : List Value} (hf : DataW.trod enc Try.prog W base (fun _ => true) held fuel 22 cs = some (d, p)) (hw : ∀ x ∈ d.weights Try.prog 22, x ≤ reachBytes) :
    ∃ a len cap V, cs = [.slice a len cap] ∧ ActsIn W a len cap V := by
  rcases acts_open hf with ⟨h1, _⟩ | ⟨a, len, cap, n, DD, Pl, h1, hl, rfl, hc⟩
  · exact ⟨none, 0, 0, fun _ => noAct, h1, Nat.le_refl _, fun _ => ⟨rfl, rfl⟩, by omega, .inl rfl, fun i hi => by omega⟩
  · have hb40 : Try.prog.bytesOf 37 = 40 := by kernel_rfl
    simp only [DataW.weights, Try.underlying22, List.mem_cons, List.mem_append, hb40] at hw
    have hw0 := hw _ (.inl rfl)
    simp only [List.length_map, List.length_range, reachBytes] at hw0
    haveI : Inhabited ActV := ⟨noAct⟩
    have each : ∀ i, i < len → ∃ v : ActV, W.cell? (a.add (i * 3)) = some (.int .i64 v.do_) ∧ W.cell? (a.add (i * 3 + 1)) = some (.int .i64 v.a) ∧ W.cell? (a.add (i * 3 + 2)) = some (.slice v.x v.n v.c) ∧ ActIn W v := fun i hi => by
      obtain ⟨e0, e1, e2, g0, g1, g2, g5⟩ := hc i (by omega)
      obtain ⟨v, rfl, rfl, rfl, k⟩ := act_cells g5 (fun x hx => hw x (.inr (.inl (mem_weightsAll hx (List.mem_map.2 ⟨i, List.mem_range.2 hi, rfl⟩)))))
      exact ⟨v, g0, g1, g2, k⟩
    obtain ⟨V, hV⟩ := choose_lt each
    refine ⟨some a, len, cap, V, h1, hl, (fun h => by cases h), by omega, ?_, fun i hi => (hV i hi).2.2.2⟩
    by_cases h0 : len = 0
    · exact .inl h0
    · obtain ⟨b, off, spot⟩ := a
      have hspot : spot = none := by simpa [Addr.add] using World.cell?_spot (hV 0 (by omega)).1
      subst hspot
      refine .inr ⟨b, off, rfl, by simpa [Addr.add] using cell_lt' (hV 0 (by omega)).1, fun i hi => ?_⟩
      obtain ⟨h1, h2, h3, _⟩ := hV i hi
      rw [add_at] at h1 h2 h3
      exact ⟨h1, by simpa [Nat.add_assoc] using h2, by simpa [Nat.add_assoc] using h3⟩

end

end Go.Proofs.Ytfgfjfemaniaiaa.Px

/-
  The statement's does: a value is proposed.
  Conditions: the group lies in memory ('Grp').
-/
namespace Go.Proofs.Ytfgfjfemaniaiaa.Px
open Go.RowKit Wi By Fl Ba
set_option linter.unusedVariables false
set_option linter.unusedSimpArgs false
set_option maxRecDepth 100000

section
variable {w : World} {B n : Nat} {g : Gl} {sts : Nat → Nd} {W : List Wy} {said : ByteArray → Prop} {G : Gh} {D K : Nat}

set_option maxHeartbeats 3200000 in
theorem does_long (h : Grp w B n g sts W said G D K) (h1 : 1 ≤ n) (hn : n ≤ 7) (hK : K ≤ 900) (hD : D < 59000) (a : Int) (a1 : -9223372036854775808 ≤ a) (a2 : a ≤ 9223372036854775807) (x : Option Addr) (vn vc : Nat) (hv : 4096 < vn) (hv2 : vn ≤ 140737488351232) :
    Calls Try.prog 10 #[.pointer (some ⟨g.q, 0, none⟩), .agg #[.int .i64 0, .int .i64 a, .slice x vn vc]] w fun e w' => e = .returned (.bool true) ∧ Hid (Acted w w' B n g sts said G D K) := by
  obtain ⟨lb, lc, hRl, hlc, hptr⟩ := h.ptr h1
  have c0 := h.c0
  rw [hRl] at c0
  have c1 := h.c1
  have c2 := h.c2
  have hqs := h.obj.lt
  have bA : Below w.heap.size w (w.alloc (.cells #[.int .i64 0, .int .i64 a, .slice x vn vc] 37)).drew := on (al _ _) (Below.refl _ _).drew
  have k0 : (w.alloc (.cells #[.int .i64 0, .int .i64 a, .slice x vn vc] 37)).drew.cell? ⟨w.heap.size, 0, none⟩ = some (.int .i64 0) := by go_simp
  have k1 : (w.alloc (.cells #[.int .i64 0, .int .i64 a, .slice x vn vc] 37)).drew.cell? ⟨w.heap.size, 1, none⟩ = some (.int .i64 a) := by go_simp
  have k2 : (w.alloc (.cells #[.int .i64 0, .int .i64 a, .slice x vn vc] 37)).drew.cell? ⟨w.heap.size, 2, none⟩ = some (.slice x vn vc) := by go_simp
  have s0 := keep bA c0
  have s1 := keep bA c1
  have s2 := keep bA c2
  have hAt := fun W => ati_any a n h1 (by omega) a1 a2 W
  have HH := hid (And.intro h (And.intro hptr hRl))
  obtain ⟨q, hq⟩ : ∃ q, g.q = q := ⟨_, rfl⟩
  have Hq := hid hq
  rw [hq] at s0 s1 s2 hqs ⊢
  clear h hptr hRl c0 c1 c2 hq
  go_enter Try.func10, Try.ntmps10
  go_wp2_with fail
  refine wp_region_held_drew (S := fun v => v.cell? ⟨q, 0, none⟩ = some (.slice (some ⟨lb, 0, none⟩) n lc) ∧ v.cell? ⟨w.heap.size, 1, none⟩ = some (.int .i64 a)) (by kernel_rfl) ⟨s0, k1⟩ (fun hHeld => ?_)
  generalize (w.alloc (.cells #[.int .i64 0, .int .i64 a, .slice x vn vc] 37)).drew = wA at *
  refine By.hk 0 ?_
  refine By.hk 1 ?_
  refine By.hk 2 ?_
  refine By.hk 3 ?_
  refine By.hk 4 ?_
  refine By.hk 5 ?_
  refine By.hk 6 ?_
  refine wpAnyH_ready (rs := [7]) (by kernel_rfl) (by simp) ?_
  refine AllReadyH.cons rfl (fun K hK => ?_) AllReadyH.nil
  go_simp
  refine (hAt _).mono ?_
  rintro e w9 ⟨r, hr, rfl, hw9⟩
  subst w9
  refine hK.out _ _ ⟨s0, k1⟩ (fun hHeld => ?_)
  clear hK K
  refine By.hk 8 ?_
  refine wpAnyH_done (by kernel_rfl) ?_ _
  clear hHeld hAt
  have p0 := keep bA (HH.out.2.1 r hr)
  have idn : (r : Int) < (n : Int) := by omega
  obtain ⟨pd, hpd⟩ : ∃ pd, (g.gs r).p = pd := ⟨_, rfl⟩
  have Hpd := hid hpd
  rw [hpd] at p0
  clear hpd
  have hT := prop_long ((HH.out.1.below bA).nd r hr) x vn vc hv
  rw [Hpd.out] at hT
  have i4 : (4096 : Int) < (vn : Int) := by omega
  have bB : Below wA.heap.size wA wA.drew := (Below.refl _ _).drew
  have f0 := keep bB s0
  have f1 := keep bB p0
  have f2 := keep bB k2
  have hT2 := prop_long (((HH.out.1.below bA).below bB).nd r hr) x vn vc hv
  rw [Hpd.out] at hT2
  go_wp2_with fail
  refine wp_region_held_drew (S := fun v => v.cell? ⟨q, 0, none⟩ = some (.slice (some ⟨lb, 0, none⟩) n lc) ∧ v.cell? ⟨lb, r, none⟩ = some (.pointer (some ⟨pd, 0, none⟩)) ∧ v.cell? ⟨w.heap.size, 2, none⟩ = some (.slice x vn vc)) (by kernel_rfl) ⟨f0, f1, f2⟩ (fun hHeld => ?_)
  generalize wA.drew = wB at *
  refine By.hk 0 ?_
  refine By.hk 1 ?_
  refine By.hk 2 ?_
  refine By.hk 3 ?_
  refine By.hk 4 ?_
  refine By.hk 5 ?_
  refine By.hk 6 ?_
  refine By.hk 7 ?_
  refine By.hk 8 ?_
  refine wpAnyH_ready (rs := [9]) (by kernel_rfl) (by simp) ?_
  refine AllReadyH.cons rfl (fun K hK => ?_) AllReadyH.nil
  go_simp
  refine hT2.mono ?_
  rintro e w9 ⟨rfl, hw9⟩
  subst w9
  refine hK.out _ _ ⟨f0, f1, f2⟩ (fun hHeld => ?_)
  clear hK K
  refine By.hk 10 ?_
  refine wpAnyH_done (by kernel_rfl) ?_ _
  clear hHeld
  go_wp2_with fail
  go_ret
  have rA := (HH.out.1.below bA).below bB
  exact ⟨rfl, g, sts, W, said, G, rA.more (by omega) (by omega), (GTo.of_below bA).trans (GTo.of_below bB), fun _ h => h, fun _ _ h => h⟩

set_option maxHeartbeats 3200000 in
theorem does_prop (h : Grp w B n g sts W said G D K) (h1 : 1 ≤ n) (hn : n ≤ 7) (hK : K ≤ 900) (hD : D < 59000) (a : Int) (a1 : -9223372036854775808 ≤ a) (a2 : a ≤ 9223372036854775807) (x : Option Addr) (vn vc : Nat) (hv : vn ≤ 4096) (l : List Nat) (hl : Fl.Sl w x vn vc l) (hx : vn ≠ 0 → ∀ ad, x = some ad → ad.block < B) :
    Calls Try.prog 10 #[.pointer (some ⟨g.q, 0, none⟩), .agg #[.int .i64 0, .int .i64 a, .slice x vn vc]] w fun e w' => e = .returned (.bool true) ∧ Hid (Acted w w' B n g sts said G D K) := by
  obtain ⟨lb, lc, hRl, hlc, hptr⟩ := h.ptr h1
  have c0 := h.c0
  rw [hRl] at c0
  have c1 := h.c1
  have c2 := h.c2
  have hqs := h.obj.lt
  have bA : Below w.heap.size w (w.alloc (.cells #[.int .i64 0, .int .i64 a, .slice x vn vc] 37)).drew := on (al _ _) (Below.refl _ _).drew
  have k0 : (w.alloc (.cells #[.int .i64 0, .int .i64 a, .slice x vn vc] 37)).drew.cell? ⟨w.heap.size, 0, none⟩ = some (.int .i64 0) := by go_simp
  have k1 : (w.alloc (.cells #[.int .i64 0, .int .i64 a, .slice x vn vc] 37)).drew.cell? ⟨w.heap.size, 1, none⟩ = some (.int .i64 a) := by go_simp
  have k2 : (w.alloc (.cells #[.int .i64 0, .int .i64 a, .slice x vn vc] 37)).drew.cell? ⟨w.heap.size, 2, none⟩ = some (.slice x vn vc) := by go_simp
  have s0 := keep bA c0
  have s1 := keep bA c1
  have s2 := keep bA c2
  have hAt := fun W => ati_any a n h1 (by omega) a1 a2 W
  have HH := hid (And.intro h (And.intro hptr hRl))
  obtain ⟨q, hq⟩ : ∃ q, g.q = q := ⟨_, rfl⟩
  have Hq := hid hq
  rw [hq] at s0 s1 s2 hqs ⊢
  clear h hptr hRl c0 c1 c2 hq
  go_enter Try.func10, Try.ntmps10
  go_wp2_with fail
  refine wp_region_held_drew (S := fun v => v.cell? ⟨q, 0, none⟩ = some (.slice (some ⟨lb, 0, none⟩) n lc) ∧ v.cell? ⟨w.heap.size, 1, none⟩ = some (.int .i64 a)) (by kernel_rfl) ⟨s0, k1⟩ (fun hHeld => ?_)
  generalize (w.alloc (.cells #[.int .i64 0, .int .i64 a, .slice x vn vc] 37)).drew = wA at *
  refine By.hk 0 ?_
  refine By.hk 1 ?_
  refine By.hk 2 ?_
  refine By.hk 3 ?_
  refine By.hk 4 ?_
  refine By.hk 5 ?_
  refine By.hk 6 ?_
  refine wpAnyH_ready (rs := [7]) (by kernel_rfl) (by simp) ?_
  refine AllReadyH.cons rfl (fun K hK => ?_) AllReadyH.nil
  go_simp
  refine (hAt _).mono ?_
  rintro e w9 ⟨r, hr, rfl, hw9⟩
  subst w9
  refine hK.out _ _ ⟨s0, k1⟩ (fun hHeld => ?_)
  clear hK K
  refine By.hk 8 ?_
  refine wpAnyH_done (by kernel_rfl) ?_ _
  clear hHeld hAt
  have p0 := keep bA (HH.out.2.1 r hr)
  have idn : (r : Int) < (n : Int) := by omega
  obtain ⟨pd, hpd⟩ : ∃ pd, (g.gs r).p = pd := ⟨_, rfl⟩
  have Hpd := hid hpd
  rw [hpd] at p0
  clear hpd
  have bB : Below wA.heap.size wA wA.drew := (Below.refl _ _).drew
  have f0 := keep bB s0
  have f1 := keep bB p0
  have f2 := keep bB k2
  have f3 := keep bB s2
  have i4 : ¬ (4096 : Int) < (vn : Int) := by omega
  have hx2 : vn ≠ 0 → ∀ ad, x = some ad → ¬ gf n g ad.block := fun hv0 ad ha e => by
    have h8 := hx hv0 ad ha
    have h9 := (HH.out.1.lowB _ e).1
    omega
  have bAB := on bA bB
  obtain ⟨er, her, hT⟩ : ∃ er : Int, (er = 0 ∨ er = 2) ∧ Calls Try.prog 16 #[.pointer (some ⟨pd, 0, none⟩), .slice x vn vc] wA.drew fun e w' => e = .returned (.int .i64 er) ∧ Hid (∃ st', Goes wA.drew w' B (g.gs r) st' 0 ∧ (sts r).dec.length ≤ st'.dec.length ∧ ∀ said' : ByteArray → Prop, (∀ v, said v → said' v) → said' (str l) → ∀ g1, gnb g1 ≤ 30000 * K → NodeAll n said' G (D + 1) (K + 1) r g1 st') := by
    have rA := HH.out.1.below bAB
    have hA := HH.out.1.all r hr
    by_cases hfull : 256 ≤ (sts r).wait.length
    · have p := prop_full (rA.nd r hr) x vn vc hv hfull
      rw [Hpd.out] at p
      refine ⟨2, .inr rfl, p.mono ?_⟩
      rintro e w' ⟨rfl, hw⟩
      subst hw
      refine ⟨rfl, sts r, Goes.same (rA.nd r hr) (Below.refl _ _), Nat.le_refl _, fun said' hs _ g1 hg1 => ?_⟩
      exact ⟨hA.ok.more hs, hA.nb, hA.rs.mono (by omega), hA.id, by have := hA.ser; omega, by omega⟩
    · have p := prop_yes (rA.nd r hr) x vn vc l (hl.below bAB) (fun hv0 ad ha e => hx2 hv0 ad ha (.inr (.inr (.inr (.inr ⟨r, hr, e⟩))))) hv (by omega) (by have := hA.ser; omega) (by rw [hA.id]; omega)
      rw [Hpd.out] at p
      refine ⟨0, .inl rfl, p.mono ?_⟩
      rintro e w' ⟨rfl, H⟩
      refine ⟨rfl, _, H.out, Nat.le_refl _, fun said' hs hv9 g1 hg1 => ?_⟩
      have hsz : (str l).size ≤ 4096 := by rw [str_size]; have := hl.len; omega
      refine ⟨(hA.ok.more hs).proposed (str l) hv9 hsz (by have := hA.ser; omega) hn, ⟨hA.nb.acc, fun b hb => ⟨(hA.nb.bid b hb).1, ?_⟩⟩, ⟨?_, ?_, hA.rs.tn, fun e => ⟨?_, (hA.rs.one e).2⟩⟩, hA.id, ?_, by omega⟩
      · show (sts r).wait ++ [_] ≠ []
        simp
      · show ((sts r).wait ++ [_]).length ≤ 256
        simp
        omega
      · show (sts r).dec.length + 2 ≤ D + 1
        have := hA.rs.dl
        omega
      · show (sts r).dec.length + ((sts r).wait ++ [_]).length + 2 ≤ D + 1
        have := (hA.rs.one e).1
        simp
        omega
      · show (sts r).ser + 1 ≤ K + 1
        have := hA.ser
        omega
  have HB := hid bAB
  have hbx : w.heap.size < wA.drew.heap.size := cell_lt' f2
  clear bA bB bAB k1 k2 s0 s1 s2 p0
  rcases her with rfl | rfl
  · go_wp2_with fail
    refine wp_region_held_drew (S := fun v => v.cell? ⟨lb, r, none⟩ = some (.pointer (some ⟨pd, 0, none⟩)) ∧ v.cell? ⟨q, 0, none⟩ = some (.slice (some ⟨lb, 0, none⟩) n lc) ∧ v.cell? ⟨w.heap.size, 2, none⟩ = some (.slice x vn vc)) (by kernel_rfl) ⟨f1, f0, f2⟩ (fun hHeld => ?_)
    generalize wA.drew = wB at *
    refine By.hk 0 ?_
    refine By.hk 1 ?_
    refine By.hk 2 ?_
    refine By.hk 3 ?_
    refine By.hk 4 ?_
    refine By.hk 5 ?_
    refine By.hk 6 ?_
    refine By.hk 7 ?_
    refine By.hk 8 ?_
    refine wpAnyH_ready (rs := [9]) (by kernel_rfl) (by simp) ?_
    refine AllReadyH.cons rfl (fun K hK => ?_) AllReadyH.nil
    go_simp
    refine hT.mono ?_
    rintro e w6 ⟨rfl, H6⟩
    obtain ⟨y0, y1, y2, y3, hsl6, HT6⟩ : w6.cell? ⟨lb, r, none⟩ = some (.pointer (some ⟨pd, 0, none⟩)) ∧ w6.cell? ⟨q, 0, none⟩ = some (.slice (some ⟨lb, 0, none⟩) n lc) ∧ w6.cell? ⟨w.heap.size, 2, none⟩ = some (.slice x vn vc) ∧ w6.cell? ⟨q, 2, none⟩ = some (.map (some g.sm)) ∧ Fl.Sl w6 x vn vc l ∧ Hid (SaidAt w6 g.sm g.sn g.sD said ∧ Tb w6 q 33 ∧ Tb w6 lb 40) := by
      obtain ⟨st', ⟨g1, u1, u2, u3, u4, u5⟩, _⟩ := H6.out
      have hG := HH.out.1.below HB.out
      have hN := hG.nd r hr
      have nt : ∀ k t, Tb wB k t → t ≠ 63 → t ≠ 68 → t ≠ 96 → ¬ fp (g.gs r) k := fun k t ht n1 n2 n3 e => by
        rcases hN.ty k e t ht with a | a | a
        · exact n1 a
        · exact n2 a
        · exact n3 a
      have nq := nt _ _ hG.obj.tb (by decide) (by decide) (by decide)
      have hqt := hG.obj.tb
      rw [Hq.out] at nq hqt
      have hlbt : g.Rl.ownBlock = some lb := by rw [HH.out.2.2]; rfl
      have hlt := (hG.lrow.tb hlbt).2
      have nlb := nt _ _ hlt (by decide) (by decide) (by decide)
      have nbx : ¬ fp (g.gs r) w.heap.size := fun e => by
        have := ((HH.out.1.nd r hr).u8 _ e).1
        omega
      exact ⟨keept u3 nlb f1, keept u3 nq f0, keept u3 nbx f2, keept u3 nq f3, (hl.below HB.out).turns u3 (fun hv0 ad ha e => hx2 hv0 ad ha (.inr (.inr (.inr (.inr ⟨r, hr, e⟩))))), hG.sd.turns u3 (hG.sap r hr), hqt.of_heap (u3.block _ hqt.lt nq), hlt.of_heap (u3.block _ hlt.lt nlb)⟩
    refine hK.out _ _ ⟨y0, y1, y2⟩ (fun hHeld => ?_)
    clear hK K
    refine By.hk 10 ?_
    refine wpAnyH_done (by kernel_rfl) ?_ _
    clear hHeld
    have b7 : Below w6.heap.size w6 w6.drew := (Below.refl _ _).drew
    have z2 := keep b7 y2
    have z3 := keep b7 y3
    have hsl7 := hsl6.below b7
    have hcv := conv_sl hsl7
    obtain ⟨w8, D8, hput, H8⟩ := (HT6.out.1.turns (Turns.of_below (F := fun _ => False) b7) (fun h => h)).put (by have := HH.out.1.sn; omega) (str l) (by rw [str_size]; have := hl.len; omega)
    have hnm : ∀ k t, Tb w6 k t → ¬ atB g.sm k := fun k t ht e => by
      have e' : k = g.sm := e
      exact ht.not_map (e' ▸ HT6.out.1.isM)
    have hbm : ¬ atB g.sm w.heap.size := fun e => by
      have e' : w.heap.size = g.sm := e
      have := HH.out.1.sd.own.lt
      omega
    have v2 := keept H8.out.2 hbm z2
    have v3 := keept H8.out.2 (hnm _ _ HT6.out.2.1) z3
    have hcv2 := conv_sl (hsl7.turns H8.out.2 (fun hv0 ad ha e => hx2 hv0 ad ha (.inr (.inr (.inr (.inl e))))))
    clear hsl7
    go_wp2_with fail
    refine wp_region_held_drew (S := fun v => v.cell? ⟨q, 2, none⟩ = some (.map (some g.sm)) ∧ v.cell? ⟨w.heap.size, 2, none⟩ = some (.slice x vn vc) ∧ (convert 35 9 (.slice x vn vc)).run Try.prog v = .ok (.string (str l)) v) (by kernel_rfl) ⟨z3, z2, hcv⟩ (fun hHeld => ?_)
    generalize hgw : w6.drew = w7 at *
    refine By.hk 0 ?_
    refine By.hk 1 ?_
    refine By.hk 2 ?_
    refine By.hk 3 ?_
    refine By.hk 4 ?_
    refine By.hk 5 ?_
    refine By.hk 6 ?_
    refine wpAnyH_ready (rs := [7]) (by kernel_rfl) (by simp) ?_
    refine AllReadyH.cons rfl (fun K hK => ?_) AllReadyH.nil
    refine st_mapupdate rfl _ _ _ 31 rfl _ _ _ rfl rfl rfl hput ?_
    (try simp only [Act.put, List.getElem_toArray, List.getElem_cons_succ, List.getElem_cons_zero, List.setIfInBounds_toArray, List.set_cons_zero, List.set_cons_succ])
    refine hK.out _ _ ⟨v3, v2, hcv2⟩ (fun hHeld => ?_)
    clear hK K
    refine wpAnyH_done (by kernel_rfl) ?_ _
    clear hHeld
    go_wp2_with fail
    go_ret
    obtain ⟨st', hgo, hdc, hna⟩ := H6.out
    have hG := HH.out.1.below HB.out
    have t78 : Turns (atB g.sm) w6 w8 := (Turns.of_below b7).trans H8.out.2
    obtain ⟨g9, r9, o9⟩ := hG.propose hr hgo (hna _ (fun v hv => .inl hv) (.inr rfl)) hdc (fun v hv => .inl hv) t78 H8.out.1 (by have := HH.out.1.sn; omega)
    exact ⟨rfl, g9, _, W, _, G, r9.more (by omega) (Nat.le_refl _), (GTo.of_below HB.out).trans o9, fun v hv => .inl hv, fun _ _ h => h⟩
  · go_wp2_with fail
    refine wp_region_held_drew (S := fun v => v.cell? ⟨lb, r, none⟩ = some (.pointer (some ⟨pd, 0, none⟩)) ∧ v.cell? ⟨q, 0, none⟩ = some (.slice (some ⟨lb, 0, none⟩) n lc) ∧ v.cell? ⟨w.heap.size, 2, none⟩ = some (.slice x vn vc)) (by kernel_rfl) ⟨f1, f0, f2⟩ (fun hHeld => ?_)
    generalize wA.drew = wB at *
    refine By.hk 0 ?_
    refine By.hk 1 ?_
    refine By.hk 2 ?_
    refine By.hk 3 ?_
    refine By.hk 4 ?_
    refine By.hk 5 ?_
    refine By.hk 6 ?_
    refine By.hk 7 ?_
    refine By.hk 8 ?_
    refine wpAnyH_ready (rs := [9]) (by kernel_rfl) (by simp) ?_
    refine AllReadyH.cons rfl (fun K hK => ?_) AllReadyH.nil
    go_simp
    refine hT.mono ?_
    rintro e w6 ⟨rfl, H6⟩
    obtain ⟨y0, y1, y2, y3, hsl6, HT6⟩ : w6.cell? ⟨lb, r, none⟩ = some (.pointer (some ⟨pd, 0, none⟩)) ∧ w6.cell? ⟨q, 0, none⟩ = some (.slice (some ⟨lb, 0, none⟩) n lc) ∧ w6.cell? ⟨w.heap.size, 2, none⟩ = some (.slice x vn vc) ∧ w6.cell? ⟨q, 2, none⟩ = some (.map (some g.sm)) ∧ Fl.Sl w6 x vn vc l ∧ Hid (SaidAt w6 g.sm g.sn g.sD said ∧ Tb w6 q 33 ∧ Tb w6 lb 40) := by
      obtain ⟨st', ⟨g1, u1, u2, u3, u4, u5⟩, _⟩ := H6.out
      have hG := HH.out.1.below HB.out
      have hN := hG.nd r hr
      have nt : ∀ k t, Tb wB k t → t ≠ 63 → t ≠ 68 → t ≠ 96 → ¬ fp (g.gs r) k := fun k t ht n1 n2 n3 e => by
        rcases hN.ty k e t ht with a | a | a
        · exact n1 a
        · exact n2 a
        · exact n3 a
      have nq := nt _ _ hG.obj.tb (by decide) (by decide) (by decide)
      have hqt := hG.obj.tb
      rw [Hq.out] at nq hqt
      have hlbt : g.Rl.ownBlock = some lb := by rw [HH.out.2.2]; rfl
      have hlt := (hG.lrow.tb hlbt).2
      have nlb := nt _ _ hlt (by decide) (by decide) (by decide)
      have nbx : ¬ fp (g.gs r) w.heap.size := fun e => by
        have := ((HH.out.1.nd r hr).u8 _ e).1
        omega
      exact ⟨keept u3 nlb f1, keept u3 nq f0, keept u3 nbx f2, keept u3 nq f3, (hl.below HB.out).turns u3 (fun hv0 ad ha e => hx2 hv0 ad ha (.inr (.inr (.inr (.inr ⟨r, hr, e⟩))))), hG.sd.turns u3 (hG.sap r hr), hqt.of_heap (u3.block _ hqt.lt nq), hlt.of_heap (u3.block _ hlt.lt nlb)⟩
    refine hK.out _ _ ⟨y0, y1, y2⟩ (fun hHeld => ?_)
    clear hK K
    refine By.hk 10 ?_
    refine wpAnyH_done (by kernel_rfl) ?_ _
    clear hHeld
    have b7 : Below w6.heap.size w6 w6.drew := (Below.refl _ _).drew
    have z2 := keep b7 y2
    have z3 := keep b7 y3
    have hsl7 := hsl6.below b7
    have hcv := conv_sl hsl7
    obtain ⟨w8, D8, hput, H8⟩ := (HT6.out.1.turns (Turns.of_below (F := fun _ => False) b7) (fun h => h)).put (by have := HH.out.1.sn; omega) (str l) (by rw [str_size]; have := hl.len; omega)
    have hnm : ∀ k t, Tb w6 k t → ¬ atB g.sm k := fun k t ht e => by
      have e' : k = g.sm := e
      exact ht.not_map (e' ▸ HT6.out.1.isM)
    have hbm : ¬ atB g.sm w.heap.size := fun e => by
      have e' : w.heap.size = g.sm := e
      have := HH.out.1.sd.own.lt
      omega
    have v2 := keept H8.out.2 hbm z2
    have v3 := keept H8.out.2 (hnm _ _ HT6.out.2.1) z3
    have hcv2 := conv_sl (hsl7.turns H8.out.2 (fun hv0 ad ha e => hx2 hv0 ad ha (.inr (.inr (.inr (.inl e))))))
    clear hsl7
    go_wp2_with fail
    refine wp_region_held_drew (S := fun v => v.cell? ⟨q, 2, none⟩ = some (.map (some g.sm)) ∧ v.cell? ⟨w.heap.size, 2, none⟩ = some (.slice x vn vc) ∧ (convert 35 9 (.slice x vn vc)).run Try.prog v = .ok (.string (str l)) v) (by kernel_rfl) ⟨z3, z2, hcv⟩ (fun hHeld => ?_)
    generalize hgw : w6.drew = w7 at *
    refine By.hk 0 ?_
    refine By.hk 1 ?_
    refine By.hk 2 ?_
    refine By.hk 3 ?_
    refine By.hk 4 ?_
    refine By.hk 5 ?_
    refine By.hk 6 ?_
    refine wpAnyH_ready (rs := [7]) (by kernel_rfl) (by simp) ?_
    refine AllReadyH.cons rfl (fun K hK => ?_) AllReadyH.nil
    refine st_mapupdate rfl _ _ _ 31 rfl _ _ _ rfl rfl rfl hput ?_
    (try simp only [Act.put, List.getElem_toArray, List.getElem_cons_succ, List.getElem_cons_zero, List.setIfInBounds_toArray, List.set_cons_zero, List.set_cons_succ])
    refine hK.out _ _ ⟨v3, v2, hcv2⟩ (fun hHeld => ?_)
    clear hK K
    refine wpAnyH_done (by kernel_rfl) ?_ _
    clear hHeld
    go_wp2_with fail
    go_ret
    obtain ⟨st', hgo, hdc, hna⟩ := H6.out
    have hG := HH.out.1.below HB.out
    have t78 : Turns (atB g.sm) w6 w8 := (Turns.of_below b7).trans H8.out.2
    obtain ⟨g9, r9, o9⟩ := hG.propose hr hgo (hna _ (fun v hv => .inl hv) (.inr rfl)) hdc (fun v hv => .inl hv) t78 H8.out.1 (by have := HH.out.1.sn; omega)
    exact ⟨rfl, g9, _, W, _, G, r9.more (by omega) (Nat.le_refl _), (GTo.of_below HB.out).trans o9, fun v hv => .inl hv, fun _ _ h => h⟩

end

end Go.Proofs.Ytfgfjfemaniaiaa.Px

/-
  The statement's does: a tick, a crash.
  Conditions: the group lies in memory ('Grp').
-/
namespace Go.Proofs.Ytfgfjfemaniaiaa.Px
open Go.RowKit Wi By Fl Ba
set_option linter.unusedVariables false
set_option linter.unusedSimpArgs false
set_option maxRecDepth 100000

section
variable {w : World} {B n : Nat} {g : Gl} {sts : Nat → Nd} {W : List Wy} {said : ByteArray → Prop} {G : Gh} {D K : Nat}

set_option maxHeartbeats 3200000 in
theorem does_tick (h : Grp w B n g sts W said G D K) (h1 : 1 ≤ n) (hn : n ≤ 7) (hK : K ≤ 900) (hD : D < 59000) (a : Int) (a1 : -9223372036854775808 ≤ a) (a2 : a ≤ 9223372036854775807) (x : Option Addr) (vn vc : Nat) :
    Calls Try.prog 10 #[.pointer (some ⟨g.q, 0, none⟩), .agg #[.int .i64 1, .int .i64 a, .slice x vn vc]] w fun e w' => e = .returned (.bool true) ∧ Hid (Acted w w' B n g sts said G D K) := by
  obtain ⟨lb, lc, hRl, hlc, hptr⟩ := h.ptr h1
  have c0 := h.c0
  rw [hRl] at c0
  have c1 := h.c1
  have c2 := h.c2
  have hqs := h.obj.lt
  have bA : Below w.heap.size w (w.alloc (.cells #[.int .i64 1, .int .i64 a, .slice x vn vc] 37)).drew := on (al _ _) (Below.refl _ _).drew
  have k0 : (w.alloc (.cells #[.int .i64 1, .int .i64 a, .slice x vn vc] 37)).drew.cell? ⟨w.heap.size, 0, none⟩ = some (.int .i64 1) := by go_simp
  have k1 : (w.alloc (.cells #[.int .i64 1, .int .i64 a, .slice x vn vc] 37)).drew.cell? ⟨w.heap.size, 1, none⟩ = some (.int .i64 a) := by go_simp
  have k2 : (w.alloc (.cells #[.int .i64 1, .int .i64 a, .slice x vn vc] 37)).drew.cell? ⟨w.heap.size, 2, none⟩ = some (.slice x vn vc) := by go_simp
  have s0 := keep bA c0
  have s1 := keep bA c1
  have s2 := keep bA c2
  have hAt := fun W => ati_any a n h1 (by omega) a1 a2 W
  have HH := hid (And.intro h (And.intro hptr hRl))
  obtain ⟨q, hq⟩ : ∃ q, g.q = q := ⟨_, rfl⟩
  have Hq := hid hq
  rw [hq] at s0 s1 s2 hqs ⊢
  clear h hptr hRl c0 c1 c2 hq
  go_enter Try.func10, Try.ntmps10
  go_wp2_with fail
  refine wp_region_held_drew (S := fun v => v.cell? ⟨q, 0, none⟩ = some (.slice (some ⟨lb, 0, none⟩) n lc) ∧ v.cell? ⟨w.heap.size, 1, none⟩ = some (.int .i64 a)) (by kernel_rfl) ⟨s0, k1⟩ (fun hHeld => ?_)
  generalize (w.alloc (.cells #[.int .i64 1, .int .i64 a, .slice x vn vc] 37)).drew = wA at *
  refine By.hk 0 ?_
  refine By.hk 1 ?_
  refine By.hk 2 ?_
  refine By.hk 3 ?_
  refine By.hk 4 ?_
  refine By.hk 5 ?_
  refine By.hk 6 ?_
  refine wpAnyH_ready (rs := [7]) (by kernel_rfl) (by simp) ?_
  refine AllReadyH.cons rfl (fun K hK => ?_) AllReadyH.nil
  go_simp
  refine (hAt _).mono ?_
  rintro e w9 ⟨r, hr, rfl, hw9⟩
  subst w9
  refine hK.out _ _ ⟨s0, k1⟩ (fun hHeld => ?_)
  clear hK K
  refine By.hk 8 ?_
  refine wpAnyH_done (by kernel_rfl) ?_ _
  clear hHeld hAt
  have p0 := keep bA (HH.out.2.1 r hr)
  have idn : (r : Int) < (n : Int) := by omega
  obtain ⟨pd, hpd⟩ : ∃ pd, (g.gs r).p = pd := ⟨_, rfl⟩
  have Hpd := hid hpd
  rw [hpd] at p0
  clear hpd
  have hT : Calls Try.prog 19 #[.pointer (some ⟨pd, 0, none⟩)] wA fun e w' => ∃ R, e = .returned R ∧ Hid (∃ g6 sts6 G6, Grp w' B n g6 sts6 W said G6 (D + 1) (K + 1) ∧ GTo w w' n g g6 sts sts6 ∧ MlsK w' wA.heap.size R n r 10268 (fun m => Sent n r m ∧ MsgOk n said G6 r m) ∧ g6.q = q ∧ ChM n G G6) := by
    have rA := HH.out.1.below bA
    have hA := rA.all r hr
    have p := tick_any (rA.nd r hr) hA.ok rA.gi hA.nb h1 hn (by have := hA.gn; omega) hA.rs (by omega)
    rw [Hpd.out] at p
    refine p.mono ?_
    rintro e w' ⟨R, rfl, H⟩
    obtain ⟨g6, sts6, G6, t1, t2, t3, t4, t5, t6, t7⟩ := rA.act hr H.out (by omega) (by omega)
    exact ⟨R, rfl, g6, sts6, G6, t1, (GTo.of_below bA).trans t2, t3, t2.q.trans Hq.out, t7⟩
  go_wp2_with (first
    | (go_at_call 19; refine hT.mono ?_; rintro e w6 ⟨R6, rfl, H6⟩; clear hT
       have hPo : Calls Try.prog 18 #[.pointer (some ⟨q, 0, none⟩), .int .i64 (r : Int), R6] w6 fun e w' => e = .returned (.bool true) ∧ Hid (Acted w w' B n g sts said G D K) := by
         obtain ⟨g6, sts6, G6, t1, t2, t3, t4, t5⟩ := H6.out
         have p := post_any t1 h1 hn (by omega) r hr R6 _ 10268 t3 (by omega)
         rw [t4] at p
         refine p.mono ?_
         rintro e w' ⟨rfl, H⟩
         obtain ⟨g7, W7, j1, j2, j3⟩ := H.out
         exact ⟨rfl, g7, sts6, W7, said, G6, j1.more (by omega) (Nat.le_refl _), t2.trans j2, fun _ h => h, t5⟩)
    | (go_at_call 18; refine hPo.mono ?_; rintro e w7 ⟨rfl, H7⟩; clear hPo))
  go_ret
  exact ⟨rfl, H7.out⟩

set_option maxHeartbeats 3200000 in
theorem does_crash (h : Grp w B n g sts W said G D K) (h1 : 1 ≤ n) (hn : n ≤ 7) (hK : K ≤ 900) (hD : D < 59000) (a : Int) (a1 : -9223372036854775808 ≤ a) (a2 : a ≤ 9223372036854775807) (x : Option Addr) (vn vc : Nat) :
    Calls Try.prog 10 #[.pointer (some ⟨g.q, 0, none⟩), .agg #[.int .i64 5, .int .i64 a, .slice x vn vc]] w fun e w' => e = .returned (.bool true) ∧ Hid (Acted w w' B n g sts said G D K) := by
  obtain ⟨lb, lc, hRl, hlc, hptr⟩ := h.ptr h1
  have c0 := h.c0
  rw [hRl] at c0
  have c1 := h.c1
  have c2 := h.c2
  have hqs := h.obj.lt
  have bA : Below w.heap.size w (w.alloc (.cells #[.int .i64 5, .int .i64 a, .slice x vn vc] 37)).drew := on (al _ _) (Below.refl _ _).drew
  have k0 : (w.alloc (.cells #[.int .i64 5, .int .i64 a, .slice x vn vc] 37)).drew.cell? ⟨w.heap.size, 0, none⟩ = some (.int .i64 5) := by go_simp
  have k1 : (w.alloc (.cells #[.int .i64 5, .int .i64 a, .slice x vn vc] 37)).drew.cell? ⟨w.heap.size, 1, none⟩ = some (.int .i64 a) := by go_simp
  have k2 : (w.alloc (.cells #[.int .i64 5, .int .i64 a, .slice x vn vc] 37)).drew.cell? ⟨w.heap.size, 2, none⟩ = some (.slice x vn vc) := by go_simp
  have s0 := keep bA c0
  have s1 := keep bA c1
  have s2 := keep bA c2
  have hAt := fun W => ati_any a n h1 (by omega) a1 a2 W
  have HH := hid (And.intro h (And.intro hptr hRl))
  obtain ⟨q, hq⟩ : ∃ q, g.q = q := ⟨_, rfl⟩
  have Hq := hid hq
  rw [hq] at s0 s1 s2 hqs ⊢
  clear h hptr hRl c0 c1 c2 hq
  go_enter Try.func10, Try.ntmps10
  go_wp2_with fail
  refine wp_region_held_drew (S := fun v => v.cell? ⟨q, 0, none⟩ = some (.slice (some ⟨lb, 0, none⟩) n lc) ∧ v.cell? ⟨w.heap.size, 1, none⟩ = some (.int .i64 a)) (by kernel_rfl) ⟨s0, k1⟩ (fun hHeld => ?_)
  generalize (w.alloc (.cells #[.int .i64 5, .int .i64 a, .slice x vn vc] 37)).drew = wA at *
  refine By.hk 0 ?_
  refine By.hk 1 ?_
  refine By.hk 2 ?_
  refine By.hk 3 ?_
  refine By.hk 4 ?_
  refine By.hk 5 ?_
  refine By.hk 6 ?_
  refine wpAnyH_ready (rs := [7]) (by kernel_rfl) (by simp) ?_
  refine AllReadyH.cons rfl (fun K hK => ?_) AllReadyH.nil
  go_simp
  refine (hAt _).mono ?_
  rintro e w9 ⟨r, hr, rfl, hw9⟩
  subst w9
  refine hK.out _ _ ⟨s0, k1⟩ (fun hHeld => ?_)
  clear hK K
  refine By.hk 8 ?_
  refine wpAnyH_done (by kernel_rfl) ?_ _
  clear hHeld hAt
  have p0 := keep bA (HH.out.2.1 r hr)
  have idn : (r : Int) < (n : Int) := by omega
  obtain ⟨pd, hpd⟩ : ∃ pd, (g.gs r).p = pd := ⟨_, rfl⟩
  have Hpd := hid hpd
  rw [hpd] at p0
  clear hpd
  have hT : Calls Try.prog 23 #[.pointer (some ⟨pd, 0, none⟩)] wA fun e w' => e = .returned (.tuple #[]) ∧ Hid (Acted w w' B n g sts said G D K ∧ w'.cell? ⟨q, 0, none⟩ = some (.slice (some ⟨lb, 0, none⟩) n lc) ∧ w'.cell? ⟨lb, r, none⟩ = some (.pointer (some ⟨pd, 0, none⟩)) ∧ (Calls Try.prog 14 #[.pointer (some ⟨pd, 0, none⟩)] w' fun e w2 => e = .returned (.int .i64 0) ∧ w2 = w')) := by
    have rA := HH.out.1.below bA
    have hA := rA.all r hr
    have p := crash_any (rA.nd r hr)
    rw [Hpd.out] at p
    refine p.mono ?_
    rintro e w' ⟨rfl, H⟩
    obtain ⟨g6, sts6, G6, t1, t2, t3, t4, t5, t6, t7⟩ := rA.act hr (crash_did hA.ok rA.gi hA.nb hA.rs H.out) (by omega) (Nat.le_refl _)
    obtain ⟨g1, u1, u2, _⟩ := H.out
    obtain ⟨lb', lc', hRl', _, hptr'⟩ := t1.ptr h1
    have e9 := hRl'.symm.trans (t5.trans HH.out.2.2)
    injection e9 with e9 _ _
    injection e9 with e9
    injection e9 with e9 _ _
    subst e9
    have y0 := t1.c0
    rw [t5, HH.out.2.2, t2.q, Hq.out] at y0
    have y1 := hptr' r hr
    rw [t6, Hpd.out] at y1
    have pp := pending_any u2
    rw [u1, Hpd.out] at pp
    exact ⟨rfl, ⟨g6, sts6, W, said, G6, t1.more (by omega) (Nat.le_refl _), (GTo.of_below bA).trans t2, fun _ h => h, t7⟩, y0, y1, pp⟩
  go_wp2_with (first
    | (go_at_call 23; refine hT.mono ?_; rintro e w6 ⟨rfl, H6⟩; clear hT
       obtain ⟨_, y0, y1, hPe⟩ := H6.out)
    | (go_at_call 14; refine hPe.mono ?_; rintro e w7 ⟨rfl, hw7⟩; subst w7; clear hPe))
  go_ret
  exact ⟨rfl, H6.out.1⟩

end

end Go.Proofs.Ytfgfjfemaniaiaa.Px

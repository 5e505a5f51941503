/-
  The calls of the statement's acts, one behind another.
  Conditions: none.
-/
import Derived.Test.YthfpljfndnjcnaaJoAct
namespace Go.Proofs.Ythfpljfndnjcnaa
open Go.RowKit By Dk Su Jo
set_option linter.unusedVariables false
set_option linter.unusedSimpArgs false

section
variable {w v v' : World} {p n jp k : Nat} {K : Nat → Prop} {V : Nat → Nat → Nat} {g m : Nat} {st : Nat → Nat} {gw cw : Nat} {y : Option Addr} {cy N : Nat} {M : Nat → Nat → Nat}
variable {ms : Nat} {ln : Nat → Nat} {ft : Nat → Nat → Nat} {F : Nat → Prop} {mm : Nat} {f A : Nat → Nat} {D : Nat → Nat → Nat} {R : Value} {Aa : Nat → Option Addr} {C : Nat → Nat}

theorem Life.hd (h : Life w.heap.size w v K V p n jp g m st ms ln ft F mm f A D R Aa C) (hg : g ≤ k + 1) :
    Calls Try.prog 15 #[.pointer (some ⟨p, 0, none⟩)] v fun e v' => ∃ gw cw, e = .returned (.slice (some ⟨gw, 0, none⟩) n cw) ∧ Below v.heap.size v v' ∧ ∀ M, Hd w v' p n jp k K V g m st gw cw none 0 0 M := by
  refine h.secs.mono fun e v' ⟨gw, cw, Aw, Cw, h1, h2, h3, h4⟩ => ⟨gw, cw, h1, h2, fun M => ?_⟩
  have hgw : v.heap.size ≤ gw := h3.ob gw rfl
  have hB : w.heap.size ≤ v.heap.size := h.jd.dsk.size
  have hf := fun q hq => (h.foot q hq).2
  exact ⟨⟨ms, ln, ft, F, mm, f, A, D, R, Aa, C, h.below h2⟩, hg, ⟨_, Aw, Cw, h3, fun i hi ad ha hk => by have := h4 i hi ad ha; have := hf _ hk; omega⟩, by omega, fun hk => by have := hf _ hk; omega, ⟨fun _ => none, fun _ => 0, OwnG.none _ _ _ _ _ _, (fun q hq => by cases hq), (fun i hi => by omega)⟩⟩

theorem Hd.lt (h : Hd w v p n jp k K V g m st gw cw y cy N M) : gw < v.heap.size := by
  obtain ⟨B, A1, C1, h1, h2⟩ := h.was
  exact h1.olt gw rfl

theorem Hd.recs (h : Hd w v p n jp k K V g m st gw cw y cy N M) :
    Calls Try.prog 16 #[.slice (some ⟨gw, 0, none⟩) n cw] v fun e v' => ∃ x c, e = .returned (.tuple #[.slice x m c, .int .i64 (st m : Int)]) ∧ Below v.heap.size v v' := by
  obtain ⟨ms, ln, ft, F, mm, f, A, D, R, Aa, C, hl⟩ := h.life
  obtain ⟨B, A1, C1, h1, h2⟩ := h.was
  exact (hl.recs_ref cw (h1.secL hl.vlt)).mono fun e v' ⟨x, c, A', C', q1, q2, _⟩ => ⟨x, c, q1, q2⟩

theorem Hd.gen (h : Hd w v p n jp k K V g m st gw cw y cy N M) :
    Calls Try.prog 17 #[.pointer (some ⟨jp, 0, none⟩)] v fun e v' => e = .returned (.int .i64 (g : Int)) ∧ v' = v := by
  obtain ⟨ms, ln, ft, F, mm, f, A, D, R, Aa, C, hl⟩ := h.life
  exact hl.jd.jn.gen

theorem Hd.room (h : Hd w v p n jp k K V g m st gw cw y cy N M) :
    Calls Try.prog 21 #[.pointer (some ⟨jp, 0, none⟩)] v fun e v' => e = .returned (.int .i64 (roomZ n (st m))) ∧ Below v.heap.size v v' := by
  obtain ⟨ms, ln, ft, F, mm, f, A, D, R, Aa, C, hl⟩ := h.life
  exact (hl.jd.jn.room hl.jd.dsk.pd hl.used).mono fun e v' ⟨h1, q, h2⟩ => ⟨h1, by rw [h2]; exact below_drewN' (Below.refl _ _) q⟩

theorem Hd.make (h : Hd w v p n jp k K V g m st gw cw none 0 0 M) (x : Option Addr) (l c : Nat) (b : Nat → Nat) (he : EltW v x l c b) (hg : g < 65536) (hM : M = fun i => mkS g (m + 1) l b i) :
    Calls Try.prog 20 #[.int .i64 (g : Int), .int .i64 ((m + 1 : Nat) : Int), .slice x l c] v fun e v' => ∃ y cy, e = .returned (.slice y (pcs l) cy) ∧ Below v.heap.size v v' ∧ Hd w v' p n jp k K V g m st gw cw y cy (pcs l) M := by
  obtain ⟨ms, ln, ft, F, mm, f, A, D, R, Aa, C, hl⟩ := h.life
  have hc := hl.count
  have hgw := h.lt
  have hf := fun q hq => (hl.foot q hq).2
  refine (make_any g (m + 1) l c x b v he hg (by omega)).mono fun e v' ⟨y, cy, A3, C3, h1, h2, h3, h4⟩ => ⟨y, cy, h1, h2, ?_⟩
  have hb := h.below h2
  exact ⟨hb.life, hb.gk, hb.was, hb.ge, hb.nk, ⟨A3, C3, by rw [hM]; exact ⟨h3.own, fun q hq => by have := h3.ob q hq; omega, h3.elt, h3.far⟩, fun q hq hk => by have := h3.ob q hq; have := hf _ hk; omega, fun i hi ad ha => ⟨fun hk => by have := h4 i hi ad ha; have := hf _ hk; omega, by have := h4 i hi ad ha; omega⟩⟩⟩

theorem Hd.put_long (h : Hd w v p n jp k K V g m st gw cw y cy N M) (x : Option Addr) (l c : Nat) (hl : 13005 < l) :
    Calls Try.prog 22 #[.pointer (some ⟨jp, 0, none⟩), .slice x l c] v fun e v' => e = .returned (.int .i64 3) ∧ Below v.heap.size v v' ∧ Hid (Tl w v' p n jp (k + 1) gw none 0 (st m) V M V) := by
  obtain ⟨ms, ln, ft, F, mm, f, A, D, R, Aa, C, hlf⟩ := h.life
  exact (hlf.put_long x l c hl).mono fun e v' ⟨h1, h2⟩ => ⟨h1, by rw [h2]; exact Below.refl _ _, by rw [h2]; exact h.nil⟩

theorem Hd.put_full (h : Hd w v p n jp k K V g m st gw cw y cy N M) (x : Option Addr) (l c : Nat) (hl : l ≤ 13005) (hf : ¬ st m + pcs l ≤ n) :
    Calls Try.prog 22 #[.pointer (some ⟨jp, 0, none⟩), .slice x l c] v fun e v' => e = .returned (.int .i64 2) ∧ Below v.heap.size v v' ∧ Hid (Tl w v' p n jp (k + 1) gw none 0 (st m) V M V) := by
  obtain ⟨ms, ln, ft, F, mm, f, A, D, R, Aa, C, hlf⟩ := h.life
  exact (hlf.put_full x l c hl hf).mono fun e v' ⟨h1, q, h2⟩ => ⟨h1, by rw [h2]; exact below_drewN' (Below.refl _ _) q, by rw [h2]; exact (h.below (below_drewN' (Below.refl _ _) q)).nil⟩

theorem Hd.put_ok {l : Nat} (h : Hd w v p n jp k K V g m st gw cw y cy (pcs l) M) (x : Option Addr) (c : Nat) (b : Nat → Nat) (he : EltW v x l c b) (hx : l ≠ 0 → ∀ ad, x = some ad → ¬ K ad.block) (hl : l ≤ 13005) (hf : st m + pcs l ≤ n) (hg : g < 65536) (hM : M = fun i => mkS g (m + 1) l b i) :
    Calls Try.prog 22 #[.pointer (some ⟨jp, 0, none⟩), .slice x l c] v fun e v' => ∃ V', e = .returned (.int .i64 0) ∧ Turns K v v' ∧ Hid (Tl w v' p n jp (k + 1) gw y (pcs l) (st m) V M V') := by
  obtain ⟨ms, ln, ft, F, mm, f, A, D, R, Aa, C, hlf⟩ := h.life
  exact (hlf.put_ok x l c b he hx hl hf hg).mono fun e v' ⟨h1, K', V', F', A2, D', R', Aa', C2, h2, h3, h4, h5, h6⟩ => ⟨V', h1, h3, h.put h2 h3 h4 hf h5 (fun i hi => by rw [h6 i hi, hM])⟩

/- A crash, as the document reads what is left of it; the journal is opened anew. -/
theorem Down.again (h : Down w.heap.size w v F p n g m st ln ft f A D) (hg : g ≤ k + 1) (hk : k ≤ 100) :
    Calls Try.prog 15 #[.pointer (some ⟨p, 0, none⟩)] v fun e v1 => ∃ gw cw, e = .returned (.slice (some ⟨gw, 0, none⟩) n cw) ∧
      Calls Try.prog 14 #[.slice (some ⟨gw, 0, none⟩) n cw] v1 fun e v2 => ∃ G : Nat, G ≤ 65000 ∧ e = .returned (.int .i64 (G : Int)) ∧
        Calls Try.prog 10 #[.pointer (some ⟨p, 0, none⟩)] v2 fun e v3 => ∃ jq, e = .returned (.tuple #[.pointer (some ⟨jq, 0, none⟩), .int .i64 0]) ∧ Hid (∃ K2 ln2 ft2 R2 Aa2 C2, Life w.heap.size w v3 K2 (vs f) p n jq (G + 1) m st m ln2 ft2 F 0 f A D R2 Aa2 C2 ∧ G + 1 ≤ k + 1 + 1) := by
  refine h.secs.mono fun e v1 ⟨gw, cw, h1, h2, h3⟩ => ⟨gw, cw, h1, ?_⟩
  refine ((h.below h2).gen_ref cw h3).mono fun e v2 ⟨G, h4, h5, h6⟩ => ?_
  have hd2 := (h.below h2).below h5
  have hG : G ≤ g := by
    rcases h6.is with e | ⟨j, j1, j2, j3⟩
    · omega
    · rw [← j3]; exact h.top j j1 j2
  refine ⟨G, by omega, h4, (hd2.open_ (by omega) hd2.dsk.size).mono fun e v3 ⟨jq, G', K2, R2, Aa2, C2, q1, q2, q3, q4, q5, ln2, ft2, q6, q7⟩ => ?_⟩
  obtain rfl := h6.uniq q3
  exact ⟨jq, q1, K2, ln2, ft2, R2, Aa2, C2, q6, by omega⟩

theorem Life.back (h : Life w.heap.size w v K V p n jp g m st ms ln ft F mm f A D R Aa C) :
    Calls Try.prog 15 #[.pointer (some ⟨p, 0, none⟩)] v fun e v1 => ∃ gw cw, e = .returned (.slice (some ⟨gw, 0, none⟩) n cw) ∧
      Calls Try.prog 16 #[.slice (some ⟨gw, 0, none⟩) n cw] v1 fun e v2 => ∃ x c, ∃ E : Nat, e = .returned (.tuple #[.slice x m c, .int .i64 (E : Int)]) ∧
        (Calls Try.prog 17 #[.pointer (some ⟨jp, 0, none⟩)] v2 fun e v' => e = .returned (.int .i64 (g : Int)) ∧ v' = v2) ∧
        Calls Try.prog 19 #[.pointer (some ⟨jp, 0, none⟩)] v2 fun e v3 => ∃ x3 c3, e = .returned (.slice x3 m c3) ∧
          Calls Try.prog 18 #[.slice x3 m c3, .slice x m c] v3 fun e v4 => e = .returned (.bool true) ∧ Below v.heap.size v v4 := by
  refine h.secs.mono fun e v1 ⟨gw, cw, Aw, Cw, h1, h2, h3, h4⟩ => ⟨gw, cw, h1, ?_⟩
  have hl1 := h.below h2
  refine (hl1.recs_ref cw (h3.secL h.vlt)).mono fun e v2 ⟨x, c, A5, C5, h5, h6, h7⟩ => ⟨x, c, st m, h5, ?_⟩
  have hl2 := hl1.below h6
  have hm := h.count
  refine ⟨hl2.jd.jn.gen, (list_any hl2.jd.jn (by omega)).mono fun e v3 ⟨x3, c3, A3, C3, q1, q2, q3⟩ => ⟨x3, c3, q1, ?_⟩⟩
  refine (lists_yes x3 x m c3 c A3 A5 ln ln C3 C5 ft ft v3 q3.isG (h7.below q2).isG (fun i hi => ⟨rfl, fun j hj => rfl⟩) (by omega)).mono fun e v4 ⟨r1, q, r2⟩ => ⟨r1, ?_⟩
  rw [r2]
  have hb2 : Below v.heap.size v v2 := h2.trans (h6.mono h2.size)
  exact below_drewN' (hb2.trans (q2.mono hb2.size)) q

end

end Go.Proofs.Ythfpljfndnjcnaa

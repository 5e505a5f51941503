/-
  4 texts of this proof, one behind the other: JoPut, JoLife, JoAwake, StLife.
-/
import Derived.Test.YtbbjklenpgkooaaJ13
/-
  What Put of a journal does: contracts over plain numbers ('JoPlain').
  Conditions: the journal and its disk are as Open and New gave them ('JD'); the record's bytes lie apart from them.
-/
namespace Go.Proofs.Ytbbjklenpgkooaa
open Go.RowKit By Dk Su Jo
set_option linter.unusedVariables false
set_option linter.unusedSimpArgs false
set_option maxRecDepth 100000

section
variable {B : Nat} {w0 w : World} {F : Nat → Prop} {p n mm : Nat} {f A : Nat → Nat} {D : Nat → Nat → Nat} {jp g u : Nat} {R : Value} {m : Nat} {Aa : Nat → Option Addr} {ln C : Nat → Nat} {ft : Nat → Nat → Nat}

theorem JD.put_long (h : JD B w0 w F p n mm f A D jp g u R m Aa ln C ft) (x : Option Addr) (l c : Nat) (hl : 13005 < l) :
    Calls Try.prog 36 #[.pointer (some ⟨jp, 0, none⟩), .slice x l c] w fun e w' => e = .returned (.int .i64 3) ∧ w' = w := by
  have ho := jopen_any jp _ w h.jn.c0
  have hl' : (13005 : Int) < (l : Int) := by omega
  clear h
  go_enter Try.func36, Try.ntmps36
  go_wp2_with ((go_at_call 54; refine ho.mono ?_; rintro e w' ⟨rfl, hw⟩; subst w'; clear ho))
  go_ret
  exact ⟨rfl, rfl⟩

theorem JD.put_full (h : JD B w0 w F p n mm f A D jp g u R m Aa ln C ft) (hu : u ≤ n) (x : Option Addr) (l c : Nat) (hl : l ≤ 13005) (hf : ¬ u + pcs l ≤ n) :
    Calls Try.prog 36 #[.pointer (some ⟨jp, 0, none⟩), .slice x l c] w fun e w' => e = .returned (.int .i64 2) ∧ ∃ k, w' = w.drewN k := by
  have ho := jopen_any jp _ w h.jn.c0
  have hrm := h.jn.room h.dsk.pd hu
  have hl' : ¬ (13005 : Int) < (l : Int) := by omega
  have hrz : roomZ n u < (l : Int) := by
    have := mt (room_fits hu hl).1 hf
    omega
  clear h
  generalize roomZ n u = Z at *
  go_enter Try.func36, Try.ntmps36
  go_wp2_with (first
    | (go_at_call 54; refine ho.mono ?_; rintro e w' ⟨rfl, hw⟩; subst w'; clear ho)
    | (go_at_call 57; refine hrm.mono ?_; rintro e w' ⟨rfl, k, rfl⟩; clear hrm))
  go_ret
  exact ⟨rfl, k, rfl⟩

set_option maxHeartbeats 2000000 in
set_option maxRecDepth 100000 in
theorem JD.put_ok (h : JD B w0 w F p n mm f A D jp g u R m Aa ln C ft) (x : Option Addr) (l c : Nat) (b : Nat → Nat) (he : EltW w x l c b) (hx : l ≠ 0 → ∀ ad, x = some ad → ¬ both F R jp m Aa ad.block) (hl : l ≤ 13005) (hf : u + pcs l ≤ n) (hmm : mm + pcs l ≤ 1000) (hg : g < 65536) (hm : m ≤ 4096) :
    Calls Try.prog 36 #[.pointer (some ⟨jp, 0, none⟩), .slice x l c] w fun e w' => e = .returned (.int .i64 0) ∧ ∃ F' A' D' R' y cy, JD B w0 w' F' p n (mm + pcs l) f A' D' jp g (u + pcs l) R' (m + 1) (ext Aa m y) (ext ln m l) (ext C m cy) (ext ft m b) ∧
      Turns (both F R jp m Aa) w w' ∧ (∀ q, q < w.heap.size → both F' R' jp (m + 1) (ext Aa m y) q → both F R jp m Aa q) ∧ (∀ i, i < mm → A' i = A i ∧ D' i = D i) ∧ (∀ k, k < pcs l → A' (mm + k) = u + k ∧ ∀ j, j < 64 → D' (mm + k) j = mkS g (m + 1) l b k j) := by
  have hu : u ≤ n := by omega
  have hn2 := h.dsk.pd.n1.2
  have ho := jopen_any jp _ w h.jn.c0
  have hrm := h.jn.room h.dsk.pd hu
  have hl' : ¬ (13005 : Int) < (l : Int) := by omega
  have hrz : ¬ roomZ n u < (l : Int) := by
    have := (room_fits hu hl).2 hf
    omega
  obtain ⟨r1, hr1⟩ : ∃ r1, r1 = m + 1 := ⟨_, rfl⟩
  have hri : (m : Int) + 1 = (r1 : Int) := by omega
  have hr9 : r1 ≤ 4097 := by omega
  have hrw : IntKind.u32.wrap (r1 : Int) = (r1 : Int) := by rw [IntKind.wrap_u32']; omega
  have hrw2 : IntKind.i64.wrap (r1 : Int) = (r1 : Int) := by rw [IntKind.wrap_i64]; omega
  obtain ⟨xR, cR, hR, _⟩ := h.jn.own.form
  subst hR
  -- the parts' places
  obtain ⟨X, hX0, hXn, hX2, hXr⟩ : ∃ X : Nat → Option Addr, X 0 = x ∧ (∀ k, k < pcs l → X k = none → plen l k = 0 ∧ c - 51 * k = 0) ∧ (∀ k, k + 1 < pcs l → ∃ b o, X k = some ⟨b, o, none⟩ ∧ X (k + 1) = some ⟨b, o + 51, none⟩) ∧ ∀ v, RowAt v x l b → ∀ k, k < pcs l → RowAt v (X k) (plen l k) (fun i => b (51 * k + i)) := by
    by_cases h1 : pcs l = 1
    · refine ⟨fun _ => x, rfl, fun k hk e => by have := he.nil e; unfold plen; omega, fun k hk => by omega, fun v hv k hk => ?_⟩
      obtain rfl : k = 0 := by omega
      exact (hv.take (by unfold plen; omega)).congr fun i hi => by congr 1; omega
    · have hp := pcs_pos l
      have hlp : 0 < l := by
        rcases Nat.eq_zero_or_pos l with e | e
        · subst e; exact absurd rfl h1
        · exact e
      have hrow := he.row
      rcases hrow with e | ⟨bb, oo, e1, e2, e3⟩
      · omega
      · subst e1
        refine ⟨fun k => some ⟨bb, oo + 51 * k, none⟩, by simp, (fun k hk e => by cases e), fun k hk => ⟨bb, oo + 51 * k, rfl, by congr 2⟩, fun v hv k hk => ?_⟩
        have hle : 51 * k + plen l k ≤ l := by
          unfold plen
          have : 51 * k ≤ l := by unfold pcs at hk; split at hk <;> omega
          omega
        exact row_drop (m := 51 * k) (hv.take hle)
  have hpo := fun (v : World) => parts_of l c g r1 x v X hl he.le hX0 hX2 (by omega)
  have HXR := hid hXr
  have HXN := hid hXn
  have HR1 := hid hr1
  have HJ := hid h
  have HE := hid he
  have HX := hid hx
  have HP : Hid (pcs l ≤ 255 ∧ 0 < pcs l) := ⟨pcs_le hl, pcs_pos l⟩
  have HFn := hid (And.intro hf hmm)
  clear h he hx hXr hXn hX2 hr1 hX0 hf hmm
  generalize roomZ n u = Z at *
  go_enter Try.func36, Try.ntmps36
  go_wp2_with (first
    | (go_at_call 54; refine ho.mono ?_; rintro e w' ⟨rfl, hw⟩; subst w'; clear ho)
    | (go_at_call 57; refine hrm.mono ?_; rintro e w' ⟨rfl, k0, hk0⟩; clear hrm; have HK0 := hid hk0; clear hk0))
  have hj1 : JD B w0 w' F p n mm f A D jp g u (.slice xR m cR) m Aa ln C ft := by rw [HK0.out]; exact HJ.out.drewN k0
  have c1 := hj1.jn.c1
  have c2 := hj1.jn.c2
  have hpo1 := hpo w'.drew
  have hkeep : ∀ v, Below w'.heap.size w' v → v.cell? ⟨jp, 1, none⟩ = some (.int .i64 (g : Int)) ∧ v.cell? ⟨jp, 2, none⟩ = some (.slice xR m cR) := fun v hv => ⟨(hj1.jn.below hv).c1, (hj1.jn.below hv).c2⟩
  have HJ1 := hid hj1
  clear hj1 hpo
  refine wp_region_held_drew (S := fun v => v.cell? ⟨jp, 1, none⟩ = some (.int .i64 (g : Int)) ∧ v.cell? ⟨jp, 2, none⟩ = some (.slice xR m cR)) (by kernel_rfl) ⟨c1, c2⟩ (fun hHeld => ?_)
  refine wpAnyH_take (i := 0) (v := ?_) rfl (by kernel_rfl) (by kernel_rfl) (by kernel_rfl) (fun _ _ _ h => h) (Or.inl ⟨by rfl, ?_⟩) (by assumption) ?_
  case refine_2 => (intro w hSw; (try dsimp only at hSw); go_simp; (try with_reducible rfl))
  (try simp only [Act.put, List.getElem_toArray, List.getElem_cons_succ, List.getElem_cons_zero, List.setIfInBounds_toArray, List.set_cons_zero, List.set_cons_succ])
  refine wpAnyH_take (i := 1) (v := ?_) rfl (by kernel_rfl) (by kernel_rfl) (by kernel_rfl) (fun _ _ _ h => h) (Or.inl ⟨by rfl, ?_⟩) (by assumption) ?_
  case refine_2 => (intro w hSw; (try dsimp only at hSw); go_simp; (try with_reducible rfl))
  (try simp only [Act.put, List.getElem_toArray, List.getElem_cons_succ, List.getElem_cons_zero, List.setIfInBounds_toArray, List.set_cons_zero, List.set_cons_succ])
  refine wpAnyH_take (i := 2) (v := ?_) rfl (by kernel_rfl) (by kernel_rfl) (by kernel_rfl) (fun _ _ _ h => h) (Or.inl ⟨by rfl, ?_⟩) (by assumption) ?_
  case refine_2 => (intro w hSw; (try dsimp only at hSw); go_simp; (try with_reducible rfl))
  (try simp only [Act.put, List.getElem_toArray, List.getElem_cons_succ, List.getElem_cons_zero, List.setIfInBounds_toArray, List.set_cons_zero, List.set_cons_succ])
  refine wpAnyH_take (i := 3) (v := ?_) rfl (by kernel_rfl) (by kernel_rfl) (by kernel_rfl) (fun _ _ _ h => h) (Or.inl ⟨by rfl, ?_⟩) (by assumption) ?_
  case refine_2 => (intro w hSw; (try dsimp only at hSw); go_simp; (try with_reducible rfl))
  (try simp only [Act.put, List.getElem_toArray, List.getElem_cons_succ, List.getElem_cons_zero, List.setIfInBounds_toArray, List.set_cons_zero, List.set_cons_succ])
  refine wpAnyH_take (i := 4) (v := ?_) rfl (by kernel_rfl) (by kernel_rfl) (by kernel_rfl) (fun _ _ _ h => h) (Or.inl ⟨by rfl, ?_⟩) (by assumption) ?_
  case refine_2 => (intro w hSw; (try dsimp only at hSw); go_simp; (try with_reducible rfl))
  (try simp only [Act.put, List.getElem_toArray, List.getElem_cons_succ, List.getElem_cons_zero, List.setIfInBounds_toArray, List.set_cons_zero, List.set_cons_succ])
  refine wpAnyH_take (i := 5) (v := ?_) rfl (by kernel_rfl) (by kernel_rfl) (by kernel_rfl) (fun _ _ _ h => h) (Or.inl ⟨by rfl, ?_⟩) (by assumption) ?_
  case refine_2 => (intro w hSw; (try dsimp only at hSw); go_simp; (try with_reducible rfl))
  (try simp only [Act.put, List.getElem_toArray, List.getElem_cons_succ, List.getElem_cons_zero, List.setIfInBounds_toArray, List.set_cons_zero, List.set_cons_succ])
  refine wpAnyH_take (i := 6) (v := ?_) rfl (by kernel_rfl) (by kernel_rfl) (by kernel_rfl) (fun _ _ _ h => h) (Or.inl ⟨by rfl, ?_⟩) (by assumption) ?_
  case refine_2 => (intro w hSw; (try dsimp only at hSw); go_simp; (try with_reducible rfl))
  (try simp only [Act.put, List.getElem_toArray, List.getElem_cons_succ, List.getElem_cons_zero, List.setIfInBounds_toArray, List.set_cons_zero, List.set_cons_succ])
  refine wpAnyH_take (i := 7) (v := ?_) rfl (by kernel_rfl) (by kernel_rfl) (by kernel_rfl) (fun _ _ _ h => h) (Or.inl ⟨by rfl, ?_⟩) (by assumption) ?_
  case refine_2 => (intro w hSw; (try dsimp only at hSw); go_simp; (try with_reducible rfl))
  (try simp only [Act.put, List.getElem_toArray, List.getElem_cons_succ, List.getElem_cons_zero, List.setIfInBounds_toArray, List.set_cons_zero, List.set_cons_succ])
  refine wpAnyH_take (i := 8) (v := ?_) rfl (by kernel_rfl) (by kernel_rfl) (by kernel_rfl) (fun _ _ _ h => h) (Or.inl ⟨by rfl, ?_⟩) (by assumption) ?_
  case refine_2 => (intro w hSw; (try dsimp only at hSw); go_simp; (try with_reducible rfl))
  (try simp only [Act.put, List.getElem_toArray, List.getElem_cons_succ, List.getElem_cons_zero, List.setIfInBounds_toArray, List.set_cons_zero, List.set_cons_succ])
  refine wpAnyH_take (i := 9) (v := ?_) rfl (by kernel_rfl) (by kernel_rfl) (by kernel_rfl) (fun _ _ _ h => h) (Or.inl ⟨by rfl, ?_⟩) (by assumption) ?_
  case refine_2 => (intro w hSw; (try dsimp only at hSw); go_simp; (try with_reducible rfl))
  (try simp only [Act.put, List.getElem_toArray, List.getElem_cons_succ, List.getElem_cons_zero, List.setIfInBounds_toArray, List.set_cons_zero, List.set_cons_succ])
  refine wpAnyH_take (i := 10) (v := ?_) rfl (by kernel_rfl) (by kernel_rfl) (by kernel_rfl) (fun _ _ _ h => h) (Or.inl ⟨by rfl, ?_⟩) (by assumption) ?_
  case refine_2 => (intro w hSw; (try dsimp only at hSw); go_simp; (try with_reducible rfl))
  (try simp only [Act.put, List.getElem_toArray, List.getElem_cons_succ, List.getElem_cons_zero, List.setIfInBounds_toArray, List.set_cons_zero, List.set_cons_succ])
  refine wpAnyH_take (i := 11) (v := ?_) rfl (by kernel_rfl) (by kernel_rfl) (by kernel_rfl) (fun _ _ _ h => h) (Or.inl ⟨by rfl, ?_⟩) (by assumption) ?_
  case refine_2 => (intro w hSw; (try dsimp only at hSw); go_simp; (try with_reducible rfl))
  (try simp only [Act.put, List.getElem_toArray, List.getElem_cons_succ, List.getElem_cons_zero, List.setIfInBounds_toArray, List.set_cons_zero, List.set_cons_succ])
  refine wpAnyH_take (i := 14) (v := ?_) rfl (by kernel_rfl) (by kernel_rfl) (by kernel_rfl) (fun _ _ _ h => h) (Or.inl ⟨by rfl, ?_⟩) (by assumption) ?_
  case refine_2 => (intro w hSw; (try dsimp only at hSw); go_simp; (try with_reducible rfl))
  (try simp only [Act.put, List.getElem_toArray, List.getElem_cons_succ, List.getElem_cons_zero, List.setIfInBounds_toArray, List.set_cons_zero, List.set_cons_succ])
  refine wpAnyH_ready (rs := [12]) (by kernel_rfl) (by simp) ?_
  refine AllReadyH.cons rfl (fun K hK => ?_) AllReadyH.nil
  go_simp
  refine hpo1.mono ?_
  rintro e w2 ⟨y, cy, rfl, hpts⟩
  have HPT := hid hpts
  have hb2 : Below w'.heap.size w' w2 := ⟨hpts.bel.os, hpts.bel.tape, hpts.bel.output, hpts.bel.size, hpts.bel.block⟩
  have HB2 := hid hb2
  refine hK.out _ _ (hkeep w2 hb2) (fun hHeld => ?_)
  clear hK K
  refine wpAnyH_take (i := 13) (v := ?_) rfl (by kernel_rfl) (by kernel_rfl) (by kernel_rfl) (fun _ _ _ h => h) (Or.inl ⟨by rfl, ?_⟩) (by assumption) ?_
  case refine_2 => (intro w hSw; (try dsimp only at hSw); go_simp; (try with_reducible rfl))
  (try simp only [Act.put, List.getElem_toArray, List.getElem_cons_succ, List.getElem_cons_zero, List.setIfInBounds_toArray, List.set_cons_zero, List.set_cons_succ])
  refine wpAnyH_done (by kernel_rfl) ?_ _
  have HRow : Hid (∀ v, Turns (both F (.slice xR m cR) jp m Aa) w' v → RowAt v x l b) := fun v tv => by
    by_cases e0 : l = 0
    · exact .inl e0
    · have hr0 : RowAt w' x l b := by rw [HK0.out]; exact HE.out.row.drewN
      exact tv.row hr0 (HX.out e0)
  have HP0 : Hid (Pp B w0 w' w2 w2.heap.size F F p n mm f A A D D jp g u (.slice xR m cR) m Aa ln C ft (.slice y (pcs l) cy) l b X (fun k => c - 51 * k) 0) := by
    have j := HJ1.out.below HB2.out
    refine ⟨j.dsk, j.jn, ?_, fun q hq => ⟨HPT.out.ob q hq, (HPT.out.own.lt q hq).2⟩, fun q hq => .inl hq, Turns.of_below HB2.out, Nat.le_refl _, HB2.out.size, fun i hi => ⟨rfl, rfl⟩, fun i hi => by omega, HJ1.out.dis, HJ1.out.foot⟩
    have := HPT.out.own
    rw [HR1.out] at this
    exact this
  clear hpts hb2 hkeep hpo1 c1 c2 hHeld
  go_wp2_with fail
  go_loopw [35] (fun i wr => ∃ k : Nat, k ≤ pcs l ∧ i = .int .i64 k ∧ Hid (∃ F' A' D', Pp B w0 w' wr w2.heap.size F F' p n mm f A A' D D' jp g u (.slice xR m cR) m Aa ln C ft (.slice y (pcs l) cy) l b X (fun k => c - 51 * k) k)) (fun i _ => pcs l - (intOf i).toNat)
  case atStart => exact ⟨0, by omega, rfl, F, A, D, HP0.out⟩
  case round =>
    clear HP0
    obtain ⟨k, hk, rfl, HR⟩ := hrel
    obtain ⟨F', A', D', hpp⟩ := HR.out
    by_cases hlt : k < pcs l
    · have hlt' : (k : Int) < ((pcs l : Nat) : Int) := by omega
      obtain ⟨gp, cp, hRp, k0', k1', k2', k3', k4'⟩ := hpp.cells hlt
      injection hRp with e1 _ e2
      subst e1
      subst e2
      rw [← HR1.out] at k1'
      have hk9 : k < 255 := by have := HP.out; omega
      obtain ⟨uk, huk⟩ : ∃ uk, uk = u + k := ⟨_, rfl⟩
      have huk9 : uk < n := by have := HFn.out.1; omega
      obtain ⟨uk1, huk1e⟩ : ∃ uk1, uk1 = u + (k + 1) := ⟨_, rfl⟩
      have huk1 : (uk : Int) + 1 = (uk1 : Int) := by omega
      have HUK1 := hid huk1e
      clear huk1e
      have hS1 : ∀ v, Below wr.heap.size wr v → v.cell? ⟨jp, 0, none⟩ = some (.pointer (some ⟨p, 0, none⟩)) ∧ v.cell? ⟨jp, 3, none⟩ = some (.int .i64 (uk : Int)) := fun v hv => by rw [huk]; exact ⟨(hpp.jn.below hv).c0, (hpp.jn.below hv).c3⟩
      have hsec : ∀ v, Below wr.heap.size wr v → Calls Try.prog 60 #[.agg #[.int .i64 (g : Int), .int .u32 (r1 : Int), .int .i64 (k : Int), .bool (plast l k), .slice (X k) (plen l k) (c - 51 * k)]] v fun e w' => ∃ y, e = .returned (.slice (some ⟨y, 0, none⟩) 64 64) ∧ Below v.heap.size v w' ∧ RowAt w' (some ⟨y, 0, none⟩) 64 (mkS g r1 l b k) := fun v hv =>
        sector_yes g r1 k (plen l k) (c - 51 * k) (plast l k) (X k) l b v HE.out.lt hg (by omega) (by omega) rfl rfl (HXR.out v (HRow.out v (hpp.tr.more (Turns.of_below (F := fun _ => False) hv) (fun q hq => hq.elim))) k hlt) (HXN.out k hlt)
      have hwr : ∀ v y2, Below wr.heap.size wr v → RowAt v (some ⟨y2, 0, none⟩) 64 (mkS g r1 l b k) → Calls Try.prog 59 #[.pointer (some ⟨p, 0, none⟩), .int .i64 (uk : Int), .slice (some ⟨y2, 0, none⟩) 64 64] v fun e w' => e = .returned (.int .i64 0) ∧ Turns F' v w' ∧ Dsk B w0 w' (grow F' v w') p n (mm + k + 1) f (ext A' (mm + k) uk) (ext D' (mm + k) (mkS g r1 l b k)) := fun v y2 hv hr =>
        dwrite B p n (mm + k) uk 64 F' f A' (mkS g r1 l b k) D' _ (uk : Int) rfl w0 v (hpp.dsk.below hv) huk9 hr (fun i => mk_lt HE.out.lt i) (by have := HFn.out.2; have := HP.out; omega)
      have hflt := hpp.dsk.pd.flt
      have hdj : ¬ F' jp := fun e => hpp.dis' jp e (.inl rfl)
      have hjlt := hpp.jn.obj.lt
      have HPP := hid hpp
      have HUK := hid huk
      clear HR hpp huk
      generalize plast l k = Lk at *
      generalize plen l k = Mk at *
      generalize X k = Xk at *
      generalize c - 51 * k = Ck at *
      go_wp2_with fail
      have hbo : Below wr.heap.size wr (wr.alloc (.cells #[.int .i64 (g : Int), .int .u32 (r1 : Int), .int .i64 (k : Int), .bool Lk, .slice Xk Mk Ck] 103)) := (Below.refl _ _).alloc (Nat.le_refl _) _
      have hbd : Below wr.heap.size wr (wr.alloc (.cells #[.int .i64 (g : Int), .int .u32 (r1 : Int), .int .i64 (k : Int), .bool Lk, .slice Xk Mk Ck] 103)).drew := hbo.drew
      have hfv := (Five.new wr (.int .i64 (g : Int)) (.int .u32 (r1 : Int)) (.int .i64 (k : Int)) (.bool Lk) (.slice Xk Mk Ck) 103)
      have hsz : (wr.alloc (.cells #[.int .i64 (g : Int), .int .u32 (r1 : Int), .int .i64 (k : Int), .bool Lk, .slice Xk Mk Ck] 103)).heap.size = wr.heap.size + 1 := by simp
      have hsec1 := hsec _ hbd
      have hS0 := hS1 _ hbd
      have hfd := hfv.drew
      have HBD := hid hbd
      have HFV := hid hfv
      have HSZ := hid hsz
      clear hsec hbo hbd hfv hsz
      generalize wr.alloc (.cells #[.int .i64 (g : Int), .int .u32 (r1 : Int), .int .i64 (k : Int), .bool Lk, .slice Xk Mk Ck] 103) = va at *
      refine wp_region_held_drew (S := fun v => (v.cell? ⟨jp, 0, none⟩ = some (.pointer (some ⟨p, 0, none⟩)) ∧ v.cell? ⟨jp, 3, none⟩ = some (.int .i64 (uk : Int))) ∧ v.cell? ⟨wr.heap.size, 0, none⟩ = some (.int .i64 (g : Int)) ∧ v.cell? ⟨wr.heap.size, 1, none⟩ = some (.int .u32 (r1 : Int)) ∧ v.cell? ⟨wr.heap.size, 2, none⟩ = some (.int .i64 (k : Int)) ∧ v.cell? ⟨wr.heap.size, 3, none⟩ = some (.bool Lk) ∧ v.cell? ⟨wr.heap.size, 4, none⟩ = some (.slice Xk Mk Ck)) (by kernel_rfl) ⟨hS0, hfd.c0, hfd.c1, hfd.c2, hfd.c3, hfd.c4⟩ (fun hHeld => ?_)
      refine wpAnyH_take (i := 0) (v := ?_) rfl (by kernel_rfl) (by kernel_rfl) (by kernel_rfl) (fun _ _ _ h => h) (Or.inl ⟨by rfl, ?_⟩) (by assumption) ?_
      case refine_2 => (intro w hSw; (try dsimp only at hSw); go_simp; (try with_reducible rfl))
      (try simp only [Act.put, List.getElem_toArray, List.getElem_cons_succ, List.getElem_cons_zero, List.setIfInBounds_toArray, List.set_cons_zero, List.set_cons_succ])
      refine wpAnyH_take (i := 1) (v := ?_) rfl (by kernel_rfl) (by kernel_rfl) (by kernel_rfl) (fun _ _ _ h => h) (Or.inl ⟨by rfl, ?_⟩) (by assumption) ?_
      case refine_2 => (intro w hSw; (try dsimp only at hSw); go_simp; (try with_reducible rfl))
      (try simp only [Act.put, List.getElem_toArray, List.getElem_cons_succ, List.getElem_cons_zero, List.setIfInBounds_toArray, List.set_cons_zero, List.set_cons_succ])
      refine wpAnyH_take (i := 2) (v := ?_) rfl (by kernel_rfl) (by kernel_rfl) (by kernel_rfl) (fun _ _ _ h => h) (Or.inl ⟨by rfl, ?_⟩) (by assumption) ?_
      case refine_2 => (intro w hSw; (try dsimp only at hSw); go_simp; (try with_reducible rfl))
      (try simp only [Act.put, List.getElem_toArray, List.getElem_cons_succ, List.getElem_cons_zero, List.setIfInBounds_toArray, List.set_cons_zero, List.set_cons_succ])
      refine wpAnyH_take (i := 3) (v := ?_) rfl (by kernel_rfl) (by kernel_rfl) (by kernel_rfl) (fun _ _ _ h => h) (Or.inl ⟨by rfl, ?_⟩) (by assumption) ?_
      case refine_2 => (intro w hSw; (try dsimp only at hSw); go_simp; (try with_reducible rfl))
      (try simp only [Act.put, List.getElem_toArray, List.getElem_cons_succ, List.getElem_cons_zero, List.setIfInBounds_toArray, List.set_cons_zero, List.set_cons_succ])
      refine wpAnyH_take (i := 4) (v := ?_) rfl (by kernel_rfl) (by kernel_rfl) (by kernel_rfl) (fun _ _ _ h => h) (Or.inl ⟨by rfl, ?_⟩) (by assumption) ?_
      case refine_2 => (intro w hSw; (try dsimp only at hSw); go_simp; (try with_reducible rfl))
      (try simp only [Act.put, List.getElem_toArray, List.getElem_cons_succ, List.getElem_cons_zero, List.setIfInBounds_toArray, List.set_cons_zero, List.set_cons_succ])
      refine wpAnyH_take (i := 5) (v := ?_) rfl (by kernel_rfl) (by kernel_rfl) (by kernel_rfl) (fun _ _ _ h => h) (Or.inl ⟨by rfl, ?_⟩) (by assumption) ?_
      case refine_2 => (intro w hSw; (try dsimp only at hSw); go_simp; (try with_reducible rfl))
      (try simp only [Act.put, List.getElem_toArray, List.getElem_cons_succ, List.getElem_cons_zero, List.setIfInBounds_toArray, List.set_cons_zero, List.set_cons_succ])
      refine wpAnyH_take (i := 6) (v := ?_) rfl (by kernel_rfl) (by kernel_rfl) (by kernel_rfl) (fun _ _ _ h => h) (Or.inl ⟨by rfl, ?_⟩) (by assumption) ?_
      case refine_2 => (intro w hSw; (try dsimp only at hSw); go_simp; (try with_reducible rfl))
      (try simp only [Act.put, List.getElem_toArray, List.getElem_cons_succ, List.getElem_cons_zero, List.setIfInBounds_toArray, List.set_cons_zero, List.set_cons_succ])
      refine wpAnyH_take (i := 7) (v := ?_) rfl (by kernel_rfl) (by kernel_rfl) (by kernel_rfl) (fun _ _ _ h => h) (Or.inl ⟨by rfl, ?_⟩) (by assumption) ?_
      case refine_2 => (intro w hSw; (try dsimp only at hSw); go_simp; (try with_reducible rfl))
      (try simp only [Act.put, List.getElem_toArray, List.getElem_cons_succ, List.getElem_cons_zero, List.setIfInBounds_toArray, List.set_cons_zero, List.set_cons_succ])
      refine wpAnyH_take (i := 8) (v := ?_) rfl (by kernel_rfl) (by kernel_rfl) (by kernel_rfl) (fun _ _ _ h => h) (Or.inl ⟨by rfl, ?_⟩) (by assumption) ?_
      case refine_2 => (intro w hSw; (try dsimp only at hSw); go_simp; (try with_reducible rfl))
      (try simp only [Act.put, List.getElem_toArray, List.getElem_cons_succ, List.getElem_cons_zero, List.setIfInBounds_toArray, List.set_cons_zero, List.set_cons_succ])
      refine wpAnyH_ready (rs := [9]) (by kernel_rfl) (by simp) ?_
      refine AllReadyH.cons rfl (fun K hK => ?_) AllReadyH.nil
      go_simp
      refine hsec1.mono ?_
      rintro e w3 ⟨y2, rfl, hb3, hr3⟩
      have hb3w : Below wr.heap.size wr w3 := HBD.out.trans (hb3.mono HBD.out.size)
      have hf3 := hfd.below hb3 (by have := HSZ.out; show wr.heap.size < va.heap.size; omega)
      have hw3 := hwr w3 y2 hb3w hr3
      have HB3 := hid hb3w
      have HS3 := hid (hS1 w3 hb3w)
      have HF3 := hid hf3
      have HL3 : Hid (wr.heap.size < w3.heap.size) := show wr.heap.size < w3.heap.size by have := HSZ.out; have := hb3.size; show wr.heap.size < w3.heap.size; have e : va.drew.heap.size = va.heap.size := rfl; omega
      refine hK.out _ _ ⟨HS3.out, HF3.out.c0, HF3.out.c1, HF3.out.c2, HF3.out.c3, HF3.out.c4⟩ (fun hHeld => ?_)
      clear hK K
      refine wpAnyH_ready (rs := [10]) (by kernel_rfl) (by simp) ?_
      refine AllReadyH.cons rfl (fun K hK => ?_) AllReadyH.nil
      go_simp
      clear hHeld
      refine hw3.mono ?_
      rintro e w4 ⟨rfl, t4, d4⟩
      have hn4 : ¬ F' wr.heap.size := fun e => by have := hflt _ e; omega
      have hc4 : ∀ j, w4.cell? ⟨wr.heap.size, j, none⟩ = w3.cell? ⟨wr.heap.size, j, none⟩ := fun j => World.cell?_of_block (a := ⟨wr.heap.size, j, none⟩) (t4.block _ HL3.out hn4)
      have j4 := ((HPP.out.jn.below HB3.out).turns t4 (fun q hq hF => HPP.out.dis' q hF hq))
      have u3 : w4.cell? ⟨jp, 3, none⟩ = some (.int .i64 (uk : Int)) := by rw [HUK.out]; exact j4.c3
      have uf := j4.obj.frozen 3
      have u0 := j4.c0
      refine hK.out _ _ ⟨⟨u0, u3⟩, (hc4 0).trans HF3.out.c0, (hc4 1).trans HF3.out.c1, (hc4 2).trans HF3.out.c2, (hc4 3).trans HF3.out.c3, (hc4 4).trans HF3.out.c4⟩ (fun hHeld => ?_)
      clear hK K
      refine wpAnyH_done (by kernel_rfl) ?_ _
      have HN : Hid (∃ F' A' D', Pp B w0 w' (w4.setCell ⟨jp, 3, none⟩ (.int .i64 (uk1 : Int))) w2.heap.size F F' p n mm f A A' D D' jp g u (.slice xR m cR) m Aa ln C ft (.slice (some ⟨gp, 0, none⟩) (pcs l) cy) l b X (fun k => c - 51 * k) (k + 1)) := by
        rw [HUK.out, HR1.out] at d4
        rw [HUK1.out]
        exact ⟨_, _, _, HPP.out.next HB3.out t4 d4⟩
      clear t4 d4 j4 hc4 hn4 hHeld hb3 hr3 hb3w hf3 hw3 hwr hS1 hS0 hfd hsec1
      go_wp2_with fail
      exact ⟨⟨k + 1, hlt, by go_num, HN.out⟩, show pcs l - ((k : Int) + 1).toNat < pcs l - ((k : Int)).toNat by omega⟩
    · obtain rfl : k = pcs l := by omega
      have HPP := hid hpp
      obtain ⟨w5, hw5⟩ : ∃ w5, w5 = wr := ⟨_, rfl⟩
      subst hw5
      have hrow : RowAt w5.drew x l b := HRow.out _ hpp.tr.drew
      have hcl := clone_full x l c b w5.drew hrow (by omega) HE.out.nil
      have hc2 := hpp.jn.c2
      have hdone := fun (v1 : World) (y' : Option Addr) (cy' : Nat) (b1 : Below w5.heap.size w5 v1) (e : Elt v1 y' l cy' b) (hy : ∀ ad, y' = some ad → w5.heap.size ≤ ad.block) => hpp.done b1 e hy hm
      have HKV : Hid (∀ v, Below w5.heap.size w5 v → v.cell? ⟨jp, 2, none⟩ = some (.slice xR m cR)) := fun v hv => (HPP.out.jn.below hv).c2
      clear HR hpp hrow
      go_wp2_with fail
      refine wp_region_last (fun v => v.cell? ⟨jp, 2, none⟩ = some (.slice xR m cR)) 11 (by kernel_rfl) hc2 (fun hS => ?_)
      refine wpAnyL_take (i := 0) (v := ?_) rfl (by kernel_rfl) (by kernel_rfl) (by kernel_rfl) (by kernel_rfl) (fun _ _ _ h => h) hS (Or.inl ⟨by rfl, ?_⟩) ?_
      case refine_2 => (intro w hSw; (try dsimp only at hSw); go_simp; (try with_reducible rfl))
      (try simp only [Act.put, List.setIfInBounds_toArray, List.set_cons_zero, List.set_cons_succ])
      refine wpAnyL_take (i := 1) (v := ?_) rfl (by kernel_rfl) (by kernel_rfl) (by kernel_rfl) (by kernel_rfl) (fun _ _ _ h => h) hS (Or.inl ⟨by rfl, ?_⟩) ?_
      case refine_2 => (intro w hSw; (try dsimp only at hSw); go_simp; (try with_reducible rfl))
      (try simp only [Act.put, List.setIfInBounds_toArray, List.set_cons_zero, List.set_cons_succ])
      refine wpAnyL_take (i := 2) (v := ?_) rfl (by kernel_rfl) (by kernel_rfl) (by kernel_rfl) (by kernel_rfl) (fun _ _ _ h => h) hS (Or.inl ⟨by rfl, ?_⟩) ?_
      case refine_2 => (intro w hSw; (try dsimp only at hSw); go_simp; (try with_reducible rfl))
      (try simp only [Act.put, List.setIfInBounds_toArray, List.set_cons_zero, List.set_cons_succ])
      refine wpAnyL_take (i := 3) (v := ?_) rfl (by kernel_rfl) (by kernel_rfl) (by kernel_rfl) (by kernel_rfl) (fun _ _ _ h => h) hS (Or.inl ⟨by rfl, ?_⟩) ?_
      case refine_2 => (intro w hSw; (try dsimp only at hSw); go_simp; (try with_reducible rfl))
      (try simp only [Act.put, List.setIfInBounds_toArray, List.set_cons_zero, List.set_cons_succ])
      refine wpAnyL_take (i := 4) (v := ?_) rfl (by kernel_rfl) (by kernel_rfl) (by kernel_rfl) (by kernel_rfl) (fun _ _ _ h => h) hS (Or.inl ⟨by rfl, ?_⟩) ?_
      case refine_2 => (intro w hSw; (try dsimp only at hSw); go_simp; (try with_reducible rfl))
      (try simp only [Act.put, List.setIfInBounds_toArray, List.set_cons_zero, List.set_cons_succ])
      refine wpAnyL_take (i := 5) (v := ?_) rfl (by kernel_rfl) (by kernel_rfl) (by kernel_rfl) (by kernel_rfl) (fun _ _ _ h => h) hS (Or.inl ⟨by rfl, ?_⟩) ?_
      case refine_2 => (intro w hSw; (try dsimp only at hSw); go_simp; (try with_reducible rfl))
      (try simp only [Act.put, List.setIfInBounds_toArray, List.set_cons_zero, List.set_cons_succ])
      refine wpAnyL_one (i := 6) (by kernel_rfl) rfl (fun K hK => ?_)
      go_simp
      refine hcl.mono ?_
      rintro e w6 ⟨y6, c6, rfl, hb6, hr6, hle6, hn6, ha6⟩
      have hb6' : Below w5.heap.size w5 w6 := ⟨hb6.os, hb6.tape, hb6.output, hb6.size, hb6.block⟩
      obtain ⟨x7, c7, w7, hap, hcc, h72, hf7, HD⟩ := hdone w6 y6 c6 hb6' ⟨hr6, hn6, hle6, by omega, HE.out.lt, fun ad e => (ha6 ad e).2⟩ (fun ad e => (ha6 ad e).1)
      obtain ⟨m1, hm1⟩ : ∃ m1, m1 = m + 1 := ⟨_, rfl⟩
      rw [← hm1] at hap HD
      have HM1 := hid hm1
      clear hm1
      have h62 := HKV.out w6 hb6'
      have h6a := hcc (.cells #[.slice y6 l c6] 23)
      clear hcc hdone
      refine hK.out _ _ (fun _ => h62) ?_
      clear hK K
      refine wpAnyL_one (i := 7) (by kernel_rfl) rfl (fun K hK => ?_)
      go_simp
      refine hK.out _ _ (fun _ => h6a) ?_
      clear hK K
      refine wpAnyL_one (i := 8) (by kernel_rfl) rfl (fun K hK => ?_)
      refine ready_append rfl _ _ 92 rfl _ _ rfl rfl hap ?_
      (try simp only [Act.put, List.getElem_toArray, List.getElem_cons_succ, List.getElem_cons_zero, List.setIfInBounds_toArray, List.set_cons_zero, List.set_cons_succ])
      refine hK.out _ _ (fun _ => h72) ?_
      clear hK K
      refine wpAnyL_one (i := 9) (by kernel_rfl) rfl (fun K hK => ?_)
      go_simp
      refine hK.out _ _ (fun _ => h72) ?_
      clear hK K
      refine wpAnyL_one (i := 10) (by kernel_rfl) rfl (fun K hK => ?_)
      go_simp
      refine hK.out _ _ (fun _ => h72) ?_
      clear hK K
      refine wpAnyL_one (i := 11) (by kernel_rfl) rfl (fun K hK => ?_)
      go_simp
      refine hK.out _ _ (fun h => absurd rfl h) ?_
      clear hK K
      refine wpAnyL_done (by kernel_rfl) ?_ _
      go_wp2_with fail
      go_ret
      obtain ⟨z1, z2, z3⟩ := HD.out
      rw [HM1.out] at z1 z2 z3
      rw [HM1.out]
      refine ⟨rfl, F', A', D', _, y6, c6, z1, ?_, fun q hq hb => ?_, HPP.out.old, HPP.out.new⟩
      · rw [HK0.out] at z2
        exact z2.of_drewN
      · exact z3 q (by rw [HK0.out]; exact hq) hb

end

end Go.Proofs.Ytbbjklenpgkooaa

/-
  A journal's life: opened, put, synced, crashed and opened anew: contracts with all that holds then.
  Conditions: a disk of at most 300 sectors.
-/
namespace Go.Proofs.Ytbbjklenpgkooaa
open Go.RowKit By Dk Su Jo
set_option linter.unusedVariables false
set_option linter.unusedSimpArgs false
set_option maxRecDepth 100000

theorem Jn.base {w : World} {B B' jp p g u m : Nat} {R : Value} {A : Nat → Option Addr} {ln C : Nat → Nat} {ft : Nat → Nat → Nat} (h : Jn w B jp p g u R m A ln C ft) (hB : B' ≤ B) : Jn w B' jp p g u R m A ln C ft :=
  ⟨h.obj, ⟨h.own.own, fun q hq => Nat.le_trans hB (h.own.ob q hq), h.own.elt, h.own.far⟩, Nat.le_trans hB h.jb, fun i hi ad ha => ⟨Nat.le_trans hB (h.af i hi ad ha).1, (h.af i hi ad ha).2⟩⟩

/- The records that are read are those that were put. -/
def Alike (V : Nat → Nat → Nat) (st : Nat → Nat) (m : Nat) (ln : Nat → Nat) (ft : Nat → Nat → Nat) : Prop := ∀ i, i < m → lnOf V st i = ln i ∧ ∀ j, j < ln i → ftOf V st i j = ft i j

theorem alike_congr {V V' : Nat → Nat → Nat} {st : Nat → Nat} {n m : Nat} {ln : Nat → Nat} {ft : Nat → Nat → Nat} (hr : Run OkP V n m st) (h : Alike V st m ln ft) (e : ∀ k, k < st m → V' k = V k) : Alike V' st m ln ft := fun i hi => by
  obtain ⟨h1, h2⟩ := h i hi
  have hrec := hr.one i hi
  have hup := hr.up i hi
  have hmo := hr.mono m (i := i + 1) hi (Nat.le_refl _)
  have e1 : lnOf V' st i = lnOf V st i := by
    unfold lnOf rlen
    rw [e _ (by omega)]
  refine ⟨e1.trans h1, fun j hj => ?_⟩
  rw [← h2 j hj]
  unfold ftOf rbyte
  rw [e]
  rw [← h1] at hj
  unfold lnOf rlen at hj
  have hc := (ok_cnt (hrec.ok (st (i + 1) - st i - 1) (by omega))).1
  have : j / 51 < st (i + 1) - st i := by
    rcases Nat.lt_or_ge (j / 51) (st (i + 1) - st i) with h | h
    · exact h
    · exfalso
      have h3 : cnt (V (st i + (st (i + 1) - st i - 1))) ≤ 51 := hc
      rcases Nat.lt_or_ge (cnt (V (st i + (st (i + 1) - st i - 1)))) 51 with h4 | h4
      · omega
      · omega
  omega

structure Life (B : Nat) (w0 w : World) (K : Nat → Prop) (V : Nat → Nat → Nat) (p n jp g m : Nat) (st : Nat → Nat) (ms : Nat) (ln : Nat → Nat) (ft : Nat → Nat → Nat) (F : Nat → Prop) (mm : Nat) (f A : Nat → Nat) (D : Nat → Nat → Nat) (R : Value) (Aa : Nat → Option Addr) (C : Nat → Nat) : Prop where
  jd : JD B w0 w F p n mm f A D jp g (st m) R m Aa ln C ft
  inv : Inv n f mm A D g m st ms
  hV : V = vw f A D mm
  hK : K = both F R jp m Aa
  alike : Alike V st m ln ft
  n3 : n ≤ 300

section
variable {B : Nat} {w0 w w' : World} {K : Nat → Prop} {V : Nat → Nat → Nat} {p n jp g m : Nat} {st : Nat → Nat} {ms : Nat} {ln : Nat → Nat} {ft : Nat → Nat → Nat} {F : Nat → Prop} {mm : Nat} {f A : Nat → Nat} {D : Nat → Nat → Nat} {R : Value} {Aa : Nat → Option Addr} {C : Nat → Nat}

theorem Life.turns {G : Nat → Prop} (h : Life B w0 w K V p n jp g m st ms ln ft F mm f A D R Aa C) (t : Turns G w w') (hG : ∀ k, G k → B ≤ k) (hd : ∀ k, K k → ¬ G k) : Life B w0 w' K V p n jp g m st ms ln ft F mm f A D R Aa C :=
  ⟨h.jd.turns t hG (fun k hk => hd k (by rw [h.hK]; exact hk)), h.inv, h.hV, h.hK, h.alike, h.n3⟩

theorem Life.below (h : Life B w0 w K V p n jp g m st ms ln ft F mm f A D R Aa C) (t : Below w.heap.size w w') : Life B w0 w' K V p n jp g m st ms ln ft F mm f A D R Aa C :=
  ⟨h.jd.below t, h.inv, h.hV, h.hK, h.alike, h.n3⟩

theorem Life.foot (h : Life B w0 w K V p n jp g m st ms ln ft F mm f A D R Aa C) : ∀ k, K k → B ≤ k ∧ k < w.heap.size := by rw [h.hK]; exact h.jd.foot

theorem Life.used (h : Life B w0 w K V p n jp g m st ms ln ft F mm f A D R Aa C) : st m ≤ n := h.inv.recs.run.le

theorem Life.count (h : Life B w0 w K V p n jp g m st ms ln ft F mm f A D R Aa C) : m ≤ 300 := by
  have := h.inv.recs.run.count m (Nat.le_refl _)
  have := h.used
  have := h.n3
  omega

theorem Life.put_ok (h : Life B w0 w K V p n jp g m st ms ln ft F mm f A D R Aa C) (x : Option Addr) (l c : Nat) (b : Nat → Nat) (he : EltW w x l c b) (hx : l ≠ 0 → ∀ ad, x = some ad → ¬ K ad.block) (hl : l ≤ 13005) (hf : st m + pcs l ≤ n) (hg : g < 65536) :
    Calls Try.prog 36 #[.pointer (some ⟨jp, 0, none⟩), .slice x l c] w fun e w' => e = .returned (.int .i64 0) ∧ ∃ K' V' F' A' D' R' Aa' C', Life B w0 w' K' V' p n jp g (m + 1) (stx st m (pcs l)) ms (ext ln m l) (ext ft m b) F' (mm + pcs l) f A' D' R' Aa' C' ∧
      Turns K w w' ∧ (∀ q, q < w.heap.size → K' q → K q) ∧ (∀ k, k < st m ∨ st m + pcs l ≤ k → V' k = V k) ∧ (∀ k, k < pcs l → V' (st m + k) = mkS g (m + 1) l b k) := by
  have hcount := h.count
  have hn3 := h.n3
  have hu := h.inv.used
  rw [h.hK] at hx ⊢
  refine (h.jd.put_ok x l c b he hx hl hf (by omega) hg (by omega)).mono fun e w' ⟨h1, F', A', D', R', y, cy, h2, h3, h4, h5, h6⟩ => ⟨h1, ?_⟩
  obtain ⟨i1, i2, i3⟩ := h.inv.put (b := b) hl hg (by omega) hf h5 h6
  have hst : st m + pcs l = stx st m (pcs l) (m + 1) := (stx_new _ _ _).symm
  refine ⟨_, _, F', A', D', R', _, _, ⟨by rw [← hst]; exact h2, i1, rfl, rfl, fun i hi => ?_, hn3⟩, h3, h4, by rw [h.hV]; exact i2, i3⟩
  by_cases ei : i < m
  · rw [ext_old _ _ _ ei, ext_old _ _ _ ei]
    have hal := alike_congr (V' := vw f A' D' (mm + pcs l)) (by rw [h.hV]; exact h.inv.recs.run) h.alike (fun k hk => by rw [h.hV]; exact i2 k (.inl hk)) i ei
    unfold lnOf ftOf at hal ⊢
    rw [stx_old _ _ (by omega), stx_old _ _ (by omega)]
    exact hal
  · obtain rfl : i = m := by omega
    rw [ext_new, ext_new]
    obtain ⟨_, _, q1, q2⟩ := rec_put (V := vw f A' D' (mm + pcs l)) (a := st i) hl hg (by omega) hf i3
    unfold lnOf ftOf
    rw [stx_new, stx_old _ _ (Nat.le_refl _), Nat.add_sub_cancel_left]
    exact ⟨q1, q2⟩

theorem Life.put_long (h : Life B w0 w K V p n jp g m st ms ln ft F mm f A D R Aa C) (x : Option Addr) (l c : Nat) (hl : 13005 < l) :
    Calls Try.prog 36 #[.pointer (some ⟨jp, 0, none⟩), .slice x l c] w fun e w' => e = .returned (.int .i64 3) ∧ w' = w := h.jd.put_long x l c hl

theorem Life.put_full (h : Life B w0 w K V p n jp g m st ms ln ft F mm f A D R Aa C) (x : Option Addr) (l c : Nat) (hl : l ≤ 13005) (hf : ¬ st m + pcs l ≤ n) :
    Calls Try.prog 36 #[.pointer (some ⟨jp, 0, none⟩), .slice x l c] w fun e w' => e = .returned (.int .i64 2) ∧ ∃ k, w' = w.drewN k := h.jd.put_full h.used x l c hl hf

theorem Life.sync (h : Life B w0 w K V p n jp g m st ms ln ft F mm f A D R Aa C) :
    Calls Try.prog 37 #[.pointer (some ⟨jp, 0, none⟩)] w fun e w' => e = .returned (.tuple #[]) ∧ Turns K w w' ∧ Life B w0 w' K V p n jp g m st m ln ft F 0 (kept f A D (fun _ => true) mm) A D R Aa C :=
  (h.jd.jn.sync h.jd.dsk).mono fun e w' ⟨h1, h2, h3⟩ => ⟨h1, h2.weak (fun k hk => by rw [h.hK]; exact .inl hk), ⟨h3, h.jd.jn.turns h2 (fun k hk hF => h.jd.dis k hF hk), h.jd.dis⟩, h.inv.sync, by rw [vw_zero, vs_all]; exact h.hV, h.hK, h.alike, h.n3⟩

/- Behind a crash. -/
structure Down (B : Nat) (w0 w : World) (F : Nat → Prop) (p n g m : Nat) (st : Nat → Nat) (ln : Nat → Nat) (ft : Nat → Nat → Nat) (f A : Nat → Nat) (D : Nat → Nat → Nat) : Prop where
  dsk : Dsk B w0 w F p n 0 f A D
  recs : Recs OkP (vs f) n m st
  top : ∀ k, k < n → OkP (vs f k) → genS (vs f k) ≤ g
  same : ∀ k, k < n → OkR (vs f k) → OkP (vs f k)
  alike : Alike (vs f) st m ln ft
  n3 : n ≤ 300

theorem Life.crash (h : Life B w0 w K V p n jp g m st ms ln ft F mm f A D R Aa C) (y : Option Addr) (l lc : Nat) (b : Nat → Bool) (hy : BoolsAt w y l b) (hyF : l ≠ 0 → ∀ a, y = some a → ¬ K a.block) (hl : l ≤ 140737488355328) :
    Calls Try.prog 23 #[.pointer (some ⟨p, 0, none⟩), .slice y l lc] w fun e w' => e = .returned (.tuple #[]) ∧ Turns K w w' ∧ ∃ m' f', ms ≤ m' ∧ m' ≤ m ∧ Down B w0 w' F p n g m' st ln ft f' A D := by
  have hKF : ∀ k, F k → K k := fun k hk => by rw [h.hK]; exact .inl hk
  refine (dcrash B p n mm l lc F f A D y b w0 w h.jd.dsk hy (fun h0 a ha hF => hyF h0 a ha (hKF _ hF)) hl).mono fun e w' ⟨h1, h2, h3⟩ => ⟨h1, h2.weak hKF, ?_⟩
  obtain ⟨m', c1, c2, c3, c4, c5, c6⟩ := h.inv.crash (cutB l b)
  refine ⟨m', _, c1, c2, h3, c3, c5, c6, ?_, h.n3⟩
  have hrun := h.inv.recs.run.take c2
  have hal : Alike (vw f A D mm) st m' ln ft := fun i hi => by rw [← h.hV]; exact h.alike i (by omega)
  exact alike_congr hrun hal c4

theorem Down.open_ {f : Nat → Nat} (h : Down B w0 w F p n g m st ln ft f A D) (hg : g < 65535) (hB : B ≤ w.heap.size) :
    Calls Try.prog 29 #[.pointer (some ⟨p, 0, none⟩)] w fun e w' => ∃ jp G K R Aa C, e = .returned (.tuple #[.pointer (some ⟨jp, 0, none⟩), .int .i64 0]) ∧ Below w.heap.size w w' ∧ Top OkP (vs f) n G ∧ G ≤ g ∧ (∀ q, q < w.heap.size → K q → F q) ∧
      ∃ ln' ft', Life B w0 w' K (vs f) p n jp (G + 1) m st m ln' ft' F 0 f A D R Aa C ∧ (∀ i, i < m → ln' i = ln i ∧ ∀ j, j < ln i → ft' i j = ft i j) := by
  have e0 := vw_zero f A D
  have hGle : ∀ G, Top OkP (vs f) n G → G ≤ g := fun G hG => by
    rcases hG.is with e | ⟨k, k1, k2, k3⟩
    · omega
    · rw [← k3]; exact h.top k k1 k2
  refine (open_yes p n 0 F f A D w h.dsk.pd (fun G hG => by rw [e0] at hG; have := hGle G hG; omega)).mono fun e w' ⟨jp, G, k, st', R, Aa, C, h1, h2, h3, h4, h5⟩ => ?_
  rw [e0] at h3 h4 h5
  obtain ⟨rfl, hs⟩ := h.recs.uniq h4
  have hft := h.dsk.pd.flt
  have hst : st' m = st m := (hs m (Nat.le_refl _)).symm
  have hln : ∀ i, i < m → lnOf (vs f) st' i = lnOf (vs f) st i := fun i hi => by unfold lnOf; rw [hs i (by omega), hs (i + 1) (by omega)]
  have hfn : ∀ i, i < m → ftOf (vs f) st' i = ftOf (vs f) st i := fun i hi => by unfold ftOf; rw [hs i (by omega)]
  have hfoot := h5.foot
  refine ⟨jp, G, _, R, Aa, C, h1, h2, h3, hGle G h3, fun q hq hk => ?_, _, _, ⟨⟨h.dsk.below h2, by rw [← hst]; exact h5.base hB, fun q hq hj => ?_⟩, Inv.open_ h.recs (fun q hq ho => Nat.lt_succ_of_le (h3.le q hq ho)) h.same, e0.symm, rfl, fun i hi => ?_, h.n3⟩, fun i hi => ?_⟩
  · rcases hk with hk | hk
    · exact hk
    · have := (hfoot q hk).1; omega
  · have := hft q hq
    have := (hfoot q hj).1
    omega
  · rw [hln i hi, hfn i hi]
    exact ⟨rfl, fun j _ => rfl⟩
  · rw [hln i hi, hfn i hi]
    exact h.alike i hi

end

/- A new disk, opened. -/
theorem zero_no (k : Nat) : ¬ OkR (vs (fun _ => 0) k) := fun h => by
  have := h.mark
  unfold vs cut sec at this
  simp at this

theorem down_new {B : Nat} {w0 w : World} {F : Nat → Prop} {p n : Nat} {A : Nat → Nat} {D : Nat → Nat → Nat} (h : Dsk B w0 w F p n 0 (fun _ => 0) A D) (hn : n ≤ 300) (ln : Nat → Nat) (ft : Nat → Nat → Nat) : Down B w0 w F p n 0 0 (fun _ => 0) ln ft (fun _ => 0) A D :=
  ⟨h, ⟨⟨rfl, fun i hi => by omega, fun i hi => by omega, fun i hi => by omega⟩, fun c hc => absurd (hc.ok 0 hc.pos).r (zero_no _)⟩, fun k _ ho => absurd ho.r (zero_no k), fun k _ ho => absurd ho (zero_no k), fun i hi => by omega, hn⟩

end Go.Proofs.Ytbbjklenpgkooaa

/-
  The statements' own check that a record is read again; a journal's records as the statements list them; lists that are alike.
  Conditions: none.
-/
namespace Go.Proofs.Ytbbjklenpgkooaa
open Go.RowKit By Dk Su Jo
set_option linter.unusedVariables false
set_option linter.unusedSimpArgs false
set_option maxRecDepth 100000

theorem Life.down {B : Nat} {w0 w : World} {K : Nat → Prop} {V : Nat → Nat → Nat} {p n jp g m : Nat} {st : Nat → Nat} {ms : Nat} {ln : Nat → Nat} {ft : Nat → Nat → Nat} {F : Nat → Prop} {f A : Nat → Nat} {D : Nat → Nat → Nat} {R : Value} {Aa : Nat → Option Addr} {C : Nat → Nat}
    (h : Life B w0 w K V p n jp g m st ms ln ft F 0 f A D R Aa C) : Down B w0 w F p n g m st ln ft f A D := by
  have e := h.hV
  rw [vw_zero] at e
  have i := h.inv
  have e0 := vw_zero f A D
  have r := i.recs
  have t := i.top
  have s := i.same
  rw [e0] at r t s
  exact ⟨h.jd.dsk, r, t, s, by rw [← e]; exact h.alike, h.n3⟩

theorem elt_make {w w1 : World} (h : Blk w1 w.heap.size 5 60 (fun _ => .int .u8 0)) : Elt w1 (some ⟨w.heap.size, 0, none⟩) 60 60 (fun _ => 0) :=
  ⟨(h.congr fun k hk => by simp).row, (fun e => by cases e), Nat.le_refl _, by omega, fun _ => by omega, fun ad e => by cases e; exact h.lt⟩

end Go.Proofs.Ytbbjklenpgkooaa

/-
  A store's life: opened, a batch applied or refused, crashed and opened anew.
  Conditions: a disk of at most 300 sectors.
-/
namespace Go.Proofs.Ytbbjklenpgkooaa
open Go.RowKit By Dk Wi St Su Jo
set_option linter.unusedVariables false
set_option linter.unusedSimpArgs false
set_option maxRecDepth 100000

theorem MapAt.move {w w' : World} {mb nb : Nat} {D : DataW Value} {M : KV} {U U' G : Nat → Prop} (h : MapAt w mb nb D M U) (t : Turns G w w') (hm : ¬ G mb) (hG : ∀ k, k < w.heap.size → G k → U k) (hU : ∀ k, k < w.heap.size → U' k → U k) : MapAt w' mb nb D M U' := by
  have h1 := h.turns t hm hG
  refine ⟨h1.own, h1.has, fun s l hs => ?_, h1.keys⟩
  obtain ⟨x, n, c, k1, k2, k3, k4⟩ := h.val s l hs
  obtain ⟨x', n', c', q1, q2, q3, q4⟩ := h1.val s l hs
  have e := (k1 (.held (.slice none 0 0))).symm.trans (q1 (.held (.slice none 0 0)))
  injection e with e
  injection e with e1 e2 e3
  subst e1
  subst e2
  subst e3
  exact ⟨x, n, c, q1, q2, q3, fun a ha => ⟨(q4 a ha).1, fun hu => (k4 a ha).2.1 (hU _ (k4 a ha).1 hu), (q4 a ha).2.2⟩⟩

theorem StAt.move {w w' : World} {sp jp mb nb : Nat} {D : DataW Value} {M : KV} {U U' G : Nat → Prop} (h : StAt w sp jp mb nb D M U) (t : Turns G w w') (hs : ¬ G sp) (hm : ¬ G mb) (hG : ∀ k, k < w.heap.size → G k → U k) (hU : ∀ k, k < w.heap.size → U' k → U k) : StAt w' sp jp mb nb D M U' :=
  ⟨t.blk h.obj hs, h.map.move t hm hG hU, h.ne⟩

def Alive (B : Nat) (w0 w : World) (p n sp jp mb m u g : Nat) (M : KV) (K : Nat → Prop) : Prop :=
  ∃ V st ln ft F f A D R Aa C nb DD, Life B w0 w K V p n jp g m st m ln ft F 0 f A D R Aa C ∧ StAt w sp jp mb nb DD M (fun q => K q ∨ q = sp) ∧ ¬ K sp ∧ ¬ K mb ∧ B ≤ sp ∧ B ≤ mb ∧ nb ≤ 256 * m ∧ After (recL ln ft) m M ∧ u = st m

section
variable {B : Nat} {w0 w w' : World} {p n sp jp mb m u g : Nat} {M : KV} {K : Nat → Prop}

theorem Alive.below (h : Alive B w0 w p n sp jp mb m u g M K) (t : Below w.heap.size w w') : Alive B w0 w' p n sp jp mb m u g M K := by
  obtain ⟨V, st, ln, ft, F, f, A, D, R, Aa, C, nb, DD, h1, h2, h3⟩ := h
  exact ⟨V, st, ln, ft, F, f, A, D, R, Aa, C, nb, DD, h1.below t, h2.below t, h3⟩

theorem Alive.bel (h : Alive B w0 w p n sp jp mb m u g M K) : Below B w0 w := by
  obtain ⟨V, st, ln, ft, F, f, A, D, R, Aa, C, nb, DD, h1, _⟩ := h
  exact h1.jd.dsk.bel

theorem Alive.size (h : Alive B w0 w p n sp jp mb m u g M K) : B ≤ w.heap.size := by
  obtain ⟨V, st, ln, ft, F, f, A, D, R, Aa, C, nb, DD, h1, _⟩ := h
  exact h1.jd.dsk.size

theorem Alive.foot (h : Alive B w0 w p n sp jp mb m u g M K) : ∀ k, K k → B ≤ k ∧ k < w.heap.size := by
  obtain ⟨V, st, ln, ft, F, f, A, D, R, Aa, C, nb, DD, h1, _⟩ := h
  exact h1.foot

theorem Alive.stat (h : Alive B w0 w p n sp jp mb m u g M K) : (∃ nb DD, StAt w sp jp mb nb DD M (fun q => K q ∨ q = sp)) ∧ ¬ K mb ∧ B ≤ sp ∧ B ≤ mb ∧ u ≤ n ∧ n ≤ 300 := by
  obtain ⟨V, st, ln, ft, F, f, A, D, R, Aa, C, nb, DD, h1, h2, h3, h4, h5, h6, h7, h8, h9⟩ := h
  exact ⟨⟨nb, DD, h2⟩, h4, h5, h6, by rw [h9]; exact h1.used, h1.n3⟩

theorem batches_any (h : Alive B w0 w p n sp jp mb m u g M K) : Calls Try.prog 15 #[.pointer (some ⟨sp, 0, none⟩)] w fun e w' => e = .returned (.int .i64 (m : Int)) ∧ w' = w := by
  obtain ⟨V, st, ln, ft, F, f, A, D, R, Aa, C, nb, DD, h1, h2, _⟩ := h
  have hO := sopen_yes h2
  have c0 := h2.c0
  have hL := h1.jd.jn.len
  clear h1 h2
  go_enter Try.func15, Try.ntmps15
  go_wp2_with (first
    | (go_at_call 34; refine hO.mono ?_; rintro e w' ⟨rfl, hw⟩; subst w'; clear hO)
    | (go_at_call 30; refine hL.mono ?_; rintro e w' ⟨rfl, hw⟩; subst w'; clear hL))
  go_ret
  exact ⟨rfl, rfl⟩

/- Acts that lie outside the store. -/
def Away (K : Nat → Prop) (mb : Nat) (a : Option Addr) (len : Nat) (V : Nat → AV) : Prop :=
  (len ≠ 0 → ∀ ad, a = some ad → ¬ K ad.block ∧ ad.block ≠ mb) ∧ ∀ i, i < len → ∀ ad, (V i).x = some ad → ¬ K ad.block ∧ ad.block ≠ mb

theorem sl_eltw {v : World} {x : Option Addr} {l c : Nat} {o : List Nat} (h : Sl v x l c o) (hl : l ≤ 140737488351232) : EltW v x l c (gl o) :=
  ⟨h.row, h.nil', h.le, hl, fun j => gl_lt h.lt j⟩

theorem recL_ext (ln : Nat → Nat) (ft : Nat → Nat → Nat) (m : Nat) (o : List Nat) : ∀ i, i < m → recL ln ft i = recL (ext ln m o.length) (ext ft m (gl o)) i := fun i hi => by
  unfold recL
  rw [ext_old _ _ _ hi, ext_old _ _ _ hi]

theorem recL_new (ln : Nat → Nat) (ft : Nat → Nat → Nat) (m : Nat) (o : List Nat) : recL (ext ln m o.length) (ext ft m (gl o)) m = o := by
  unfold recL
  rw [ext_new, ext_new]
  apply List.ext_getElem?
  intro i
  by_cases h : i < o.length
  · simp [h, gl, List.getD]
  · rw [List.getElem?_eq_none (by simp; omega), List.getElem?_eq_none (by omega)]

/- Apply, where it is refused. -/
set_option maxHeartbeats 1000000 in
theorem apply_no (h : Alive B w0 w p n sp jp mb m u g M K) (a : Option Addr) (len cap : Nat) (V : Nat → AV) (hA : ActsAt w a len V) (hl : len ≤ 140737488351232) (hcap : len ≤ cap) (c : Nat) (o : List Nat) (hS : EncSays (pas V len) c o) (z : Nat)
    (hz : (c ≠ 0 ∧ z = c) ∨ (c = 0 ∧ ¬ canL M (pas V len) ∧ z = 4) ∨ (c = 0 ∧ canL M (pas V len) ∧ ¬ u + pcs o.length ≤ n ∧ z = 2)) :
    Calls Try.prog 12 #[.pointer (some ⟨sp, 0, none⟩), .slice a len cap] w fun e w' => e = .returned (.int .i64 (z : Int)) ∧ Below w.heap.size w w' := by
  obtain ⟨Vv, st, ln, ft, F, f, A, D, R, Aa, C, nb, DD, h1, h2, h3, h4, h5, h6, h7, h8, h9⟩ := h
  have hO := sopen_yes h2
  have hE := encode_any a len cap V w hA hl c o hS
  rcases hz with ⟨hc, rfl⟩ | ⟨rfl, hcan, rfl⟩ | ⟨rfl, hcan, hroom, rfl⟩
  · have hne : ((z : Int) != 0) = true := by simp; omega
    clear h1 h2 hA hS hc h8
    go_enter Try.func12, Try.ntmps12
    go_wp2_with (first
      | (go_at_call 34; refine hO.mono ?_; rintro e w' ⟨rfl, hw⟩; subst w'; clear hO)
      | (go_at_call 5; refine hE.mono ?_; rintro e w1 ⟨x, mx, cx, rfl, hT⟩; clear hE
         have HB := hid hT.2.2
         clear hT))
    go_ret
    exact ⟨rfl, HB.out⟩
  · have HC : Hid (∀ v, Below w.heap.size w v → Calls Try.prog 32 #[.pointer (some ⟨sp, 0, none⟩), .slice a len cap] v fun e v2 => e = .returned (.bool false) ∧ Hid (Below w.heap.size w v2)) := fun v hb =>
      (cando_any (h2.below hb) a len cap V (hA.below hb) hl hcap false (by simp [hcan])).mono fun e v2 ⟨e1, b2⟩ => ⟨e1, hb.trans (b2.mono hb.size)⟩
    clear h1 h2 hA hS hcan h8
    go_enter Try.func12, Try.ntmps12
    go_wp2_with (first
      | (go_at_call 34; refine hO.mono ?_; rintro e w' ⟨rfl, hw⟩; subst w'; clear hO)
      | (go_at_call 5; refine hE.mono ?_; rintro e w1 ⟨x, mx, cx, rfl, hT⟩; clear hE
         have hC := HC.out w1 hT.2.2
         clear hT HC)
      | (go_at_call 32; refine hC.mono ?_; rintro e w2 ⟨rfl, HB⟩; clear hC))
    go_ret
    exact ⟨rfl, HB.out⟩
  · have HC : Hid (∀ v, Below w.heap.size w v → Calls Try.prog 32 #[.pointer (some ⟨sp, 0, none⟩), .slice a len cap] v fun e v2 => e = .returned (.bool true) ∧ v2.cell? ⟨sp, 0, none⟩ = some (.pointer (some ⟨jp, 0, none⟩)) ∧
        ∀ x cx, Calls Try.prog 36 #[.pointer (some ⟨jp, 0, none⟩), .slice x o.length cx] v2 fun e v3 => e = .returned (.int .i64 2) ∧ Hid (Below w.heap.size w v3)) := fun v hb =>
      (cando_any (h2.below hb) a len cap V (hA.below hb) hl hcap true (by simp [hcan])).mono fun e v2 ⟨e1, b2⟩ => ⟨e1, ((h2.below hb).below b2).c0, fun x cx => by
        have hlen : o.length ≤ 13005 := by
          rcases hS with ⟨_, q, _⟩ | ⟨_, _, q, _⟩ | ⟨_, q, _, q2⟩
          · cases q
          · cases q
          · rw [q2]; exact q
        refine (((h1.below hb).below b2).put_full x o.length cx hlen (by rw [← h9]; exact hroom)).mono fun e v3 ⟨e3, k, hv⟩ => ⟨e3, ?_⟩
        rw [hv]
        exact below_drewN' (hb.trans (b2.mono hb.size)) k⟩
    have HEL : Hid (∀ v x mx cx, EncTold w v x mx cx o → mx = o.length) := fun v x mx cx hT => hT.1.len.symm
    clear h1 h2 hA hS hcan h8 hroom
    go_enter Try.func12, Try.ntmps12
    go_wp2_with (first
      | (go_at_call 34; refine hO.mono ?_; rintro e w' ⟨rfl, hw⟩; subst w'; clear hO)
      | (go_at_call 5; refine hE.mono ?_; rintro e w1 ⟨x, mx, cx, rfl, hT⟩; clear hE
         have hC := HC.out w1 hT.2.2
         obtain rfl : mx = o.length := HEL.out _ _ _ _ hT
         clear hT HC HEL)
      | (go_at_call 32; refine hC.mono ?_; rintro e w2 ⟨rfl, c0, hP⟩; clear hC; have hP1 := hP x cx; clear hP)
      | (go_at_call 36; refine hP1.mono ?_; rintro e w3 ⟨rfl, HB⟩; clear hP1))
    go_ret
    exact ⟨rfl, HB.out⟩

end

end Go.Proofs.Ytbbjklenpgkooaa

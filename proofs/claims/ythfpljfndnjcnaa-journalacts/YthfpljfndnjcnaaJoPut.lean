/-
  What Put of a journal does: contracts over plain numbers ('JoPlain').
  Conditions: the journal and its disk are as Open and New gave them ('JD'); the record's bytes lie apart from them.
-/
import Derived.Test.YthfpljfndnjcnaaJoPutP
namespace Go.Proofs.Ythfpljfndnjcnaa
open Go.RowKit By Dk Su Jo
set_option linter.unusedVariables false
set_option linter.unusedSimpArgs false

section
variable {B : Nat} {w0 w : World} {F : Nat → Prop} {p n mm : Nat} {f A : Nat → Nat} {D : Nat → Nat → Nat} {jp g u : Nat} {R : Value} {m : Nat} {Aa : Nat → Option Addr} {ln C : Nat → Nat} {ft : Nat → Nat → Nat}

theorem JD.put_long (h : JD B w0 w F p n mm f A D jp g u R m Aa ln C ft) (x : Option Addr) (l c : Nat) (hl : 13005 < l) :
    Calls Try.prog 22 #[.pointer (some ⟨jp, 0, none⟩), .slice x l c] w fun e w' => e = .returned (.int .i64 3) ∧ w' = w := by
  have ho := jopen_any jp _ w h.jn.c0
  have hl' : (13005 : Int) < (l : Int) := by omega
  clear h
  go_enter Try.func22, Try.ntmps22
  go_wp2_with ((go_at_call 32; refine ho.mono ?_; rintro e w' ⟨rfl, hw⟩; subst w'; clear ho))
  go_ret
  exact ⟨rfl, rfl⟩

theorem JD.put_full (h : JD B w0 w F p n mm f A D jp g u R m Aa ln C ft) (hu : u ≤ n) (x : Option Addr) (l c : Nat) (hl : l ≤ 13005) (hf : ¬ u + pcs l ≤ n) :
    Calls Try.prog 22 #[.pointer (some ⟨jp, 0, none⟩), .slice x l c] w fun e w' => e = .returned (.int .i64 2) ∧ ∃ k, w' = w.drewN k := by
  have ho := jopen_any jp _ w h.jn.c0
  have hrm := h.jn.room h.dsk.pd hu
  have hl' : ¬ (13005 : Int) < (l : Int) := by omega
  have hrz : roomZ n u < (l : Int) := by
    have := mt (room_fits hu hl).1 hf
    omega
  clear h
  generalize roomZ n u = Z at *
  go_enter Try.func22, Try.ntmps22
  go_wp2_with (first
    | (go_at_call 32; refine ho.mono ?_; rintro e w' ⟨rfl, hw⟩; subst w'; clear ho)
    | (go_at_call 21; refine hrm.mono ?_; rintro e w' ⟨rfl, k, rfl⟩; clear hrm))
  go_ret
  exact ⟨rfl, k, rfl⟩

set_option maxHeartbeats 2000000 in
set_option maxRecDepth 100000 in
theorem JD.put_ok (h : JD B w0 w F p n mm f A D jp g u R m Aa ln C ft) (x : Option Addr) (l c : Nat) (b : Nat → Nat) (he : EltW w x l c b) (hx : l ≠ 0 → ∀ ad, x = some ad → ¬ both F R jp m Aa ad.block) (hl : l ≤ 13005) (hf : u + pcs l ≤ n) (hmm : mm + pcs l ≤ 1000) (hg : g < 65536) (hm : m ≤ 4096) :
    Calls Try.prog 22 #[.pointer (some ⟨jp, 0, none⟩), .slice x l c] w fun e w' => e = .returned (.int .i64 0) ∧ ∃ F' A' D' R' y cy, JD B w0 w' F' p n (mm + pcs l) f A' D' jp g (u + pcs l) R' (m + 1) (ext Aa m y) (ext ln m l) (ext C m cy) (ext ft m b) ∧
      Turns (both F R jp m Aa) w w' ∧ (∀ q, q < w.heap.size → both F' R' jp (m + 1) (ext Aa m y) q → both F R jp m Aa q) ∧ (∀ i, i < mm → A' i = A i ∧ D' i = D i) ∧ (∀ k, k < pcs l → A' (mm + k) = u + k ∧ ∀ j, j < 64 → D' (mm + k) j = mkS g (m + 1) l b k j) := by
  have hu : u ≤ n := by omega
  have hn2 := h.dsk.pd.n1.2
  have ho := jopen_any jp _ w h.jn.c0
  have hrm := h.jn.room h.dsk.pd hu
  have hl' : ¬ (13005 : Int) < (l : Int) := by omega
  have hrz : ¬ roomZ n u < (l : Int) := by
    have := (room_fits hu hl).2 hf
    omega
  obtain ⟨r1, hr1⟩ : ∃ r1, r1 = m + 1 := ⟨_, rfl⟩
  have hri : (m : Int) + 1 = (r1 : Int) := by omega
  have hr9 : r1 ≤ 4097 := by omega
  have hrw : IntKind.u32.wrap (r1 : Int) = (r1 : Int) := by rw [IntKind.wrap_u32']; omega
  have hrw2 : IntKind.i64.wrap (r1 : Int) = (r1 : Int) := by rw [IntKind.wrap_i64]; omega
  obtain ⟨xR, cR, hR, _⟩ := h.jn.own.form
  subst hR
  -- the parts' places
  obtain ⟨X, hX0, hXn, hX2, hXr⟩ : ∃ X : Nat → Option Addr, X 0 = x ∧ (∀ k, k < pcs l → X k = none → plen l k = 0 ∧ c - 51 * k = 0) ∧ (∀ k, k + 1 < pcs l → ∃ b o, X k = some ⟨b, o, none⟩ ∧ X (k + 1) = some ⟨b, o + 51, none⟩) ∧ ∀ v, RowAt v x l b → ∀ k, k < pcs l → RowAt v (X k) (plen l k) (fun i => b (51 * k + i)) := by
    by_cases h1 : pcs l = 1
    · refine ⟨fun _ => x, rfl, fun k hk e => by have := he.nil e; unfold plen; omega, fun k hk => by omega, fun v hv k hk => ?_⟩
      obtain rfl : k = 0 := by omega
      exact (hv.take (by unfold plen; omega)).congr fun i hi => by congr 1; omega
    · have hp := pcs_pos l
      have hlp : 0 < l := by
        rcases Nat.eq_zero_or_pos l with e | e
        · subst e; exact absurd rfl h1
        · exact e
      have hrow := he.row
      rcases hrow with e | ⟨bb, oo, e1, e2, e3⟩
      · omega
      · subst e1
        refine ⟨fun k => some ⟨bb, oo + 51 * k, none⟩, by simp, (fun k hk e => by cases e), fun k hk => ⟨bb, oo + 51 * k, rfl, by congr 2⟩, fun v hv k hk => ?_⟩
        have hle : 51 * k + plen l k ≤ l := by
          unfold plen
          have : 51 * k ≤ l := by unfold pcs at hk; split at hk <;> omega
          omega
        exact row_drop (m := 51 * k) (hv.take hle)
  have hpo := fun (v : World) => parts_of l c g r1 x v X hl he.le hX0 hX2 (by omega)
  have HXR := hid hXr
  have HXN := hid hXn
  have HR1 := hid hr1
  have HJ := hid h
  have HE := hid he
  have HX := hid hx
  have HP : Hid (pcs l ≤ 255 ∧ 0 < pcs l) := ⟨pcs_le hl, pcs_pos l⟩
  have HFn := hid (And.intro hf hmm)
  clear h he hx hXr hXn hX2 hr1 hX0 hf hmm
  generalize roomZ n u = Z at *
  go_enter Try.func22, Try.ntmps22
  go_wp2_with (first
    | (go_at_call 32; refine ho.mono ?_; rintro e w' ⟨rfl, hw⟩; subst w'; clear ho)
    | (go_at_call 21; refine hrm.mono ?_; rintro e w' ⟨rfl, k0, hk0⟩; clear hrm; have HK0 := hid hk0; clear hk0))
  have hj1 : JD B w0 w' F p n mm f A D jp g u (.slice xR m cR) m Aa ln C ft := by rw [HK0.out]; exact HJ.out.drewN k0
  have c1 := hj1.jn.c1
  have c2 := hj1.jn.c2
  have hpo1 := hpo w'.drew
  have hkeep : ∀ v, Below w'.heap.size w' v → v.cell? ⟨jp, 1, none⟩ = some (.int .i64 (g : Int)) ∧ v.cell? ⟨jp, 2, none⟩ = some (.slice xR m cR) := fun v hv => ⟨(hj1.jn.below hv).c1, (hj1.jn.below hv).c2⟩
  have HJ1 := hid hj1
  clear hj1 hpo
  refine wp_region_held_drew (S := fun v => v.cell? ⟨jp, 1, none⟩ = some (.int .i64 (g : Int)) ∧ v.cell? ⟨jp, 2, none⟩ = some (.slice xR m cR)) (by kernel_rfl) ⟨c1, c2⟩ (fun hHeld => ?_)
  refine wpAnyH_take (i := 0) (v := ?_) rfl (by kernel_rfl) (by kernel_rfl) (by kernel_rfl) (fun _ _ _ h => h) (Or.inl ⟨by rfl, ?_⟩) (by assumption) ?_
  case refine_2 => (intro w hSw; (try dsimp only at hSw); go_simp; (try with_reducible rfl))
  (try simp only [Act.put, List.getElem_toArray, List.getElem_cons_succ, List.getElem_cons_zero, List.setIfInBounds_toArray, List.set_cons_zero, List.set_cons_succ])
  refine wpAnyH_take (i := 1) (v := ?_) rfl (by kernel_rfl) (by kernel_rfl) (by kernel_rfl) (fun _ _ _ h => h) (Or.inl ⟨by rfl, ?_⟩) (by assumption) ?_
  case refine_2 => (intro w hSw; (try dsimp only at hSw); go_simp; (try with_reducible rfl))
  (try simp only [Act.put, List.getElem_toArray, List.getElem_cons_succ, List.getElem_cons_zero, List.setIfInBounds_toArray, List.set_cons_zero, List.set_cons_succ])
  refine wpAnyH_take (i := 2) (v := ?_) rfl (by kernel_rfl) (by kernel_rfl) (by kernel_rfl) (fun _ _ _ h => h) (Or.inl ⟨by rfl, ?_⟩) (by assumption) ?_
  case refine_2 => (intro w hSw; (try dsimp only at hSw); go_simp; (try with_reducible rfl))
  (try simp only [Act.put, List.getElem_toArray, List.getElem_cons_succ, List.getElem_cons_zero, List.setIfInBounds_toArray, List.set_cons_zero, List.set_cons_succ])
  refine wpAnyH_take (i := 3) (v := ?_) rfl (by kernel_rfl) (by kernel_rfl) (by kernel_rfl) (fun _ _ _ h => h) (Or.inl ⟨by rfl, ?_⟩) (by assumption) ?_
  case refine_2 => (intro w hSw; (try dsimp only at hSw); go_simp; (try with_reducible rfl))
  (try simp only [Act.put, List.getElem_toArray, List.getElem_cons_succ, List.getElem_cons_zero, List.setIfInBounds_toArray, List.set_cons_zero, List.set_cons_succ])
  refine wpAnyH_take (i := 4) (v := ?_) rfl (by kernel_rfl) (by kernel_rfl) (by kernel_rfl) (fun _ _ _ h => h) (Or.inl ⟨by rfl, ?_⟩) (by assumption) ?_
  case refine_2 => (intro w hSw; (try dsimp only at hSw); go_simp; (try with_reducible rfl))
  (try simp only [Act.put, List.getElem_toArray, List.getElem_cons_succ, List.getElem_cons_zero, List.setIfInBounds_toArray, List.set_cons_zero, List.set_cons_succ])
  refine wpAnyH_take (i := 5) (v := ?_) rfl (by kernel_rfl) (by kernel_rfl) (by kernel_rfl) (fun _ _ _ h => h) (Or.inl ⟨by rfl, ?_⟩) (by assumption) ?_
  case refine_2 => (intro w hSw; (try dsimp only at hSw); go_simp; (try with_reducible rfl))
  (try simp only [Act.put, List.getElem_toArray, List.getElem_cons_succ, List.getElem_cons_zero, List.setIfInBounds_toArray, List.set_cons_zero, List.set_cons_succ])
  refine wpAnyH_take (i := 6) (v := ?_) rfl (by kernel_rfl) (by kernel_rfl) (by kernel_rfl) (fun _ _ _ h => h) (Or.inl ⟨by rfl, ?_⟩) (by assumption) ?_
  case refine_2 => (intro w hSw; (try dsimp only at hSw); go_simp; (try with_reducible rfl))
  (try simp only [Act.put, List.getElem_toArray, List.getElem_cons_succ, List.getElem_cons_zero, List.setIfInBounds_toArray, List.set_cons_zero, List.set_cons_succ])
  refine wpAnyH_take (i := 7) (v := ?_) rfl (by kernel_rfl) (by kernel_rfl) (by kernel_rfl) (fun _ _ _ h => h) (Or.inl ⟨by rfl, ?_⟩) (by assumption) ?_
  case refine_2 => (intro w hSw; (try dsimp only at hSw); go_simp; (try with_reducible rfl))
  (try simp only [Act.put, List.getElem_toArray, List.getElem_cons_succ, List.getElem_cons_zero, List.setIfInBounds_toArray, List.set_cons_zero, List.set_cons_succ])
  refine wpAnyH_take (i := 8) (v := ?_) rfl (by kernel_rfl) (by kernel_rfl) (by kernel_rfl) (fun _ _ _ h => h) (Or.inl ⟨by rfl, ?_⟩) (by assumption) ?_
  case refine_2 => (intro w hSw; (try dsimp only at hSw); go_simp; (try with_reducible rfl))
  (try simp only [Act.put, List.getElem_toArray, List.getElem_cons_succ, List.getElem_cons_zero, List.setIfInBounds_toArray, List.set_cons_zero, List.set_cons_succ])
  refine wpAnyH_take (i := 9) (v := ?_) rfl (by kernel_rfl) (by kernel_rfl) (by kernel_rfl) (fun _ _ _ h => h) (Or.inl ⟨by rfl, ?_⟩) (by assumption) ?_
  case refine_2 => (intro w hSw; (try dsimp only at hSw); go_simp; (try with_reducible rfl))
  (try simp only [Act.put, List.getElem_toArray, List.getElem_cons_succ, List.getElem_cons_zero, List.setIfInBounds_toArray, List.set_cons_zero, List.set_cons_succ])
  refine wpAnyH_take (i := 10) (v := ?_) rfl (by kernel_rfl) (by kernel_rfl) (by kernel_rfl) (fun _ _ _ h => h) (Or.inl ⟨by rfl, ?_⟩) (by assumption) ?_
  case refine_2 => (intro w hSw; (try dsimp only at hSw); go_simp; (try with_reducible rfl))
  (try simp only [Act.put, List.getElem_toArray, List.getElem_cons_succ, List.getElem_cons_zero, List.setIfInBounds_toArray, List.set_cons_zero, List.set_cons_succ])
  refine wpAnyH_take (i := 11) (v := ?_) rfl (by kernel_rfl) (by kernel_rfl) (by kernel_rfl) (fun _ _ _ h => h) (Or.inl ⟨by rfl, ?_⟩) (by assumption) ?_
  case refine_2 => (intro w hSw; (try dsimp only at hSw); go_simp; (try with_reducible rfl))
  (try simp only [Act.put, List.getElem_toArray, List.getElem_cons_succ, List.getElem_cons_zero, List.setIfInBounds_toArray, List.set_cons_zero, List.set_cons_succ])
  refine wpAnyH_take (i := 14) (v := ?_) rfl (by kernel_rfl) (by kernel_rfl) (by kernel_rfl) (fun _ _ _ h => h) (Or.inl ⟨by rfl, ?_⟩) (by assumption) ?_
  case refine_2 => (intro w hSw; (try dsimp only at hSw); go_simp; (try with_reducible rfl))
  (try simp only [Act.put, List.getElem_toArray, List.getElem_cons_succ, List.getElem_cons_zero, List.setIfInBounds_toArray, List.set_cons_zero, List.set_cons_succ])
  refine wpAnyH_ready (rs := [12]) (by kernel_rfl) (by simp) ?_
  refine AllReadyH.cons rfl (fun K hK => ?_) AllReadyH.nil
  go_simp
  refine hpo1.mono ?_
  rintro e w2 ⟨y, cy, rfl, hpts⟩
  have HPT := hid hpts
  have hb2 : Below w'.heap.size w' w2 := ⟨hpts.bel.os, hpts.bel.tape, hpts.bel.output, hpts.bel.size, hpts.bel.block⟩
  have HB2 := hid hb2
  refine hK.out _ _ (hkeep w2 hb2) (fun hHeld => ?_)
  clear hK K
  refine wpAnyH_take (i := 13) (v := ?_) rfl (by kernel_rfl) (by kernel_rfl) (by kernel_rfl) (fun _ _ _ h => h) (Or.inl ⟨by rfl, ?_⟩) (by assumption) ?_
  case refine_2 => (intro w hSw; (try dsimp only at hSw); go_simp; (try with_reducible rfl))
  (try simp only [Act.put, List.getElem_toArray, List.getElem_cons_succ, List.getElem_cons_zero, List.setIfInBounds_toArray, List.set_cons_zero, List.set_cons_succ])
  refine wpAnyH_done (by kernel_rfl) ?_ _
  have HRow : Hid (∀ v, Turns (both F (.slice xR m cR) jp m Aa) w' v → RowAt v x l b) := fun v tv => by
    by_cases e0 : l = 0
    · exact .inl e0
    · have hr0 : RowAt w' x l b := by rw [HK0.out]; exact HE.out.row.drewN
      exact tv.row hr0 (HX.out e0)
  have HP0 : Hid (Pp B w0 w' w2 w2.heap.size F F p n mm f A A D D jp g u (.slice xR m cR) m Aa ln C ft (.slice y (pcs l) cy) l b X (fun k => c - 51 * k) 0) := by
    have j := HJ1.out.below HB2.out
    refine ⟨j.dsk, j.jn, ?_, fun q hq => ⟨HPT.out.ob q hq, (HPT.out.own.lt q hq).2⟩, fun q hq => .inl hq, Turns.of_below HB2.out, Nat.le_refl _, HB2.out.size, fun i hi => ⟨rfl, rfl⟩, fun i hi => by omega, HJ1.out.dis, HJ1.out.foot⟩
    have := HPT.out.own
    rw [HR1.out] at this
    exact this
  clear hpts hb2 hkeep hpo1 c1 c2 hHeld
  go_wp2_with fail
  go_loopw [35] (fun i wr => ∃ k : Nat, k ≤ pcs l ∧ i = .int .i64 k ∧ Hid (∃ F' A' D', Pp B w0 w' wr w2.heap.size F F' p n mm f A A' D D' jp g u (.slice xR m cR) m Aa ln C ft (.slice y (pcs l) cy) l b X (fun k => c - 51 * k) k)) (fun i _ => pcs l - (intOf i).toNat)
  case atStart => exact ⟨0, by omega, rfl, F, A, D, HP0.out⟩
  case round =>
    clear HP0
    obtain ⟨k, hk, rfl, HR⟩ := hrel
    obtain ⟨F', A', D', hpp⟩ := HR.out
    by_cases hlt : k < pcs l
    · have hlt' : (k : Int) < ((pcs l : Nat) : Int) := by omega
      obtain ⟨gp, cp, hRp, k0', k1', k2', k3', k4'⟩ := hpp.cells hlt
      injection hRp with e1 _ e2
      subst e1
      subst e2
      rw [← HR1.out] at k1'
      have hk9 : k < 255 := by have := HP.out; omega
      obtain ⟨uk, huk⟩ : ∃ uk, uk = u + k := ⟨_, rfl⟩
      have huk9 : uk < n := by have := HFn.out.1; omega
      obtain ⟨uk1, huk1e⟩ : ∃ uk1, uk1 = u + (k + 1) := ⟨_, rfl⟩
      have huk1 : (uk : Int) + 1 = (uk1 : Int) := by omega
      have HUK1 := hid huk1e
      clear huk1e
      have hS1 : ∀ v, Below wr.heap.size wr v → v.cell? ⟨jp, 0, none⟩ = some (.pointer (some ⟨p, 0, none⟩)) ∧ v.cell? ⟨jp, 3, none⟩ = some (.int .i64 (uk : Int)) := fun v hv => by rw [huk]; exact ⟨(hpp.jn.below hv).c0, (hpp.jn.below hv).c3⟩
      have hsec : ∀ v, Below wr.heap.size wr v → Calls Try.prog 41 #[.agg #[.int .i64 (g : Int), .int .u32 (r1 : Int), .int .i64 (k : Int), .bool (plast l k), .slice (X k) (plen l k) (c - 51 * k)]] v fun e w' => ∃ y, e = .returned (.slice (some ⟨y, 0, none⟩) 64 64) ∧ Below v.heap.size v w' ∧ RowAt w' (some ⟨y, 0, none⟩) 64 (mkS g r1 l b k) := fun v hv =>
        sector_yes g r1 k (plen l k) (c - 51 * k) (plast l k) (X k) l b v HE.out.lt hg (by omega) (by omega) rfl rfl (HXR.out v (HRow.out v (hpp.tr.more (Turns.of_below (F := fun _ => False) hv) (fun q hq => hq.elim))) k hlt) (HXN.out k hlt)
      have hwr : ∀ v y2, Below wr.heap.size wr v → RowAt v (some ⟨y2, 0, none⟩) 64 (mkS g r1 l b k) → Calls Try.prog 26 #[.pointer (some ⟨p, 0, none⟩), .int .i64 (uk : Int), .slice (some ⟨y2, 0, none⟩) 64 64] v fun e w' => e = .returned (.int .i64 0) ∧ Turns F' v w' ∧ Dsk B w0 w' (grow F' v w') p n (mm + k + 1) f (ext A' (mm + k) uk) (ext D' (mm + k) (mkS g r1 l b k)) := fun v y2 hv hr =>
        dwrite B p n (mm + k) uk 64 F' f A' (mkS g r1 l b k) D' _ (uk : Int) rfl w0 v (hpp.dsk.below hv) huk9 hr (fun i => mk_lt HE.out.lt i) (by have := HFn.out.2; have := HP.out; omega)
      have hflt := hpp.dsk.pd.flt
      have hdj : ¬ F' jp := fun e => hpp.dis' jp e (.inl rfl)
      have hjlt := hpp.jn.obj.lt
      have HPP := hid hpp
      have HUK := hid huk
      clear HR hpp huk
      generalize plast l k = Lk at *
      generalize plen l k = Mk at *
      generalize X k = Xk at *
      generalize c - 51 * k = Ck at *
      go_wp2_with fail
      have hbo : Below wr.heap.size wr (wr.alloc (.cells #[.int .i64 (g : Int), .int .u32 (r1 : Int), .int .i64 (k : Int), .bool Lk, .slice Xk Mk Ck] 79)) := (Below.refl _ _).alloc (Nat.le_refl _) _
      have hbd : Below wr.heap.size wr (wr.alloc (.cells #[.int .i64 (g : Int), .int .u32 (r1 : Int), .int .i64 (k : Int), .bool Lk, .slice Xk Mk Ck] 79)).drew := hbo.drew
      have hfv := (Five.new wr (.int .i64 (g : Int)) (.int .u32 (r1 : Int)) (.int .i64 (k : Int)) (.bool Lk) (.slice Xk Mk Ck) 79)
      have hsz : (wr.alloc (.cells #[.int .i64 (g : Int), .int .u32 (r1 : Int), .int .i64 (k : Int), .bool Lk, .slice Xk Mk Ck] 79)).heap.size = wr.heap.size + 1 := by simp
      have hsec1 := hsec _ hbd
      have hS0 := hS1 _ hbd
      have hfd := hfv.drew
      have HBD := hid hbd
      have HFV := hid hfv
      have HSZ := hid hsz
      clear hsec hbo hbd hfv hsz
      generalize wr.alloc (.cells #[.int .i64 (g : Int), .int .u32 (r1 : Int), .int .i64 (k : Int), .bool Lk, .slice Xk Mk Ck] 79) = va at *
      refine wp_region_held_drew (S := fun v => (v.cell? ⟨jp, 0, none⟩ = some (.pointer (some ⟨p, 0, none⟩)) ∧ v.cell? ⟨jp, 3, none⟩ = some (.int .i64 (uk : Int))) ∧ v.cell? ⟨wr.heap.size, 0, none⟩ = some (.int .i64 (g : Int)) ∧ v.cell? ⟨wr.heap.size, 1, none⟩ = some (.int .u32 (r1 : Int)) ∧ v.cell? ⟨wr.heap.size, 2, none⟩ = some (.int .i64 (k : Int)) ∧ v.cell? ⟨wr.heap.size, 3, none⟩ = some (.bool Lk) ∧ v.cell? ⟨wr.heap.size, 4, none⟩ = some (.slice Xk Mk Ck)) (by kernel_rfl) ⟨hS0, hfd.c0, hfd.c1, hfd.c2, hfd.c3, hfd.c4⟩ (fun hHeld => ?_)
      refine wpAnyH_take (i := 0) (v := ?_) rfl (by kernel_rfl) (by kernel_rfl) (by kernel_rfl) (fun _ _ _ h => h) (Or.inl ⟨by rfl, ?_⟩) (by assumption) ?_
      case refine_2 => (intro w hSw; (try dsimp only at hSw); go_simp; (try with_reducible rfl))
      (try simp only [Act.put, List.getElem_toArray, List.getElem_cons_succ, List.getElem_cons_zero, List.setIfInBounds_toArray, List.set_cons_zero, List.set_cons_succ])
      refine wpAnyH_take (i := 1) (v := ?_) rfl (by kernel_rfl) (by kernel_rfl) (by kernel_rfl) (fun _ _ _ h => h) (Or.inl ⟨by rfl, ?_⟩) (by assumption) ?_
      case refine_2 => (intro w hSw; (try dsimp only at hSw); go_simp; (try with_reducible rfl))
      (try simp only [Act.put, List.getElem_toArray, List.getElem_cons_succ, List.getElem_cons_zero, List.setIfInBounds_toArray, List.set_cons_zero, List.set_cons_succ])
      refine wpAnyH_take (i := 2) (v := ?_) rfl (by kernel_rfl) (by kernel_rfl) (by kernel_rfl) (fun _ _ _ h => h) (Or.inl ⟨by rfl, ?_⟩) (by assumption) ?_
      case refine_2 => (intro w hSw; (try dsimp only at hSw); go_simp; (try with_reducible rfl))
      (try simp only [Act.put, List.getElem_toArray, List.getElem_cons_succ, List.getElem_cons_zero, List.setIfInBounds_toArray, List.set_cons_zero, List.set_cons_succ])
      refine wpAnyH_take (i := 3) (v := ?_) rfl (by kernel_rfl) (by kernel_rfl) (by kernel_rfl) (fun _ _ _ h => h) (Or.inl ⟨by rfl, ?_⟩) (by assumption) ?_
      case refine_2 => (intro w hSw; (try dsimp only at hSw); go_simp; (try with_reducible rfl))
      (try simp only [Act.put, List.getElem_toArray, List.getElem_cons_succ, List.getElem_cons_zero, List.setIfInBounds_toArray, List.set_cons_zero, List.set_cons_succ])
      refine wpAnyH_take (i := 4) (v := ?_) rfl (by kernel_rfl) (by kernel_rfl) (by kernel_rfl) (fun _ _ _ h => h) (Or.inl ⟨by rfl, ?_⟩) (by assumption) ?_
      case refine_2 => (intro w hSw; (try dsimp only at hSw); go_simp; (try with_reducible rfl))
      (try simp only [Act.put, List.getElem_toArray, List.getElem_cons_succ, List.getElem_cons_zero, List.setIfInBounds_toArray, List.set_cons_zero, List.set_cons_succ])
      refine wpAnyH_take (i := 5) (v := ?_) rfl (by kernel_rfl) (by kernel_rfl) (by kernel_rfl) (fun _ _ _ h => h) (Or.inl ⟨by rfl, ?_⟩) (by assumption) ?_
      case refine_2 => (intro w hSw; (try dsimp only at hSw); go_simp; (try with_reducible rfl))
      (try simp only [Act.put, List.getElem_toArray, List.getElem_cons_succ, List.getElem_cons_zero, List.setIfInBounds_toArray, List.set_cons_zero, List.set_cons_succ])
      refine wpAnyH_take (i := 6) (v := ?_) rfl (by kernel_rfl) (by kernel_rfl) (by kernel_rfl) (fun _ _ _ h => h) (Or.inl ⟨by rfl, ?_⟩) (by assumption) ?_
      case refine_2 => (intro w hSw; (try dsimp only at hSw); go_simp; (try with_reducible rfl))
      (try simp only [Act.put, List.getElem_toArray, List.getElem_cons_succ, List.getElem_cons_zero, List.setIfInBounds_toArray, List.set_cons_zero, List.set_cons_succ])
      refine wpAnyH_take (i := 7) (v := ?_) rfl (by kernel_rfl) (by kernel_rfl) (by kernel_rfl) (fun _ _ _ h => h) (Or.inl ⟨by rfl, ?_⟩) (by assumption) ?_
      case refine_2 => (intro w hSw; (try dsimp only at hSw); go_simp; (try with_reducible rfl))
      (try simp only [Act.put, List.getElem_toArray, List.getElem_cons_succ, List.getElem_cons_zero, List.setIfInBounds_toArray, List.set_cons_zero, List.set_cons_succ])
      refine wpAnyH_take (i := 8) (v := ?_) rfl (by kernel_rfl) (by kernel_rfl) (by kernel_rfl) (fun _ _ _ h => h) (Or.inl ⟨by rfl, ?_⟩) (by assumption) ?_
      case refine_2 => (intro w hSw; (try dsimp only at hSw); go_simp; (try with_reducible rfl))
      (try simp only [Act.put, List.getElem_toArray, List.getElem_cons_succ, List.getElem_cons_zero, List.setIfInBounds_toArray, List.set_cons_zero, List.set_cons_succ])
      refine wpAnyH_ready (rs := [9]) (by kernel_rfl) (by simp) ?_
      refine AllReadyH.cons rfl (fun K hK => ?_) AllReadyH.nil
      go_simp
      refine hsec1.mono ?_
      rintro e w3 ⟨y2, rfl, hb3, hr3⟩
      have hb3w : Below wr.heap.size wr w3 := HBD.out.trans (hb3.mono HBD.out.size)
      have hf3 := hfd.below hb3 (by have := HSZ.out; show wr.heap.size < va.heap.size; omega)
      have hw3 := hwr w3 y2 hb3w hr3
      have HB3 := hid hb3w
      have HS3 := hid (hS1 w3 hb3w)
      have HF3 := hid hf3
      have HL3 : Hid (wr.heap.size < w3.heap.size) := show wr.heap.size < w3.heap.size by have := HSZ.out; have := hb3.size; show wr.heap.size < w3.heap.size; have e : va.drew.heap.size = va.heap.size := rfl; omega
      refine hK.out _ _ ⟨HS3.out, HF3.out.c0, HF3.out.c1, HF3.out.c2, HF3.out.c3, HF3.out.c4⟩ (fun hHeld => ?_)
      clear hK K
      refine wpAnyH_ready (rs := [10]) (by kernel_rfl) (by simp) ?_
      refine AllReadyH.cons rfl (fun K hK => ?_) AllReadyH.nil
      go_simp
      clear hHeld
      refine hw3.mono ?_
      rintro e w4 ⟨rfl, t4, d4⟩
      have hn4 : ¬ F' wr.heap.size := fun e => by have := hflt _ e; omega
      have hc4 : ∀ j, w4.cell? ⟨wr.heap.size, j, none⟩ = w3.cell? ⟨wr.heap.size, j, none⟩ := fun j => World.cell?_of_block (a := ⟨wr.heap.size, j, none⟩) (t4.block _ HL3.out hn4)
      have j4 := ((HPP.out.jn.below HB3.out).turns t4 (fun q hq hF => HPP.out.dis' q hF hq))
      have u3 : w4.cell? ⟨jp, 3, none⟩ = some (.int .i64 (uk : Int)) := by rw [HUK.out]; exact j4.c3
      have uf := j4.obj.frozen 3
      have u0 := j4.c0
      refine hK.out _ _ ⟨⟨u0, u3⟩, (hc4 0).trans HF3.out.c0, (hc4 1).trans HF3.out.c1, (hc4 2).trans HF3.out.c2, (hc4 3).trans HF3.out.c3, (hc4 4).trans HF3.out.c4⟩ (fun hHeld => ?_)
      clear hK K
      refine wpAnyH_done (by kernel_rfl) ?_ _
      have HN : Hid (∃ F' A' D', Pp B w0 w' (w4.setCell ⟨jp, 3, none⟩ (.int .i64 (uk1 : Int))) w2.heap.size F F' p n mm f A A' D D' jp g u (.slice xR m cR) m Aa ln C ft (.slice (some ⟨gp, 0, none⟩) (pcs l) cy) l b X (fun k => c - 51 * k) (k + 1)) := by
        rw [HUK.out, HR1.out] at d4
        rw [HUK1.out]
        exact ⟨_, _, _, HPP.out.next HB3.out t4 d4⟩
      clear t4 d4 j4 hc4 hn4 hHeld hb3 hr3 hb3w hf3 hw3 hwr hS1 hS0 hfd hsec1
      go_wp2_with fail
      exact ⟨⟨k + 1, hlt, by go_num, HN.out⟩, show pcs l - ((k : Int) + 1).toNat < pcs l - ((k : Int)).toNat by omega⟩
    · obtain rfl : k = pcs l := by omega
      have HPP := hid hpp
      obtain ⟨w5, hw5⟩ : ∃ w5, w5 = wr := ⟨_, rfl⟩
      subst hw5
      have hrow : RowAt w5.drew x l b := HRow.out _ hpp.tr.drew
      have hcl := clone_full x l c b w5.drew hrow (by omega) HE.out.nil
      have hc2 := hpp.jn.c2
      have hdone := fun (v1 : World) (y' : Option Addr) (cy' : Nat) (b1 : Below w5.heap.size w5 v1) (e : Elt v1 y' l cy' b) (hy : ∀ ad, y' = some ad → w5.heap.size ≤ ad.block) => hpp.done b1 e hy hm
      have HKV : Hid (∀ v, Below w5.heap.size w5 v → v.cell? ⟨jp, 2, none⟩ = some (.slice xR m cR)) := fun v hv => (HPP.out.jn.below hv).c2
      clear HR hpp hrow
      go_wp2_with fail
      refine wp_region_last (fun v => v.cell? ⟨jp, 2, none⟩ = some (.slice xR m cR)) 11 (by kernel_rfl) hc2 (fun hS => ?_)
      refine wpAnyL_take (i := 0) (v := ?_) rfl (by kernel_rfl) (by kernel_rfl) (by kernel_rfl) (by kernel_rfl) (fun _ _ _ h => h) hS (Or.inl ⟨by rfl, ?_⟩) ?_
      case refine_2 => (intro w hSw; (try dsimp only at hSw); go_simp; (try with_reducible rfl))
      (try simp only [Act.put, List.setIfInBounds_toArray, List.set_cons_zero, List.set_cons_succ])
      refine wpAnyL_take (i := 1) (v := ?_) rfl (by kernel_rfl) (by kernel_rfl) (by kernel_rfl) (by kernel_rfl) (fun _ _ _ h => h) hS (Or.inl ⟨by rfl, ?_⟩) ?_
      case refine_2 => (intro w hSw; (try dsimp only at hSw); go_simp; (try with_reducible rfl))
      (try simp only [Act.put, List.setIfInBounds_toArray, List.set_cons_zero, List.set_cons_succ])
      refine wpAnyL_take (i := 2) (v := ?_) rfl (by kernel_rfl) (by kernel_rfl) (by kernel_rfl) (by kernel_rfl) (fun _ _ _ h => h) hS (Or.inl ⟨by rfl, ?_⟩) ?_
      case refine_2 => (intro w hSw; (try dsimp only at hSw); go_simp; (try with_reducible rfl))
      (try simp only [Act.put, List.setIfInBounds_toArray, List.set_cons_zero, List.set_cons_succ])
      refine wpAnyL_take (i := 3) (v := ?_) rfl (by kernel_rfl) (by kernel_rfl) (by kernel_rfl) (by kernel_rfl) (fun _ _ _ h => h) hS (Or.inl ⟨by rfl, ?_⟩) ?_
      case refine_2 => (intro w hSw; (try dsimp only at hSw); go_simp; (try with_reducible rfl))
      (try simp only [Act.put, List.setIfInBounds_toArray, List.set_cons_zero, List.set_cons_succ])
      refine wpAnyL_take (i := 4) (v := ?_) rfl (by kernel_rfl) (by kernel_rfl) (by kernel_rfl) (by kernel_rfl) (fun _ _ _ h => h) hS (Or.inl ⟨by rfl, ?_⟩) ?_
      case refine_2 => (intro w hSw; (try dsimp only at hSw); go_simp; (try with_reducible rfl))
      (try simp only [Act.put, List.setIfInBounds_toArray, List.set_cons_zero, List.set_cons_succ])
      refine wpAnyL_take (i := 5) (v := ?_) rfl (by kernel_rfl) (by kernel_rfl) (by kernel_rfl) (by kernel_rfl) (fun _ _ _ h => h) hS (Or.inl ⟨by rfl, ?_⟩) ?_
      case refine_2 => (intro w hSw; (try dsimp only at hSw); go_simp; (try with_reducible rfl))
      (try simp only [Act.put, List.setIfInBounds_toArray, List.set_cons_zero, List.set_cons_succ])
      refine wpAnyL_one (i := 6) (by kernel_rfl) rfl (fun K hK => ?_)
      go_simp
      refine hcl.mono ?_
      rintro e w6 ⟨y6, c6, rfl, hb6, hr6, hle6, hn6, ha6⟩
      have hb6' : Below w5.heap.size w5 w6 := ⟨hb6.os, hb6.tape, hb6.output, hb6.size, hb6.block⟩
      obtain ⟨x7, c7, w7, hap, hcc, h72, hf7, HD⟩ := hdone w6 y6 c6 hb6' ⟨hr6, hn6, hle6, by omega, HE.out.lt, fun ad e => (ha6 ad e).2⟩ (fun ad e => (ha6 ad e).1)
      obtain ⟨m1, hm1⟩ : ∃ m1, m1 = m + 1 := ⟨_, rfl⟩
      rw [← hm1] at hap HD
      have HM1 := hid hm1
      clear hm1
      have h62 := HKV.out w6 hb6'
      have h6a := hcc (.cells #[.slice y6 l c6] 31)
      clear hcc hdone
      refine hK.out _ _ (fun _ => h62) ?_
      clear hK K
      refine wpAnyL_one (i := 7) (by kernel_rfl) rfl (fun K hK => ?_)
      go_simp
      refine hK.out _ _ (fun _ => h6a) ?_
      clear hK K
      refine wpAnyL_one (i := 8) (by kernel_rfl) rfl (fun K hK => ?_)
      refine ready_append rfl _ _ 38 rfl _ _ rfl rfl hap ?_
      (try simp only [Act.put, List.getElem_toArray, List.getElem_cons_succ, List.getElem_cons_zero, List.setIfInBounds_toArray, List.set_cons_zero, List.set_cons_succ])
      refine hK.out _ _ (fun _ => h72) ?_
      clear hK K
      refine wpAnyL_one (i := 9) (by kernel_rfl) rfl (fun K hK => ?_)
      go_simp
      refine hK.out _ _ (fun _ => h72) ?_
      clear hK K
      refine wpAnyL_one (i := 10) (by kernel_rfl) rfl (fun K hK => ?_)
      go_simp
      refine hK.out _ _ (fun _ => h72) ?_
      clear hK K
      refine wpAnyL_one (i := 11) (by kernel_rfl) rfl (fun K hK => ?_)
      go_simp
      refine hK.out _ _ (fun h => absurd rfl h) ?_
      clear hK K
      refine wpAnyL_done (by kernel_rfl) ?_ _
      go_wp2_with fail
      go_ret
      obtain ⟨z1, z2, z3⟩ := HD.out
      rw [HM1.out] at z1 z2 z3
      rw [HM1.out]
      refine ⟨rfl, F', A', D', _, y6, c6, z1, ?_, fun q hq hb => ?_, HPP.out.old, HPP.out.new⟩
      · rw [HK0.out] at z2
        exact z2.of_drewN
      · exact z3 q (by rw [HK0.out]; exact hq) hb

end

end Go.Proofs.Ythfpljfndnjcnaa

/-
  What the document's Encode and Check do: contracts over plain numbers.
  Conditions: the lists lie in memory, and take at most what any slice takes.
-/
import Derived.Test.YtmlaloadeeohbaaByHk
import Derived.Test.YtmlaloadeeohbaaCdComb
namespace Go.Proofs.Ytmlaloadeeohbaa
open Go.RowKit Gf
set_option linter.unusedVariables false
set_option linter.unusedSimpArgs false
set_option maxRecDepth 100000

/- One row more of a matrix: it has been built in new memory. -/
theorem grow_push_row {base : Nat} {w wr w1 : World} {V : Value} {g : Nat} {k m : Nat} {G C : Nat → Nat} {f : Nat → Nat → Nat} (h : Grow base w wr V k m G C f) (hb : Below wr.heap.size wr w1) (hk : k ≤ 1000) (hg1 : wr.heap.size ≤ g)
    (hrow : w1.rowIs g 5 m (fun j => .int .u8 (f k j : Int))) :
    ∃ V' w2, (Builtin.append_ #[28, 28] 28 #[V, .slice (some ⟨w1.heap.size, 0, none⟩) 1 1]).run Try.prog (w1.alloc (.cells #[.slice (some ⟨g, 0, none⟩) m m] 22)) = .ok V' w2 ∧
      ∃ G' C', Grow base w w2 V' (k + 1) m G' C' f := by
  obtain ⟨i0, hi, hz0, hz1, hz2⟩ := info_parts info_row
  obtain ⟨c, hcm⟩ : ∃ c, c = m := ⟨_, rfl⟩
  obtain ⟨gcur, hgcur⟩ : ∃ cur, w1.heap[g]? = some (.cells cur 5 (0, 0)) := by obtain ⟨cur, h1, _⟩ := hrow; exact ⟨cur, h1⟩
  have hg2 : g < w1.heap.size := (Array.getElem?_eq_some_iff.1 hgcur).1
  have hc : m ≤ c := by omega
  have hcc : (Value.slice (some ⟨g, 0, none⟩) m m) = .slice (some ⟨g, 0, none⟩) m c := by rw [hcm]
  rw [hcc]
  have hle : base ≤ wr.heap.size := Nat.le_trans h.le h.below.size
  have hown1 : w1.ownsRow base 22 1 V k (topsOf G C m k) := h.own.kept (row := none) ⟨hb.os, hb.tape, hb.output, hb.size, fun i hi _ => hb.block i hi⟩ (by
    cases hv : V.ownBlock with
    | none => exact .inl rfl
    | some x => exact .inr (by simp))
  obtain ⟨V', w2, hr, h2, h3, h4⟩ := run_append_own (P := Try.prog) (w1.alloc (.cells #[.slice (some ⟨g, 0, none⟩) m c] 22)) base 28 28 22 i0 (.slice none 0 0) 1 24 Try.underlying28 hi hz0 hz1 hz2 rfl (by decide) V k (topsOf G C m k) (hown1.alloc _)
    ⟨w1.heap.size, 0, none⟩ 1 1 [.slice (some ⟨g, 0, none⟩) m c] rfl (one_at w1 _ _) (by simp [Value.oneCell']) (by unfold maxLen; omega) (by omega) (by simp; have := hb.size; omega)
  refine ⟨V', w2, hr, fun r => if r = k then g else G r, fun r => if r = k then c else C r, ?_⟩
  have hsz2 : w1.heap.size + 1 ≤ w2.heap.size := by have := h3.size; simpa using this
  have hVlt : ∀ x, V.ownBlock = some x → base ≤ x ∧ x < wr.heap.size := h.own.lt
  have hkeep : ∀ x, x < w1.heap.size → some x ≠ V.ownBlock → w2.heap[x]? = w1.heap[x]? := fun x hx hne => by
    rw [h3.block x (by simp; omega) hne]
    exact Below.heap_alloc _ _ _ hx
  have hgne : some g ≠ V.ownBlock := fun e => by have := (hVlt g e.symm).2; omega
  have hV' : ∀ x, x < w1.heap.size → some x ≠ V.ownBlock → (∃ cur, w1.heap[x]? = some (.cells cur 5 (0, 0))) → some x ≠ V'.ownBlock := by
    intro x hx hne ⟨cur, hcur⟩ e
    rcases h2.2 with ⟨hn, _⟩ | ⟨g', c', cur', hn, _, hh, _⟩
    · rw [hn] at e; cases e
    · rw [hn] at e
      have e' : x = g' := by simpa [Value.ownBlock] using e
      subst e'
      rw [hkeep x hx hne, hcur] at hh
      injection hh with hh
      injection hh with _ hh _
      exact absurd hh (by decide)
  have hty : ∀ r, r < k → ∃ cur, w1.heap[G r]? = some (.cells cur 5 (0, 0)) := fun r hr => by
    obtain ⟨cur, hc⟩ := h.ty r hr
    exact ⟨cur, (hb.block (G r) (h.hG r hr).2.1).trans hc⟩
  refine ⟨?_, h.le, ?_, fun r hr => ?_, fun r s hr hs => ?_, fun r hr j => ?_, fun r hr j hj => ?_, h.lt, fun r hr => ?_, fun r hr => ?_⟩
  · exact (h.below.trans (hb.mono hle)).trans (((Below.refl base w1).alloc (by have := hb.size; omega) _).grown h3 (by simp; have := hb.size; omega) (fun x hx => (hVlt x hx).1))
  · rw [show topsOf (fun r => if r = k then g else G r) (fun r => if r = k then c else C r) m (k + 1) = topsOf G C m k ++ [.slice (some ⟨g, 0, none⟩) m c] by
      simp only [topsOf, List.range_succ, List.map_append, List.map_cons, List.map_nil, if_true]
      congr 1
      refine List.map_congr_left fun r hr => ?_
      have : r ≠ k := by have := List.mem_range.1 hr; omega
      simp [this]]
    exact h2
  · by_cases e : r = k
    · subst e; simp only [if_true]
      exact ⟨by omega, by omega, hV' g hg2 hgne ⟨gcur, hgcur⟩⟩
    · have := h.hG r (by omega)
      simp only [e, if_false]
      exact ⟨this.1, by have := hb.size; omega, hV' _ (by have := hb.size; omega) this.2.2 (hty r (by omega))⟩
  · by_cases e : r = k
    · by_cases e2 : s = k
      · intro _; omega
      · simp only [e, e2, if_true, if_false]; intro h'; have := (h.hG s (by omega)).2.1; omega
    · by_cases e2 : s = k
      · simp only [e, e2, if_true, if_false]; intro h'; have := (h.hG r (by omega)).2.1; omega
      · simp only [e, e2, if_false]; exact h.inj r s (by omega) (by omega)
  · by_cases e : r = k
    · subst e; simp only [if_true]
      exact (World.frozen?_of_block (w := w1) (hkeep g hg2 hgne)).trans (hrow.frozen j)
    · have hh := h.hG r (by omega)
      simp only [e, if_false]
      exact (World.frozen?_of_block (w := w1) (hkeep (G r) (by have := hb.size; omega) hh.2.2)).trans ((hb.frozen (by exact hh.2.1)).trans (h.fG r (by omega) j))
  · by_cases e : r = k
    · subst e; simp only [if_true]
      refine (World.cell?_of_block (w := w1) (hkeep g hg2 hgne)).trans ?_
      exact hrow.cell hj
    · have hh := h.hG r (by omega)
      simp only [e, if_false]
      exact (World.cell?_of_block (w := w1) (hkeep (G r) (by have := hb.size; omega) hh.2.2)).trans ((hb.cell (by exact hh.2.1)).trans (h.cell r (by omega) j hj))
  · by_cases e : r = k
    · subst e; simpa using hc
    · simp only [e, if_false]; exact h.cap r (by omega)
  · by_cases e : r = k
    · subst e; simp only [if_true]
      exact ⟨gcur, (hkeep g hg2 hgne).trans hgcur⟩
    · obtain ⟨cur, hcur⟩ := hty r (by omega)
      have hh := h.hG r (by omega)
      simp only [e, if_false]
      exact ⟨cur, (hkeep (G r) (by have := hb.size; omega) hh.2.2).trans hcur⟩

theorem rencode_code (a b : Int) (x : Option Addr) (n c : Nat) (w : World) (h : ¬ CauchyN a b) : Calls Try.prog 24 #[.int .i64 a, .int .i64 b, .slice x n c] w fun e w' => e = .returned (.tuple #[.slice none 0 0, .int .i64 1]) ∧ ∃ m, w' = w.drewN m := by
  have hc := rcode_no a b w h
  clear h
  go_enter Try.func24, Try.ntmps24
  go_wp2_with (go_at_call 16; refine hc.mono ?_; rintro e w' ⟨rfl, rfl⟩)
  go_ret2
  exact ⟨rfl, 0, rfl⟩

theorem rencode_even (a b : Int) (x : Option Addr) (n c : Nat) (A : Nat → Option Addr) (L C : Nat → Nat) (w : World) (hn : n ≤ 140737488351232) (ht : Tops w x n A L C) (h : CauchyN a b) (hx : ¬ ((n : Int) = a ∧ EqN n L)) :
    Calls Try.prog 24 #[.int .i64 a, .int .i64 b, .slice x n c] w fun e w' => e = .returned (.tuple #[.slice none 0 0, .int .i64 1]) ∧ ∃ m, w' = w.drewN m := by
  have hc := rcode_yes a b w h
  have he := even_any x n c a false A L C w hn ht (fun h1 h2 => absurd ⟨h1, h2⟩ hx) (fun _ => rfl)
  clear h hx ht
  go_enter Try.func24, Try.ntmps24
  go_wp2_with (first | (go_at_call 16; refine hc.mono ?_; rintro e w' ⟨rfl, rfl⟩) | (go_at_call 38; refine he.mono ?_; rintro e x0 ⟨rfl, q0, rfl⟩; clear he))
  go_ret2
  exact ⟨rfl, q0, rfl⟩

theorem rencode_no (a b : Int) (x : Option Addr) (n c : Nat) (A : Nat → Option Addr) (L C : Nat → Nat) (w : World) (hn : n ≤ 140737488351232) (ht : Tops w x n A L C) (hx : ¬ (CauchyN a b ∧ (n : Int) = a ∧ EqN n L)) :
    Calls Try.prog 24 #[.int .i64 a, .int .i64 b, .slice x n c] w fun e w' => e = .returned (.tuple #[.slice none 0 0, .int .i64 1]) ∧ ∃ m, w' = w.drewN m := by
  by_cases h : CauchyN a b
  · exact rencode_even a b x n c A L C w hn ht h (fun q => hx ⟨h, q⟩)
  · exact rencode_code a b x n c w h

/- A row of bytes that is reckoned, cell by cell, in new memory. -/
structure SRow (w2 wr : World) (g n : Nat) (F : Nat → Nat) : Prop where
  touch : Touch g w2 wr
  row : wr.rowIs g 5 n (fun j => .int .u8 (F j : Int))

def sTo (E : Nat → Nat) (cur : Nat) (a : Nat) : Nat → Nat := fun j => if j < a then E j else if j = a then cur else 0

theorem srow_set {w2 wr : World} {g n : Nat} {F : Nat → Nat} (h : SRow w2 wr g n F) (a v : Nat) : SRow w2 ((wr.drew).setCell ⟨g, a, none⟩ (.int .u8 (v : Int))) g n (fun j => if j = a then v else F j) := by
  refine ⟨h.touch.drew.setCell (p := ⟨g, a, none⟩) rfl _, ?_⟩
  have h1 : wr.drew.rowIs g 5 n (fun j => .int .u8 (F j : Int)) := h.row
  refine (h1.set a (.int .u8 (v : Int))).congr (fun j _ => ?_)
  by_cases e : j = a <;> simp [e]

theorem SRow.congr {w2 wr : World} {g n : Nat} {F F' : Nat → Nat} (h : SRow w2 wr g n F) (e : ∀ j, j < n → F j = F' j) : SRow w2 wr g n F' :=
  ⟨h.touch, h.row.congr (fun j hj => by rw [e j hj])⟩

set_option maxHeartbeats 8000000 in
set_option maxRecDepth 100000 in
theorem rencode_yes (k m n db dd c : Nat) (A : Nat → Option Addr) (C : Nat → Nat) (X : Nat → Nat → Nat) (w : World) (h1 : 1 ≤ k) (h2 : 1 ≤ m) (h3 : k + m ≤ 255) (hn : n ≤ 140737488351232) (h : IsGrid w (some ⟨db, dd, none⟩) k A (fun _ => n) C X) :
    Calls Try.prog 24 #[.int .i64 k, .int .i64 m, .slice (some ⟨db, dd, none⟩) k c] w fun e w' => Below w.heap.size w w' ∧
      ∃ B c2 G1 C1, e = .returned (.tuple #[.slice (some ⟨B, 0, none⟩) (k + m) c2, .int .i64 0]) ∧ Own w.heap.size w' B (k + m) n G1 C1 (encF k m X) := by
  obtain ⟨s, hs⟩ : ∃ s, s = k + m := ⟨_, rfl⟩
  have hcode := rcode_yes (k : Int) (m : Int) w ⟨by omega, by omega, by omega⟩
  have heven := even_any (some ⟨db, dd, none⟩) k c (k : Int) true A (fun _ => n) C w (by omega) h.1 (fun _ _ => rfl) (fun q => absurd ⟨rfl, fun _ _ => rfl⟩ q)
  have hcau : ∀ v, Calls Try.prog 39 #[.int .i64 k, .int .i64 m] v fun e w' => Below v.heap.size v w' ∧
    ∃ B c G1 C1, e = .returned (.tuple #[.slice (some ⟨B, 0, none⟩) (k + m) c, .int .i64 0]) ∧ Own v.heap.size w' B (k + m) k G1 C1 (cauchyF k m) := fun v => rcauchy_yes k m v h1 h2 h3
  have hsi : (k : Int) + (m : Int) = (s : Int) := by omega
  have hs5 : s ≤ 255 := by omega
  simp only [← hs] at hcau
  rw [← hs]
  have HX : Hid (∀ r j, X r j < 256) := h.2.2
  have HD : Hid (IsGrid w (some ⟨db, dd, none⟩) k A (fun _ => n) C X) := h
  have HS : Hid (s = k + m) := hs
  clear h hs
  go_enter Try.func24, Try.ntmps24
  go_wp2_with (first
    | (go_at_call 16; refine hcode.mono ?_; rintro e w' ⟨rfl, rfl⟩; clear hcode)
    | (go_at_call 38; refine heven.mono ?_; rintro e x0 ⟨rfl, q0, rfl⟩; clear heven)
    | (go_at_call 39; refine (hcau _).mono ?_; rintro e x1 ⟨hb1, Ba, ca, Ga, Ca, rfl, hoa⟩; clear hcau))
  obtain ⟨W0, hW0⟩ : ∃ W0, W0 = w' := ⟨_, rfl⟩
  have HB1 : Hid (Below w'.heap.size w' x1) := ⟨hb1.os, hb1.tape, hb1.output, hb1.size, hb1.block⟩
  have HO : Hid (Own w'.heap.size x1 Ba s k Ga Ca (cauchyF k m)) := hoa
  have HD1 : Hid (IsGrid x1 (some ⟨db, dd, none⟩) k A (fun _ => n) C X) := HD.out.below HB1.out
  have HE : Hid (∀ r j, encF k m X r j < 256) := encF_lt HX.out
  have HA : Hid (∃ G1 C1, Grow x1.heap.size x1 (x1.alloc (.cells #[] 22)) (.slice (some ⟨x1.heap.size, 0, none⟩) 0 0) 0 n G1 C1 (encF k m X)) := ⟨fun _ => 0, fun _ => 0, grow_start x1 n _ _ _ HE.out⟩
  clear hb1 hoa HD hW0 W0
  go_loopw [10, 11] (fun V i wr => ∃ q : Nat, q ≤ s ∧ i = .int .i64 q ∧ Hid (∃ G1 C1, Grow x1.heap.size x1 wr V q n G1 C1 (encF k m X))) (fun _ i _ => s - (intOf i).toNat)
  case atStart => exact ⟨0, by omega, rfl, HA⟩
  case round =>
    clear HA
    obtain ⟨q, hq, rfl, HW⟩ := hrel
    obtain ⟨wo, hwo⟩ : ∃ wo, wo = wr := ⟨_, rfl⟩
    subst hwo
    obtain ⟨G1, C1, hG⟩ := HW.out
    by_cases hlt : q < s
    · have hqs : (q : Int) < (s : Int) := by omega
      have hk0 : (0 : Int) < (k : Int) := by omega
      have t2 : wo.cell? ⟨db, dd, none⟩ = some (.slice (A 0) n (C 0)) := grid_tops (HD1.out.below hG.below) (r := 0) (by omega)
      have hmk := run_make_row' (P := Try.prog) 22 5 (.int .u8 0) 1 Try.underlying22 info_byte rfl .i64 .i64 n (by omega) (by omega)
      have HA : Hid (SRow (wo.alloc (.cells (madeCells #[.int .u8 0] n) 5)) (wo.alloc (.cells (madeCells #[.int .u8 0] n) 5)) wo.heap.size n (sTo (encF k m X q) 0 0)) :=
        ⟨Touch.refl _ _, (World.rowIs_made wo (.int .u8 0) n 5).congr (fun j _ => by unfold sTo; simp)⟩
      have HB : Hid (∀ v, Touch wo.heap.size (wo.alloc (.cells (madeCells #[.int .u8 0] n) 5)) v → Below x1.heap.size x1 v) := fun v hv =>
        hG.below.trans (((Below.refl wo.heap.size wo).alloc (Nat.le_refl _) _ |>.trans (hv.below (Nat.le_refl _))).mono hG.below.size)
      have hxw := hG.below.size
      clear hG
      go_wp2_with fail
      clear hmk t2
      go_loopw [13] (fun i wr => ∃ a : Nat, a ≤ n ∧ i = .int .i64 a ∧ Hid (SRow (wo.alloc (.cells (madeCells #[.int .u8 0] n) 5)) wr wo.heap.size n (sTo (encF k m X q) 0 a))) (fun i _ => n - (intOf i).toNat)
      case atStart => exact ⟨0, by omega, rfl, HA⟩
      case round =>
        clear HA
        obtain ⟨a, ha, rfl, HR⟩ := hrel
        by_cases hlt2 : a < n
        · have han : (a : Int) < (n : Int) := by omega
          go_wp2_with fail
          go_loopw [14] (fun i wr => ∃ j S : Nat, j ≤ k ∧ S < 256 ∧ i = .int .i64 j ∧ Hid (S = dot (cauchyF k m q) (fun r => X r a) j) ∧ Hid (SRow (wo.alloc (.cells (madeCells #[.int .u8 0] n) 5)) wr wo.heap.size n (sTo (encF k m X q) S a))) (fun i _ => k - (intOf i).toNat)
          case atStart => exact ⟨0, 0, by omega, by omega, rfl, rfl, HR⟩
          case round =>
            clear HR
            obtain ⟨j, S, hj, hS, rfl, HSd, HR⟩ := hrel
            by_cases hlt3 : j < k
            · have hjk : (j : Int) < (k : Int) := by omega
              have hbel := HB.out wr HR.out.touch
              have hMa := HO.out.below (Nat.le_refl _) hbel
              have hDr := HD1.out.below hbel
              have k1 : wr.drew.cell? ⟨wo.heap.size, a, none⟩ = some (.int .u8 (S : Int)) := by
                have h5 : wr.cell? ⟨wo.heap.size, a, none⟩ = _ := HR.out.row.cell hlt2
                rw [show sTo (encF k m X q) S a a = S by unfold sTo; simp] at h5
                exact h5
              have k2 : wr.drew.cell? ⟨Ba, q, none⟩ = some (.slice (some ⟨Ga q, 0, none⟩) k (Ca q)) := hMa.top q hlt
              have k3 : wr.drew.cell? ⟨Ga q, j, none⟩ = some (.int .u8 (cauchyF k m q j : Int)) := hMa.cell q hlt j hlt3
              have k4' : wr.drew.cell? ⟨db, dd + j, none⟩ = some (.slice (A j) n (C j)) := grid_tops hDr hlt3
              rcases hDr.2.1 j hlt3 with h0 | ⟨gj, oj, hAj, hgj, hcj⟩
              · exact absurd h0 (by show ¬ n = 0; omega)
              · rw [hAj] at k4'
                have k4 := k4'
                have k5 : wr.drew.cell? ⟨gj, oj + a, none⟩ = some (.int .u8 (X j a : Int)) := hcj a hlt2
                have f1 : wr.drew.frozen? ⟨wo.heap.size, a, none⟩ = false := HR.out.row.frozen a
                have hcl := cauchyF_lt k m q j
                have hxl := HX.out j a
                obtain ⟨Y, hY⟩ : ∃ Y, Y = X j a := ⟨_, rfl⟩
                obtain ⟨Z, hZ⟩ : ∃ Z, Z = cauchyF k m q j := ⟨_, rfl⟩
                rw [← hY] at k5 hxl
                rw [← hZ] at k3 hcl
                have hrm := rmul_any Z Y wr.drew hcl hxl
                have hml := rmul_lt Z Y hcl
                have hxo := u8_xor_nat S (rmul Z Y) hS hml
                have hxl2 := xor_lt S (rmul Z Y) hS hml
                have HSd2 : Hid (S ^^^ rmul Z Y = dot (cauchyF k m q) (fun r => X r a) (j + 1)) := by
                  rw [HSd.out, hY, hZ, ← tmul_rmul _ _ (cauchyF_lt k m q j) (HX.out j a)]; exact rfl
                have HN : Hid (SRow (wo.alloc (.cells (madeCells #[.int .u8 0] n) 5)) ((wr.drew).setCell ⟨wo.heap.size, a, none⟩ (.int .u8 ((S ^^^ rmul Z Y : Nat) : Int))) wo.heap.size n (sTo (encF k m X q) (S ^^^ rmul Z Y) a)) :=
                  (srow_set HR.out a (S ^^^ rmul Z Y)).congr (fun i _ => by
                    unfold sTo
                    by_cases e : i = a
                    · subst e; simp
                    · simp [e])
                clear hbel hMa hDr HR hcj hgj hY hZ k4' HSd
                generalize rmul Z Y = M at *
                go_wp2_with fail
                refine wp_region_last (fun w' => w'.cell? ⟨wo.heap.size, a, none⟩ = some (.int .u8 (S : Int)) ∧ w'.cell? ⟨Ba, q, none⟩ = some (.slice (some ⟨Ga q, 0, none⟩) k (Ca q)) ∧ w'.cell? ⟨Ga q, j, none⟩ = some (.int .u8 (Z : Int)) ∧ w'.cell? ⟨db, dd + j, none⟩ = some (.slice (some ⟨gj, oj, none⟩) n (C j)) ∧ w'.cell? ⟨gj, oj + a, none⟩ = some (.int .u8 (Y : Int))) 23 (by kernel_rfl) ⟨k1, k2, k3, k4, k5⟩ (fun hS => ?_)
                refine By.lk 0 ?_
                refine By.lk 1 ?_
                refine By.lk 2 ?_
                refine By.lk 3 ?_
                refine By.lk 4 ?_
                refine By.lk 5 ?_
                refine By.lk 6 ?_
                refine By.lk 7 ?_
                refine By.lk 8 ?_
                refine By.lk 9 ?_
                refine By.lk 10 ?_
                refine By.lk 11 ?_
                refine By.lk 12 ?_
                refine By.lk 13 ?_
                refine By.lk 14 ?_
                refine By.lk 15 ?_
                refine By.lk 16 ?_
                refine By.lk 17 ?_
                refine By.lk 18 ?_
                refine By.lk 19 ?_
                refine wpAnyL_one (i := 20) (by kernel_rfl) rfl (fun K hK => ?_)
                go_simp
                refine hrm.mono ?_
                rintro e w5 ⟨rfl, rfl⟩
                refine hK.out _ _ (fun _ => hS) ?_
                clear hK
                refine By.lk 21 ?_
                refine By.lk 22 ?_
                refine wpAnyL_one (i := 23) (by kernel_rfl) rfl (fun K2 hK2 => ?_)
                go_simp
                refine hK2.out _ _ (fun h => absurd rfl h) ?_
                refine wpAnyL_done (by kernel_rfl) ?_ _
                go_wp2_with fail
                go_roundw
                case rel => exact ⟨j + 1, S ^^^ M, by omega, hxl2, by go_num, HSd2, HN⟩
                case measure => simp [intOf]; omega
            · obtain rfl : j = k := by omega
              have HN : Hid (SRow (wo.alloc (.cells (madeCells #[.int .u8 0] n) 5)) wr wo.heap.size n (sTo (encF j m X q) 0 (a + 1))) := HR.out.congr (fun i _ => by
                unfold sTo
                by_cases e : i = a
                · subst e
                  rw [if_neg (by omega), if_pos rfl, if_pos (by omega), HSd.out]; rfl
                · by_cases e2 : i < a
                  · rw [if_pos e2, if_pos (by omega)]
                  · rw [if_neg e2, if_neg e, if_neg (by omega)]; split <;> rfl)
              clear HR HSd
              go_wp2_with fail
              go_roundw
              case rel => exact ⟨a + 1, by omega, by go_num, HN⟩
              case measure => simp [intOf]; omega
        · obtain rfl : a = n := by omega
          obtain ⟨G1, C1, hG⟩ := HW.out
          have hb2 : Below wo.heap.size wo wr := ((Below.refl wo.heap.size wo).alloc (Nat.le_refl _) _).trans (HR.out.touch.below (Nat.le_refl _))
          obtain ⟨V', w3, hrun, G2, C2, hG2⟩ := grow_push_row hG hb2 (by omega) (Nat.le_refl _) (HR.out.row.congr (fun i hi => by unfold sTo; rw [if_pos hi]))
          have HN : Hid (∃ G1 C1, Grow x1.heap.size x1 w3 V' (q + 1) a G1 C1 (encF k m X)) := ⟨G2, C2, hG2⟩
          clear hG hG2 HR HW hb2
          go_wp2_with (at_builtin; refine wpList_append_run rfl _ _ 28 rfl _ _ rfl rfl hrun ?_; clear hrun)
          go_roundw
          case rel => exact ⟨q + 1, by omega, by go_num, HN⟩
          case measure => simp [intOf]; omega
    · obtain rfl : q = s := by omega
      obtain ⟨B, c2, hV, ho⟩ := grow_own hG (by omega)
      subst hV
      have HF : Hid (Own w'.heap.size wo B q n G1 C1 (encF k m X) ∧ Below w'.heap.size w' wo) := ⟨ho.base_le HB1.out.size, HB1.out.trans (hG.below.mono HB1.out.size)⟩
      clear hG HW ho
      go_wp2_with fail
      go_ret2
      exact ⟨HF.out.2, B, c2, G1, C1, rfl, HF.out.1⟩

end Go.Proofs.Ytmlaloadeeohbaa

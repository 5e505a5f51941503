/-
  An act with both disks, Write: both tell the same, and are alike behind it: 'mooringlaw07.does'.
  Conditions: both disks are alike.
-/
import Derived.Test.YtaaeppbkbkfphaaDkDoes
namespace Go.Proofs.Ytaaeppbkbkfphaa
open Go.RowKit By Dk
set_option linter.unusedVariables false
set_option linter.unusedSimpArgs false

theorem Bump.heap {w w' : World} {g n : Nat} (h : Bump w g n) (e : w'.heap[g]? = w.heap[g]?) : Bump w' g n := fun i hi => by
  obtain ⟨⟨Z, h1⟩, h2⟩ := h i hi
  exact ⟨⟨Z, (World.cell?_of_block (a := ⟨g, i, none⟩) e).trans h1⟩, (World.frozen?_of_block (a := ⟨g, i, none⟩) e).trans h2⟩

theorem write_both (p r n m l : Nat) (z : Int) (f A g : Nat → Nat) (D : Nat → Nat → Nat) (hg : ∀ i, g i < 256) (hm : m < 1000) : ∃ (q : Int) (m' : Nat) (A' : Nat → Nat) (D' : Nat → Nat → Nat), m' ≤ m + 1 ∧
    (∀ v F x c, Pd v F p n m f A D → RowAt v x l g → Calls Try.prog 17 #[.pointer (some ⟨p, 0, none⟩), .int .i64 z, .slice x l c] v fun e w' => e = .returned (.int .i64 q) ∧ ∃ F', Turns F v w' ∧ Pd w' F' p n m' f A' D' ∧ ∀ k, F' k → F k ∨ v.heap.size ≤ k) ∧
    (∀ v G x c, Rd v G r n m f A D → RowAt v x l g → (l ≠ 0 → ∀ ad, x = some ad → ¬ G ad.block) → Calls Try.prog 21 #[.pointer (some ⟨r, 0, none⟩), .int .i64 z, .slice x l c] v fun e w' => e = .returned (.int .i64 q) ∧ ∃ G', Turns G v w' ∧ Rd w' G' r n m' f A' D' ∧ ∀ k, G' k → G k ∨ v.heap.size ≤ k) := by
  have hgr : ∀ (H : Nat → Prop) (v w' : World), ∀ k, grow H v w' k → H k ∨ v.heap.size ≤ k := fun H v w' k hk => by
    rcases hk with hk | hk
    · exact .inl hk
    · exact .inr hk.1
  by_cases hy : 0 ≤ z ∧ z < n ∧ l = 64
  · obtain ⟨h1, h2, rfl⟩ := hy
    obtain ⟨a, rfl⟩ : ∃ a : Nat, z = (a : Int) := ⟨z.toNat, by omega⟩
    refine ⟨0, m + 1, ext A m a, ext D m g, Nat.le_refl _, fun v F x c hv hx => ?_, fun v G x c hv hx hxG => ?_⟩
    · exact (write_yes p n m a c F f A g D x a rfl v hv (by omega) hx hg hm).mono fun e w' ⟨he, ht, hd⟩ => ⟨he, _, ht, hd, hgr _ _ _⟩
    · exact (rwrite_yes r n m a c G f A g D x v hv (by omega) hx (hxG (by omega)) hg hm).mono fun e w' ⟨he, ht, hd⟩ => ⟨he, _, ht, hd, hgr _ _ _⟩
  · refine ⟨1, m, A, D, by omega, fun v F x c hv hx => ?_, fun v G x c hv hx hxG => ?_⟩
    · have hD : Dsk 0 v v F p n m f A D := ⟨Below.refl _ _, Nat.zero_le _, fun _ _ => Nat.zero_le _, hv⟩
      exact (dwrite_no 0 p n m l c F f A D x z v v hD hy).mono fun e w' ⟨he, hw⟩ => ⟨he, F, by rw [hw]; exact Turns.refl _ _, by rw [hw]; exact hv, fun k hk => .inl hk⟩
    · have hv' := hv
      obtain ⟨S, P, hd⟩ := hv'
      obtain ⟨x0, c0', hS0, _⟩ := ownsRow_form2 hd.sec_
      have c0 := hd.c0
      rw [hS0] at c0
      exact (rwrite_no r n l c c0' x0 z x v c0 hy).mono fun e w' ⟨he, hw⟩ => ⟨he, G, by rw [hw]; exact Turns.refl _ _, by rw [hw]; exact hv, fun k hk => .inl hk⟩

set_option maxHeartbeats 2000000 in
theorem does_write (p r n m : Nat) (d at_ : Int) (x : Option Addr) (l c y : Nat) (u : Option Addr) (j k : Nat) (g : Nat → Nat) (w0 w : World) (h : Both w0.heap.size w0 w p r n m) (hb : BytesIn w0 x l c g) (hm : m < 1000) (hd : d = 0 ∨ ((d == 0) = false ∧ d = 1)) :
    Calls Try.prog 10 #[.pointer (some ⟨p, 0, none⟩), .pointer (some ⟨r, 0, none⟩), .agg #[.int .i64 d, .int .i64 at_, .slice x l c, .int .u8 (y : Int), .slice u j k]] w fun e w' => e = .returned (.bool true) ∧ ∃ m', m' ≤ m + 1 ∧ Both w0.heap.size w0 w' p r n m' := by
  obtain ⟨F, G, f, A, D, hT⟩ := h
  have hb1 : Below w.heap.size w (w.alloc (.cells (actCells d at_ x l c y u j k) 35)) := (Below.refl _ _).alloc (Nat.le_refl _) _
  have h1 := hT.below hb1
  have hfree := hT.free (Nat.le_refl _)
  obtain ⟨W1, hW1⟩ : ∃ W1, W1 = w.alloc (.cells (actCells d at_ x l c y u j k) 35) := ⟨_, rfl⟩
  have hbox := box_cells w d at_ x l c y u j k
  rw [← hW1] at h1 hbox
  have hsz1 : W1.heap.size = w.heap.size + 1 := by rw [hW1]; simp
  have hll : l ≤ 140737488351232 := by have := hb.le; have := hb.small; omega
  obtain ⟨g2, cy, w2, hap, hb2, ho2, hg2, hl2, _, hr2⟩ := bytes_copy W1 x l c g (hb.row.below h1.bel) hb.nil (by omega)
  have h2 := h1.below hb2
  obtain ⟨q, m', A', D', hm', hP, hR⟩ := write_both p r n m l at_ f A g D hb.lt hm
  have k1 := (hbox w2 (hb2.block w.heap.size (by omega))).2.1
  have hP1 := hP w2 F (some ⟨g2, 0, none⟩) cy h2.pd hr2
  have HT := hid h2
  have HX := hid hb
  have hnF : ¬ F g2 ∧ ¬ G g2 := hT.free (by omega)
  have hFq : ∀ v : World, v.heap[w.heap.size]? = w2.heap[w.heap.size]? → v.cell? ⟨w.heap.size, 1, none⟩ = some (.int .i64 at_) ∧ v.cell? ⟨w.heap.size, 2, none⟩ = some (.slice x l c) := fun v hv => by
    have := hbox v (hv.trans (hb2.block w.heap.size (by omega)))
    exact ⟨this.2.1, this.2.2.1⟩
  have HQ := hid hFq
  have HU := hid (Bump.own ho2)
  have HN := hid hnF
  have HL : Hid (w.heap.size < w2.heap.size ∧ w.heap.size < g2 ∧ g2 < w2.heap.size ∧ w0.heap.size ≤ g2) := ⟨Nat.lt_of_lt_of_le (by omega) hb2.size, by omega, hl2, Nat.le_trans h1.size hg2⟩
  have HFr := hid hfree
  clear hT hb1 h1 hb2 ho2 hg2 hl2 hr2 h2 hbox hfree hb hP hnF hFq
  rw [hsz1] at hap
  clear hsz1
  subst hW1
  have hap' : (Builtin.append_ #[32, 32] 32 #[.slice (some ⟨w.heap.size + 1, 0, none⟩) 0 0, .slice x l c]).run Try.prog ((w.alloc (.cells #[.int .i64 d, .int .i64 at_, .slice x l c, .int .u8 (y : Int), .slice u j k] 35)).alloc (.cells #[] 5)) = .ok (.slice (some ⟨g2, 0, none⟩) l cy) w2 := hap
  clear hap
  have HR := hid hR
  clear hR
  rcases hd with rfl | ⟨hd0, rfl⟩
  all_goals
    go_enter Try.func10, Try.ntmps10
    go_wp2_with (first
      | (at_builtin; refine wpList_append_run rfl _ _ 32 rfl _ _ rfl rfl hap' ?_; clear hap')
      | (go_at_call 17; refine hP1.mono ?_; rintro e w3 ⟨rfl, F', t3, d3, hF'⟩; clear hP1
         have h3 := HT.out.prog t3 d3 hF'
         have HT3 := hid h3
         have HT3' := hid t3
         have HF' := hid hF'
         clear h3 t3 d3 hF' HT k1))
    go_loopw [9] (fun i wr => ∃ k : Nat, k ≤ l ∧ i = .int .i64 k ∧ Hid (Turns (fun j => j = g2) w3 wr ∧ Bump wr g2 l)) (fun i _ => l - (intOf i).toNat)
    case atStart => exact ⟨0, by omega, rfl, Turns.refl _ _, HU.out.heap (HT3'.out.block _ HL.out.2.2.1 HN.out.1)⟩
    case round =>
      obtain ⟨i, hi, rfl, HRr⟩ := hrel
      by_cases hlt : i < l
      · have hil : (i : Int) < (l : Int) := by omega
        obtain ⟨T, hbu⟩ := HRr.out
        obtain ⟨⟨Z, c1⟩, f1⟩ := hbu i hlt
        have HNx : ∀ V : Int, Hid (Turns (fun j => j = g2) w3 (wr.setCell ⟨g2, i, none⟩ (.int .u8 V)) ∧ Bump (wr.setCell ⟨g2, i, none⟩ (.int .u8 V)) g2 l) := fun V => ⟨T.setCell (p := ⟨g2, i, none⟩) (.inl rfl) _, hbu.set i V⟩
        clear T hbu HRr
        go_wp2_with fail
        go_roundw
        case rel => exact ⟨i + 1, by omega, by go_num, HNx _⟩
        case measure => simp [intOf]; omega
      · have hi2 : i = l := by omega
        obtain ⟨T, hbu⟩ := HRr.out
        have hl := HL.out
        have h4 := HT3.out.turns T (fun k hk => by rw [hk]; exact hl.2.2.2) (fun k hk e => by
          rcases HF'.out k hk with e1 | e1
          · rw [e] at e1; exact HN.out.1 e1
          · rw [e] at e1; omega) (fun k hk e => by rw [e] at hk; exact HN.out.2 hk)
        have q4 : wr.heap[w.heap.size]? = w2.heap[w.heap.size]? := (T.block w.heap.size (Nat.lt_of_lt_of_le hl.1 HT3'.out.size) (by omega)).trans (HT3'.out.block w.heap.size hl.1 HFr.out.1)
        obtain ⟨k1, k2⟩ := HQ.out wr q4
        have hrow : RowAt wr x l g := HX.out.row.below h4.bel
        have hxG : l ≠ 0 → ∀ ad, x = some ad → ¬ G ad.block := fun h0 ad had hG => by
          rcases HX.out.row with e | ⟨b', o', e, hb', _⟩
          · exact h0 e
          · rw [had] at e
            injection e with e
            subst e
            have := h4.fG _ hG
            have e5 : (⟨b', o', none⟩ : Addr).block = b' := rfl
            omega
        have hR1 := HR.out wr G x c h4.rd hrow hxG
        have HT4 := hid h4
        have hi3 : (l : Int) ≤ (i : Int) := by omega
        clear T hbu HRr h4 q4 hrow hxG hl HT3 HT3' HF' HQ HU HN HL HFr HR
        go_wp2_with ((go_at_call 21; refine hR1.mono ?_; rintro e w5 ⟨rfl, G', t5, r5, hG'⟩; clear hR1
                      have h5 := HT4.out.ref t5 r5 hG'
                      have HT5 := hid h5
                      clear h5 t5 r5 hG' HT4))
        go_ret
        exact ⟨by simp, m', hm', _, _, _, _, _, HT5.out⟩

theorem does_any (p r n m : Nat) (V : ActV) (w0 w : World) (h : Both w0.heap.size w0 w p r n m) (hV : ActIn w0 V) (hm : m < 1000) :
    Calls Try.prog 10 #[.pointer (some ⟨p, 0, none⟩), .pointer (some ⟨r, 0, none⟩), .agg #[.int .i64 V.do_, .int .i64 V.at_, .slice V.x V.n V.c, .int .u8 (V.y : Int), .slice V.u V.l V.k]] w fun e w' => e = .returned (.bool true) ∧ ∃ m', m' ≤ m + 1 ∧ Both w0.heap.size w0 w' p r n m' := by
  have hbz := bounds_i64 hV.hat
  by_cases e0 : V.do_ = 0 ∨ V.do_ = 1
  · refine does_write p r n m V.do_ V.at_ V.x V.n V.c V.y V.u V.l V.k V.f w0 w h hV.bytes hm ?_
    rcases e0 with e | e
    · exact .inl e
    · exact .inr ⟨by rw [e]; rfl, e⟩
  · by_cases e2 : V.do_ = 2
    · rw [e2]
      exact does_flush _ p r n m V.at_ V.x V.n V.c V.y V.u V.l V.k w0 w h
    · by_cases e3 : V.do_ = 3
      · rw [e3]
        exact does_crash p r n m V.at_ V.x V.n V.c V.y V.u V.l V.k V.h w0 w h hV.cut
      · by_cases e4 : V.do_ = 4
        · rw [e4]
          exact does_rot _ p r n m V.at_ V.x V.n V.c V.y V.u V.l V.k w0 w h hV.hy hbz.2
        · exact does_else _ p r n m V.do_ V.at_ V.x V.n V.c V.y V.u V.l V.k w0 w h (by omega)

end Go.Proofs.Ytaaeppbkbkfphaa

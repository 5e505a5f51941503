/-
  What the document's Rank does: a contract over plain numbers.
  Conditions: the rows lie in memory, 1 to 255 of them, of 1 to 255 elements.
-/
import Derived.Test.YtkdjjmjfpembpaaMxRefId
import Derived.Test.YtkdjjmjfpembpaaMxReduce
import Derived.Test.YtkdjjmjfpembpaaMxOrders
namespace Go.Proofs.Ytkdjjmjfpembpaa
open Go.RowKit Gf
set_option linter.unusedVariables false
set_option linter.unusedSimpArgs false

/- All cells of a row, appended to nothing. -/
theorem push_all (w : World) (sb so m c : Nat) (f : Nat → Nat) (hm : m ≤ 1000) (hsrc : ∀ j, j < m → w.cell? ⟨sb, so + j, none⟩ = some (.int .u8 (f j : Int))) (hsb : sb < w.heap.size) :
    ∃ R' w', (Builtin.append_ #[34, 34] 34 #[.slice (some ⟨w.heap.size, 0, none⟩) 0 0, .slice (some ⟨sb, so, none⟩) m c]).run Try.prog (w.alloc (.cells #[] 5)) = .ok R' w' ∧
      w'.ownsRow w.heap.size 5 1 R' m (bytesOf f m) ∧ Below w.heap.size w w' := by
  obtain ⟨i0, hi, hz0, hz1, hz2⟩ := info_parts info_byte
  have hown := (rowOf_start w f).own
  obtain ⟨v', w', hr, h2, h3, h4⟩ := run_append_own (P := Try.prog) (w.alloc (.cells #[] 5)) w.heap.size 34 34 5 i0 (.int .u8 0) 1 1 Try.underlying34 hi hz0 hz1 hz2 rfl (by decide) _ 0 (bytesOf f 0) hown
    ⟨sb, so, none⟩ m c (bytesOf f m) (by simp [bytesOf]) (fun j u hj => by
      have hjm : j < m := by
        have := (List.getElem?_eq_some_iff.1 hj).1
        simpa [bytesOf] using this
      have e : u = .int .u8 (f j : Int) := by simp [bytesOf, hjm] at hj; exact hj.symm
      have hadd : (⟨sb, so, none⟩ : Addr).add j = ⟨sb, so + j, none⟩ := by unfold Addr.add; split <;> simp_all
      rw [e, hadd]
      exact ((Below.refl w.heap.size w).alloc (Nat.le_refl _) _ |>.cell (by exact hsb)).trans (hsrc j hjm)) (fun u hu => by
      simp [bytesOf] at hu
      obtain ⟨j, _, rfl⟩ := hu
      rfl) (by unfold maxLen; omega) (by omega) (by simp)
  refine ⟨v', w', hr, ?_, ((Below.refl w.heap.size w).alloc (Nat.le_refl _) _).grown h3 (by simp) (fun k hk => (hown.lt k hk).1)⟩
  have e0 : bytesOf f 0 = [] := rfl
  rw [e0, List.nil_append, Nat.zero_add] at h2
  exact h2

theorem Grow.drewN {base : Nat} {w wr : World} {V : Value} {k m : Nat} {G C : Nat → Nat} {f : Nat → Nat → Nat} (h : Grow base w wr V k m G C f) (n : Nat) : Grow base w (wr.drewN n) V k m G C f :=
  ⟨below_drewN' h.below n, h.le, h.own, h.hG, h.inj, h.fG, h.cell, h.lt, h.cap, h.ty⟩

/- Rows that are done, and part of the next. -/
def elimTo (E : Nat → Nat → Nat) (d c i k : Nat) : Nat → Nat → Nat := fun s j => if s < i then elimF E d c s j else if s = i ∧ j < k then elimF E d c s j else E s j

theorem elimTo_lt {E : Nat → Nat → Nat} (hE : ∀ r j, E r j < 256) (d c i k s j : Nat) : elimTo E d c i k s j < 256 := by
  unfold elimTo
  split
  · exact elimF_lt d c hE s j
  · split
    · exact elimF_lt d c hE s j
    · exact hE s j

theorem elimTo_self (E : Nat → Nat → Nat) (d c i k j : Nat) (h : k ≤ j) : elimTo E d c i k i j = E i j := by
  unfold elimTo
  rw [if_neg (Nat.lt_irrefl _), if_neg (by omega)]

theorem elimTo_d (E : Nat → Nat → Nat) (d c i k j : Nat) (h : d < i) : elimTo E d c i k d j = E d j := by
  unfold elimTo elimF
  rw [if_pos h, if_neg (Nat.lt_irrefl _)]

theorem elim_step {base : Nat} {w : World} {b n m d c i k : Nat} {G C : Nat → Nat} {E : Nat → Nat → Nat} (hE : ∀ r j, E r j < 256) (h : Own base w b n m G C (elimTo E d c i k)) (hi : i < n) (hk : k < m) (hd : d < i) :
    Own base (w.setCell ⟨G i, k, none⟩ (.int .u8 ((E i k ^^^ tmul (tmul (E i c) (tinv (E d c))) (E d k) : Nat) : Int))) b n m G C (elimTo E d c i (k + 1)) := by
  have e0 : E i k ^^^ tmul (tmul (E i c) (tinv (E d c))) (E d k) = elimF E d c i k := by unfold elimF; rw [if_pos hd]
  rw [e0]
  refine (h.store hi hk (elimF_lt d c hE i k)).congr (fun s hs j hj => ?_) (elimTo_lt hE d c i _)
  unfold elimTo
  by_cases e : s = i
  · subst e
    by_cases e2 : j = k
    · subst e2; simp
    · by_cases e3 : j < k
      · simp [e2, e3]; intro h'; omega
      · simp [e2, e3]; intro h'; omega
  · simp [e]

theorem elim_row {base : Nat} {w : World} {b n m d c i : Nat} {G C : Nat → Nat} {E : Nat → Nat → Nat} (hE : ∀ r j, E r j < 256) (h : Own base w b n m G C (elimTo E d c i m)) : Own base w b n m G C (elimTo E d c (i + 1) 0) := by
  refine h.congr (fun s hs j hj => ?_) (elimTo_lt hE d c _ _)
  unfold elimTo
  by_cases e : s < i
  · rw [if_pos e, if_pos (by omega)]
  · rw [if_neg e]
    by_cases e2 : s = i
    · rw [if_pos ⟨e2, hj⟩, if_pos (by omega)]
    · rw [if_neg (by omega), if_neg (by omega), if_neg (by omega)]

theorem elim_start {base : Nat} {w : World} {b n m d c : Nat} {G C : Nat → Nat} {E : Nat → Nat → Nat} (h : Own base w b n m G C E) : Own base w b n m G C (elimTo E d c (d + 1) 0) := by
  refine h.congr (fun s hs j hj => ?_) (elimTo_lt h.lt d c _ _)
  unfold elimTo elimF
  by_cases e : s < d + 1
  · rw [if_pos e, if_neg (by omega)]
  · rw [if_neg e, if_neg (by omega)]

theorem elim_end {base : Nat} {w : World} {b n m d c : Nat} {G C : Nat → Nat} {E : Nat → Nat → Nat} (hE : ∀ r j, E r j < 256) (h : Own base w b n m G C (elimTo E d c n 0)) : Own base w b n m G C (elimF E d c) := by
  refine h.congr (fun s hs j hj => ?_) (elimF_lt d c hE)
  unfold elimTo
  rw [if_pos hs]

theorem rdiv_at (Q0 a b : Nat) (w : World) (ha : a < 256) (hb : b < 256) (h0 : b ≠ 0) (hQ : Hid (Q0 = tmul a (tinv b))) :
    Calls Try.prog 30 #[.int .u8 a, .int .u8 b] w fun e w' => e = .returned (.tuple #[.int .u8 (Q0 : Int), .bool true]) ∧ w' = w := by
  have := rdiv_any a b w ha hb
  rw [show tdiv a b = Q0 by rw [hQ.out]; unfold tdiv; rw [if_neg h0], show (b != 0) = true by simp [h0]] at this
  exact this

structure Rnk (base : Nat) (w wr : World) (b n m : Nat) (F : Nat → Nat → Nat) : Prop where
  below : Below base w wr
  own : ∃ G C, Own base wr b n m G C F

set_option maxHeartbeats 8000000 in
set_option maxRecDepth 100000 in
theorem rrank_any (b o n m c : Nat) (G O C : Nat → Nat) (f : Nat → Nat → Nat) (w : World) (h : Mat w b o n m G O C f) (h1 : 1 ≤ n) (h2 : n ≤ 255) (h3 : 1 ≤ m) (h4 : m ≤ 255) :
    Calls Try.prog 20 #[.slice (some ⟨b, o, none⟩) n c] w fun e w' => e = .returned (.int .i64 ((rnk n f m).1 : Int)) ∧ Below w.heap.size w w' := by
  have hf := h.lt
  have HM : Hid (Mat w b o n m G O C f) := h
  have HA : Hid (∃ G1 C1, Grow w.heap.size w (w.alloc (.cells #[] 34)) (.slice (some ⟨w.heap.size, 0, none⟩) 0 0) 0 m G1 C1 f) := ⟨fun _ => 0, fun _ => 0, grow_start w m _ _ f hf⟩
  clear h
  go_enter Try.func20, Try.ntmps20
  go_wp2_with fail
  go_loopw [3, 4] (fun V i wr => ∃ k : Nat, k ≤ n ∧ i = .int .i64 k ∧ Hid (∃ G1 C1, Grow w.heap.size w wr V k m G1 C1 f)) (fun _ i _ => n - (intOf i).toNat)
  case atStart => exact ⟨0, by omega, rfl, HA⟩
  case round =>
    clear HA
    obtain ⟨k, hk, rfl, HW⟩ := hrel
    by_cases hlt : k < n
    · obtain ⟨G1, C1, hG⟩ := HW.out
      have hkn : (k : Int) < (n : Int) := by omega
      have hM := HM.out.below (Nat.le_refl _) hG.below
      have ht1 := hM.top k hlt
      have ht1a : ∀ x, (wr.alloc x).cell? ⟨b, o + k, none⟩ = some (.slice (some ⟨G k, O k, none⟩) m (C k)) := fun x => ((Below.refl wr.heap.size wr).alloc (Nat.le_refl _) x |>.cell (by exact hM.hb)).trans ht1
      obtain ⟨R', w1, hrun1, hown1, hb1⟩ := push_all wr (G k) (O k) m (C k) (f k) (by omega) (hM.cell k hlt) (hM.hG k hlt)
      obtain ⟨gR, cR, hR, _⟩ := own_slice hown1 (by omega)
      subst hR
      obtain ⟨V', w3, hrun2, G2, C2, hG2⟩ := grow_push hG hb1 (by omega) (by omega) hown1
      have HN : Hid (∃ G1 C1, Grow w.heap.size w w3 V' (k + 1) m G1 C1 f) := ⟨G2, C2, hG2⟩
      clear hG hG2 HW hM hown1 hb1 hf
      go_wp2_with (first | (at_builtin; refine wpList_append_run rfl _ _ 34 rfl _ _ rfl rfl hrun1 ?_; clear hrun1) | (at_builtin; refine wpList_append_run rfl _ _ 22 rfl _ _ rfl rfl hrun2 ?_; clear hrun2))
      go_roundw
      case rel => exact ⟨k + 1, by omega, by go_num, HN⟩
      case measure => simp [intOf]; omega
    · obtain rfl : k = n := by omega
      obtain ⟨G1, C1, hG⟩ := HW.out
      obtain ⟨B, cB, hV, ho⟩ := grow_own hG (by omega)
      subst hV
      obtain ⟨w1, hw1⟩ : ∃ w1, w1 = wr := ⟨_, rfl⟩
      subst hw1
      have HR : Hid (Rnk w.heap.size w w1 B k m f) := ⟨hG.below, G1, C1, ho⟩
      clear hG HW ho G1 C1
      go_wp2_with fail
      go_loopw [5, 6] (fun s i wr => ∃ q d : Nat, q ≤ m ∧ d ≤ k ∧ s = .int .i64 d ∧ i = .int .i64 q ∧ Hid (∃ F, rnk k f q = (d, F) ∧ Rnk w.heap.size w wr B k m F)) (fun _ i _ => m - (intOf i).toNat)
      case atStart => exact ⟨0, 0, by omega, by omega, rfl, rfl, f, rfl, HR⟩
      case round =>
        clear HR
        obtain ⟨q, d, hq, hd, rfl, rfl, HW⟩ := hrel
        obtain ⟨wm, hwm⟩ : ∃ wm, wm = wr := ⟨_, rfl⟩
        subst hwm
        obtain ⟨F, hF, hbel, G1, C1, ho⟩ := HW.out
        have hM := HM.out.below (Nat.le_refl _) hbel
        have ht0 : wm.cell? ⟨b, o, none⟩ = some (.slice (some ⟨G 0, O 0, none⟩) m (C 0)) := hM.top 0 (by omega)
        have hk0 : (0 : Int) < (k : Int) := by omega
        have HF : Hid (rnk k f q = (d, F)) := hF
        have HB : Hid (Below w.heap.size w wm) := hbel
        have HO : Hid (Own w.heap.size wm B k m G1 C1 F) := ho
        clear hF hbel ho hM HW
        by_cases hqlt : q < m
        · have hqm : (q : Int) < (m : Int) := by omega
          cases hL : lead F q k d with
          | none =>
            have hz := lead_none hL
            have HN : Hid (∃ F, rnk k f (q + 1) = (d, F) ∧ Rnk w.heap.size w wm B k m F) := ⟨F, by unfold rnk; rw [rnkStep_none (by rw [HF.out]; exact hL), HF.out], HB.out, G1, C1, HO.out⟩
            clear hL hf
            go_wp2_with fail
            go_loopw [7, 8] (fun s i wr => ∃ t : Nat, d ≤ t ∧ t ≤ k ∧ s = .int .i64 (-1) ∧ i = .int .i64 t ∧ wr = wm) (fun _ i _ => k - (intOf i).toNat)
            case atStart => exact ⟨d, Nat.le_refl _, hd, rfl, rfl, rfl⟩
            case round =>
              obtain ⟨t, ht1, ht2, rfl, rfl, rfl⟩ := hrel
              by_cases hlt2 : t < k
              · have htk : (t : Int) < (k : Int) := by omega
                have c1 := HO.out.top t hlt2
                have c2 : wr.cell? ⟨G1 t, q, none⟩ = some (.int .u8 0) := by rw [HO.out.cell t hlt2 q hqlt, hz t ht1 hlt2]; rfl
                clear hz
                go_wp2_with fail
                go_roundw
                case rel => exact ⟨t + 1, by omega, by omega, rfl, by go_num, trivial⟩
                case measure => simp [intOf]; omega
              · obtain rfl : t = k := by omega
                clear hz
                go_wp2_with fail
                go_roundw
                case rel => exact ⟨q + 1, d, by omega, hd, rfl, by go_num, HN⟩
                case measure => simp [intOf]; omega
          | some i0 =>
            obtain ⟨h1i, h2i, h3i, h4i⟩ := lead_some hL
            have HL : Hid (lead F q k d = some i0) := hL
            clear hL
            go_wp2_with fail
            go_loopw [7, 8] (fun s i wr => ∃ (t : Nat) (z : Int), d ≤ t ∧ t ≤ k ∧ s = .int .i64 z ∧ i = .int .i64 t ∧ wr = wm ∧ Hid ((t ≤ i0 → z = -1) ∧ (i0 < t → z = i0))) (fun _ i _ => k - (intOf i).toNat)
            case atStart => exact ⟨d, -1, Nat.le_refl _, hd, rfl, rfl, rfl, fun _ => rfl, fun h => by omega⟩
            case round =>
              obtain ⟨t, z, ht1, ht2, rfl, rfl, rfl, HZ⟩ := hrel
              by_cases hlt2 : t < k
              · have htk : (t : Int) < (k : Int) := by omega
                have c1 := HO.out.top t hlt2
                have c2 := HO.out.cell t hlt2 q hqlt
                by_cases e1 : t < i0
                · obtain rfl : z = -1 := HZ.out.1 (by omega)
                  rw [h4i t ht1 e1] at c2
                  have HZ2 : Hid ((t + 1 ≤ i0 → (-1 : Int) = -1) ∧ (i0 < t + 1 → (-1 : Int) = i0)) := ⟨fun _ => rfl, fun h => by omega⟩
                  clear h4i h3i HZ hf
                  go_wp2_with fail
                  go_roundw
                  case rel => exact ⟨t + 1, -1, by omega, by omega, rfl, by go_num, trivial, HZ2⟩
                  case measure => simp [intOf]; omega
                · by_cases e2 : t = i0
                  · subst e2
                    obtain rfl : z = -1 := HZ.out.1 (Nat.le_refl _)
                    have g2 : ((F t q : Int) != 0) = true := by simp; omega
                    have HZ2 : Hid ((t + 1 ≤ t → (t : Int) = -1) ∧ (t < t + 1 → (t : Int) = t)) := ⟨fun h => by omega, fun _ => rfl⟩
                    clear h4i h3i HZ hf
                    go_wp2_with fail
                    go_roundw
                    case rel => exact ⟨t + 1, t, by omega, by omega, rfl, by go_num, trivial, HZ2⟩
                    case measure => simp [intOf]; omega
                  · obtain rfl : z = i0 := HZ.out.2 (by omega)
                    have g1 : decide ((i0 : Int) < 0) = false := by simp
                    have HZ2 : Hid ((t + 1 ≤ i0 → (i0 : Int) = -1) ∧ (i0 < t + 1 → (i0 : Int) = i0)) := ⟨fun h => by omega, fun _ => rfl⟩
                    clear h4i h3i HZ hf c2 e2
                    go_wp2_with fail
                    go_roundw
                    case rel => exact ⟨t + 1, i0, by omega, by omega, rfl, by go_num, trivial, HZ2⟩
                    case measure => simp [intOf]; omega
              · obtain rfl : t = k := by omega
                obtain rfl : z = i0 := HZ.out.2 (by omega)
                have g1 : decide ((i0 : Int) < 0) = false := by simp
                have htd := HO.out.top d (by omega)
                have hti := HO.out.top i0 (by omega)
                have hfd := HO.out.fb d
                have hfi := HO.out.fb i0
                have hdn : (d : Int) < (t : Int) := by omega
                have hin : (i0 : Int) < (t : Int) := by omega
                clear h4i HZ
                by_cases hdi : d = i0
                · subst hdi
                  go_wp2_with fail
                  go_region
                  have HX : Hid (∃ G2 C2, Own w.heap.size ((wr.setCell ⟨B, d, none⟩ (.slice (some ⟨G1 d, 0, none⟩) m (C1 d))).setCell ⟨B, d, none⟩ (.slice (some ⟨G1 d, 0, none⟩) m (C1 d))).drew B t m G2 C2 (fun s => F (swp d d s))) := own_swapped HO.out (by omega) (by omega)
                  have HY : Hid (Below w.heap.size w ((wr.setCell ⟨B, d, none⟩ (.slice (some ⟨G1 d, 0, none⟩) m (C1 d))).setCell ⟨B, d, none⟩ (.slice (some ⟨G1 d, 0, none⟩) m (C1 d))).drew) := ((HB.out.setCell HO.out.hb.1 _).setCell HO.out.hb.1 _).drew
                  generalize ((wr.setCell ⟨B, d, none⟩ (.slice (some ⟨G1 d, 0, none⟩) m (C1 d))).setCell ⟨B, d, none⟩ (.slice (some ⟨G1 d, 0, none⟩) m (C1 d))).drew = w2 at HX HY ⊢
                  obtain ⟨E, hE⟩ : ∃ E : Nat → Nat → Nat, E = fun s => F (swp d d s) := ⟨_, rfl⟩
                  rw [← hE] at HX
                  have HE : Hid (E = fun s => F (swp d d s)) := hE
                  have hE5 : E d q ≠ 0 := by rw [hE]; simpa [swp_self] using h3i
                  obtain ⟨G2, C2, ho2⟩ := HX.out
                  have hElt := ho2.lt
                  have HA : Hid (Below w.heap.size w w2 ∧ Own w.heap.size w2 B t m G2 C2 (elimTo E d q (d + 1) 0)) := ⟨HY.out, elim_start ho2⟩
                  have HN1 : Hid (rnk t f (q + 1) = (d + 1, elimF E d q)) := by unfold rnk; rw [rnkStep_some (by rw [HF.out]; exact HL.out), HF.out, HE.out]; exact rfl
                  clear HX HY hE ho2 h3i htd hti hfd hfi HB HO HL HF HE
                  go_wp2_with fail
                  go_loopw [9] (fun i wr => ∃ i1 : Nat, d + 1 ≤ i1 ∧ i1 ≤ t ∧ i = .int .i64 i1 ∧ Hid (Below w.heap.size w wr ∧ Own w.heap.size wr B t m G2 C2 (elimTo E d q i1 0))) (fun i _ => t - (intOf i).toNat)
                  case atStart => exact ⟨d + 1, Nat.le_refl _, by omega, by go_num, HA⟩
                  case round =>
                    clear HA
                    obtain ⟨i1, hi1, hi2, rfl, HI⟩ := hrel
                    by_cases hlt3 : i1 < t
                    · have hit : (i1 : Int) < (t : Int) := by omega
                      obtain ⟨x2, hx2⟩ : ∃ x2, x2 = wr := ⟨_, rfl⟩
                      subst hx2
                      have c1 := HI.out.2.top i1 hlt3
                      have c2 := HI.out.2.top d (by omega)
                      have c3 : x2.cell? ⟨G2 i1, q, none⟩ = some (.int .u8 (E i1 q : Int)) := by rw [HI.out.2.cell i1 hlt3 q hqlt, elimTo_self E d q i1 0 q (Nat.zero_le _)]
                      have c4 : x2.cell? ⟨G2 d, q, none⟩ = some (.int .u8 (E d q : Int)) := by rw [HI.out.2.cell d (by omega) q hqlt, elimTo_d E d q i1 0 q (by omega)]
                      have hx := hElt i1 q
                      have hy := hElt d q
                      obtain ⟨Q0, hQ0⟩ : ∃ Q0, Q0 = tdiv (E i1 q) (E d q) := ⟨_, rfl⟩
                      have HQ : Hid (Q0 = tmul (E i1 q) (tinv (E d q))) := by rw [hQ0]; unfold tdiv; rw [if_neg hE5]; exact rfl
                      have hQlt : Q0 < 256 := by rw [HQ.out]; exact tmul_lt _ _ hx (tinv_lt _)
                      clear hQ0
                      go_wp2_with fail
                      go_quiet ((go_at_call 30; exact Calls.quiet_of_same (rdiv_at Q0 _ _ _ hx hy hE5 HQ)))
                      go_wp2_with fail
                      have HT0 : Hid (Below w.heap.size w (x2.drewN nq) ∧ Own w.heap.size (x2.drewN nq) B t m G2 C2 (elimTo E d q i1 0)) := ⟨below_drewN' HI.out.1 nq, HI.out.2.drewN nq⟩
                      clear HI c1 c2 c3 c4
                      go_loopw [12] (fun i wr => ∃ j1 : Nat, j1 ≤ m ∧ i = .int .i64 j1 ∧ Hid (Below w.heap.size w wr ∧ Own w.heap.size wr B t m G2 C2 (elimTo E d q i1 j1))) (fun i _ => m - (intOf i).toNat)
                      case atStart => exact ⟨0, by omega, rfl, HT0⟩
                      case round =>
                        clear HT0
                        obtain ⟨j1, hj1, rfl, HJ⟩ := hrel
                        have k1 := HJ.out.2.top i1 hlt3
                        by_cases hlt4 : j1 < m
                        · have hjm : (j1 : Int) < (m : Int) := by omega
                          have k2 := HJ.out.2.top d (by omega)
                          have k3 : wr.cell? ⟨G2 i1, j1, none⟩ = some (.int .u8 (E i1 j1 : Int)) := by rw [HJ.out.2.cell i1 hlt3 j1 hlt4, elimTo_self E d q i1 j1 j1 (Nat.le_refl _)]
                          have k4 : wr.cell? ⟨G2 d, j1, none⟩ = some (.int .u8 (E d j1 : Int)) := by rw [HJ.out.2.cell d (by omega) j1 hlt4, elimTo_d E d q i1 j1 j1 (by omega)]
                          have k5 := HJ.out.2.fG i1 hlt3 j1
                          have hEd := hElt d j1
                          have hEi := hElt i1 j1
                          have hr := rmul_lt _ (E d j1) hQlt
                          have hxo := u8_xor_nat _ _ hEi hr
                          have HN : Hid (Below w.heap.size w (wr.setCell ⟨G2 i1, j1, none⟩ (.int .u8 ((E i1 j1 ^^^ rmul Q0 (E d j1) : Nat) : Int))).drew ∧ Own w.heap.size (wr.setCell ⟨G2 i1, j1, none⟩ (.int .u8 ((E i1 j1 ^^^ rmul Q0 (E d j1) : Nat) : Int))).drew B t m G2 C2 (elimTo E d q i1 (j1 + 1))) := by
                            refine ⟨(HJ.out.1.setCell (HJ.out.2.hG i1 hlt3).1 _).drew, ?_⟩
                            have := elim_step hElt HJ.out.2 hlt3 hlt4 (by omega)
                            rw [← HQ.out, tmul_rmul _ _ hQlt hEd] at this
                            exact this.drew
                          have hrm := rmul_any Q0 (E d j1) wr.drew hQlt hEd
                          clear HJ hElt hE5 HN1 HQ
                          go_wp2_with fail
                          refine wp_region_last (fun w' => w'.cell? ⟨B, i1, none⟩ = some (.slice (some ⟨G2 i1, 0, none⟩) m (C2 i1)) ∧ w'.cell? ⟨B, d, none⟩ = some (.slice (some ⟨G2 d, 0, none⟩) m (C2 d)) ∧ w'.cell? ⟨G2 i1, j1, none⟩ = some (.int .u8 (E i1 j1 : Int)) ∧ w'.cell? ⟨G2 d, j1, none⟩ = some (.int .u8 (E d j1 : Int))) 23 (by kernel_rfl) ⟨k1, k2, k3, k4⟩ (fun hS => ?_)
                          refine wpAnyL_take (i := 0) (v := ?_) rfl (by kernel_rfl) (by kernel_rfl) (by kernel_rfl) (by kernel_rfl) (fun _ _ _ h => h) hS (Or.inl ⟨by rfl, ?_⟩) ?_
                          case refine_2 => (intro w hSw; (try dsimp only at hSw); go_simp; (try with_reducible rfl))
                          (try simp only [Act.put, List.setIfInBounds_toArray, List.set_cons_zero, List.set_cons_succ])
                          refine wpAnyL_take (i := 1) (v := ?_) rfl (by kernel_rfl) (by kernel_rfl) (by kernel_rfl) (by kernel_rfl) (fun _ _ _ h => h) hS (Or.inl ⟨by rfl, ?_⟩) ?_
                          case refine_2 => (intro w hSw; (try dsimp only at hSw); go_simp; (try with_reducible rfl))
                          (try simp only [Act.put, List.setIfInBounds_toArray, List.set_cons_zero, List.set_cons_succ])
                          refine wpAnyL_take (i := 2) (v := ?_) rfl (by kernel_rfl) (by kernel_rfl) (by kernel_rfl) (by kernel_rfl) (fun _ _ _ h => h) hS (Or.inl ⟨by rfl, ?_⟩) ?_
                          case refine_2 => (intro w hSw; (try dsimp only at hSw); go_simp; (try with_reducible rfl))
                          (try simp only [Act.put, List.setIfInBounds_toArray, List.set_cons_zero, List.set_cons_succ])
                          refine wpAnyL_take (i := 3) (v := ?_) rfl (by kernel_rfl) (by kernel_rfl) (by kernel_rfl) (by kernel_rfl) (fun _ _ _ h => h) hS (Or.inl ⟨by rfl, ?_⟩) ?_
                          case refine_2 => (intro w hSw; (try dsimp only at hSw); go_simp; (try with_reducible rfl))
                          (try simp only [Act.put, List.setIfInBounds_toArray, List.set_cons_zero, List.set_cons_succ])
                          refine wpAnyL_take (i := 4) (v := ?_) rfl (by kernel_rfl) (by kernel_rfl) (by kernel_rfl) (by kernel_rfl) (fun _ _ _ h => h) hS (Or.inl ⟨by rfl, ?_⟩) ?_
                          case refine_2 => (intro w hSw; (try dsimp only at hSw); go_simp; (try with_reducible rfl))
                          (try simp only [Act.put, List.setIfInBounds_toArray, List.set_cons_zero, List.set_cons_succ])
                          refine wpAnyL_take (i := 5) (v := ?_) rfl (by kernel_rfl) (by kernel_rfl) (by kernel_rfl) (by kernel_rfl) (fun _ _ _ h => h) hS (Or.inl ⟨by rfl, ?_⟩) ?_
                          case refine_2 => (intro w hSw; (try dsimp only at hSw); go_simp; (try with_reducible rfl))
                          (try simp only [Act.put, List.setIfInBounds_toArray, List.set_cons_zero, List.set_cons_succ])
                          refine wpAnyL_take (i := 6) (v := ?_) rfl (by kernel_rfl) (by kernel_rfl) (by kernel_rfl) (by kernel_rfl) (fun _ _ _ h => h) hS (Or.inl ⟨by rfl, ?_⟩) ?_
                          case refine_2 => (intro w hSw; (try dsimp only at hSw); go_simp; (try with_reducible rfl))
                          (try simp only [Act.put, List.setIfInBounds_toArray, List.set_cons_zero, List.set_cons_succ])
                          refine wpAnyL_take (i := 7) (v := ?_) rfl (by kernel_rfl) (by kernel_rfl) (by kernel_rfl) (by kernel_rfl) (fun _ _ _ h => h) hS (Or.inl ⟨by rfl, ?_⟩) ?_
                          case refine_2 => (intro w hSw; (try dsimp only at hSw); go_simp; (try with_reducible rfl))
                          (try simp only [Act.put, List.setIfInBounds_toArray, List.set_cons_zero, List.set_cons_succ])
                          refine wpAnyL_take (i := 8) (v := ?_) rfl (by kernel_rfl) (by kernel_rfl) (by kernel_rfl) (by kernel_rfl) (fun _ _ _ h => h) hS (Or.inl ⟨by rfl, ?_⟩) ?_
                          case refine_2 => (intro w hSw; (try dsimp only at hSw); go_simp; (try with_reducible rfl))
                          (try simp only [Act.put, List.setIfInBounds_toArray, List.set_cons_zero, List.set_cons_succ])
                          refine wpAnyL_take (i := 9) (v := ?_) rfl (by kernel_rfl) (by kernel_rfl) (by kernel_rfl) (by kernel_rfl) (fun _ _ _ h => h) hS (Or.inl ⟨by rfl, ?_⟩) ?_
                          case refine_2 => (intro w hSw; (try dsimp only at hSw); go_simp; (try with_reducible rfl))
                          (try simp only [Act.put, List.setIfInBounds_toArray, List.set_cons_zero, List.set_cons_succ])
                          refine wpAnyL_take (i := 10) (v := ?_) rfl (by kernel_rfl) (by kernel_rfl) (by kernel_rfl) (by kernel_rfl) (fun _ _ _ h => h) hS (Or.inl ⟨by rfl, ?_⟩) ?_
                          case refine_2 => (intro w hSw; (try dsimp only at hSw); go_simp; (try with_reducible rfl))
                          (try simp only [Act.put, List.setIfInBounds_toArray, List.set_cons_zero, List.set_cons_succ])
                          refine wpAnyL_take (i := 11) (v := ?_) rfl (by kernel_rfl) (by kernel_rfl) (by kernel_rfl) (by kernel_rfl) (fun _ _ _ h => h) hS (Or.inl ⟨by rfl, ?_⟩) ?_
                          case refine_2 => (intro w hSw; (try dsimp only at hSw); go_simp; (try with_reducible rfl))
                          (try simp only [Act.put, List.setIfInBounds_toArray, List.set_cons_zero, List.set_cons_succ])
                          refine wpAnyL_take (i := 12) (v := ?_) rfl (by kernel_rfl) (by kernel_rfl) (by kernel_rfl) (by kernel_rfl) (fun _ _ _ h => h) hS (Or.inl ⟨by rfl, ?_⟩) ?_
                          case refine_2 => (intro w hSw; (try dsimp only at hSw); go_simp; (try with_reducible rfl))
                          (try simp only [Act.put, List.setIfInBounds_toArray, List.set_cons_zero, List.set_cons_succ])
                          refine wpAnyL_take (i := 13) (v := ?_) rfl (by kernel_rfl) (by kernel_rfl) (by kernel_rfl) (by kernel_rfl) (fun _ _ _ h => h) hS (Or.inl ⟨by rfl, ?_⟩) ?_
                          case refine_2 => (intro w hSw; (try dsimp only at hSw); go_simp; (try with_reducible rfl))
                          (try simp only [Act.put, List.setIfInBounds_toArray, List.set_cons_zero, List.set_cons_succ])
                          refine wpAnyL_take (i := 14) (v := ?_) rfl (by kernel_rfl) (by kernel_rfl) (by kernel_rfl) (by kernel_rfl) (fun _ _ _ h => h) hS (Or.inl ⟨by rfl, ?_⟩) ?_
                          case refine_2 => (intro w hSw; (try dsimp only at hSw); go_simp; (try with_reducible rfl))
                          (try simp only [Act.put, List.setIfInBounds_toArray, List.set_cons_zero, List.set_cons_succ])
                          refine wpAnyL_take (i := 15) (v := ?_) rfl (by kernel_rfl) (by kernel_rfl) (by kernel_rfl) (by kernel_rfl) (fun _ _ _ h => h) hS (Or.inl ⟨by rfl, ?_⟩) ?_
                          case refine_2 => (intro w hSw; (try dsimp only at hSw); go_simp; (try with_reducible rfl))
                          (try simp only [Act.put, List.setIfInBounds_toArray, List.set_cons_zero, List.set_cons_succ])
                          refine wpAnyL_take (i := 16) (v := ?_) rfl (by kernel_rfl) (by kernel_rfl) (by kernel_rfl) (by kernel_rfl) (fun _ _ _ h => h) hS (Or.inl ⟨by rfl, ?_⟩) ?_
                          case refine_2 => (intro w hSw; (try dsimp only at hSw); go_simp; (try with_reducible rfl))
                          (try simp only [Act.put, List.setIfInBounds_toArray, List.set_cons_zero, List.set_cons_succ])
                          refine wpAnyL_take (i := 17) (v := ?_) rfl (by kernel_rfl) (by kernel_rfl) (by kernel_rfl) (by kernel_rfl) (fun _ _ _ h => h) hS (Or.inl ⟨by rfl, ?_⟩) ?_
                          case refine_2 => (intro w hSw; (try dsimp only at hSw); go_simp; (try with_reducible rfl))
                          (try simp only [Act.put, List.setIfInBounds_toArray, List.set_cons_zero, List.set_cons_succ])
                          refine wpAnyL_take (i := 18) (v := ?_) rfl (by kernel_rfl) (by kernel_rfl) (by kernel_rfl) (by kernel_rfl) (fun _ _ _ h => h) hS (Or.inl ⟨by rfl, ?_⟩) ?_
                          case refine_2 => (intro w hSw; (try dsimp only at hSw); go_simp; (try with_reducible rfl))
                          (try simp only [Act.put, List.setIfInBounds_toArray, List.set_cons_zero, List.set_cons_succ])
                          refine wpAnyL_take (i := 19) (v := ?_) rfl (by kernel_rfl) (by kernel_rfl) (by kernel_rfl) (by kernel_rfl) (fun _ _ _ h => h) hS (Or.inl ⟨by rfl, ?_⟩) ?_
                          case refine_2 => (intro w hSw; (try dsimp only at hSw); go_simp; (try with_reducible rfl))
                          (try simp only [Act.put, List.setIfInBounds_toArray, List.set_cons_zero, List.set_cons_succ])
                          refine wpAnyL_one (i := 20) (by kernel_rfl) rfl (fun K hK => ?_)
                          go_simp
                          refine hrm.mono ?_
                          rintro e w' ⟨rfl, rfl⟩
                          refine hK.out _ _ (fun _ => hS) ?_
                          clear hK
                          refine wpAnyL_take (i := 21) (v := ?_) rfl (by kernel_rfl) (by kernel_rfl) (by kernel_rfl) (by kernel_rfl) (fun _ _ _ h => h) hS (Or.inl ⟨by rfl, ?_⟩) ?_
                          case refine_2 => (intro w hSw; (try dsimp only at hSw); go_simp; (try with_reducible rfl))
                          (try simp only [Act.put, List.setIfInBounds_toArray, List.set_cons_zero, List.set_cons_succ])
                          refine wpAnyL_take (i := 22) (v := ?_) rfl (by kernel_rfl) (by kernel_rfl) (by kernel_rfl) (by kernel_rfl) (fun _ _ _ h => h) hS (Or.inl ⟨by rfl, ?_⟩) ?_
                          case refine_2 => (intro w hSw; (try dsimp only at hSw); go_simp; (try with_reducible rfl))
                          (try simp only [Act.put, List.setIfInBounds_toArray, List.set_cons_zero, List.set_cons_succ])
                          refine wpAnyL_one (i := 23) (by kernel_rfl) rfl (fun K2 hK2 => ?_)
                          go_simp
                          refine hK2.out _ _ (fun h => absurd rfl h) ?_
                          refine wpAnyL_done (by kernel_rfl) ?_ _
                          go_wp2_with fail
                          go_roundw
                          case rel => exact ⟨j1 + 1, by omega, by go_num, HN⟩
                          case measure => simp [intOf]; omega
                        · obtain rfl : j1 = m := by omega
                          have HN : Hid (Below w.heap.size w wr ∧ Own w.heap.size wr B t j1 G2 C2 (elimTo E d q (i1 + 1) 0)) := ⟨HJ.out.1, elim_row hElt HJ.out.2⟩
                          clear HJ hElt hE5 HN1
                          go_wp2_with fail
                          go_roundw
                          case rel => exact ⟨i1 + 1, by omega, by omega, by go_num, HN⟩
                          case measure => simp [intOf]; omega
                    · obtain rfl : i1 = t := by omega
                      have HN : Hid (∃ F, rnk i1 f (q + 1) = (d + 1, F) ∧ Rnk w.heap.size w wr B i1 m F) := ⟨_, HN1.out, HI.out.1, G2, C2, elim_end hElt HI.out.2⟩
                      clear HI HN1 hElt hE5
                      go_wp2_with fail
                      go_roundw
                      case rel => exact ⟨q + 1, d + 1, by omega, by omega, by go_num, by go_num, HN⟩
                      case measure => simp [intOf]; omega
                · have hne : (⟨B, d, none⟩ : Addr) ≠ ⟨B, i0, none⟩ := by intro h; injection h with _ h2 _; exact hdi h2
                  have hne' : (⟨B, i0, none⟩ : Addr) ≠ ⟨B, d, none⟩ := fun h => hne h.symm
                  go_wp2_with fail
                  go_region
                  have HX : Hid (∃ G2 C2, Own w.heap.size ((wr.setCell ⟨B, i0, none⟩ (.slice (some ⟨G1 d, 0, none⟩) m (C1 d))).setCell ⟨B, d, none⟩ (.slice (some ⟨G1 i0, 0, none⟩) m (C1 i0))).drew B t m G2 C2 (fun s => F (swp i0 d s))) := own_swapped HO.out h2i (by omega)
                  have HY : Hid (Below w.heap.size w ((wr.setCell ⟨B, i0, none⟩ (.slice (some ⟨G1 d, 0, none⟩) m (C1 d))).setCell ⟨B, d, none⟩ (.slice (some ⟨G1 i0, 0, none⟩) m (C1 i0))).drew) := ((HB.out.setCell HO.out.hb.1 _).setCell HO.out.hb.1 _).drew
                  generalize ((wr.setCell ⟨B, i0, none⟩ (.slice (some ⟨G1 d, 0, none⟩) m (C1 d))).setCell ⟨B, d, none⟩ (.slice (some ⟨G1 i0, 0, none⟩) m (C1 i0))).drew = w2 at HX HY ⊢
                  obtain ⟨E, hE⟩ : ∃ E : Nat → Nat → Nat, E = fun s => F (swp i0 d s) := ⟨_, rfl⟩
                  rw [← hE] at HX
                  have HE : Hid (E = fun s => F (swp i0 d s)) := hE
                  have hE5 : E d q ≠ 0 := by rw [hE]; simpa [swp_comm i0 d, swp_self] using h3i
                  obtain ⟨G2, C2, ho2⟩ := HX.out
                  have hElt := ho2.lt
                  have HA : Hid (Below w.heap.size w w2 ∧ Own w.heap.size w2 B t m G2 C2 (elimTo E d q (d + 1) 0)) := ⟨HY.out, elim_start ho2⟩
                  have HN1 : Hid (rnk t f (q + 1) = (d + 1, elimF E d q)) := by unfold rnk; rw [rnkStep_some (by rw [HF.out]; exact HL.out), HF.out, HE.out]; exact rfl
                  clear HX HY hE ho2 h3i htd hti hfd hfi hne hne' HB HO HL HF HE
                  go_wp2_with fail
                  go_loopw [9] (fun i wr => ∃ i1 : Nat, d + 1 ≤ i1 ∧ i1 ≤ t ∧ i = .int .i64 i1 ∧ Hid (Below w.heap.size w wr ∧ Own w.heap.size wr B t m G2 C2 (elimTo E d q i1 0))) (fun i _ => t - (intOf i).toNat)
                  case atStart => exact ⟨d + 1, Nat.le_refl _, by omega, by go_num, HA⟩
                  case round =>
                    clear HA
                    obtain ⟨i1, hi1, hi2, rfl, HI⟩ := hrel
                    by_cases hlt3 : i1 < t
                    · have hit : (i1 : Int) < (t : Int) := by omega
                      obtain ⟨x2, hx2⟩ : ∃ x2, x2 = wr := ⟨_, rfl⟩
                      subst hx2
                      have c1 := HI.out.2.top i1 hlt3
                      have c2 := HI.out.2.top d (by omega)
                      have c3 : x2.cell? ⟨G2 i1, q, none⟩ = some (.int .u8 (E i1 q : Int)) := by rw [HI.out.2.cell i1 hlt3 q hqlt, elimTo_self E d q i1 0 q (Nat.zero_le _)]
                      have c4 : x2.cell? ⟨G2 d, q, none⟩ = some (.int .u8 (E d q : Int)) := by rw [HI.out.2.cell d (by omega) q hqlt, elimTo_d E d q i1 0 q (by omega)]
                      have hx := hElt i1 q
                      have hy := hElt d q
                      obtain ⟨Q0, hQ0⟩ : ∃ Q0, Q0 = tdiv (E i1 q) (E d q) := ⟨_, rfl⟩
                      have HQ : Hid (Q0 = tmul (E i1 q) (tinv (E d q))) := by rw [hQ0]; unfold tdiv; rw [if_neg hE5]; exact rfl
                      have hQlt : Q0 < 256 := by rw [HQ.out]; exact tmul_lt _ _ hx (tinv_lt _)
                      clear hQ0
                      go_wp2_with fail
                      go_quiet ((go_at_call 30; exact Calls.quiet_of_same (rdiv_at Q0 _ _ _ hx hy hE5 HQ)))
                      go_wp2_with fail
                      have HT0 : Hid (Below w.heap.size w (x2.drewN nq) ∧ Own w.heap.size (x2.drewN nq) B t m G2 C2 (elimTo E d q i1 0)) := ⟨below_drewN' HI.out.1 nq, HI.out.2.drewN nq⟩
                      clear HI c1 c2 c3 c4
                      go_loopw [12] (fun i wr => ∃ j1 : Nat, j1 ≤ m ∧ i = .int .i64 j1 ∧ Hid (Below w.heap.size w wr ∧ Own w.heap.size wr B t m G2 C2 (elimTo E d q i1 j1))) (fun i _ => m - (intOf i).toNat)
                      case atStart => exact ⟨0, by omega, rfl, HT0⟩
                      case round =>
                        clear HT0
                        obtain ⟨j1, hj1, rfl, HJ⟩ := hrel
                        have k1 := HJ.out.2.top i1 hlt3
                        by_cases hlt4 : j1 < m
                        · have hjm : (j1 : Int) < (m : Int) := by omega
                          have k2 := HJ.out.2.top d (by omega)
                          have k3 : wr.cell? ⟨G2 i1, j1, none⟩ = some (.int .u8 (E i1 j1 : Int)) := by rw [HJ.out.2.cell i1 hlt3 j1 hlt4, elimTo_self E d q i1 j1 j1 (Nat.le_refl _)]
                          have k4 : wr.cell? ⟨G2 d, j1, none⟩ = some (.int .u8 (E d j1 : Int)) := by rw [HJ.out.2.cell d (by omega) j1 hlt4, elimTo_d E d q i1 j1 j1 (by omega)]
                          have k5 := HJ.out.2.fG i1 hlt3 j1
                          have hEd := hElt d j1
                          have hEi := hElt i1 j1
                          have hr := rmul_lt _ (E d j1) hQlt
                          have hxo := u8_xor_nat _ _ hEi hr
                          have HN : Hid (Below w.heap.size w (wr.setCell ⟨G2 i1, j1, none⟩ (.int .u8 ((E i1 j1 ^^^ rmul Q0 (E d j1) : Nat) : Int))).drew ∧ Own w.heap.size (wr.setCell ⟨G2 i1, j1, none⟩ (.int .u8 ((E i1 j1 ^^^ rmul Q0 (E d j1) : Nat) : Int))).drew B t m G2 C2 (elimTo E d q i1 (j1 + 1))) := by
                            refine ⟨(HJ.out.1.setCell (HJ.out.2.hG i1 hlt3).1 _).drew, ?_⟩
                            have := elim_step hElt HJ.out.2 hlt3 hlt4 (by omega)
                            rw [← HQ.out, tmul_rmul _ _ hQlt hEd] at this
                            exact this.drew
                          have hrm := rmul_any Q0 (E d j1) wr.drew hQlt hEd
                          clear HJ hElt hE5 HN1 HQ
                          go_wp2_with fail
                          refine wp_region_last (fun w' => w'.cell? ⟨B, i1, none⟩ = some (.slice (some ⟨G2 i1, 0, none⟩) m (C2 i1)) ∧ w'.cell? ⟨B, d, none⟩ = some (.slice (some ⟨G2 d, 0, none⟩) m (C2 d)) ∧ w'.cell? ⟨G2 i1, j1, none⟩ = some (.int .u8 (E i1 j1 : Int)) ∧ w'.cell? ⟨G2 d, j1, none⟩ = some (.int .u8 (E d j1 : Int))) 23 (by kernel_rfl) ⟨k1, k2, k3, k4⟩ (fun hS => ?_)
                          refine wpAnyL_take (i := 0) (v := ?_) rfl (by kernel_rfl) (by kernel_rfl) (by kernel_rfl) (by kernel_rfl) (fun _ _ _ h => h) hS (Or.inl ⟨by rfl, ?_⟩) ?_
                          case refine_2 => (intro w hSw; (try dsimp only at hSw); go_simp; (try with_reducible rfl))
                          (try simp only [Act.put, List.setIfInBounds_toArray, List.set_cons_zero, List.set_cons_succ])
                          refine wpAnyL_take (i := 1) (v := ?_) rfl (by kernel_rfl) (by kernel_rfl) (by kernel_rfl) (by kernel_rfl) (fun _ _ _ h => h) hS (Or.inl ⟨by rfl, ?_⟩) ?_
                          case refine_2 => (intro w hSw; (try dsimp only at hSw); go_simp; (try with_reducible rfl))
                          (try simp only [Act.put, List.setIfInBounds_toArray, List.set_cons_zero, List.set_cons_succ])
                          refine wpAnyL_take (i := 2) (v := ?_) rfl (by kernel_rfl) (by kernel_rfl) (by kernel_rfl) (by kernel_rfl) (fun _ _ _ h => h) hS (Or.inl ⟨by rfl, ?_⟩) ?_
                          case refine_2 => (intro w hSw; (try dsimp only at hSw); go_simp; (try with_reducible rfl))
                          (try simp only [Act.put, List.setIfInBounds_toArray, List.set_cons_zero, List.set_cons_succ])
                          refine wpAnyL_take (i := 3) (v := ?_) rfl (by kernel_rfl) (by kernel_rfl) (by kernel_rfl) (by kernel_rfl) (fun _ _ _ h => h) hS (Or.inl ⟨by rfl, ?_⟩) ?_
                          case refine_2 => (intro w hSw; (try dsimp only at hSw); go_simp; (try with_reducible rfl))
                          (try simp only [Act.put, List.setIfInBounds_toArray, List.set_cons_zero, List.set_cons_succ])
                          refine wpAnyL_take (i := 4) (v := ?_) rfl (by kernel_rfl) (by kernel_rfl) (by kernel_rfl) (by kernel_rfl) (fun _ _ _ h => h) hS (Or.inl ⟨by rfl, ?_⟩) ?_
                          case refine_2 => (intro w hSw; (try dsimp only at hSw); go_simp; (try with_reducible rfl))
                          (try simp only [Act.put, List.setIfInBounds_toArray, List.set_cons_zero, List.set_cons_succ])
                          refine wpAnyL_take (i := 5) (v := ?_) rfl (by kernel_rfl) (by kernel_rfl) (by kernel_rfl) (by kernel_rfl) (fun _ _ _ h => h) hS (Or.inl ⟨by rfl, ?_⟩) ?_
                          case refine_2 => (intro w hSw; (try dsimp only at hSw); go_simp; (try with_reducible rfl))
                          (try simp only [Act.put, List.setIfInBounds_toArray, List.set_cons_zero, List.set_cons_succ])
                          refine wpAnyL_take (i := 6) (v := ?_) rfl (by kernel_rfl) (by kernel_rfl) (by kernel_rfl) (by kernel_rfl) (fun _ _ _ h => h) hS (Or.inl ⟨by rfl, ?_⟩) ?_
                          case refine_2 => (intro w hSw; (try dsimp only at hSw); go_simp; (try with_reducible rfl))
                          (try simp only [Act.put, List.setIfInBounds_toArray, List.set_cons_zero, List.set_cons_succ])
                          refine wpAnyL_take (i := 7) (v := ?_) rfl (by kernel_rfl) (by kernel_rfl) (by kernel_rfl) (by kernel_rfl) (fun _ _ _ h => h) hS (Or.inl ⟨by rfl, ?_⟩) ?_
                          case refine_2 => (intro w hSw; (try dsimp only at hSw); go_simp; (try with_reducible rfl))
                          (try simp only [Act.put, List.setIfInBounds_toArray, List.set_cons_zero, List.set_cons_succ])
                          refine wpAnyL_take (i := 8) (v := ?_) rfl (by kernel_rfl) (by kernel_rfl) (by kernel_rfl) (by kernel_rfl) (fun _ _ _ h => h) hS (Or.inl ⟨by rfl, ?_⟩) ?_
                          case refine_2 => (intro w hSw; (try dsimp only at hSw); go_simp; (try with_reducible rfl))
                          (try simp only [Act.put, List.setIfInBounds_toArray, List.set_cons_zero, List.set_cons_succ])
                          refine wpAnyL_take (i := 9) (v := ?_) rfl (by kernel_rfl) (by kernel_rfl) (by kernel_rfl) (by kernel_rfl) (fun _ _ _ h => h) hS (Or.inl ⟨by rfl, ?_⟩) ?_
                          case refine_2 => (intro w hSw; (try dsimp only at hSw); go_simp; (try with_reducible rfl))
                          (try simp only [Act.put, List.setIfInBounds_toArray, List.set_cons_zero, List.set_cons_succ])
                          refine wpAnyL_take (i := 10) (v := ?_) rfl (by kernel_rfl) (by kernel_rfl) (by kernel_rfl) (by kernel_rfl) (fun _ _ _ h => h) hS (Or.inl ⟨by rfl, ?_⟩) ?_
                          case refine_2 => (intro w hSw; (try dsimp only at hSw); go_simp; (try with_reducible rfl))
                          (try simp only [Act.put, List.setIfInBounds_toArray, List.set_cons_zero, List.set_cons_succ])
                          refine wpAnyL_take (i := 11) (v := ?_) rfl (by kernel_rfl) (by kernel_rfl) (by kernel_rfl) (by kernel_rfl) (fun _ _ _ h => h) hS (Or.inl ⟨by rfl, ?_⟩) ?_
                          case refine_2 => (intro w hSw; (try dsimp only at hSw); go_simp; (try with_reducible rfl))
                          (try simp only [Act.put, List.setIfInBounds_toArray, List.set_cons_zero, List.set_cons_succ])
                          refine wpAnyL_take (i := 12) (v := ?_) rfl (by kernel_rfl) (by kernel_rfl) (by kernel_rfl) (by kernel_rfl) (fun _ _ _ h => h) hS (Or.inl ⟨by rfl, ?_⟩) ?_
                          case refine_2 => (intro w hSw; (try dsimp only at hSw); go_simp; (try with_reducible rfl))
                          (try simp only [Act.put, List.setIfInBounds_toArray, List.set_cons_zero, List.set_cons_succ])
                          refine wpAnyL_take (i := 13) (v := ?_) rfl (by kernel_rfl) (by kernel_rfl) (by kernel_rfl) (by kernel_rfl) (fun _ _ _ h => h) hS (Or.inl ⟨by rfl, ?_⟩) ?_
                          case refine_2 => (intro w hSw; (try dsimp only at hSw); go_simp; (try with_reducible rfl))
                          (try simp only [Act.put, List.setIfInBounds_toArray, List.set_cons_zero, List.set_cons_succ])
                          refine wpAnyL_take (i := 14) (v := ?_) rfl (by kernel_rfl) (by kernel_rfl) (by kernel_rfl) (by kernel_rfl) (fun _ _ _ h => h) hS (Or.inl ⟨by rfl, ?_⟩) ?_
                          case refine_2 => (intro w hSw; (try dsimp only at hSw); go_simp; (try with_reducible rfl))
                          (try simp only [Act.put, List.setIfInBounds_toArray, List.set_cons_zero, List.set_cons_succ])
                          refine wpAnyL_take (i := 15) (v := ?_) rfl (by kernel_rfl) (by kernel_rfl) (by kernel_rfl) (by kernel_rfl) (fun _ _ _ h => h) hS (Or.inl ⟨by rfl, ?_⟩) ?_
                          case refine_2 => (intro w hSw; (try dsimp only at hSw); go_simp; (try with_reducible rfl))
                          (try simp only [Act.put, List.setIfInBounds_toArray, List.set_cons_zero, List.set_cons_succ])
                          refine wpAnyL_take (i := 16) (v := ?_) rfl (by kernel_rfl) (by kernel_rfl) (by kernel_rfl) (by kernel_rfl) (fun _ _ _ h => h) hS (Or.inl ⟨by rfl, ?_⟩) ?_
                          case refine_2 => (intro w hSw; (try dsimp only at hSw); go_simp; (try with_reducible rfl))
                          (try simp only [Act.put, List.setIfInBounds_toArray, List.set_cons_zero, List.set_cons_succ])
                          refine wpAnyL_take (i := 17) (v := ?_) rfl (by kernel_rfl) (by kernel_rfl) (by kernel_rfl) (by kernel_rfl) (fun _ _ _ h => h) hS (Or.inl ⟨by rfl, ?_⟩) ?_
                          case refine_2 => (intro w hSw; (try dsimp only at hSw); go_simp; (try with_reducible rfl))
                          (try simp only [Act.put, List.setIfInBounds_toArray, List.set_cons_zero, List.set_cons_succ])
                          refine wpAnyL_take (i := 18) (v := ?_) rfl (by kernel_rfl) (by kernel_rfl) (by kernel_rfl) (by kernel_rfl) (fun _ _ _ h => h) hS (Or.inl ⟨by rfl, ?_⟩) ?_
                          case refine_2 => (intro w hSw; (try dsimp only at hSw); go_simp; (try with_reducible rfl))
                          (try simp only [Act.put, List.setIfInBounds_toArray, List.set_cons_zero, List.set_cons_succ])
                          refine wpAnyL_take (i := 19) (v := ?_) rfl (by kernel_rfl) (by kernel_rfl) (by kernel_rfl) (by kernel_rfl) (fun _ _ _ h => h) hS (Or.inl ⟨by rfl, ?_⟩) ?_
                          case refine_2 => (intro w hSw; (try dsimp only at hSw); go_simp; (try with_reducible rfl))
                          (try simp only [Act.put, List.setIfInBounds_toArray, List.set_cons_zero, List.set_cons_succ])
                          refine wpAnyL_one (i := 20) (by kernel_rfl) rfl (fun K hK => ?_)
                          go_simp
                          refine hrm.mono ?_
                          rintro e w' ⟨rfl, rfl⟩
                          refine hK.out _ _ (fun _ => hS) ?_
                          clear hK
                          refine wpAnyL_take (i := 21) (v := ?_) rfl (by kernel_rfl) (by kernel_rfl) (by kernel_rfl) (by kernel_rfl) (fun _ _ _ h => h) hS (Or.inl ⟨by rfl, ?_⟩) ?_
                          case refine_2 => (intro w hSw; (try dsimp only at hSw); go_simp; (try with_reducible rfl))
                          (try simp only [Act.put, List.setIfInBounds_toArray, List.set_cons_zero, List.set_cons_succ])
                          refine wpAnyL_take (i := 22) (v := ?_) rfl (by kernel_rfl) (by kernel_rfl) (by kernel_rfl) (by kernel_rfl) (fun _ _ _ h => h) hS (Or.inl ⟨by rfl, ?_⟩) ?_
                          case refine_2 => (intro w hSw; (try dsimp only at hSw); go_simp; (try with_reducible rfl))
                          (try simp only [Act.put, List.setIfInBounds_toArray, List.set_cons_zero, List.set_cons_succ])
                          refine wpAnyL_one (i := 23) (by kernel_rfl) rfl (fun K2 hK2 => ?_)
                          go_simp
                          refine hK2.out _ _ (fun h => absurd rfl h) ?_
                          refine wpAnyL_done (by kernel_rfl) ?_ _
                          go_wp2_with fail
                          go_roundw
                          case rel => exact ⟨j1 + 1, by omega, by go_num, HN⟩
                          case measure => simp [intOf]; omega
                        · obtain rfl : j1 = m := by omega
                          have HN : Hid (Below w.heap.size w wr ∧ Own w.heap.size wr B t j1 G2 C2 (elimTo E d q (i1 + 1) 0)) := ⟨HJ.out.1, elim_row hElt HJ.out.2⟩
                          clear HJ hElt hE5 HN1
                          go_wp2_with fail
                          go_roundw
                          case rel => exact ⟨i1 + 1, by omega, by omega, by go_num, HN⟩
                          case measure => simp [intOf]; omega
                    · obtain rfl : i1 = t := by omega
                      have HN : Hid (∃ F, rnk i1 f (q + 1) = (d + 1, F) ∧ Rnk w.heap.size w wr B i1 m F) := ⟨_, HN1.out, HI.out.1, G2, C2, elim_end hElt HI.out.2⟩
                      clear HI HN1 hElt hE5
                      go_wp2_with fail
                      go_roundw
                      case rel => exact ⟨q + 1, d + 1, by omega, by omega, by go_num, by go_num, HN⟩
                      case measure => simp [intOf]; omega
        · obtain rfl : q = m := by omega
          clear hf
          go_wp2_with fail
          go_ret
          rw [HF.out]
          exact ⟨rfl, HB.out⟩

end Go.Proofs.Ytkdjjmjfpembpaa

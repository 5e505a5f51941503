/-
  What the inner readRecords of package journal does: a contract over plain numbers ('JoPlain').
  Conditions: the sectors lie in memory, one behind the other.
-/
import Derived.Test.YthfpljfndnjcnaaJoRec
namespace Go.Proofs.Ythfpljfndnjcnaa
open Go.RowKit By Dk Su Jo
set_option linter.unusedVariables false
set_option linter.unusedSimpArgs false

theorem readrec_yes (n a c l r cc : Nat) (x : Option Addr) (F : Nat → Nat) (w : World) (hF : ∀ i, F i < 256) (hn : n ≤ 4096) (ha : a ≤ n) (hr : r < 4294967296) (h : Rest w x l c n a F) (hcc : Rec OkP (vs F) n a r cc) :
    Calls Try.prog 45 #[.slice x l c, .int .u32 (r : Int)] w fun e w' => ∃ y cy, e = .returned (.tuple #[.agg #[.int .i64 (genS (vs F a) : Int), .int .i64 (cc : Int), .slice y (rlen (vs F) a cc) cy], .bool true]) ∧ Below w.heap.size w w' ∧ Elt w' y (rlen (vs F) a cc) cy (rbyte (vs F) a) ∧ ∀ ad, y = some ad → w.heap.size ≤ ad.block :=
  (readrec_any n a c l r x F w hF hn ha hr h).mono fun e w' ⟨h1, h2⟩ => by
    rcases h2 with ⟨c', y, cy, k1, k2, k3, k4⟩ | ⟨k1, _⟩
    · obtain rfl := hcc.uniq k1
      exact ⟨y, cy, k2, h1, k3, k4⟩
    · exact absurd hcc (k1 cc)

theorem readrec_no (n a c l r : Nat) (x : Option Addr) (F : Nat → Nat) (w : World) (hF : ∀ i, F i < 256) (hn : n ≤ 4096) (ha : a ≤ n) (hr : r < 4294967296) (h : Rest w x l c n a F) (hcc : ∀ cc, ¬ Rec OkP (vs F) n a r cc) :
    Calls Try.prog 45 #[.slice x l c, .int .u32 (r : Int)] w fun e w' => e = .returned (.tuple #[.agg #[.int .i64 0, .int .i64 0, .slice none 0 0], .bool false]) ∧ Below w.heap.size w w' :=
  (readrec_any n a c l r x F w hF hn ha hr h).mono fun e w' ⟨h1, h2⟩ => by
    rcases h2 with ⟨c', y, cy, k1, _⟩ | ⟨_, k2⟩
    · exact absurd k1 (hcc c')
    · exact ⟨k2, h1⟩

def lnOf (S : Nat → Nat → Nat) (st : Nat → Nat) : Nat → Nat := fun i => rlen S (st i) (st (i + 1) - st i)
def ftOf (S : Nat → Nat → Nat) (st : Nat → Nat) : Nat → Nat → Nat := fun i => rbyte S (st i)

structure Rds (w wr : World) (S : Nat → Nat → Nat) (n m : Nat) (st : Nat → Nat) (R : Value) (A : Nat → Option Addr) (C : Nat → Nat) : Prop where
  run : Run OkP S n m st
  own : OwnG wr w.heap.size R m A (lnOf S st) C (ftOf S st)
  bel : Below w.heap.size w wr
  far : ∀ i, i < m → ∀ ad, A i = some ad → w.heap.size ≤ ad.block

theorem rds_push {w wr v : World} {S : Nat → Nat → Nat} {n m c cy : Nat} {st : Nat → Nat} {R : Value} {A : Nat → Option Addr} {C : Nat → Nat} {y : Option Addr} (h : Rds w wr S n m st R A C) (hb : Below wr.heap.size wr v) (hlt : ∀ k j, S k j < 256)
    (hr : Rec OkP S n (st m) (m + 1) c) (hg : bef S st m ≤ genS (S (st m))) (he : Elt v y (rlen S (st m) c) cy (rbyte S (st m))) (hy : ∀ ad, y = some ad → wr.heap.size ≤ ad.block) (hm : m ≤ 4096) :
    ∃ x' c' w', (Builtin.append_ #[38, 38] 38 #[R, .slice (some ⟨v.heap.size, 0, none⟩) 1 1]).run Try.prog (v.alloc (.cells #[.slice y (rlen S (st m) c) cy] 31)) = .ok (.slice x' (m + 1) c') w' ∧
      (∀ g j u, g < v.heap.size → wr.heap.size ≤ g → v.cell? ⟨g, j, none⟩ = some u → w'.cell? ⟨g, j, none⟩ = some u) ∧ Hid (Rds w w' S n (m + 1) (stx st m c) (.slice x' (m + 1) c') (ext A m y) (ext C m cy)) := by
  have hRlt := h.own.olt
  obtain ⟨x', c', w', hrun, ho, T, hR'⟩ := (h.own.below hb).push (Nat.le_trans h.bel.size hb.size) he (fun ad e hg => by have := hRlt _ hg; have := hy ad e; omega) (by omega)
  refine ⟨x', c', w', hrun, fun g j u h1 h2 h3 => ?_, h.run.push hr hg, ho.congr fun i hi => ⟨rfl, ?_, rfl, fun j hj => ?_, fun j => hlt _ _⟩, ?_, fun i hi ad ha => ?_⟩
  · rw [World.cell?_of_block (a := ⟨g, j, none⟩) (T.block g h1 (fun e => by have := hRlt _ e; omega))]
    exact h3
  · unfold lnOf
    by_cases e : i < m
    · rw [ext_old _ _ _ e, stx_old _ _ (by omega), stx_old _ _ (by omega)]
    · obtain rfl : i = m := by omega
      rw [ext_new, stx_new, stx_old _ _ (Nat.le_refl _), Nat.add_sub_cancel_left]
  · unfold ftOf
    by_cases e : i < m
    · rw [ext_old _ _ _ e, stx_old _ _ (by omega)]
    · obtain rfl : i = m := by omega
      rw [ext_new, stx_old _ _ (Nat.le_refl _)]
  · exact (h.bel.trans (hb.mono h.bel.size)).trans (T.below (fun k hk => h.own.ob k hk) (Nat.le_trans h.bel.size hb.size))
  · by_cases e : i < m
    · rw [ext_old _ _ _ e] at ha
      exact h.far i e ad ha
    · obtain rfl : i = m := by omega
      rw [ext_new] at ha
      have := hy ad ha
      have := h.bel.size
      omega

theorem Rds.below {w wr v : World} {S : Nat → Nat → Nat} {n m : Nat} {st : Nat → Nat} {R : Value} {A : Nat → Option Addr} {C : Nat → Nat} (h : Rds w wr S n m st R A C) (hb : Below wr.heap.size wr v) : Rds w v S n m st R A C :=
  ⟨h.run, h.own.below hb, h.bel.trans (hb.mono h.bel.size), h.far⟩

set_option maxHeartbeats 1500000 in
set_option maxRecDepth 100000 in
theorem recs_any (n c l b o : Nat) (F : Nat → Nat) (w : World) (hF : ∀ i, F i < 256) (hn : n ≤ 4096) (h : Rest w (some ⟨b, o, none⟩) l c n 0 F) :
    Calls Try.prog 31 #[.slice (some ⟨b, o, none⟩) l c] w fun e w' => ∃ m st R A C, e = .returned (.tuple #[R, .int .i64 (st m : Int)]) ∧ Recs OkP (vs F) n m st ∧ Rds w w' (vs F) n m st R A C := by
  have hlc := h.le
  have HL0 := hid h.len
  have hl9 : l ≤ 262144 := by have := h.len; omega
  have hcut : ∀ u, u ≤ n → (64 * u < c → Rest w (some ⟨b, o + 64 * u, none⟩) (l - 64 * u) (c - 64 * u) n u F) ∧ (64 * u = c → Rest w (some ⟨b, o, none⟩) (l - 64 * u) (c - 64 * u) n u F) := fun u hu => by
    have hl := h.len
    refine ⟨fun hc => ⟨by omega, by omega, ?_⟩, fun hc => ⟨by omega, by omega, .inl (by omega)⟩⟩
    have := row_drop (b := b) (o := o) (n := l - 64 * u) (m := 64 * u) (f := fun i => F (64 * 0 + i)) (w := w) (by rw [show 64 * u + (l - 64 * u) = l by omega]; exact h.row)
    exact this.congr fun i hi => by congr 1; omega
  have HC := hid hcut
  have HF := hid hF
  clear h hcut hF
  go_enter Try.func31, Try.ntmps31
  go_wp2_with fail
  go_loopw [4, 5, 6] (fun out used least wr => ∃ (m u L : Nat) (x : Option Addr) (cx : Nat), m ≤ n ∧ u ≤ n ∧ L < 65536 ∧ out = .slice x m cx ∧ used = .int .i64 u ∧ least = .int .i64 L ∧ Hid (∃ st A C, Rds w wr (vs F) n m st (.slice x m cx) A C ∧ u = st m ∧ L = bef (vs F) st m)) (fun _ u _ _ => n - (intOf u).toNat)
  case atStart => exact ⟨0, 0, 0, none, 0, by omega, by omega, by omega, rfl, rfl, rfl, fun _ => 0, fun _ => none, fun _ => 0, ⟨⟨rfl, fun i hi => by omega, fun i hi => by omega, fun i hi => by omega⟩, OwnG.none w w.heap.size _ _ _ _, Below.refl _ _, fun i hi => by omega⟩, rfl, rfl⟩
  case round =>
    obtain ⟨m, u, L, x, cx, hm, hu, hL, rfl, rfl, rfl, HR⟩ := hrel
    obtain ⟨st, A, C, hds, hu2, hL2⟩ := HR.out
    obtain ⟨hrestA, hrestB⟩ := HC.out u hu
    obtain ⟨d, hd⟩ : ∃ d, d = 64 * u := ⟨_, rfl⟩
    rw [← hd] at hrestA hrestB
    have hdi : (u : Int) * 64 = (d : Int) := by omega
    have hd9 : d ≤ 262144 := by omega
    have hdl : d ≤ l := by have := HL0.out; omega
    have hrestA' := fun hc => (hrestA hc).below hds.bel
    have hrestB' := fun hc => (hrestB hc).below hds.bel
    obtain ⟨r1, hr1⟩ : ∃ r1, r1 = m + 1 := ⟨_, rfl⟩
    have hri : (m : Int) + 1 = (r1 : Int) := by omega
    have hr9 : r1 ≤ 4097 := by omega
    have hrw : IntKind.u32.wrap (r1 : Int) = (r1 : Int) := by rw [IntKind.wrap_u32']; omega
    have HD := hid hds
    have HU := hid hu2
    have HL := hid hL2
    have HR1 := hid hr1
    by_cases hex : ∃ cc, Rec OkP (vs F) n u r1 cc
    · obtain ⟨cc, hcc⟩ := hex
      have hdc : d < c := by have := HL0.out; have := hcc.fits; have := hcc.pos; omega
      have hne : ¬ c = d := by omega
      have hrr := readrec_yes n u (c - d) (l - d) r1 cc (some ⟨b, o + d, none⟩) F wr HF.out hn hu (by omega) (hrestA' hdc) hcc
      have hgl := gen_lt (vs_lt HF.out u)
      have hfits := hcc.fits
      have hpos := hcc.pos
      obtain ⟨u', hu'⟩ : ∃ u', u' = u + cc := ⟨_, rfl⟩
      have hui : (u : Int) + (cc : Int) = (u' : Int) := by omega
      have HU' := hid hu'
      obtain ⟨g, hg⟩ : ∃ g, g = genS (vs F u) := ⟨_, rfl⟩
      have HG := hid hg
      rw [← hg] at hrr hgl
      have HCC := hid hcc
      obtain ⟨ll, hll⟩ : ∃ ll, ll = rlen (vs F) u cc := ⟨_, rfl⟩
      have HLL := hid hll
      rw [← hll] at hrr
      clear hds hu2 hL2 hrestA hrestB hrestA' hrestB' hd hr1 hcc hu' hg hll HR
      by_cases hlt : g < L
      · have hlt' : (g : Int) < (L : Int) := by omega
        go_wp2_with (first
          | (go_at_call 45; refine hrr.mono ?_; rintro e w1 ⟨y, cy, rfl, hb1, helt, hy⟩; clear hrr
             have HB1 := hid hb1
             clear hb1 helt hy))
        go_ret2
        refine ⟨m, st, _, A, C, by rw [← HU.out]; rfl, ⟨HD.out.run, fun c hc => ?_⟩, HD.out.below (HB1.out.alloc HB1.out.size _)⟩
        rw [← HU.out, ← HG.out, ← HL.out]
        exact hlt
      · have hlt' : ¬ (g : Int) < (L : Int) := by omega
        have HR2 : Hid (m + 1 ≤ n) := by
          have h1 := HD.out.run.count m (Nat.le_refl _)
          rw [← HU.out] at h1
          exact show m + 1 ≤ n by omega
        have HPUSH : Hid (∀ (v : World) (y : Option Addr) (cy : Nat), Below wr.heap.size wr v → Elt v y ll cy (rbyte (vs F) u) → (∀ ad, y = some ad → wr.heap.size ≤ ad.block) →
            ∃ x' c' w', (Builtin.append_ #[38, 38] 38 #[.slice x m cx, .slice (some ⟨v.heap.size, 0, none⟩) 1 1]).run Try.prog (v.alloc (.cells #[.slice y ll cy] 31)) = .ok (.slice x' r1 c') w' ∧
              (∀ g j u, g < v.heap.size → wr.heap.size ≤ g → v.cell? ⟨g, j, none⟩ = some u → w'.cell? ⟨g, j, none⟩ = some u) ∧ Hid (∃ st A C, Rds w w' (vs F) n r1 st (.slice x' r1 c') A C ∧ u' = st r1 ∧ g = bef (vs F) st r1)) := fun v y cy hb he hy => by
          rw [HLL.out, HU.out] at he
          obtain ⟨x', c', w', e1, e2, e3⟩ := rds_push HD.out hb (vs_lt HF.out) (by rw [← HU.out, ← HR1.out]; exact HCC.out) (by rw [← HL.out, ← HU.out, ← HG.out]; omega) he hy (by omega)
          rw [HLL.out, HU.out, HR1.out]
          refine ⟨x', c', w', e1, e2, _, _, _, e3.out, ?_, ?_⟩
          · rw [stx_new, HU'.out, HU.out]
          · unfold bef
            rw [if_neg (by omega), Nat.add_sub_cancel, stx_old _ _ (Nat.le_refl _), HG.out, HU.out]
        go_wp2_with (first
          | (go_at_call 45; refine hrr.mono ?_; rintro e w1 ⟨y, cy, rfl, hb1, helt, hy⟩; clear hrr
             have hb2 : Below wr.heap.size wr (w1.alloc (.cells #[.int .i64 (g : Int), .int .i64 (cc : Int), .slice y ll cy] 88)) := hb1.alloc hb1.size _
             obtain ⟨xA, cA, w4, hap, hkeep, HN⟩ := HPUSH.out _ y cy hb2 (helt.below ((Below.refl _ _).alloc (Nat.le_refl _) _)) hy
             have k0 := hkeep w1.heap.size 0 (.int .i64 (g : Int)) (by simp) hb1.size (by simp)
             have k1 := hkeep w1.heap.size 1 (.int .i64 (cc : Int)) (by simp) hb1.size (by simp)
             have es : (w1.alloc (.cells #[.int .i64 (g : Int), .int .i64 (cc : Int), .slice y ll cy] 88)).heap.size = w1.heap.size + 1 := by simp
             rw [es] at hap
             clear hb1 helt hy hb2 hkeep es)
          | (at_builtin; refine wpList_append_run rfl _ _ 38 rfl _ _ rfl rfl hap ?_; clear hap))
        go_roundw
        case rel => exact ⟨r1, u', g, xA, cA, by have := HR1.out; have := HR2.out; omega, by have := HU'.out; omega, hgl, rfl, rfl, rfl, HN.out⟩
        case measure => simp [intOf]; omega
    · have HNO : Hid (∀ cc, ¬ Rec OkP (vs F) n u r1 cc) := fun cc h => hex ⟨cc, h⟩
      have HEND : Hid (Recs OkP (vs F) n m st) := ⟨hds.run, fun c hc => absurd (by rw [hr1, hu2]; exact hc) (HNO.out c)⟩
      by_cases hdc : d < c
      · have hrr := readrec_no n u (c - d) (l - d) r1 (some ⟨b, o + d, none⟩) F wr HF.out hn hu (by omega) (hrestA' hdc) HNO.out
        have hne : ¬ c = d := by omega
        clear hds hu2 hL2 hrestA hrestB hrestA' hrestB' hd hr1 HR hex
        go_wp2_with (first
          | (go_at_call 45; refine hrr.mono ?_; rintro e w1 ⟨rfl, hb1⟩; clear hrr
             have HB1 := hid hb1
             clear hb1))
        go_ret2
        exact ⟨m, st, _, A, C, by rw [← HU.out]; rfl, HEND.out, HD.out.below (HB1.out.alloc HB1.out.size _)⟩
      · have hce : c = d := by omega
        have hle : l = d := by omega
        have hrr := readrec_no n u (c - d) (l - d) r1 (some ⟨b, o, none⟩) F wr HF.out hn hu (by omega) (hrestB' hce.symm) HNO.out
        rw [show c - d = 0 by omega, show l - d = 0 by omega] at hrr
        clear hds hu2 hL2 hrestA hrestB hrestA' hrestB' hd hr1 HR hex hdc HC HL0
        subst hce
        subst hle
        clear hlc hdl
        go_wp2_with (first
          | (go_at_call 45; refine hrr.mono ?_; rintro e w1 ⟨rfl, hb1⟩; clear hrr
             have HB1 := hid hb1
             clear hb1))
        go_ret2
        exact ⟨m, st, _, A, C, by rw [← HU.out]; rfl, HEND.out, HD.out.below (HB1.out.alloc HB1.out.size _)⟩

end Go.Proofs.Ythfpljfndnjcnaa

/-
  4 texts of this proof, one behind the other: JoRecs, JoOpen, JoSect, JoParts.
-/
import Derived.Test.YtbbjklenpgkooaaGreatJ06
import Derived.Laws.MakeOwn
import Derived.Laws.Bits128
/-
  What the inner readRecords of package journal does: a contract over plain numbers ('JoPlain').
  Conditions: the sectors lie in memory, one behind the other.
-/
namespace Go.Proofs.YtbbjklenpgkooaaGreat
open Go.RowKit By Dk Su Jo
set_option linter.unusedVariables false
set_option linter.unusedSimpArgs false
set_option maxRecDepth 100000

theorem readrec_yes (n a c l r cc : Nat) (x : Option Addr) (F : Nat → Nat) (w : World) (hF : ∀ i, F i < 256) (hn : n ≤ 4096) (ha : a ≤ n) (hr : r < 4294967296) (h : Rest w x l c n a F) (hcc : Rec OkP (vs F) n a r cc) :
    Calls Tryz.prog 81 #[.slice x l c, .int .u32 (r : Int)] w fun e w' => ∃ y cy, e = .returned (.tuple #[.agg #[.int .i64 (genS (vs F a) : Int), .int .i64 (cc : Int), .slice y (rlen (vs F) a cc) cy], .bool true]) ∧ Below w.heap.size w w' ∧ Elt w' y (rlen (vs F) a cc) cy (rbyte (vs F) a) ∧ ∀ ad, y = some ad → w.heap.size ≤ ad.block :=
  (readrec_any n a c l r x F w hF hn ha hr h).mono fun e w' ⟨h1, h2⟩ => by
    rcases h2 with ⟨c', y, cy, k1, k2, k3, k4⟩ | ⟨k1, _⟩
    · obtain rfl := hcc.uniq k1
      exact ⟨y, cy, k2, h1, k3, k4⟩
    · exact absurd hcc (k1 cc)

theorem readrec_no (n a c l r : Nat) (x : Option Addr) (F : Nat → Nat) (w : World) (hF : ∀ i, F i < 256) (hn : n ≤ 4096) (ha : a ≤ n) (hr : r < 4294967296) (h : Rest w x l c n a F) (hcc : ∀ cc, ¬ Rec OkP (vs F) n a r cc) :
    Calls Tryz.prog 81 #[.slice x l c, .int .u32 (r : Int)] w fun e w' => e = .returned (.tuple #[.agg #[.int .i64 0, .int .i64 0, .slice none 0 0], .bool false]) ∧ Below w.heap.size w w' :=
  (readrec_any n a c l r x F w hF hn ha hr h).mono fun e w' ⟨h1, h2⟩ => by
    rcases h2 with ⟨c', y, cy, k1, _⟩ | ⟨_, k2⟩
    · exact absurd k1 (hcc c')
    · exact ⟨k2, h1⟩

def lnOf (S : Nat → Nat → Nat) (st : Nat → Nat) : Nat → Nat := fun i => rlen S (st i) (st (i + 1) - st i)
def ftOf (S : Nat → Nat → Nat) (st : Nat → Nat) : Nat → Nat → Nat := fun i => rbyte S (st i)

structure Rds (w wr : World) (S : Nat → Nat → Nat) (n m : Nat) (st : Nat → Nat) (R : Value) (A : Nat → Option Addr) (C : Nat → Nat) : Prop where
  run : Run OkP S n m st
  own : OwnG wr w.heap.size R m A (lnOf S st) C (ftOf S st)
  bel : Below w.heap.size w wr
  far : ∀ i, i < m → ∀ ad, A i = some ad → w.heap.size ≤ ad.block

theorem rds_push {w wr v : World} {S : Nat → Nat → Nat} {n m c cy : Nat} {st : Nat → Nat} {R : Value} {A : Nat → Option Addr} {C : Nat → Nat} {y : Option Addr} (h : Rds w wr S n m st R A C) (hb : Below wr.heap.size wr v) (hlt : ∀ k j, S k j < 256)
    (hr : Rec OkP S n (st m) (m + 1) c) (hg : bef S st m ≤ genS (S (st m))) (he : Elt v y (rlen S (st m) c) cy (rbyte S (st m))) (hy : ∀ ad, y = some ad → wr.heap.size ≤ ad.block) (hm : m ≤ 4096) :
    ∃ x' c' w', (Builtin.append_ #[46, 46] 46 #[R, .slice (some ⟨v.heap.size, 0, none⟩) 1 1]).run Tryz.prog (v.alloc (.cells #[.slice y (rlen S (st m) c) cy] 22)) = .ok (.slice x' (m + 1) c') w' ∧
      (∀ g j u, g < v.heap.size → wr.heap.size ≤ g → v.cell? ⟨g, j, none⟩ = some u → w'.cell? ⟨g, j, none⟩ = some u) ∧ Hid (Rds w w' S n (m + 1) (stx st m c) (.slice x' (m + 1) c') (ext A m y) (ext C m cy)) := by
  have hRlt := h.own.olt
  obtain ⟨x', c', w', hrun, ho, T, hR'⟩ := (h.own.below hb).push (Nat.le_trans h.bel.size hb.size) he (fun ad e hg => by have := hRlt _ hg; have := hy ad e; omega) (by omega)
  refine ⟨x', c', w', hrun, fun g j u h1 h2 h3 => ?_, h.run.push hr hg, ho.congr fun i hi => ⟨rfl, ?_, rfl, fun j hj => ?_, fun j => hlt _ _⟩, ?_, fun i hi ad ha => ?_⟩
  · rw [World.cell?_of_block (a := ⟨g, j, none⟩) (T.block g h1 (fun e => by have := hRlt _ e; omega))]
    exact h3
  · unfold lnOf
    by_cases e : i < m
    · rw [ext_old _ _ _ e, stx_old _ _ (by omega), stx_old _ _ (by omega)]
    · obtain rfl : i = m := by omega
      rw [ext_new, stx_new, stx_old _ _ (Nat.le_refl _), Nat.add_sub_cancel_left]
  · unfold ftOf
    by_cases e : i < m
    · rw [ext_old _ _ _ e, stx_old _ _ (by omega)]
    · obtain rfl : i = m := by omega
      rw [ext_new, stx_old _ _ (Nat.le_refl _)]
  · exact (h.bel.trans (hb.mono h.bel.size)).trans (T.below (fun k hk => h.own.ob k hk) (Nat.le_trans h.bel.size hb.size))
  · by_cases e : i < m
    · rw [ext_old _ _ _ e] at ha
      exact h.far i e ad ha
    · obtain rfl : i = m := by omega
      rw [ext_new] at ha
      have := hy ad ha
      have := h.bel.size
      omega

theorem Rds.below {w wr v : World} {S : Nat → Nat → Nat} {n m : Nat} {st : Nat → Nat} {R : Value} {A : Nat → Option Addr} {C : Nat → Nat} (h : Rds w wr S n m st R A C) (hb : Below wr.heap.size wr v) : Rds w v S n m st R A C :=
  ⟨h.run, h.own.below hb, h.bel.trans (hb.mono h.bel.size), h.far⟩

set_option maxHeartbeats 1500000 in
set_option maxRecDepth 100000 in
theorem recs_any (n c l b o : Nat) (F : Nat → Nat) (w : World) (hF : ∀ i, F i < 256) (hn : n ≤ 4096) (h : Rest w (some ⟨b, o, none⟩) l c n 0 F) :
    Calls Tryz.prog 61 #[.slice (some ⟨b, o, none⟩) l c] w fun e w' => ∃ m st R A C, e = .returned (.tuple #[R, .int .i64 (st m : Int)]) ∧ Recs OkP (vs F) n m st ∧ Rds w w' (vs F) n m st R A C := by
  have hlc := h.le
  have HL0 := hid h.len
  have hl9 : l ≤ 262144 := by have := h.len; omega
  have hcut : ∀ u, u ≤ n → (64 * u < c → Rest w (some ⟨b, o + 64 * u, none⟩) (l - 64 * u) (c - 64 * u) n u F) ∧ (64 * u = c → Rest w (some ⟨b, o, none⟩) (l - 64 * u) (c - 64 * u) n u F) := fun u hu => by
    have hl := h.len
    refine ⟨fun hc => ⟨by omega, by omega, ?_⟩, fun hc => ⟨by omega, by omega, .inl (by omega)⟩⟩
    have := row_drop (b := b) (o := o) (n := l - 64 * u) (m := 64 * u) (f := fun i => F (64 * 0 + i)) (w := w) (by rw [show 64 * u + (l - 64 * u) = l by omega]; exact h.row)
    exact this.congr fun i hi => by congr 1; omega
  have HC := hid hcut
  have HF := hid hF
  clear h hcut hF
  go_enter Tryz.func61, Tryz.ntmps61
  go_wp2_with fail
  go_loopw [4, 5, 6] (fun out used least wr => ∃ (m u L : Nat) (x : Option Addr) (cx : Nat), m ≤ n ∧ u ≤ n ∧ L < 65536 ∧ out = .slice x m cx ∧ used = .int .i64 u ∧ least = .int .i64 L ∧ Hid (∃ st A C, Rds w wr (vs F) n m st (.slice x m cx) A C ∧ u = st m ∧ L = bef (vs F) st m)) (fun _ u _ _ => n - (intOf u).toNat)
  case atStart => exact ⟨0, 0, 0, none, 0, by omega, by omega, by omega, rfl, rfl, rfl, fun _ => 0, fun _ => none, fun _ => 0, ⟨⟨rfl, fun i hi => by omega, fun i hi => by omega, fun i hi => by omega⟩, OwnG.none w w.heap.size _ _ _ _, Below.refl _ _, fun i hi => by omega⟩, rfl, rfl⟩
  case round =>
    obtain ⟨m, u, L, x, cx, hm, hu, hL, rfl, rfl, rfl, HR⟩ := hrel
    obtain ⟨st, A, C, hds, hu2, hL2⟩ := HR.out
    obtain ⟨hrestA, hrestB⟩ := HC.out u hu
    obtain ⟨d, hd⟩ : ∃ d, d = 64 * u := ⟨_, rfl⟩
    rw [← hd] at hrestA hrestB
    have hdi : (u : Int) * 64 = (d : Int) := by omega
    have hd9 : d ≤ 262144 := by omega
    have hdl : d ≤ l := by have := HL0.out; omega
    have hrestA' := fun hc => (hrestA hc).below hds.bel
    have hrestB' := fun hc => (hrestB hc).below hds.bel
    obtain ⟨r1, hr1⟩ : ∃ r1, r1 = m + 1 := ⟨_, rfl⟩
    have hri : (m : Int) + 1 = (r1 : Int) := by omega
    have hr9 : r1 ≤ 4097 := by omega
    have hrw : IntKind.u32.wrap (r1 : Int) = (r1 : Int) := by rw [IntKind.wrap_u32']; omega
    have HD := hid hds
    have HU := hid hu2
    have HL := hid hL2
    have HR1 := hid hr1
    by_cases hex : ∃ cc, Rec OkP (vs F) n u r1 cc
    · obtain ⟨cc, hcc⟩ := hex
      have hdc : d < c := by have := HL0.out; have := hcc.fits; have := hcc.pos; omega
      have hne : ¬ c = d := by omega
      have hrr := readrec_yes n u (c - d) (l - d) r1 cc (some ⟨b, o + d, none⟩) F wr HF.out hn hu (by omega) (hrestA' hdc) hcc
      have hgl := gen_lt (vs_lt HF.out u)
      have hfits := hcc.fits
      have hpos := hcc.pos
      obtain ⟨u', hu'⟩ : ∃ u', u' = u + cc := ⟨_, rfl⟩
      have hui : (u : Int) + (cc : Int) = (u' : Int) := by omega
      have HU' := hid hu'
      obtain ⟨g, hg⟩ : ∃ g, g = genS (vs F u) := ⟨_, rfl⟩
      have HG := hid hg
      rw [← hg] at hrr hgl
      have HCC := hid hcc
      obtain ⟨ll, hll⟩ : ∃ ll, ll = rlen (vs F) u cc := ⟨_, rfl⟩
      have HLL := hid hll
      rw [← hll] at hrr
      clear hds hu2 hL2 hrestA hrestB hrestA' hrestB' hd hr1 hcc hu' hg hll HR
      by_cases hlt : g < L
      · have hlt' : (g : Int) < (L : Int) := by omega
        go_wp2_with (first
          | (go_at_call 81; refine hrr.mono ?_; rintro e w1 ⟨y, cy, rfl, hb1, helt, hy⟩; clear hrr
             have HB1 := hid hb1
             clear hb1 helt hy))
        go_ret2
        refine ⟨m, st, _, A, C, by rw [← HU.out]; rfl, ⟨HD.out.run, fun c hc => ?_⟩, HD.out.below (HB1.out.alloc HB1.out.size _)⟩
        rw [← HU.out, ← HG.out, ← HL.out]
        exact hlt
      · have hlt' : ¬ (g : Int) < (L : Int) := by omega
        have HR2 : Hid (m + 1 ≤ n) := by
          have h1 := HD.out.run.count m (Nat.le_refl _)
          rw [← HU.out] at h1
          exact show m + 1 ≤ n by omega
        have HPUSH : Hid (∀ (v : World) (y : Option Addr) (cy : Nat), Below wr.heap.size wr v → Elt v y ll cy (rbyte (vs F) u) → (∀ ad, y = some ad → wr.heap.size ≤ ad.block) →
            ∃ x' c' w', (Builtin.append_ #[46, 46] 46 #[.slice x m cx, .slice (some ⟨v.heap.size, 0, none⟩) 1 1]).run Tryz.prog (v.alloc (.cells #[.slice y ll cy] 22)) = .ok (.slice x' r1 c') w' ∧
              (∀ g j u, g < v.heap.size → wr.heap.size ≤ g → v.cell? ⟨g, j, none⟩ = some u → w'.cell? ⟨g, j, none⟩ = some u) ∧ Hid (∃ st A C, Rds w w' (vs F) n r1 st (.slice x' r1 c') A C ∧ u' = st r1 ∧ g = bef (vs F) st r1)) := fun v y cy hb he hy => by
          rw [HLL.out, HU.out] at he
          obtain ⟨x', c', w', e1, e2, e3⟩ := rds_push HD.out hb (vs_lt HF.out) (by rw [← HU.out, ← HR1.out]; exact HCC.out) (by rw [← HL.out, ← HU.out, ← HG.out]; omega) he hy (by omega)
          rw [HLL.out, HU.out, HR1.out]
          refine ⟨x', c', w', e1, e2, _, _, _, e3.out, ?_, ?_⟩
          · rw [stx_new, HU'.out, HU.out]
          · unfold bef
            rw [if_neg (by omega), Nat.add_sub_cancel, stx_old _ _ (Nat.le_refl _), HG.out, HU.out]
        go_wp2_with (first
          | (go_at_call 81; refine hrr.mono ?_; rintro e w1 ⟨y, cy, rfl, hb1, helt, hy⟩; clear hrr
             have hb2 : Below wr.heap.size wr (w1.alloc (.cells #[.int .i64 (g : Int), .int .i64 (cc : Int), .slice y ll cy] 136)) := hb1.alloc hb1.size _
             obtain ⟨xA, cA, w4, hap, hkeep, HN⟩ := HPUSH.out _ y cy hb2 (helt.below ((Below.refl _ _).alloc (Nat.le_refl _) _)) hy
             have k0 := hkeep w1.heap.size 0 (.int .i64 (g : Int)) (by simp) hb1.size (by simp)
             have k1 := hkeep w1.heap.size 1 (.int .i64 (cc : Int)) (by simp) hb1.size (by simp)
             have es : (w1.alloc (.cells #[.int .i64 (g : Int), .int .i64 (cc : Int), .slice y ll cy] 136)).heap.size = w1.heap.size + 1 := by simp
             rw [es] at hap
             clear hb1 helt hy hb2 hkeep es)
          | (at_builtin; refine wpList_append_run rfl _ _ 46 rfl _ _ rfl rfl hap ?_; clear hap))
        go_roundw
        case rel => exact ⟨r1, u', g, xA, cA, by have := HR1.out; have := HR2.out; omega, by have := HU'.out; omega, hgl, rfl, rfl, rfl, HN.out⟩
        case measure => simp [intOf]; omega
    · have HNO : Hid (∀ cc, ¬ Rec OkP (vs F) n u r1 cc) := fun cc h => hex ⟨cc, h⟩
      have HEND : Hid (Recs OkP (vs F) n m st) := ⟨hds.run, fun c hc => absurd (by rw [hr1, hu2]; exact hc) (HNO.out c)⟩
      by_cases hdc : d < c
      · have hrr := readrec_no n u (c - d) (l - d) r1 (some ⟨b, o + d, none⟩) F wr HF.out hn hu (by omega) (hrestA' hdc) HNO.out
        have hne : ¬ c = d := by omega
        clear hds hu2 hL2 hrestA hrestB hrestA' hrestB' hd hr1 HR hex
        go_wp2_with (first
          | (go_at_call 81; refine hrr.mono ?_; rintro e w1 ⟨rfl, hb1⟩; clear hrr
             have HB1 := hid hb1
             clear hb1))
        go_ret2
        exact ⟨m, st, _, A, C, by rw [← HU.out]; rfl, HEND.out, HD.out.below (HB1.out.alloc HB1.out.size _)⟩
      · have hce : c = d := by omega
        have hle : l = d := by omega
        have hrr := readrec_no n u (c - d) (l - d) r1 (some ⟨b, o, none⟩) F wr HF.out hn hu (by omega) (hrestB' hce.symm) HNO.out
        rw [show c - d = 0 by omega, show l - d = 0 by omega] at hrr
        clear hds hu2 hL2 hrestA hrestB hrestA' hrestB' hd hr1 HR hex hdc HC HL0
        subst hce
        subst hle
        clear hlc hdl
        go_wp2_with (first
          | (go_at_call 81; refine hrr.mono ?_; rintro e w1 ⟨rfl, hb1⟩; clear hrr
             have HB1 := hid hb1
             clear hb1))
        go_ret2
        exact ⟨m, st, _, A, C, by rw [← HU.out]; rfl, HEND.out, HD.out.below (HB1.out.alloc HB1.out.size _)⟩

end Go.Proofs.YtbbjklenpgkooaaGreat

/-
  What the inner sectorsOf, and Open, of package journal do: contracts over plain numbers ('JoPlain').
  Conditions: the disk is one that New gave ('Pd'); its greatest generation is below 65535.
-/
namespace Go.Proofs.YtbbjklenpgkooaaGreat
open Go.RowKit By Dk Su Jo
set_option linter.unusedVariables false
set_option linter.unusedSimpArgs false
set_option maxRecDepth 100000

def flat (V : Nat → Nat → Nat) : Nat → Nat := fun i => V (i / 64) (i % 64)

theorem vs_flat {V : Nat → Nat → Nat} (h : ∀ k j, 64 ≤ j → V k j = 0) : vs (flat V) = V := by
  funext k j
  unfold vs cut sec flat
  by_cases e : j < 64
  · rw [if_pos e, show (64 * k + j) / 64 = k by omega, show (64 * k + j) % 64 = j by omega]
  · rw [if_neg e, h k j (by omega)]

theorem vw_flat (f A : Nat → Nat) (D : Nat → Nat → Nat) (m : Nat) : vs (flat (vw f A D m)) = vw f A D m := vs_flat fun k j hj => by
  unfold vw cut
  rw [if_neg (by omega)]

theorem vw_lt {f A : Nat → Nat} {D : Nat → Nat → Nat} (hf : ∀ i, f i < 256) (hD : ∀ i j, D i j < 256) (m k j : Nat) : vw f A D m k j < 256 := cut_lt (fun i => now_lt hf hD k m i) j

theorem Pd.size {w : World} {F : Nat → Prop} {p n m : Nat} {f A : Nat → Nat} {D : Nat → Nat → Nat} (h : Pd w F p n m f A D) : Calls Tryz.prog 58 #[.pointer (some ⟨p, 0, none⟩)] w fun e w' => e = .returned (.int .i64 (n : Int)) ∧ w' = w := by
  obtain ⟨gs, gn, R, s, q, h⟩ := h
  exact size_any p n n _ w h.c2

theorem Pd.n1 {w : World} {F : Nat → Prop} {p n m : Nat} {f A : Nat → Nat} {D : Nat → Nat → Nat} (h : Pd w F p n m f A D) : 1 ≤ n ∧ n ≤ 4096 := by
  obtain ⟨gs, gn, R, s, q, h⟩ := h
  exact ⟨h.n1, h.n2⟩

/- What one reads, sector by sector. -/
structure Got (w wr : World) (V : Nat → Nat → Nat) (k : Nat) (R : Value) : Prop where
  bel : Below w.heap.size w wr
  own : wr.ownsRow 0 5 1 R (64 * k) (bytesOf (flat V) (64 * k))
  ob : ∀ g, R.ownBlock = some g → w.heap.size ≤ g

theorem got_push {w wr v : World} {V : Nat → Nat → Nat} {k c : Nat} {R : Value} (h : Got w wr V k R) (hb : Below wr.heap.size wr v) (hk : k ≤ 4096) (x : Option Addr) (hx : x ≠ none) (hrow : RowAt v x 64 (V k)) :
    ∃ x' c' w', (Builtin.append_ #[22, 22] 22 #[R, .slice x 64 c]).run Tryz.prog v = .ok (.slice x' (64 * (k + 1)) c') w' ∧ Hid (Got w w' V (k + 1) (.slice x' (64 * (k + 1)) c')) := by
  have hown : v.ownsRow 0 5 1 R (64 * k) (bytesOf (flat V) (64 * k)) := ownsRow_same h.own (fun g hg => hb.block g (h.own.lt g hg).2)
  obtain ⟨R', w', hr, ho, hgr, hR'⟩ := push_bytes v R (64 * k) _ hown x 64 c _ (fun e => absurd e hx) hrow (by omega)
  obtain ⟨x', c', hRe, _⟩ := ownsRow_form ho
  subst hRe
  have e : 64 * k + 64 = 64 * (k + 1) := by omega
  rw [e] at hr ho hR'
  refine ⟨x', c', w', hr, ?_, ?_, fun g hg => ?_⟩
  · have hT : Turns (fun q => R.ownBlock = some q) v w' := (Turns.refl _ v).grown hgr (fun q hq => .inl hq)
    exact (h.bel.trans (hb.mono h.bel.size)).trans (hT.below h.ob (Nat.le_trans h.bel.size hb.size))
  · rw [bytesOf_congr (f := flat V) (g := cat2 (flat V) (64 * k) (V k)) (fun i hi => ?_)]
    · exact ho
    · unfold cat2 flat
      by_cases e1 : i < 64 * k
      · rw [if_pos e1]
      · rw [if_neg e1, show i / 64 = k by omega, show i % 64 = i - 64 * k by omega]
  · rcases hR' g hg with e1 | e1
    · exact h.ob g e1
    · have := h.bel.size
      have := hb.size
      omega

set_option maxHeartbeats 1500000 in
set_option maxRecDepth 100000 in
theorem sectors_of (p n m : Nat) (F : Nat → Prop) (f A : Nat → Nat) (D : Nat → Nat → Nat) (w : World) (h : Pd w F p n m f A D) :
    Calls Tryz.prog 59 #[.pointer (some ⟨p, 0, none⟩)] w fun e w' => ∃ g c, e = .returned (.slice (some ⟨g, 0, none⟩) (64 * n) c) ∧ Below w.heap.size w w' ∧ Rest w' (some ⟨g, 0, none⟩) (64 * n) c n 0 (flat (vw f A D m)) := by
  obtain ⟨hn1, hn2⟩ := h.n1
  have hsz := h.size
  obtain ⟨s, hs⟩ : ∃ s, s = 64 * n := ⟨_, rfl⟩
  have hsi : (n : Int) * 64 = (s : Int) := by omega
  have hs9 : s ≤ 262144 := by omega
  obtain ⟨i0, hi, hz0, hz1, hz2⟩ := info_parts info_byte
  obtain ⟨w1, hmk, ho1, hg1⟩ := run_make_own (P := Tryz.prog) w 0 22 5 i0 (.int .u8 0) 1 Tryz.underlying22 hi hz0 hz1 .i64 .i64 s (by rw [hz2]; omega) (by unfold maxLen; omega) (Nat.zero_le _)
  have hb1 : Below w.heap.size w w1 := ⟨hg1.os, hg1.tape, hg1.output, hg1.size, fun k hk => hg1.block k hk (by simp)⟩
  have hsz1 := (h.below hb1).size
  have HG : Hid (Got w w1 (vw f A D m) 0 (.slice (some ⟨w.heap.size, 0, none⟩) 0 s)) := ⟨hb1, ho1, fun g hg => by simp [Value.ownBlock] at hg; omega⟩
  have HP := hid h
  have HS := hid hs
  clear h hs ho1 hg1 hb1 hi hz0 hz1 hz2
  go_enter Tryz.func59, Tryz.ntmps59
  go_wp2_with (first
    | (go_at_call 58; refine hsz.mono ?_; rintro e w' ⟨rfl, hw⟩; subst w'; clear hsz)
    | (go_at_call 58; refine hsz1.mono ?_; rintro e w' ⟨rfl, hw⟩; subst w'; clear hsz1))
  go_loopw [3, 13] (fun o i wr => ∃ (k : Nat) (x : Option Addr) (l c : Nat), k ≤ n ∧ i = .int .i64 k ∧ o = .slice x l c ∧ Hid (l = 64 * k ∧ Got w wr (vw f A D m) k (.slice x l c))) (fun _ i _ => n - (intOf i).toNat)
  case atStart => exact ⟨0, _, _, _, by omega, rfl, rfl, rfl, HG.out⟩
  case round =>
    clear HG hmk
    obtain ⟨k, x, l, c, hk, rfl, rfl, HR⟩ := hrel
    by_cases hlt : k < n
    · have hlt' : (k : Int) < (n : Int) := by omega
      have hrd := read_yes p n m k F f A D (k : Int) rfl wr (HP.out.below HR.out.2.bel) hlt
      go_wp2_with (first
        | (go_at_call 79; refine hrd.mono ?_; rintro e w2 ⟨rfl, hb2, hB2⟩; clear hrd
           obtain ⟨xA, cA, w3, hap, HN⟩ := got_push (c := 64) HR.out.2 hb2 (by omega) (some ⟨wr.heap.size, 0, none⟩) (fun h => by cases h) (hB2.row.congr fun i hi => by unfold vw cut; rw [if_pos hi])
           obtain ⟨l2, hl2⟩ : ∃ l2, l2 = 64 * (k + 1) := ⟨_, rfl⟩
           rw [← hl2] at hap HN
           have HL2 := hid hl2
           clear hb2 hB2 hl2)
        | (at_builtin; refine wpList_append_run rfl _ _ 22 rfl _ _ rfl rfl hap ?_; clear hap))
      go_roundw
      case rel => exact ⟨k + 1, xA, l2, cA, by omega, by go_num, rfl, HL2.out, HN.out⟩
      case measure => simp [intOf]; omega
    · obtain rfl : k = n := by omega
      go_wp2_with fail
      go_ret
      obtain ⟨e, hg⟩ := HR.out
      subst e
      obtain ⟨g, c', e1, h1, h2, h3, h4, h5⟩ := own_rowAt hg.own (fun e => by injection e with _ e _; omega)
      injection e1 with e1 _ e2
      subst e1 e2
      exact ⟨g, c, rfl, hg.bel, by omega, h3, h5.congr fun i hi => by congr 1; omega⟩

/- A journal in memory. -/
def obj4 (a b c d : Value) : Nat → Value := fun i => if i = 0 then a else if i = 1 then b else if i = 2 then c else d

structure Jn (w : World) (B jp p g u : Nat) (R : Value) (m : Nat) (A : Nat → Option Addr) (ln C : Nat → Nat) (ft : Nat → Nat → Nat) : Prop where
  obj : Blk w jp 111 4 (obj4 (.pointer (some ⟨p, 0, none⟩)) (.int .i64 (g : Int)) R (.int .i64 (u : Int)))
  own : OwnG w B R m A ln C ft
  jb : B ≤ jp
  af : ∀ i, i < m → ∀ ad, A i = some ad → B ≤ ad.block ∧ ad.block ≠ jp

def jfoot (R : Value) (jp m : Nat) (A : Nat → Option Addr) : Nat → Prop := fun k => k = jp ∨ R.ownBlock = some k ∨ ∃ i, i < m ∧ ∃ ad, A i = some ad ∧ ad.block = k

section
variable {w w' : World} {B jp p g u m : Nat} {R : Value} {A : Nat → Option Addr} {ln C : Nat → Nat} {ft : Nat → Nat → Nat}

theorem Jn.turns {G : Nat → Prop} (h : Jn w B jp p g u R m A ln C ft) (t : Turns G w w') (hd : ∀ k, jfoot R jp m A k → ¬ G k) : Jn w' B jp p g u R m A ln C ft :=
  ⟨t.blk h.obj (hd _ (.inl rfl)), h.own.turns t (fun g hg => hd _ (.inr (.inl hg))) (fun i hi ad ha => hd _ (.inr (.inr ⟨i, hi, ad, ha, rfl⟩))), h.jb, h.af⟩

theorem Jn.below (h : Jn w B jp p g u R m A ln C ft) (t : Below w.heap.size w w') : Jn w' B jp p g u R m A ln C ft := h.turns (Turns.of_below (F := fun _ => False) t) (fun _ _ h => h)

theorem Jn.foot (h : Jn w B jp p g u R m A ln C ft) : ∀ k, jfoot R jp m A k → B ≤ k ∧ k < w.heap.size := fun k hk => by
  rcases hk with rfl | e | ⟨i, hi, ad, ha, rfl⟩
  · exact ⟨h.jb, h.obj.lt⟩
  · exact ⟨h.own.ob k e, h.own.olt k e⟩
  · exact ⟨(h.af i hi ad ha).1, (h.own.elt i hi).old ad ha⟩

theorem Jn.c0 (h : Jn w B jp p g u R m A ln C ft) : w.cell? ⟨jp, 0, none⟩ = some (.pointer (some ⟨p, 0, none⟩)) := h.obj.cell (k := 0) (by omega)
theorem Jn.c1 (h : Jn w B jp p g u R m A ln C ft) : w.cell? ⟨jp, 1, none⟩ = some (.int .i64 (g : Int)) := h.obj.cell (k := 1) (by omega)
theorem Jn.c2 (h : Jn w B jp p g u R m A ln C ft) : w.cell? ⟨jp, 2, none⟩ = some R := h.obj.cell (k := 2) (by omega)
theorem Jn.c3 (h : Jn w B jp p g u R m A ln C ft) : w.cell? ⟨jp, 3, none⟩ = some (.int .i64 (u : Int)) := h.obj.cell (k := 3) (by omega)

end

set_option maxHeartbeats 1500000 in
set_option maxRecDepth 100000 in
theorem open_yes (p n m : Nat) (F : Nat → Prop) (f A : Nat → Nat) (D : Nat → Nat → Nat) (w : World) (h : Pd w F p n m f A D) (hG : ∀ G, Top OkP (vw f A D m) n G → G < 65535) :
    Calls Tryz.prog 30 #[.pointer (some ⟨p, 0, none⟩)] w fun e w' => ∃ jp G k st R Aa C, e = .returned (.tuple #[.pointer (some ⟨jp, 0, none⟩), .int .i64 0]) ∧ Below w.heap.size w w' ∧ Top OkP (vw f A D m) n G ∧ Recs OkP (vw f A D m) n k st ∧
      Jn w' w.heap.size jp p (G + 1) (st k) R k Aa (lnOf (vw f A D m) st) C (ftOf (vw f A D m) st) := by
  obtain ⟨hn1, hn2⟩ := h.n1
  have hsz := h.size
  have hso := sectors_of p n m F f A D w h
  have hVl : ∀ i, flat (vw f A D m) i < 256 := fun i => vw_lt h.lt h.ltD m _ _
  have hn0 : ((n : Int) == 0) = false := by rw [beq_eq_false_iff_ne]; omega
  obtain ⟨s, hs⟩ : ∃ s, s = 64 * n := ⟨_, rfl⟩
  have hgr := fun (v : World) (c : Nat) (x : Option Addr) (hr : Rest v x (64 * n) c n 0 (flat (vw f A D m))) => greatest_any n c (64 * n) x (flat (vw f A D m)) v hVl hn2 hr
  have hrs := fun (v : World) (c b o : Nat) (hr : Rest v (some ⟨b, o, none⟩) (64 * n) c n 0 (flat (vw f A D m))) => recs_any n c (64 * n) b o (flat (vw f A D m)) v hVl hn2 hr
  rw [← hs] at hso hgr hrs
  have HVF := hid (vw_flat f A D m)
  have HGM := hid hG
  clear h hs hG hVl
  generalize flat (vw f A D m) = FV at *
  go_enter Tryz.func30, Tryz.ntmps30
  go_wp2_with (first
    | (go_at_call 58; refine hsz.mono ?_; rintro e w' ⟨rfl, hw⟩; subst w'; clear hsz)
    | (go_at_call 59; refine hso.mono ?_; rintro e w1 ⟨gb, gc, rfl, hb1, hr1⟩; clear hso
       have hgr1 := hgr w1 gc _ hr1
       have HR1 := hid hr1
       have HB1 := hid hb1
       have HRS := hid hrs
       clear hgr hr1 hb1 hrs)
    | (go_at_call 60; refine hgr1.mono ?_; rintro e w2 ⟨G, rfl, hb2, htop, hG6⟩; clear hgr1
       rw [HVF.out] at htop
       have HG7 := hid (HGM.out G htop)
       obtain ⟨G1, hG1⟩ : ∃ G1, G1 = G + 1 := ⟨_, rfl⟩
       have hGi : (G : Int) + 1 = (G1 : Int) := by omega
       have hGn : ¬ (65535 : Int) < (G1 : Int) := by have := HG7.out; omega
       have hGw : IntKind.i64.wrap (G1 : Int) = (G1 : Int) := by rw [IntKind.wrap_i64]; omega
       have HG1 := hid hG1
       clear hG1 hG6
       have HT := hid htop
       have hrs2 := HRS.out w2 gc gb 0 (HR1.out.below hb2)
       have HB2 := hid (HB1.out.trans (hb2.mono HB1.out.size))
       clear htop hb2 HRS HR1 HB1)
    | (go_at_call 61; refine hrs2.mono ?_; rintro e w3 ⟨k, st, R, Aa, C, rfl, hrecs, hrds⟩; clear hrs2
       obtain ⟨xR, cR, hR, _⟩ := hrds.own.form
       subst hR
       rw [HVF.out] at hrecs hrds
       have HRE := hid hrecs
       have HRD := hid hrds
       clear hrecs hrds))
  go_ret2
  have hb4 : Below w3.heap.size w3 (w3.alloc (.cells #[.pointer (some ⟨p, 0, none⟩), .int .i64 (G1 : Int), .slice xR k cR, .int .i64 (st k : Int)] 111)) := (Below.refl _ _).alloc (Nat.le_refl _) _
  have hbw := HB2.out
  have hbd := HRD.out.bel
  have hs2 := hbw.size
  have hs3 := hbd.size
  refine ⟨_, G, k, st, .slice xR k cR, Aa, C, rfl, (hbw.trans (hbd.mono hs2)).trans (hb4.mono (by omega)), HT.out, HRE.out, ?_, ?_, by omega, fun i hi ad ha => ?_⟩
  · rw [← HG1.out]; exact Blk.new _ _ _ _ _ rfl
  · have ho := HRD.out.own.below hb4
    exact ⟨ho.own, fun g hg => by have := ho.ob g hg; omega, ho.elt, ho.far⟩
  · have h1 := HRD.out.far i hi ad ha
    have h2 := (HRD.out.own.elt i hi).old ad ha
    omega

end Go.Proofs.YtbbjklenpgkooaaGreat

/-
  What the inner sector of a part of package journal does: a contract over plain numbers ('JoPlain').
  Conditions: the part is one that partsOf makes.
-/
namespace Go.Proofs.YtbbjklenpgkooaaGreat
open Go.RowKit By Dk Su Jo
set_option linter.unusedVariables false
set_option linter.unusedSimpArgs false
set_option maxRecDepth 100000

def preV (h : Nat → Nat) (t : Nat) : Nat → Value := fun i => .int .u8 ((if i < t then h i else 0 : Nat) : Int)

structure SSt (w wr : World) (g r k M : Nat) (L : Bool) (x : Option Addr) (c : Nat) (h : Nat → Nat) (t : Nat) : Prop where
  bel : Below w.heap.size w wr
  five : Five wr w.heap.size (.int .i64 (g : Int)) (.int .u32 (r : Int)) (.int .i64 (k : Int)) (.bool L) (.slice x M c)
  blk : Blk wr (w.heap.size + 1) 5 60 (preV h t)

section
variable {w wr : World} {g r k M c t : Nat} {L : Bool} {x : Option Addr} {h : Nat → Nat}

theorem SSt.set (s : SSt w wr g r k M L x c h t) (ht : t < 60) : SSt w (wr.setCell ⟨w.heap.size + 1, t, none⟩ (.int .u8 (h t : Int))) g r k M L x c h (t + 1) := by
  refine ⟨s.bel.setCell (p := ⟨w.heap.size + 1, t, none⟩) (Nat.le_succ _) _, s.five.other (by omega), (s.blk.set t _).congr fun i hi => ?_⟩
  unfold upd preV
  by_cases e : i = t
  · subst e; simp
  · rw [if_neg e]
    by_cases e2 : i < t
    · rw [if_pos e2, if_pos (by omega)]
    · rw [if_neg e2, if_neg (by omega)]

theorem SSt.set2 (s : SSt w wr g r k M L x c h t) (ht : t < 60) (u : Value) : SSt w ((wr.setCell ⟨w.heap.size + 1, t, none⟩ u).setCell ⟨w.heap.size + 1, t, none⟩ (.int .u8 (h t : Int))) g r k M L x c h (t + 1) := by
  refine ⟨(s.bel.setCell (p := ⟨w.heap.size + 1, t, none⟩) (Nat.le_succ _) _).setCell (p := ⟨w.heap.size + 1, t, none⟩) (Nat.le_succ _) _, (s.five.other (by omega)).other (by omega), ((s.blk.set t _).set t _).congr fun i hi => ?_⟩
  unfold upd preV
  by_cases e : i = t
  · subst e; simp
  · rw [if_neg e, if_neg e]
    by_cases e2 : i < t
    · rw [if_pos e2, if_pos (by omega)]
    · rw [if_neg e2, if_neg (by omega)]

theorem SSt.cell (s : SSt w wr g r k M L x c h t) {i : Nat} (hi : i < 60) : wr.cell? ⟨w.heap.size + 1, i, none⟩ = some (preV h t i) := s.blk.cell hi

end

theorem sst_copy {w W : World} {g r k M c : Nat} {L : Bool} {x : Option Addr} {h : Nat → Nat} (s : SSt w W g r k M L x c h 9) (hM : M ≤ 51) (he : RowAt w x M (fun i => h (9 + i))) (hz : ∀ i, 9 + M ≤ i → i < 60 → h i = 0) :
    ∃ w5, (Builtin.copy_ #[22, 22] 3 #[.slice (some ⟨w.heap.size + 1, 9, none⟩) 51 51, .slice x M c]).run Tryz.prog W.drew = .ok (.int .i64 (M : Int)) w5 ∧ w5.cell? ⟨w.heap.size, 4, none⟩ = some (.slice x M c) ∧ Hid (RowAt w5 (some ⟨w.heap.size + 1, 0, none⟩) 60 h ∧ Below w.heap.size w w5) := by
  have he' := he.below s.bel
  obtain ⟨w5, h1, h2, h3⟩ := copy_bytes W.drew W.drew (w.heap.size + 1) (w.heap.size + 1) 9 51 51 M c x (rowOf (preV h 9) 60) (bytesOf (fun i => h (9 + i)) M) s.blk (by simp [bytesOf]) hM (fun h0 => by
      rcases he' with e | ⟨b, o, e1, e2, e3⟩
      · omega
      · refine ⟨_, e1, fun j v hj => ?_⟩
        have hjM : j < M := by
          have := (List.getElem?_eq_some_iff.1 hj).1
          simpa [bytesOf] using this
        rw [bytesOf_get _ _ _ hjM] at hj
        injection hj with hj
        subst hj
        rw [add_at]
        exact e3 j hjM) (by rw [rowOf_len]; omega) (fun v hv => by
      simp [bytesOf] at hv
      obtain ⟨j, _, rfl⟩ := hv
      rfl) (Below.refl _ _) (Nat.le_refl _)
  refine ⟨w5, h1, (h3.cell (p := ⟨w.heap.size, 4, none⟩) (Nat.lt_succ_self _)).trans s.five.c4, .inr ⟨w.heap.size + 1, 0, rfl, (Array.getElem?_eq_some_iff.1 h2).1, fun i hi => ?_⟩, s.bel.drew.trans (h3.mono (Nat.le_succ _))⟩
  rw [Nat.zero_add, cell_of_heap h2]
  have hbl : (bytesOf (fun i => h (9 + i)) M).length = M := by simp [bytesOf]
  unfold splice
  rw [hbl]
  by_cases e1 : i < 9
  · rw [List.getElem?_append_left (by simp [rowOf_len]; omega), List.getElem?_take_of_lt e1, rowOf_get _ _ _ hi]
    unfold preV
    rw [if_pos e1]
  · by_cases e2 : i < 9 + M
    · rw [List.getElem?_append_right (by simp [rowOf_len]; omega), List.getElem?_append_left (by simp [rowOf_len, hbl]; omega)]
      have e3 : ((rowOf (preV h 9) 60).take 9).length = 9 := by simp [rowOf_len]
      rw [e3, bytesOf_get _ _ _ (by omega)]
      congr 4
      omega
    · have e3 : ((rowOf (preV h 9) 60).take 9).length = 9 := by simp [rowOf_len]
      rw [List.getElem?_append_right (by rw [e3]; omega), e3, List.getElem?_append_right (by rw [hbl]; omega), hbl, List.getElem?_drop, show 9 + M + (i - 9 - M) = i by omega, rowOf_get _ _ _ hi]
      unfold preV
      rw [if_neg e1, hz i (by omega) hi]

set_option maxHeartbeats 1500000 in
set_option maxRecDepth 100000 in
theorem sector_yes (g r k M c : Nat) (L : Bool) (x : Option Addr) (l : Nat) (b : Nat → Nat) (w : World) (hb : ∀ i, b i < 256) (hg : g < 65536) (hr : r < 4294967296) (hk : k < 256) (hM : M = plen l k) (hL : L = plast l k) (he : RowAt w x M (fun i => b (51 * k + i))) (hnil : x = none → M = 0 ∧ c = 0) :
    Calls Tryz.prog 71 #[.agg #[.int .i64 (g : Int), .int .u32 (r : Int), .int .i64 (k : Int), .bool L, .slice x M c]] w fun e w' => ∃ y, e = .returned (.slice (some ⟨y, 0, none⟩) 64 64) ∧ Below w.heap.size w w' ∧ RowAt w' (some ⟨y, 0, none⟩) 64 (mkS g r l b k) := by
  obtain ⟨h, hh⟩ : ∃ h, h = hd g r l b k := ⟨_, rfl⟩
  have h0 : h 0 = 74 := by rw [hh]; rfl
  have h1 : (h 1 : Int) = (g : Int) % 256 := by rw [hh]; show ((g % 256 : Nat) : Int) = _; omega
  have h2 : (h 2 : Int) = (g : Int) / 256 := by rw [hh]; show ((g / 256 % 256 : Nat) : Int) = _; omega
  have h3 : (h 3 : Int) = (r : Int) % 256 := by rw [hh]; show ((r % 256 : Nat) : Int) = _; omega
  have h4 : (h 4 : Int) = (r : Int) / 256 % 256 := by rw [hh]; show ((r / 256 % 256 : Nat) : Int) = _; omega
  have h5 : (h 5 : Int) = (r : Int) / 65536 % 256 := by rw [hh]; show ((r / 65536 % 256 : Nat) : Int) = _; omega
  have h6 : (h 6 : Int) = (r : Int) / 16777216 := by rw [hh]; show ((r / 16777216 % 256 : Nat) : Int) = _; omega
  have h7 : (h 7 : Int) = (k : Int) := by rw [hh]; show ((k % 256 : Nat) : Int) = _; omega
  have es : (w.alloc (.cells #[.int .i64 (g : Int), .int .u32 (r : Int), .int .i64 (k : Int), .bool L, .slice x M c] 122)).heap.size = w.heap.size + 1 := by simp
  obtain ⟨w1, hmk, hB1, hb1, hs1⟩ := make_blk (w.alloc (.cells #[.int .i64 (g : Int), .int .u32 (r : Int), .int .i64 (k : Int), .bool L, .slice x M c] 122)) 60 (by omega)
  rw [es] at hmk hB1 hb1
  have hmk : (Instr.makeSlice 22 (.int .i64 60) (.int .i64 60)).run Tryz.prog (w.alloc (.cells #[.int .i64 (g : Int), .int .u32 (r : Int), .int .i64 (k : Int), .bool L, .slice x M c] 122)) = .ok (.slice (some ⟨w.heap.size + 1, 0, none⟩) 60 60) w1 := hmk
  have HSz : Hid (SSt w w1 g r k M L x c h 0) := ⟨((Below.refl _ _).alloc (Nat.le_refl _) _).trans (hb1.mono (Nat.le_succ _)), (Five.new w _ _ _ _ _ _).below hb1 (Nat.lt_succ_self _), hB1.congr fun i hi => by simp [preV]⟩
  have z0 := hB1.cell (k := 0) (by omega)
  have zf := hB1.frozen 0
  have HS0 : Hid (SSt w (w1.setCell ⟨w.heap.size + 1, 0, none⟩ (.int .u8 74)) g r k M L x c h 1) := by
    have := HSz.out.set (by omega)
    rw [h0] at this
    exact this
  clear HSz hB1 hb1 es hs1
  have HM := hid hM
  have HL := hid hL
  have HH := hid hh
  have H0 := hid h0
  have H12 := hid (And.intro h1 h2)
  have H36 := hid (And.intro h3 (And.intro h4 (And.intro h5 (And.intro h6 h7))))
  have HE2 : Hid (RowAt w x M (fun i => h (9 + i))) := he.congr fun i hi => by
    rw [hh]
    unfold hd
    have e1 : ∀ q, q < 9 → ¬ (9 + i = q) := fun q hq => by omega
    simp only [e1 0 (by omega), e1 1 (by omega), e1 2 (by omega), e1 3 (by omega), e1 4 (by omega), e1 5 (by omega), e1 6 (by omega), e1 7 (by omega), e1 8 (by omega), if_false]
    rw [if_pos (by omega), Nat.add_sub_cancel_left]
  have HZ : Hid (∀ i, 9 + M ≤ i → i < 60 → h i = 0) := fun i h1 h2 => by
    rw [hh]
    unfold hd
    have e1 : ∀ q, q < 9 → ¬ (i = q) := fun q hq => by omega
    simp only [e1 0 (by omega), e1 1 (by omega), e1 2 (by omega), e1 3 (by omega), e1 4 (by omega), e1 5 (by omega), e1 6 (by omega), e1 7 (by omega), e1 8 (by omega), if_false]
    rw [if_neg (by omega)]
  have HLT : Hid (∀ i, h i < 256) := fun i => by rw [hh]; exact hd_lt hb i
  clear hM hL hh h0 h1 h2 h3 h4 h5 h6 h7 he
  go_enter Tryz.func71, Tryz.ntmps71
  go_wp2_with fail
  go_loopw [9] (fun i wr => ∃ t : Nat, t ≤ 2 ∧ i = .int .i64 t ∧ Hid (SSt w wr g r k M L x c h (1 + t))) (fun i _ => 2 - (intOf i).toNat)
  case atStart => exact ⟨0, by omega, rfl, HS0⟩
  case round =>
    clear HS0
    obtain ⟨t, ht, rfl, HR⟩ := hrel
    obtain ⟨c0, c1, c2, c3, c4, f0, f1, f2, f3, f4⟩ := HR.out.five
    by_cases hlt : t < 2
    · obtain rfl | rfl : t = 0 ∨ t = 1 := by omega
      · have q1 := HR.out.cell (i := 1) (by omega)
        have qf := HR.out.blk.frozen 1
        have HN := HR.out.set (by omega)
        rw [show 1 + 0 = 1 from rfl, H12.out.1] at HN
        have HN := hid HN
        go_wp2_with fail
        exact ⟨⟨1, by omega, rfl, HN.out⟩, by simp [intOf]⟩
      · have q1 := HR.out.cell (i := 2) (by omega)
        have qf := HR.out.blk.frozen 2
        have HN := HR.out.set (by omega)
        rw [show 1 + 1 = 2 from rfl, H12.out.2] at HN
        have HN := hid HN
        go_wp2_with fail
        exact ⟨⟨2, by omega, rfl, HN.out⟩, by simp [intOf]⟩
    · obtain rfl : t = 2 := by omega
      obtain ⟨w2, hw2⟩ : ∃ w2, w2 = wr := ⟨_, rfl⟩
      subst hw2
      have HR0 : Hid (SSt w w2 g r k M L x c h 3) := HR.out
      clear HR c0 c1 c2 c3 c4 f0 f1 f2 f3 f4 hmk z0 zf
      go_wp2_with fail
      go_loopw [23] (fun i wr => ∃ t : Nat, t ≤ 4 ∧ i = .int .i64 t ∧ Hid (SSt w wr g r k M L x c h (3 + t))) (fun i _ => 4 - (intOf i).toNat)
      case atStart => exact ⟨0, by omega, rfl, HR0⟩
      case round =>
        clear HR0
        obtain ⟨t, ht, rfl, HR⟩ := hrel
        obtain ⟨c0, c1, c2, c3, c4, f0, f1, f2, f3, f4⟩ := HR.out.five
        by_cases hlt : t < 4
        · obtain rfl | rfl | rfl | rfl : t = 0 ∨ t = 1 ∨ t = 2 ∨ t = 3 := by omega
          · have q1 := HR.out.cell (i := 3) (by omega)
            have qf := HR.out.blk.frozen 3
            have HN := HR.out.set (by omega)
            rw [show 3 + 0 = 3 from rfl, H36.out.1] at HN
            have HN := hid HN
            go_wp2_with fail
            exact ⟨⟨1, by omega, rfl, HN.out⟩, by simp [intOf]⟩
          · have q1 := HR.out.cell (i := 4) (by omega)
            have qf := HR.out.blk.frozen 4
            have HN := HR.out.set (by omega)
            rw [show 3 + 1 = 4 from rfl, H36.out.2.1] at HN
            have HN := hid HN
            go_wp2_with fail
            exact ⟨⟨2, by omega, rfl, HN.out⟩, by simp [intOf]⟩
          · have q1 := HR.out.cell (i := 5) (by omega)
            have qf := HR.out.blk.frozen 5
            have HN := HR.out.set (by omega)
            rw [show 3 + 2 = 5 from rfl, H36.out.2.2.1] at HN
            have HN := hid HN
            go_wp2_with fail
            exact ⟨⟨3, by omega, rfl, HN.out⟩, by simp [intOf]⟩
          · have q1 := HR.out.cell (i := 6) (by omega)
            have qf := HR.out.blk.frozen 6
            have HN := HR.out.set (by omega)
            rw [show 3 + 3 = 6 from rfl, H36.out.2.2.2.1] at HN
            have HN := hid HN
            go_wp2_with fail
            exact ⟨⟨4, by omega, rfl, HN.out⟩, by simp [intOf]⟩
        · obtain rfl : t = 4 := by omega
          obtain ⟨w3, hw3⟩ : ∃ w3, w3 = wr := ⟨_, rfl⟩
          subst hw3
          have HS7 : Hid (SSt w w3 g r k M L x c h 7) := HR.out
          have q7 := HR.out.cell (i := 7) (by omega)
          have q8 := HR.out.cell (i := 8) (by omega)
          have g7 := HR.out.blk.frozen 7
          have g8 := HR.out.blk.frozen 8
          have hM5 : M ≤ 51 := by rw [HM.out]; exact plen_le l k
          have hor : bits .or .u8 (M : Int) 128 = (M : Int) + 128 := u8_or128_right _ (by omega) (by omega)
          have S8 := HS7.out.set (by omega)
          rw [H36.out.2.2.2.2] at S8
          have HS8 := hid S8
          clear HR S8
          cases hLc : L with
          | true =>
            have e8 : (h 8 : Int) = (M : Int) + 128 := by
              rw [HH.out]
              show ((plen l k + (if plast l k = true then 128 else 0) : Nat) : Int) = _
              rw [← HL.out, ← HM.out, hLc]
              simp
            subst hLc
            have HS9 : Hid (SSt w (((w3.setCell ⟨w.heap.size + 1, 7, none⟩ (.int .u8 (k : Int))).setCell ⟨w.heap.size + 1, 8, none⟩ (.int .u8 (M : Int))).setCell ⟨w.heap.size + 1, 8, none⟩ (.int .u8 ((M : Int) + 128))) g r k M true x c h 9) := by
              have := HS8.out.set2 (by omega) (.int .u8 (M : Int))
              rw [e8] at this
              exact this
            clear e8 HS8
            go_wp2_with fail
            generalize (((w3.setCell ⟨w.heap.size + 1, 7, none⟩ (.int .u8 (k : Int))).setCell ⟨w.heap.size + 1, 8, none⟩ (.int .u8 (M : Int))).setCell ⟨w.heap.size + 1, 8, none⟩ (.int .u8 ((M : Int) + 128))) = W5 at *
            obtain ⟨w5, hcp, k5, HC⟩ := sst_copy HS9.out hM5 HE2.out HZ.out
            have k4 := HS9.out.five.c4
            refine wp_region_held_drew (S := fun v => v.cell? ⟨w.heap.size, 4, none⟩ = some (.slice x M c)) (by kernel_rfl) k4 (fun hHeld => ?_)
            refine wpAnyH_take (i := 0) (v := ?_) rfl (by kernel_rfl) (by kernel_rfl) (by kernel_rfl) (fun _ _ _ h => h) (Or.inl ⟨by rfl, ?_⟩) (by assumption) ?_
            case refine_2 => (intro w hSw; (try dsimp only at hSw); go_simp; (try with_reducible rfl))
            (try simp only [Act.put, List.getElem_toArray, List.getElem_cons_succ, List.getElem_cons_zero, List.setIfInBounds_toArray, List.set_cons_zero, List.set_cons_succ])
            refine wpAnyH_take (i := 1) (v := ?_) rfl (by kernel_rfl) (by kernel_rfl) (by kernel_rfl) (fun _ _ _ h => h) (Or.inl ⟨by rfl, ?_⟩) (by assumption) ?_
            case refine_2 => (intro w hSw; (try dsimp only at hSw); go_simp; (try with_reducible rfl))
            (try simp only [Act.put, List.getElem_toArray, List.getElem_cons_succ, List.getElem_cons_zero, List.setIfInBounds_toArray, List.set_cons_zero, List.set_cons_succ])
            refine wpAnyH_take (i := 2) (v := ?_) rfl (by kernel_rfl) (by kernel_rfl) (by kernel_rfl) (fun _ _ _ h => h) (Or.inl ⟨by rfl, ?_⟩) (by assumption) ?_
            case refine_2 => (intro w hSw; (try dsimp only at hSw); go_simp; (try with_reducible rfl))
            (try simp only [Act.put, List.getElem_toArray, List.getElem_cons_succ, List.getElem_cons_zero, List.setIfInBounds_toArray, List.set_cons_zero, List.set_cons_succ])
            refine wpAnyH_take (i := 3) (v := ?_) rfl (by kernel_rfl) (by kernel_rfl) (by kernel_rfl) (fun _ _ _ h => h) (Or.inl ⟨by rfl, ?_⟩) (by assumption) ?_
            case refine_2 => (intro w hSw; (try dsimp only at hSw); go_simp; (try with_reducible rfl))
            (try simp only [Act.put, List.getElem_toArray, List.getElem_cons_succ, List.getElem_cons_zero, List.setIfInBounds_toArray, List.set_cons_zero, List.set_cons_succ])
            refine wpAnyH_ready (rs := [4]) (by kernel_rfl) (by simp) ?_
            refine AllReadyH.cons rfl (fun K hK => ?_) AllReadyH.nil
            go_simp
            refine hK.out _ _ k5 (fun hHeld => ?_)
            clear hK K
            refine wpAnyH_done (by kernel_rfl) ?_ _
            have hsum := append_any 60 60 (some ⟨w.heap.size + 1, 0, none⟩) h w5 HLT.out (by omega) HC.out.1
            clear hcp
            go_wp2_with (first
              | (go_at_call 86; refine hsum.mono ?_; rintro e w6 ⟨y, rfl, hb6, hr6⟩; clear hsum))
            go_ret
            exact ⟨y, rfl, HC.out.2.trans (hb6.mono HC.out.2.size), hr6.congr fun i hi => by
              rw [HH.out]
              unfold mkS
              by_cases e : i < 60
              · rw [if_pos e, if_pos e]
              · rw [if_neg e, if_neg e, if_pos (by omega)]⟩
          | false =>
            have e8 : (h 8 : Int) = (M : Int) := by
              rw [HH.out]
              show ((plen l k + (if plast l k = true then 128 else 0) : Nat) : Int) = _
              rw [← HL.out, ← HM.out, hLc]
              simp
            subst hLc
            have HS9 : Hid (SSt w ((w3.setCell ⟨w.heap.size + 1, 7, none⟩ (.int .u8 (k : Int))).setCell ⟨w.heap.size + 1, 8, none⟩ (.int .u8 (M : Int))) g r k M false x c h 9) := by
              have := HS8.out.set (by omega)
              rw [e8] at this
              exact this
            clear e8 HS8
            go_wp2_with fail
            generalize ((w3.setCell ⟨w.heap.size + 1, 7, none⟩ (.int .u8 (k : Int))).setCell ⟨w.heap.size + 1, 8, none⟩ (.int .u8 (M : Int))) = W5 at *
            obtain ⟨w5, hcp, k5, HC⟩ := sst_copy HS9.out hM5 HE2.out HZ.out
            have k4 := HS9.out.five.c4
            refine wp_region_held_drew (S := fun v => v.cell? ⟨w.heap.size, 4, none⟩ = some (.slice x M c)) (by kernel_rfl) k4 (fun hHeld => ?_)
            refine wpAnyH_take (i := 0) (v := ?_) rfl (by kernel_rfl) (by kernel_rfl) (by kernel_rfl) (fun _ _ _ h => h) (Or.inl ⟨by rfl, ?_⟩) (by assumption) ?_
            case refine_2 => (intro w hSw; (try dsimp only at hSw); go_simp; (try with_reducible rfl))
            (try simp only [Act.put, List.getElem_toArray, List.getElem_cons_succ, List.getElem_cons_zero, List.setIfInBounds_toArray, List.set_cons_zero, List.set_cons_succ])
            refine wpAnyH_take (i := 1) (v := ?_) rfl (by kernel_rfl) (by kernel_rfl) (by kernel_rfl) (fun _ _ _ h => h) (Or.inl ⟨by rfl, ?_⟩) (by assumption) ?_
            case refine_2 => (intro w hSw; (try dsimp only at hSw); go_simp; (try with_reducible rfl))
            (try simp only [Act.put, List.getElem_toArray, List.getElem_cons_succ, List.getElem_cons_zero, List.setIfInBounds_toArray, List.set_cons_zero, List.set_cons_succ])
            refine wpAnyH_take (i := 2) (v := ?_) rfl (by kernel_rfl) (by kernel_rfl) (by kernel_rfl) (fun _ _ _ h => h) (Or.inl ⟨by rfl, ?_⟩) (by assumption) ?_
            case refine_2 => (intro w hSw; (try dsimp only at hSw); go_simp; (try with_reducible rfl))
            (try simp only [Act.put, List.getElem_toArray, List.getElem_cons_succ, List.getElem_cons_zero, List.setIfInBounds_toArray, List.set_cons_zero, List.set_cons_succ])
            refine wpAnyH_take (i := 3) (v := ?_) rfl (by kernel_rfl) (by kernel_rfl) (by kernel_rfl) (fun _ _ _ h => h) (Or.inl ⟨by rfl, ?_⟩) (by assumption) ?_
            case refine_2 => (intro w hSw; (try dsimp only at hSw); go_simp; (try with_reducible rfl))
            (try simp only [Act.put, List.getElem_toArray, List.getElem_cons_succ, List.getElem_cons_zero, List.setIfInBounds_toArray, List.set_cons_zero, List.set_cons_succ])
            refine wpAnyH_ready (rs := [4]) (by kernel_rfl) (by simp) ?_
            refine AllReadyH.cons rfl (fun K hK => ?_) AllReadyH.nil
            go_simp
            refine hK.out _ _ k5 (fun hHeld => ?_)
            clear hK K
            refine wpAnyH_done (by kernel_rfl) ?_ _
            have hsum := append_any 60 60 (some ⟨w.heap.size + 1, 0, none⟩) h w5 HLT.out (by omega) HC.out.1
            clear hcp
            go_wp2_with (first
              | (go_at_call 86; refine hsum.mono ?_; rintro e w6 ⟨y, rfl, hb6, hr6⟩; clear hsum))
            go_ret
            exact ⟨y, rfl, HC.out.2.trans (hb6.mono HC.out.2.size), hr6.congr fun i hi => by
              rw [HH.out]
              unfold mkS
              by_cases e : i < 60
              · rw [if_pos e, if_pos e]
              · rw [if_neg e, if_neg e, if_pos (by omega)]⟩

end Go.Proofs.YtbbjklenpgkooaaGreat

/-
  What the inner partsOf of package journal does: a contract over plain numbers ('JoPlain').
  Conditions: the record's bytes lie in memory.
-/
namespace Go.Proofs.YtbbjklenpgkooaaGreat
open Go.RowKit By Dk Su Jo
set_option linter.unusedVariables false
set_option linter.unusedSimpArgs false
set_option maxRecDepth 100000

theorem info_part : (Tryz.prog.info? 122).map (fun i => (i.zero, i.size, i.bytes)) = some (some (.agg #[.int .i64 0, .int .u32 0, .int .i64 0, .bool false, .slice none 0 0]), 5, 56) := by kernel_rfl

def prV (g r l : Nat) (X : Nat → Option Addr) (C : Nat → Nat) : Nat → Value := fun q =>
  if q % 5 = 0 then .int .i64 (g : Int) else if q % 5 = 1 then .int .u32 (r : Int) else if q % 5 = 2 then .int .i64 ((q / 5 : Nat) : Int) else if q % 5 = 3 then .bool (plast l (q / 5)) else .slice (X (q / 5)) (plen l (q / 5)) (C (q / 5))

theorem prV_row (g r l : Nat) (X : Nat → Option Addr) (C : Nat → Nat) (k : Nat) : rowOf (prV g r l X C) ((k + 1) * 5) = rowOf (prV g r l X C) (k * 5) ++ [.int .i64 (g : Int), .int .u32 (r : Int), .int .i64 (k : Int), .bool (plast l k), .slice (X k) (plen l k) (C k)] := by
  have h0 : prV g r l X C (k * 5) = .int .i64 (g : Int) := by unfold prV; rw [if_pos (by omega)]
  have h1 : prV g r l X C (k * 5 + 1) = .int .u32 (r : Int) := by unfold prV; rw [if_neg (by omega), if_pos (by omega)]
  have h2 : prV g r l X C (k * 5 + 1 + 1) = .int .i64 (k : Int) := by unfold prV; rw [if_neg (by omega), if_neg (by omega), if_pos (by omega), show (k * 5 + 1 + 1) / 5 = k by omega]
  have h3 : prV g r l X C (k * 5 + 1 + 1 + 1) = .bool (plast l k) := by unfold prV; rw [if_neg (by omega), if_neg (by omega), if_neg (by omega), if_pos (by omega), show (k * 5 + 1 + 1 + 1) / 5 = k by omega]
  have h4 : prV g r l X C (k * 5 + 1 + 1 + 1 + 1) = .slice (X k) (plen l k) (C k) := by unfold prV; rw [if_neg (by omega), if_neg (by omega), if_neg (by omega), if_neg (by omega), show (k * 5 + 1 + 1 + 1 + 1) / 5 = k by omega]
  rw [show (k + 1) * 5 = k * 5 + 1 + 1 + 1 + 1 + 1 by omega, rowOf_succ, rowOf_succ, rowOf_succ, rowOf_succ, rowOf_succ, h0, h1, h2, h3, h4]
  simp

structure Pts (w wr : World) (g r l k : Nat) (X : Nat → Option Addr) (C : Nat → Nat) (R : Value) : Prop where
  bel : Below w.heap.size w wr
  own : wr.ownsRow 0 122 5 R k (rowOf (prV g r l X C) (k * 5))
  ob : ∀ q, R.ownBlock = some q → w.heap.size ≤ q

theorem pts_push {w wr : World} {g r l k : Nat} {X : Nat → Option Addr} {C : Nat → Nat} {R : Value} (h : Pts w wr g r l k X C R) (hk : k ≤ 1000) :
    ∃ x' c' w', (Builtin.append_ #[119, 119] 119 #[R, .slice (some ⟨wr.heap.size, 0, none⟩) 1 1]).run Tryz.prog (wr.alloc (.cells #[.int .i64 (g : Int), .int .u32 (r : Int), .int .i64 (k : Int), .bool (plast l k), .slice (X k) (plen l k) (C k)] 122)) = .ok (.slice x' (k + 1) c') w' ∧
      Hid (Pts w w' g r l (k + 1) X C (.slice x' (k + 1) c')) := by
  have b1 : Below wr.heap.size wr (wr.alloc (.cells #[.int .i64 (g : Int), .int .u32 (r : Int), .int .i64 (k : Int), .bool (plast l k), .slice (X k) (plen l k) (C k)] 122)) := (Below.refl _ _).alloc (Nat.le_refl _) _
  have hown := ownsRow_same h.own (fun q hq => b1.block q (h.own.lt q hq).2)
  obtain ⟨i0, hi, hz0, hz1, hz2⟩ := info_parts info_part
  obtain ⟨R', w4, hap, ho, hgr, hR'⟩ := push_gen (wr.alloc (.cells #[.int .i64 (g : Int), .int .u32 (r : Int), .int .i64 (k : Int), .bool (plast l k), .slice (X k) (plen l k) (C k)] 122)) 119 122 i0 _ 5 56 Tryz.underlying119 hi hz0 hz1 hz2 rfl (by decide) R k _ hown
    ⟨wr.heap.size, 0, none⟩ 1 1 [.int .i64 (g : Int), .int .u32 (r : Int), .int .i64 (k : Int), .bool (plast l k), .slice (X k) (plen l k) (C k)] rfl (fun j u hj => by
      rw [add_at, Nat.zero_add]
      simp only [World.cell?, heap_alloc_new]
      simpa using hj) (fun u hu => by
      simp at hu
      rcases hu with rfl | rfl | rfl | rfl | rfl <;> rfl) (by omega) (by unfold maxLen; omega) (by omega)
  rw [← prV_row] at ho
  have hT : Turns (fun q => R.ownBlock = some q) wr w4 := (Turns.of_below b1).grown hgr (fun q hq => .inl hq)
  rcases ho.2 with ⟨_, h0⟩ | ⟨g0, cap, cur, hv, _⟩
  · omega
  · subst hv
    refine ⟨_, cap, w4, hap, h.bel.trans (hT.below h.ob h.bel.size), ho, fun q hq => ?_⟩
    rcases hR' q hq with e | e
    · exact h.ob q e
    · have := h.bel.size
      simp at e
      omega

set_option maxHeartbeats 1500000 in
set_option maxRecDepth 100000 in
theorem parts_of (l c g r : Nat) (x : Option Addr) (w : World) (X : Nat → Option Addr) (hl : l ≤ 13005) (hlc : l ≤ c) (hX : X 0 = x) (hX2 : ∀ k, k + 1 < pcs l → ∃ b o, X k = some ⟨b, o, none⟩ ∧ X (k + 1) = some ⟨b, o + 51, none⟩) (hr : r < 4294967296) :
    Calls Tryz.prog 70 #[.slice x l c, .int .i64 (g : Int), .int .u32 (r : Int)] w fun e w' => ∃ y cy, e = .returned (.slice y (pcs l) cy) ∧ Pts w w' g r l (pcs l) X (fun k => c - 51 * k) (.slice y (pcs l) cy) := by
  have HX := hid hX
  have HX2 := hid hX2
  have HLC := hid hlc
  clear hX hX2 hlc
  go_enter Tryz.func70, Tryz.ntmps70
  go_wp2_with fail
  go_loopw [0, 7] (fun b o wr => ∃ (k : Nat) (xk : Option Addr) (lk ck : Nat) (y : Option Addr) (cy : Nat), k ≤ 255 ∧ lk ≤ 13005 ∧ b = .slice xk lk ck ∧ o = .slice y k cy ∧ Hid (xk = X k ∧ lk = l - 51 * k ∧ ck = c - 51 * k ∧ k < pcs l ∧ Pts w wr g r l k X (fun k => c - 51 * k) (.slice y k cy))) (fun b _ _ => slLen b)
  case atStart => exact ⟨0, x, l, c, none, 0, by omega, hl, rfl, rfl, HX.out.symm, by omega, by omega, pcs_pos l, Below.refl _ _, ⟨rfl, .inl ⟨rfl, rfl⟩⟩, fun q hq => by cases hq⟩
  case round =>
    obtain ⟨k, xk, lk, ck, y, cy, hk, hl9, rfl, rfl, HR⟩ := hrel
    obtain ⟨e1, e2, e3, hkp, hpt⟩ := HR.out
    have hlck : lk ≤ ck := by have := HLC.out; omega
    have HKP := hid hkp
    obtain ⟨xA, cA, w4, hap, HN⟩ := pts_push hpt (by omega)
    have hap : (Builtin.append_ #[119, 119] 119 #[.slice y k cy, .slice (some ⟨wr.heap.size, 0, none⟩) 1 1]).run Tryz.prog (wr.alloc (.cells #[.int .i64 (g : Int), .int .u32 (r : Int), .int .i64 (k : Int), .bool (plast l k), .slice (X k) (plen l k) (c - 51 * k)] 122)) = .ok (.slice xA (k + 1) cA) w4 := hap
    obtain ⟨k1, hk1⟩ : ∃ k1, k1 = k + 1 := ⟨_, rfl⟩
    rw [← hk1] at hap HN
    have HK1 := hid hk1
    by_cases hle : lk ≤ 51
    · have hpc : pcs l = k + 1 := by
        have h1 : pcs l ≤ k + 1 := pcs_fits.2 ⟨by omega, by omega⟩
        omega
      have hpl : plen l k = lk := by unfold plen; omega
      have hla : plast l k = true := by unfold plast; simp [hpc]
      rw [hpl, hla, ← e1, ← e3] at hap
      have hle' : (lk : Int) ≤ 51 := by omega
      have HPC := hid hpc
      clear e1 e2 e3 hkp hpt HR hk1 hpc hpl hla
      go_wp2_with (first
        | (at_builtin; refine wpList_append_run rfl _ _ 119 rfl _ _ rfl rfl hap ?_; clear hap))
      go_ret
      have e : pcs l = k1 := by rw [HPC.out, HK1.out]
      rw [e]
      exact ⟨xA, cA, rfl, HN.out⟩
    · have hpc : k + 1 < pcs l := by
        rcases Nat.lt_or_ge (k + 1) (pcs l) with h | h
        · exact h
        · have := (pcs_fits.1 h).2
          omega
      have hpl : plen l k = 51 := plen_mid hpc
      have hla : plast l k = false := by unfold plast; simp; omega
      obtain ⟨b, o, x1, x2⟩ := HX2.out k hpc
      rw [x1] at e1
      subst e1
      rw [hpl, hla, x1, ← e3] at hap
      have hgt : ¬ (lk : Int) ≤ 51 := by omega
      have hgt' : (51 : Int) < (lk : Int) := by omega
      have hne : ¬ ck = 51 := by omega
      have hnb : ((51 : Int) == (lk : Int)) = false := by rw [beq_eq_false_iff_ne]; omega
      have HPC := hid hpc
      have HX3 := hid x2
      have HE := hid (And.intro e2 e3)
      clear e2 e3 hkp hpt HR hk1 hpc hpl hla x1 x2
      go_wp2_with (first
        | (at_builtin; refine wpList_append_run rfl _ _ 119 rfl _ _ rfl rfl hap ?_; clear hap))
      have hk1 := HK1.out
      exact ⟨⟨k1, _, _, _, xA, cA, by have := HPC.out; have := pcs_le hl; omega, by omega, rfl, rfl, by rw [hk1]; exact HX3.out.symm, by have := HE.out.1; omega, by have := HE.out.2; omega, by have := HPC.out; omega, HN.out⟩, by simp only [slLen]; omega⟩

end Go.Proofs.YtbbjklenpgkooaaGreat

/-
  What the document's Records and Gen do, and the statements' list of a disk's sectors: contracts over plain numbers ('JoPlain').
  Conditions: the sectors lie in memory.
-/
import Derived.Test.YthfpljfndnjcnaaJoRefOne
namespace Go.Proofs.Ythfpljfndnjcnaa
open Go.RowKit By Dk Su Jo
set_option linter.unusedVariables false
set_option linter.unusedSimpArgs false

structure RdsR (w wr : World) (V : Nat → Nat → Nat) (n m : Nat) (st : Nat → Nat) (R : Value) (A : Nat → Option Addr) (C : Nat → Nat) : Prop where
  run : Run OkR V n m st
  own : OwnG wr w.heap.size R m A (lnOf V st) C (ftOf V st)
  bel : Below w.heap.size w wr

theorem rdsR_push {w wr v : World} {S : Nat → Nat → Nat} {n m c cy : Nat} {st : Nat → Nat} {R : Value} {A : Nat → Option Addr} {C : Nat → Nat} {y : Option Addr} (h : RdsR w wr S n m st R A C) (hb : Below wr.heap.size wr v) (hlt : ∀ k j, S k j < 256)
    (hr : Rec OkR S n (st m) (m + 1) c) (hg : bef S st m ≤ genS (S (st m))) (he : Elt v y (rlen S (st m) c) cy (rbyte S (st m))) (hy : ∀ ad, y = some ad → wr.heap.size ≤ ad.block) (hm : m ≤ 4096) :
    ∃ x' c' w', (Builtin.append_ #[38, 38] 38 #[R, .slice (some ⟨v.heap.size, 0, none⟩) 1 1]).run Try.prog (v.alloc (.cells #[.slice y (rlen S (st m) c) cy] 31)) = .ok (.slice x' (m + 1) c') w' ∧ Hid (RdsR w w' S n (m + 1) (stx st m c) (.slice x' (m + 1) c') (ext A m y) (ext C m cy)) := by
  have hRlt := h.own.olt
  obtain ⟨x', c', w', hrun, ho, T, hR'⟩ := (h.own.below hb).push (Nat.le_trans h.bel.size hb.size) he (fun ad e hg => by have := hRlt _ hg; have := hy ad e; omega) (by omega)
  refine ⟨x', c', w', hrun, h.run.push hr hg, ho.congr fun i hi => ⟨rfl, ?_, rfl, fun j hj => ?_, fun j => hlt _ _⟩, ?_⟩
  · unfold lnOf
    by_cases e : i < m
    · rw [ext_old _ _ _ e, stx_old _ _ (by omega), stx_old _ _ (by omega)]
    · obtain rfl : i = m := by omega
      rw [ext_new, stx_new, stx_old _ _ (Nat.le_refl _), Nat.add_sub_cancel_left]
  · unfold ftOf
    by_cases e : i < m
    · rw [ext_old _ _ _ e, stx_old _ _ (by omega)]
    · obtain rfl : i = m := by omega
      rw [ext_new, stx_old _ _ (Nat.le_refl _)]
  · exact (h.bel.trans (hb.mono h.bel.size)).trans (T.below (fun k hk => h.own.ob k hk) (Nat.le_trans h.bel.size hb.size))

set_option maxHeartbeats 1500000 in
set_option maxRecDepth 100000 in
theorem rrecs_any (gl n cl : Nat) (V : Nat → Nat → Nat) (w : World) (hl : SecL w gl n V) (hn : n ≤ 300) :
    Calls Try.prog 16 #[.slice (some ⟨gl, 0, none⟩) n cl] w fun e w' => ∃ m st x c A C, e = .returned (.tuple #[.slice x m c, .int .i64 (st m : Int)]) ∧ Recs OkR V n m st ∧ OwnG w' w.heap.size (.slice x m c) m A (lnOf V st) C (ftOf V st) ∧ Below w.heap.size w w' := by
  have HL := hid hl
  have H0 : Hid (OwnG (w.alloc (.cells #[] 31)) w.heap.size (.slice (some ⟨w.heap.size, 0, none⟩) 0 0) 0 (fun _ => none) (lnOf V (fun _ => 0)) (fun _ => 0) (ftOf V (fun _ => 0)) ∧ Below w.heap.size w (w.alloc (.cells #[] 31))) := ⟨OwnG.empty w w.heap.size (Nat.le_refl _) _ _ _ _, (Below.refl _ _).alloc (Nat.le_refl _) _⟩
  clear hl
  go_enter Try.func16, Try.ntmps16
  go_wp2_with fail
  go_loopw [4, 5, 6] (fun out used least wr => ∃ (m u L : Nat) (x : Option Addr) (cx : Nat), m ≤ n ∧ u ≤ n ∧ L < 65536 ∧ out = .slice x m cx ∧ used = .int .i64 u ∧ least = .int .i64 L ∧ Hid (∃ st A C, RdsR w wr V n m st (.slice x m cx) A C ∧ u = st m ∧ L = bef V st m)) (fun _ u _ _ => n - (intOf u).toNat)
  case atStart => exact ⟨0, 0, 0, _, _, by omega, by omega, by omega, rfl, rfl, rfl, fun _ => 0, _, _, ⟨⟨rfl, fun i hi => by omega, fun i hi => by omega, fun i hi => by omega⟩, H0.out.1, H0.out.2⟩, rfl, rfl⟩
  case round =>
    clear H0
    obtain ⟨m, u, L, x, cx, hm, hu, hL, rfl, rfl, rfl, HR⟩ := hrel
    obtain ⟨st, A, C, hds, hu2, hL2⟩ := HR.out
    obtain ⟨r1, hr1⟩ : ∃ r1, r1 = m + 1 := ⟨_, rfl⟩
    have hri : (m : Int) + 1 = (r1 : Int) := by omega
    have hr9 : r1 ≤ 1000 := by omega
    have hlv := HL.out.below hds.bel
    have HD := hid hds
    have HU := hid hu2
    have HLx := hid hL2
    have HR1 := hid hr1
    have HVl := hid hlv.lt
    by_cases hex : ∃ cc, Rec OkR V n u r1 cc ∧ L ≤ genS (V u)
    · obtain ⟨cc, hcc, hge⟩ := hex
      have hrr := rone_yes gl n cl u r1 L cc V wr hlv hn hu hr9 hL hcc hge
      have hgl := gen_lt (hlv.lt u)
      have hfits := hcc.fits
      have hpos := hcc.pos
      obtain ⟨u', hu'⟩ : ∃ u', u' = u + cc := ⟨_, rfl⟩
      have hui : (u : Int) + (cc : Int) = (u' : Int) := by omega
      have HU' := hid hu'
      obtain ⟨g, hg⟩ : ∃ g, g = genS (V u) := ⟨_, rfl⟩
      have HG := hid hg
      rw [← hg] at hrr hgl hge
      have HCC := hid hcc
      obtain ⟨ll, hll⟩ : ∃ ll, ll = rlen V u cc := ⟨_, rfl⟩
      have HLL := hid hll
      rw [← hll] at hrr
      have hc0 : ((cc : Int) == 0) = false := by rw [beq_eq_false_iff_ne]; omega
      have HR2 : Hid (m + 1 ≤ n) := by
        have h1 := HD.out.run.count m (Nat.le_refl _)
        rw [← HU.out] at h1
        exact show m + 1 ≤ n by omega
      have HPUSH : Hid (∀ (v : World) (y : Option Addr) (cy : Nat), Below wr.heap.size wr v → Elt v y ll cy (rbyte V u) → (∀ ad, y = some ad → wr.heap.size ≤ ad.block) →
          ∃ x' c' w', (Builtin.append_ #[38, 38] 38 #[.slice x m cx, .slice (some ⟨v.heap.size, 0, none⟩) 1 1]).run Try.prog (v.alloc (.cells #[.slice y ll cy] 31)) = .ok (.slice x' r1 c') w' ∧
            ∃ st A C, RdsR w w' V n r1 st (.slice x' r1 c') A C ∧ u' = st r1 ∧ g = bef V st r1) := fun v y cy hb he hy => by
        rw [HLL.out, HU.out] at he
        obtain ⟨x', c', w', e1, e3⟩ := rdsR_push HD.out hb HVl.out (by rw [← HU.out, ← HR1.out]; exact HCC.out) (by rw [← HLx.out, ← HU.out, ← HG.out]; exact hge) he hy (by omega)
        rw [HLL.out, HU.out, HR1.out]
        refine ⟨x', c', w', e1, _, _, _, e3.out, ?_, ?_⟩
        · rw [stx_new, HU'.out, HU.out]
        · unfold bef
          rw [if_neg (by omega), Nat.add_sub_cancel, stx_old _ _ (Nat.le_refl _), HG.out, HU.out]
      clear hds hu2 hL2 hr1 hcc hu' hg hll HR hlv
      go_wp2_with (first
        | (go_at_call 38; refine hrr.mono ?_; rintro e w1 ⟨y, cy, rfl, hb1, helt, hy⟩; clear hrr
           obtain ⟨xA, cA, w4, hap, HN⟩ := HPUSH.out w1 y cy hb1 helt hy
           have HN2 := hid HN
           clear hb1 helt hy HN)
        | (at_builtin; refine wpList_append_run rfl _ _ 38 rfl _ _ rfl rfl hap ?_; clear hap))
      go_roundw
      case rel => exact ⟨r1, u', g, xA, cA, by have := HR1.out; have := HR2.out; omega, by have := HU'.out; omega, hgl, rfl, rfl, rfl, HN2.out⟩
      case measure => simp [intOf]; omega
    · have hno : ∀ cc, Rec OkR V n u r1 cc → genS (V u) < L := fun cc h => by
        rcases Nat.lt_or_ge (genS (V u)) L with h1 | h1
        · exact h1
        · exact absurd ⟨cc, h, h1⟩ hex
      have hrr := rone_no gl n cl u r1 L V wr hlv hn hu hr9 hL hno
      have HEND : Hid (Recs OkR V n m st) := ⟨hds.run, fun c hc => by rw [← hL2, ← hu2]; exact hno c (by rw [hr1, hu2]; exact hc)⟩
      clear hds hu2 hL2 hr1 HR hlv hno hex
      go_wp2_with (first
        | (go_at_call 38; refine hrr.mono ?_; rintro e w1 ⟨rfl, hb1⟩; clear hrr
           have HB1 := hid hb1
           clear hb1))
      go_ret2
      exact ⟨m, st, x, cx, A, C, by rw [← HU.out]; rfl, HEND.out, HD.out.own.below HB1.out, HD.out.bel.trans (HB1.out.mono HD.out.bel.size)⟩

set_option maxHeartbeats 1500000 in
theorem rgen_any (gl n cl : Nat) (V : Nat → Nat → Nat) (w : World) (hl : SecL w gl n V) (hn : n ≤ 300) :
    Calls Try.prog 14 #[.slice (some ⟨gl, 0, none⟩) n cl] w fun e w' => ∃ G : Nat, e = .returned (.int .i64 (G : Int)) ∧ Below w.heap.size w w' ∧ Top OkR V n G ∧ G < 65536 := by
  have HL := hid hl
  clear hl
  go_enter Try.func14, Try.ntmps14
  go_wp2_with fail
  go_loopw [3, 4] (fun g i wr => ∃ (k G : Nat), k ≤ n ∧ G < 65536 ∧ g = .int .i64 G ∧ i = .int .i64 k ∧ Hid (Top OkR V k G ∧ Below w.heap.size w wr)) (fun _ i _ => n - (intOf i).toNat)
  case atStart => exact ⟨0, 0, by omega, by omega, rfl, rfl, Top.zero _ _, Below.refl _ _⟩
  case round =>
    obtain ⟨k, G, hk, hG, rfl, rfl, HR⟩ := hrel
    obtain ⟨htop, hbel⟩ := HR.out
    by_cases hlt : k < n
    · have hlt' : (k : Int) < (n : Int) := by omega
      have hlv := HL.out.below hbel
      obtain ⟨b', o', c', t1, t2, t3⟩ := hlv.row k hlt
      have HB := hid hbel
      by_cases hok : OkR (V k)
      · have hp := rread_yes b' o' c' (V k) wr (hlv.lt _) t2 t3 hok
        have hgl := gen_lt (hlv.lt k)
        by_cases e : G < genS (V k)
        · have HT : Hid (Top OkR V (k + 1) (genS (V k))) := htop.yes hok (by omega)
          have e' : (G : Int) < (genS (V k) : Int) := by omega
          clear htop hbel HR hlv t3 hok
          generalize genS (V k) = g at *
          generalize num (V k) = N at *
          generalize V k 7 = P at *
          generalize lst (V k) = L at *
          generalize cnt (V k) = M at *
          go_wp2_with (first
            | (go_at_call 36; refine hp.mono ?_; rintro e w1 ⟨y, cy, rfl, hb1, _⟩; clear hp))
          have hb2 : Below wr.heap.size wr (w1.alloc (.cells #[.int .i64 (g : Int), .int .i64 (N : Int), .int .i64 (P : Int), .bool L, .slice (some ⟨y, 0, none⟩) M cy] 67)) := hb1.alloc hb1.size _
          first
            | exact ⟨⟨k + 1, g, by omega, hgl, rfl, by go_num, HT.out, HB.out.trans (hb2.mono HB.out.size)⟩, show n - ((k : Int) + 1).toNat < n - ((k : Int)).toNat by omega⟩
            | (go_roundw
               case rel => exact ⟨k + 1, g, by omega, hgl, rfl, by go_num, HT.out, HB.out.trans (hb2.mono HB.out.size)⟩
               case measure => simp [intOf]; omega)
        · have HT : Hid (Top OkR V (k + 1) G) := htop.no fun _ => by omega
          have e' : ¬ (G : Int) < (genS (V k) : Int) := by omega
          clear htop hbel HR hlv t3 hok
          generalize genS (V k) = g at *
          generalize num (V k) = N at *
          generalize V k 7 = P at *
          generalize lst (V k) = L at *
          generalize cnt (V k) = M at *
          go_wp2_with (first
            | (go_at_call 36; refine hp.mono ?_; rintro e w1 ⟨y, cy, rfl, hb1, _⟩; clear hp))
          have hb2 : Below wr.heap.size wr (w1.alloc (.cells #[.int .i64 (g : Int), .int .i64 (N : Int), .int .i64 (P : Int), .bool L, .slice (some ⟨y, 0, none⟩) M cy] 67)) := hb1.alloc hb1.size _
          first
            | exact ⟨⟨k + 1, G, by omega, hG, rfl, by go_num, HT.out, HB.out.trans (hb2.mono HB.out.size)⟩, show n - ((k : Int) + 1).toNat < n - ((k : Int)).toNat by omega⟩
            | (go_roundw
               case rel => exact ⟨k + 1, G, by omega, hG, rfl, by go_num, HT.out, HB.out.trans (hb2.mono HB.out.size)⟩
               case measure => simp [intOf]; omega)
      · have hp := rread_no b' o' c' (V k) wr (hlv.lt _) t2 t3 hok
        have HT : Hid (Top OkR V (k + 1) G) := htop.no fun h => absurd h hok
        clear htop hbel HR hlv t3 hok
        unfold noPartR at hp
        go_wp2_with (first
          | (go_at_call 36; refine hp.mono ?_; rintro e w1 ⟨rfl, hb1⟩; clear hp))
        have hb2 : Below wr.heap.size wr (w1.alloc (.cells #[.int .i64 0, .int .i64 0, .int .i64 0, .bool false, .slice none 0 0] 67)) := hb1.alloc hb1.size _
        first
          | exact ⟨⟨k + 1, G, by omega, hG, rfl, by go_num, HT.out, HB.out.trans (hb2.mono HB.out.size)⟩, show n - ((k : Int) + 1).toNat < n - ((k : Int)).toNat by omega⟩
          | (go_roundw
             case rel => exact ⟨k + 1, G, by omega, hG, rfl, by go_num, HT.out, HB.out.trans (hb2.mono HB.out.size)⟩
             case measure => simp [intOf]; omega)
    · obtain rfl : k = n := by omega
      have HT := hid htop
      have HB := hid hbel
      clear htop hbel HR
      go_wp2_with fail
      go_ret
      exact ⟨G, rfl, HB.out, HT.out, hG⟩

/- sectors(d). -/
set_option maxHeartbeats 1000000 in
theorem sectors_any (p n m : Nat) (F : Nat → Prop) (f A : Nat → Nat) (D : Nat → Nat → Nat) (w : World) (h : Pd w F p n m f A D) :
    Calls Try.prog 15 #[.pointer (some ⟨p, 0, none⟩)] w fun e w' => ∃ g c Aa C, e = .returned (.slice (some ⟨g, 0, none⟩) n c) ∧ Below w.heap.size w w' ∧ OwnG w' w.heap.size (.slice (some ⟨g, 0, none⟩) n c) n Aa (fun _ => 64) C (vw f A D m) ∧ (∀ i, i < n → ∀ ad, Aa i = some ad → w.heap.size ≤ ad.block) := by
  obtain ⟨hn1, hn2⟩ := h.n1
  have HP := hid h
  have H0 : Hid (OwnG (w.alloc (.cells #[] 31)) w.heap.size (.slice (some ⟨w.heap.size, 0, none⟩) 0 0) 0 (fun _ => none) (fun _ => 64) (fun _ => 64) (vw f A D m) ∧ Below w.heap.size w (w.alloc (.cells #[] 31)) ∧ ∀ i, i < 0 → ∀ ad : Addr, (fun _ : Nat => (none : Option Addr)) i = some ad → w.heap.size ≤ ad.block) := ⟨OwnG.empty w w.heap.size (Nat.le_refl _) _ _ _ _, (Below.refl _ _).alloc (Nat.le_refl _) _, fun i hi => by omega⟩
  have HVL := hid (fun k j => vw_lt (A := A) h.lt h.ltD m k j)
  clear h
  go_enter Try.func15, Try.ntmps15
  go_wp2_with fail
  go_loopw [3, 4] (fun o i wr => ∃ (k : Nat) (g c : Nat), k ≤ n ∧ i = .int .i64 k ∧ o = .slice (some ⟨g, 0, none⟩) k c ∧ Hid (∃ Aa C, OwnG wr w.heap.size (.slice (some ⟨g, 0, none⟩) k c) k Aa (fun _ => 64) C (vw f A D m) ∧ Below w.heap.size w wr ∧ ∀ i, i < k → ∀ ad, Aa i = some ad → w.heap.size ≤ ad.block)) (fun _ i _ => n - (intOf i).toNat)
  case atStart => exact ⟨0, _, _, by omega, rfl, rfl, _, _, H0.out⟩
  case round =>
    clear H0
    obtain ⟨k, gx, c, hk, rfl, rfl, HR⟩ := hrel
    obtain ⟨Aa, C, hown, hbel, hfre⟩ := HR.out
    have hsz := (HP.out.below hbel).size
    by_cases hlt : k < n
    · have hlt' : (k : Int) < (n : Int) := by omega
      have hrd := read_yes p n m k F f A D (k : Int) rfl wr (HP.out.below hbel) hlt
      have HPUSH : Hid (∀ v, Below wr.heap.size wr v → Blk v wr.heap.size 5 64 (fun i => .int .u8 (now f A D k m i : Int)) →
          ∃ g' c' w', (Builtin.append_ #[38, 38] 38 #[.slice (some ⟨gx, 0, none⟩) k c, .slice (some ⟨v.heap.size, 0, none⟩) 1 1]).run Try.prog (v.alloc (.cells #[.slice (some ⟨wr.heap.size, 0, none⟩) 64 64] 31)) = .ok (.slice (some ⟨g', 0, none⟩) (k + 1) c') w' ∧ ∃ Aa C, OwnG w' w.heap.size (.slice (some ⟨g', 0, none⟩) (k + 1) c') (k + 1) Aa (fun _ => 64) C (vw f A D m) ∧ Below w.heap.size w w' ∧ ∀ i, i < k + 1 → ∀ ad, Aa i = some ad → w.heap.size ≤ ad.block) := fun v hv hB => by
        have he : Elt v (some ⟨wr.heap.size, 0, none⟩) 64 64 (vw f A D m k) := ⟨hB.row.congr fun i hi => by unfold vw cut; rw [if_pos hi], (fun e => by cases e), Nat.le_refl _, by omega, HVL.out k, fun ad e => by cases e; exact hB.lt⟩
        obtain ⟨x', c', w', e1, e2, e3, _⟩ := (hown.below hv).push (Nat.le_trans hbel.size hv.size) he (fun ad e hg => by cases e; exact absurd (hown.olt _ hg) (Nat.lt_irrefl _)) (by omega)
        obtain ⟨x2, c2, e4, _, e5, e6⟩ := e2.form
        injection e4 with e4 _ _
        subst e4
        obtain ⟨g', e7, _⟩ := e6 0 (by omega)
        subst e7
        refine ⟨g', c', w', e1, _, _, e2.congr fun i hi => ⟨rfl, ?_, rfl, fun j hj => ?_, fun j => HVL.out i j⟩, (hbel.trans (hv.mono hbel.size)).trans (e3.below (fun q hq => hown.ob q hq) (Nat.le_trans hbel.size hv.size)), fun i hi ad ha => ?_⟩
        · by_cases e : i < k
          · rw [ext_old _ _ _ e]
          · obtain rfl : i = k := by omega
            rw [ext_new]
        · by_cases e : i < k
          · rw [ext_old _ _ _ e]
          · obtain rfl : i = k := by omega
            rw [ext_new]
        · by_cases e : i < k
          · rw [ext_old _ _ _ e] at ha; exact hfre i e ad ha
          · obtain rfl : i = k := by omega
            rw [ext_new] at ha
            cases ha
            exact hbel.size
      obtain ⟨k1, hk1⟩ : ∃ k1, k1 = k + 1 := ⟨_, rfl⟩
      rw [← hk1] at HPUSH
      have hk1i : (k : Int) + 1 = (k1 : Int) := by omega
      have HK1 := hid hk1
      clear hk1 hown hbel HR hfre
      go_wp2_with (first
        | (go_at_call 28; refine hsz.mono ?_; rintro e w' ⟨rfl, hw⟩; subst w'; clear hsz)
        | (go_at_call 37; refine hrd.mono ?_; rintro e w2 ⟨rfl, hb2, hB2⟩; clear hrd
           obtain ⟨g', c', w3, hap, HN⟩ := HPUSH.out w2 hb2 hB2
           have HN2 := hid HN
           clear hb2 hB2 HN)
        | (at_builtin; refine wpList_append_run rfl _ _ 38 rfl _ _ rfl rfl hap ?_; clear hap))
      first
        | exact ⟨⟨k1, g', c', by have := HK1.out; omega, rfl, rfl, HN2.out⟩, by have := HK1.out; simp [intOf]; omega⟩
        | (go_roundw
           case rel => exact ⟨k1, g', c', by have := HK1.out; omega, rfl, rfl, HN2.out⟩
           case measure => have := HK1.out; simp [intOf]; omega)
    · obtain rfl : k = n := by omega
      clear hown hbel hfre
      go_wp2_with (first
        | (go_at_call 28; refine hsz.mono ?_; rintro e w' ⟨rfl, hw⟩; subst w'; clear hsz))
      go_ret
      obtain ⟨Aa, C, h1, h2, h3⟩ := HR.out
      exact ⟨gx, c, Aa, C, rfl, h2, h1, h3⟩

end Go.Proofs.Ythfpljfndnjcnaa

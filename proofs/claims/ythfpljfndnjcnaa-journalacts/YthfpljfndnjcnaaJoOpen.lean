/-
  What the inner sectorsOf, and Open, of package journal do: contracts over plain numbers ('JoPlain').
  Conditions: the disk is one that New gave ('Pd'); its greatest generation is below 65535.
-/
import Derived.Test.YthfpljfndnjcnaaJoRecs
import Derived.Laws.MakeOwn
namespace Go.Proofs.Ythfpljfndnjcnaa
open Go.RowKit By Dk Su Jo
set_option linter.unusedVariables false
set_option linter.unusedSimpArgs false

def flat (V : Nat → Nat → Nat) : Nat → Nat := fun i => V (i / 64) (i % 64)

theorem vs_flat {V : Nat → Nat → Nat} (h : ∀ k j, 64 ≤ j → V k j = 0) : vs (flat V) = V := by
  funext k j
  unfold vs cut sec flat
  by_cases e : j < 64
  · rw [if_pos e, show (64 * k + j) / 64 = k by omega, show (64 * k + j) % 64 = j by omega]
  · rw [if_neg e, h k j (by omega)]

theorem vw_flat (f A : Nat → Nat) (D : Nat → Nat → Nat) (m : Nat) : vs (flat (vw f A D m)) = vw f A D m := vs_flat fun k j hj => by
  unfold vw cut
  rw [if_neg (by omega)]

theorem vw_lt {f A : Nat → Nat} {D : Nat → Nat → Nat} (hf : ∀ i, f i < 256) (hD : ∀ i j, D i j < 256) (m k j : Nat) : vw f A D m k j < 256 := cut_lt (fun i => now_lt hf hD k m i) j

theorem Pd.size {w : World} {F : Nat → Prop} {p n m : Nat} {f A : Nat → Nat} {D : Nat → Nat → Nat} (h : Pd w F p n m f A D) : Calls Try.prog 28 #[.pointer (some ⟨p, 0, none⟩)] w fun e w' => e = .returned (.int .i64 (n : Int)) ∧ w' = w := by
  obtain ⟨gs, gn, R, s, q, h⟩ := h
  exact size_any p n n _ w h.c2

theorem Pd.n1 {w : World} {F : Nat → Prop} {p n m : Nat} {f A : Nat → Nat} {D : Nat → Nat → Nat} (h : Pd w F p n m f A D) : 1 ≤ n ∧ n ≤ 4096 := by
  obtain ⟨gs, gn, R, s, q, h⟩ := h
  exact ⟨h.n1, h.n2⟩

/- What one reads, sector by sector. -/
structure Got (w wr : World) (V : Nat → Nat → Nat) (k : Nat) (R : Value) : Prop where
  bel : Below w.heap.size w wr
  own : wr.ownsRow 0 5 1 R (64 * k) (bytesOf (flat V) (64 * k))
  ob : ∀ g, R.ownBlock = some g → w.heap.size ≤ g

theorem got_push {w wr v : World} {V : Nat → Nat → Nat} {k c : Nat} {R : Value} (h : Got w wr V k R) (hb : Below wr.heap.size wr v) (hk : k ≤ 4096) (x : Option Addr) (hx : x ≠ none) (hrow : RowAt v x 64 (V k)) :
    ∃ x' c' w', (Builtin.append_ #[31, 31] 31 #[R, .slice x 64 c]).run Try.prog v = .ok (.slice x' (64 * (k + 1)) c') w' ∧ Hid (Got w w' V (k + 1) (.slice x' (64 * (k + 1)) c')) := by
  have hown : v.ownsRow 0 5 1 R (64 * k) (bytesOf (flat V) (64 * k)) := ownsRow_same h.own (fun g hg => hb.block g (h.own.lt g hg).2)
  obtain ⟨R', w', hr, ho, hgr, hR'⟩ := push_bytes v R (64 * k) _ hown x 64 c _ (fun e => absurd e hx) hrow (by omega)
  obtain ⟨x', c', hRe, _⟩ := ownsRow_form ho
  subst hRe
  have e : 64 * k + 64 = 64 * (k + 1) := by omega
  rw [e] at hr ho hR'
  refine ⟨x', c', w', hr, ?_, ?_, fun g hg => ?_⟩
  · have hT : Turns (fun q => R.ownBlock = some q) v w' := (Turns.refl _ v).grown hgr (fun q hq => .inl hq)
    exact (h.bel.trans (hb.mono h.bel.size)).trans (hT.below h.ob (Nat.le_trans h.bel.size hb.size))
  · rw [bytesOf_congr (f := flat V) (g := cat2 (flat V) (64 * k) (V k)) (fun i hi => ?_)]
    · exact ho
    · unfold cat2 flat
      by_cases e1 : i < 64 * k
      · rw [if_pos e1]
      · rw [if_neg e1, show i / 64 = k by omega, show i % 64 = i - 64 * k by omega]
  · rcases hR' g hg with e1 | e1
    · exact h.ob g e1
    · have := h.bel.size
      have := hb.size
      omega

set_option maxHeartbeats 1500000 in
set_option maxRecDepth 100000 in
theorem sectors_of (p n m : Nat) (F : Nat → Prop) (f A : Nat → Nat) (D : Nat → Nat → Nat) (w : World) (h : Pd w F p n m f A D) :
    Calls Try.prog 29 #[.pointer (some ⟨p, 0, none⟩)] w fun e w' => ∃ g c, e = .returned (.slice (some ⟨g, 0, none⟩) (64 * n) c) ∧ Below w.heap.size w w' ∧ Rest w' (some ⟨g, 0, none⟩) (64 * n) c n 0 (flat (vw f A D m)) := by
  obtain ⟨hn1, hn2⟩ := h.n1
  have hsz := h.size
  obtain ⟨s, hs⟩ : ∃ s, s = 64 * n := ⟨_, rfl⟩
  have hsi : (n : Int) * 64 = (s : Int) := by omega
  have hs9 : s ≤ 262144 := by omega
  obtain ⟨i0, hi, hz0, hz1, hz2⟩ := info_parts info_byte
  obtain ⟨w1, hmk, ho1, hg1⟩ := run_make_own (P := Try.prog) w 0 31 5 i0 (.int .u8 0) 1 Try.underlying31 hi hz0 hz1 .i64 .i64 s (by rw [hz2]; omega) (by unfold maxLen; omega) (Nat.zero_le _)
  have hb1 : Below w.heap.size w w1 := ⟨hg1.os, hg1.tape, hg1.output, hg1.size, fun k hk => hg1.block k hk (by simp)⟩
  have hsz1 := (h.below hb1).size
  have HG : Hid (Got w w1 (vw f A D m) 0 (.slice (some ⟨w.heap.size, 0, none⟩) 0 s)) := ⟨hb1, ho1, fun g hg => by simp [Value.ownBlock] at hg; omega⟩
  have HP := hid h
  have HS := hid hs
  clear h hs ho1 hg1 hb1 hi hz0 hz1 hz2
  go_enter Try.func29, Try.ntmps29
  go_wp2_with (first
    | (go_at_call 28; refine hsz.mono ?_; rintro e w' ⟨rfl, hw⟩; subst w'; clear hsz)
    | (go_at_call 28; refine hsz1.mono ?_; rintro e w' ⟨rfl, hw⟩; subst w'; clear hsz1))
  go_loopw [3, 13] (fun o i wr => ∃ (k : Nat) (x : Option Addr) (l c : Nat), k ≤ n ∧ i = .int .i64 k ∧ o = .slice x l c ∧ Hid (l = 64 * k ∧ Got w wr (vw f A D m) k (.slice x l c))) (fun _ i _ => n - (intOf i).toNat)
  case atStart => exact ⟨0, _, _, _, by omega, rfl, rfl, rfl, HG.out⟩
  case round =>
    clear HG hmk
    obtain ⟨k, x, l, c, hk, rfl, rfl, HR⟩ := hrel
    by_cases hlt : k < n
    · have hlt' : (k : Int) < (n : Int) := by omega
      have hrd := read_yes p n m k F f A D (k : Int) rfl wr (HP.out.below HR.out.2.bel) hlt
      go_wp2_with (first
        | (go_at_call 37; refine hrd.mono ?_; rintro e w2 ⟨rfl, hb2, hB2⟩; clear hrd
           obtain ⟨xA, cA, w3, hap, HN⟩ := got_push (c := 64) HR.out.2 hb2 (by omega) (some ⟨wr.heap.size, 0, none⟩) (fun h => by cases h) (hB2.row.congr fun i hi => by unfold vw cut; rw [if_pos hi])
           obtain ⟨l2, hl2⟩ : ∃ l2, l2 = 64 * (k + 1) := ⟨_, rfl⟩
           rw [← hl2] at hap HN
           have HL2 := hid hl2
           clear hb2 hB2 hl2)
        | (at_builtin; refine wpList_append_run rfl _ _ 31 rfl _ _ rfl rfl hap ?_; clear hap))
      go_roundw
      case rel => exact ⟨k + 1, xA, l2, cA, by omega, by go_num, rfl, HL2.out, HN.out⟩
      case measure => simp [intOf]; omega
    · obtain rfl : k = n := by omega
      go_wp2_with fail
      go_ret
      obtain ⟨e, hg⟩ := HR.out
      subst e
      obtain ⟨g, c', e1, h1, h2, h3, h4, h5⟩ := own_rowAt hg.own (fun e => by injection e with _ e _; omega)
      injection e1 with e1 _ e2
      subst e1 e2
      exact ⟨g, c, rfl, hg.bel, by omega, h3, h5.congr fun i hi => by congr 1; omega⟩

/- A journal in memory. -/
def obj4 (a b c d : Value) : Nat → Value := fun i => if i = 0 then a else if i = 1 then b else if i = 2 then c else d

structure Jn (w : World) (B jp p g u : Nat) (R : Value) (m : Nat) (A : Nat → Option Addr) (ln C : Nat → Nat) (ft : Nat → Nat → Nat) : Prop where
  obj : Blk w jp 57 4 (obj4 (.pointer (some ⟨p, 0, none⟩)) (.int .i64 (g : Int)) R (.int .i64 (u : Int)))
  own : OwnG w B R m A ln C ft
  jb : B ≤ jp
  af : ∀ i, i < m → ∀ ad, A i = some ad → B ≤ ad.block ∧ ad.block ≠ jp

def jfoot (R : Value) (jp m : Nat) (A : Nat → Option Addr) : Nat → Prop := fun k => k = jp ∨ R.ownBlock = some k ∨ ∃ i, i < m ∧ ∃ ad, A i = some ad ∧ ad.block = k

section
variable {w w' : World} {B jp p g u m : Nat} {R : Value} {A : Nat → Option Addr} {ln C : Nat → Nat} {ft : Nat → Nat → Nat}

theorem Jn.turns {G : Nat → Prop} (h : Jn w B jp p g u R m A ln C ft) (t : Turns G w w') (hd : ∀ k, jfoot R jp m A k → ¬ G k) : Jn w' B jp p g u R m A ln C ft :=
  ⟨t.blk h.obj (hd _ (.inl rfl)), h.own.turns t (fun g hg => hd _ (.inr (.inl hg))) (fun i hi ad ha => hd _ (.inr (.inr ⟨i, hi, ad, ha, rfl⟩))), h.jb, h.af⟩

theorem Jn.below (h : Jn w B jp p g u R m A ln C ft) (t : Below w.heap.size w w') : Jn w' B jp p g u R m A ln C ft := h.turns (Turns.of_below (F := fun _ => False) t) (fun _ _ h => h)

theorem Jn.foot (h : Jn w B jp p g u R m A ln C ft) : ∀ k, jfoot R jp m A k → B ≤ k ∧ k < w.heap.size := fun k hk => by
  rcases hk with rfl | e | ⟨i, hi, ad, ha, rfl⟩
  · exact ⟨h.jb, h.obj.lt⟩
  · exact ⟨h.own.ob k e, h.own.olt k e⟩
  · exact ⟨(h.af i hi ad ha).1, (h.own.elt i hi).old ad ha⟩

theorem Jn.c0 (h : Jn w B jp p g u R m A ln C ft) : w.cell? ⟨jp, 0, none⟩ = some (.pointer (some ⟨p, 0, none⟩)) := h.obj.cell (k := 0) (by omega)
theorem Jn.c1 (h : Jn w B jp p g u R m A ln C ft) : w.cell? ⟨jp, 1, none⟩ = some (.int .i64 (g : Int)) := h.obj.cell (k := 1) (by omega)
theorem Jn.c2 (h : Jn w B jp p g u R m A ln C ft) : w.cell? ⟨jp, 2, none⟩ = some R := h.obj.cell (k := 2) (by omega)
theorem Jn.c3 (h : Jn w B jp p g u R m A ln C ft) : w.cell? ⟨jp, 3, none⟩ = some (.int .i64 (u : Int)) := h.obj.cell (k := 3) (by omega)

end

set_option maxHeartbeats 1500000 in
set_option maxRecDepth 100000 in
theorem open_yes (p n m : Nat) (F : Nat → Prop) (f A : Nat → Nat) (D : Nat → Nat → Nat) (w : World) (h : Pd w F p n m f A D) (hG : ∀ G, Top OkP (vw f A D m) n G → G < 65535) :
    Calls Try.prog 10 #[.pointer (some ⟨p, 0, none⟩)] w fun e w' => ∃ jp G k st R Aa C, e = .returned (.tuple #[.pointer (some ⟨jp, 0, none⟩), .int .i64 0]) ∧ Below w.heap.size w w' ∧ Top OkP (vw f A D m) n G ∧ Recs OkP (vw f A D m) n k st ∧
      Jn w' w.heap.size jp p (G + 1) (st k) R k Aa (lnOf (vw f A D m) st) C (ftOf (vw f A D m) st) := by
  obtain ⟨hn1, hn2⟩ := h.n1
  have hsz := h.size
  have hso := sectors_of p n m F f A D w h
  have hVl : ∀ i, flat (vw f A D m) i < 256 := fun i => vw_lt h.lt h.ltD m _ _
  have hn0 : ((n : Int) == 0) = false := by rw [beq_eq_false_iff_ne]; omega
  obtain ⟨s, hs⟩ : ∃ s, s = 64 * n := ⟨_, rfl⟩
  have hgr := fun (v : World) (c : Nat) (x : Option Addr) (hr : Rest v x (64 * n) c n 0 (flat (vw f A D m))) => greatest_any n c (64 * n) x (flat (vw f A D m)) v hVl hn2 hr
  have hrs := fun (v : World) (c b o : Nat) (hr : Rest v (some ⟨b, o, none⟩) (64 * n) c n 0 (flat (vw f A D m))) => recs_any n c (64 * n) b o (flat (vw f A D m)) v hVl hn2 hr
  rw [← hs] at hso hgr hrs
  have HVF := hid (vw_flat f A D m)
  have HGM := hid hG
  clear h hs hG hVl
  generalize flat (vw f A D m) = FV at *
  go_enter Try.func10, Try.ntmps10
  go_wp2_with (first
    | (go_at_call 28; refine hsz.mono ?_; rintro e w' ⟨rfl, hw⟩; subst w'; clear hsz)
    | (go_at_call 29; refine hso.mono ?_; rintro e w1 ⟨gb, gc, rfl, hb1, hr1⟩; clear hso
       have hgr1 := hgr w1 gc _ hr1
       have HR1 := hid hr1
       have HB1 := hid hb1
       have HRS := hid hrs
       clear hgr hr1 hb1 hrs)
    | (go_at_call 30; refine hgr1.mono ?_; rintro e w2 ⟨G, rfl, hb2, htop, hG6⟩; clear hgr1
       rw [HVF.out] at htop
       have HG7 := hid (HGM.out G htop)
       obtain ⟨G1, hG1⟩ : ∃ G1, G1 = G + 1 := ⟨_, rfl⟩
       have hGi : (G : Int) + 1 = (G1 : Int) := by omega
       have hGn : ¬ (65535 : Int) < (G1 : Int) := by have := HG7.out; omega
       have hGw : IntKind.i64.wrap (G1 : Int) = (G1 : Int) := by rw [IntKind.wrap_i64]; omega
       have HG1 := hid hG1
       clear hG1 hG6
       have HT := hid htop
       have hrs2 := HRS.out w2 gc gb 0 (HR1.out.below hb2)
       have HB2 := hid (HB1.out.trans (hb2.mono HB1.out.size))
       clear htop hb2 HRS HR1 HB1)
    | (go_at_call 31; refine hrs2.mono ?_; rintro e w3 ⟨k, st, R, Aa, C, rfl, hrecs, hrds⟩; clear hrs2
       obtain ⟨xR, cR, hR, _⟩ := hrds.own.form
       subst hR
       rw [HVF.out] at hrecs hrds
       have HRE := hid hrecs
       have HRD := hid hrds
       clear hrecs hrds))
  go_ret2
  have hb4 : Below w3.heap.size w3 (w3.alloc (.cells #[.pointer (some ⟨p, 0, none⟩), .int .i64 (G1 : Int), .slice xR k cR, .int .i64 (st k : Int)] 57)) := (Below.refl _ _).alloc (Nat.le_refl _) _
  have hbw := HB2.out
  have hbd := HRD.out.bel
  have hs2 := hbw.size
  have hs3 := hbd.size
  refine ⟨_, G, k, st, .slice xR k cR, Aa, C, rfl, (hbw.trans (hbd.mono hs2)).trans (hb4.mono (by omega)), HT.out, HRE.out, ?_, ?_, by omega, fun i hi ad ha => ?_⟩
  · rw [← HG1.out]; exact Blk.new _ _ _ _ _ rfl
  · have ho := HRD.out.own.below hb4
    exact ⟨ho.own, fun g hg => by have := ho.ob g hg; omega, ho.elt, ho.far⟩
  · have h1 := HRD.out.far i hi ad ha
    have h2 := (HRD.out.own.elt i hi).old ad ha
    omega

end Go.Proofs.Ythfpljfndnjcnaa

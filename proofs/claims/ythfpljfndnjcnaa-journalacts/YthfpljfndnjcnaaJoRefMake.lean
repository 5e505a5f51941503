/-
  What the document's Make does: a contract over plain numbers ('JoPlain').
  Conditions: the record's bytes lie in memory.
-/
import Derived.Test.YthfpljfndnjcnaaJoRefRecs
namespace Go.Proofs.Ythfpljfndnjcnaa
open Go.RowKit By Dk Su Jo
set_option linter.unusedVariables false
set_option linter.unusedSimpArgs false

set_option maxHeartbeats 400000 in
set_option maxRecDepth 100000 in
theorem rappend_full (n c : Nat) (x : Option Addr) (f : Nat → Nat) (w : World) (hf : ∀ i, f i < 256) (hn : n ≤ 140737488351232) (hx : RowAt w x n f) (hnil : x = none → n = 0 ∧ c = 0) :
    Calls Try.prog 39 #[.slice x n c] w fun e w' => ∃ g cy, e = .returned (.slice (some ⟨g, 0, none⟩) (n + 4) cy) ∧ Below w.heap.size w w' ∧ RowAt w' (some ⟨g, 0, none⟩) (n + 4) (fun i => if i < n then f i else lo (sumOf f n) (i - n)) ∧ n + 4 ≤ cy ∧ w.heap.size ≤ g ∧ g < w'.heap.size := by
  have hof := rof_any n c x f w hf (by omega) hx
  have hs := sumOf_lt f n hf
  generalize sumOf f n = s at hof hs
  obtain ⟨g1, c1, w1, hr1, hb1, ho1, hg1, hl1, hc1, hw1⟩ := bytes_copy w x n c f hx hnil (by omega)
  have hlo : (w1.alloc (.cells #[.int .u8 ((s : Int) % 256), .int .u8 ((s : Int) / 256 % 256), .int .u8 ((s : Int) / 65536 % 256), .int .u8 ((s : Int) / 16777216)] 5)) = w1.alloc (.cells (bytesOf (lo s) 4).toArray 5) := by
    rw [← lo0, ← lo1, ← lo2, ← lo3 s hs]
    exact rfl
  have h2 := ho1.alloc (.cells (bytesOf (lo s) 4).toArray 5)
  have hb2 : Below w.heap.size w (w1.alloc (.cells (bytesOf (lo s) 4).toArray 5)) := hb1.alloc hb1.size _
  have hrow : RowAt (w1.alloc (.cells (bytesOf (lo s) 4).toArray 5)) (some ⟨w1.heap.size, 0, none⟩) 4 (lo s) := by
    refine .inr ⟨w1.heap.size, 0, rfl, by simp, fun i hi => ?_⟩
    rw [Nat.zero_add, cell_of_heap (heap_alloc_new _ _), bytesOf_get _ _ _ hi]
  obtain ⟨R, w2, hr2, ho2, hb3, hnn⟩ := push_row _ w w.heap.size _ n f h2 (by have := hb2.size; exact this) hb2 (some ⟨w1.heap.size, 0, none⟩) 4 4 (lo s) (fun h => by cases h) hrow (by omega)
  obtain ⟨g2, c2, hR, hge2, hlt2, hle2, _, hrow2⟩ := own_rowAt ho2 (fun h => by have := hnn h; simp at this)
  subst hR
  rw [← hlo] at hr2
  have HB : Hid (Below w.heap.size w w2 ∧ RowAt w2 (some ⟨g2, 0, none⟩) (n + 4) (fun i => if i < n then f i else lo s (i - n)) ∧ n + 4 ≤ c2 ∧ w.heap.size ≤ g2 ∧ g2 < w2.heap.size) := ⟨hb3, hrow2, hle2, hge2, hlt2⟩
  obtain ⟨m, hm⟩ : ∃ m, m = n + 4 := ⟨_, rfl⟩
  have Hm : Hid (m = n + 4) := hm
  rw [← hm] at hr2 HB
  rw [← hm]
  clear hge2 hlt2 hle2 hlo h2 hb2 hrow ho2 hb3 hnn hrow2 hm hb1 ho1 hg1 hl1 hc1 hw1 hx hf hnil
  go_enter Try.func39, Try.ntmps39
  go_wp2_with (first
    | (go_at_call 47; refine hof.mono ?_; rintro e w' ⟨rfl, rfl⟩; clear hof)
    | (at_builtin; refine wpList_append_run rfl _ _ 31 rfl _ _ rfl rfl hr1 ?_; clear hr1)
    | (at_builtin; refine wpList_append_run rfl _ _ 31 rfl _ _ rfl rfl hr2 ?_; clear hr2))
  go_ret
  exact ⟨g2, c2, rfl, HB.out⟩

/- A head of nine bytes, then the piece, then zeros: what has been laid so far. -/
structure MkS (w wr : World) (h : Nat → Nat) (t : Nat) (R : Value) : Prop where
  bel : Below w.heap.size w wr
  own : wr.ownsRow 0 5 1 R t (bytesOf h t)
  ob : ∀ q, R.ownBlock = some q → w.heap.size ≤ q

theorem mks_push {w wr v : World} {h g : Nat → Nat} {t m c : Nat} {R : Value} (s : MkS w wr h t R) (hb : Below wr.heap.size wr v) (x : Option Addr) (hx : x = none → m = 0 ∧ c = 0) (hrow : RowAt v x m g) (he : ∀ i, i < m → h (t + i) = g i) (ht : t + m ≤ 1000) :
    ∃ x' c' w', (Builtin.append_ #[31, 31] 31 #[R, .slice x m c]).run Try.prog v = .ok (.slice x' (t + m) c') w' ∧ MkS w w' h (t + m) (.slice x' (t + m) c') := by
  have hown : v.ownsRow 0 5 1 R t (bytesOf h t) := ownsRow_same s.own (fun q hq => hb.block q (s.own.lt q hq).2)
  obtain ⟨R', w', hr, ho, hgr, hR'⟩ := push_bytes v R t _ hown x m c _ hx hrow (by omega)
  obtain ⟨x', c', hRe, _⟩ := ownsRow_form ho
  subst hRe
  have hT : Turns (fun q => R.ownBlock = some q) v w' := (Turns.refl _ v).grown hgr (fun q hq => .inl hq)
  refine ⟨x', c', w', hr, (s.bel.trans (hb.mono s.bel.size)).trans (hT.below s.ob (Nat.le_trans s.bel.size hb.size)), ?_, fun q hq => ?_⟩
  · rw [bytesOf_congr (f := h) (g := cat2 h t g) (fun i hi => ?_)]
    · exact ho
    · unfold cat2
      by_cases e1 : i < t
      · rw [if_pos e1]
      · rw [if_neg e1, ← he (i - t) (by omega)]
        congr 1
        omega
  · rcases hR' q hq with e1 | e1
    · exact s.ob q e1
    · have := s.bel.size
      have := hb.size
      omega

theorem head_eq (g r l k : Nat) (b : Nat → Nat) (z : Int) (hg : g < 65536) (hr : r ≤ 1000) (hz : ((plen l k + (if plast l k = true then 128 else 0) : Nat) : Int) = z) :
    (#[.int .u8 74, .int .u8 ((g : Int) % 256), .int .u8 ((g : Int) / 256), .int .u8 ((r : Int) % 256), .int .u8 ((r : Int) / 256 % 256), .int .u8 0, .int .u8 0, .int .u8 ((k : Int) % 256), .int .u8 z] : Array Value) = (bytesOf (hd g r l b k) 9).toArray := by
  have e1 : (g : Int) % 256 = ((hd g r l b k 1 : Nat) : Int) := by show _ = ((g % 256 : Nat) : Int); omega
  have e2 : (g : Int) / 256 = ((hd g r l b k 2 : Nat) : Int) := by show _ = ((g / 256 % 256 : Nat) : Int); omega
  have e3 : (r : Int) % 256 = ((hd g r l b k 3 : Nat) : Int) := by show _ = ((r % 256 : Nat) : Int); omega
  have e4 : (r : Int) / 256 % 256 = ((hd g r l b k 4 : Nat) : Int) := by show _ = ((r / 256 % 256 : Nat) : Int); omega
  have e5 : (0 : Int) = ((hd g r l b k 5 : Nat) : Int) := by show _ = ((r / 65536 % 256 : Nat) : Int); omega
  have e6 : (0 : Int) = ((hd g r l b k 6 : Nat) : Int) := by show _ = ((r / 16777216 % 256 : Nat) : Int); omega
  have e7 : (k : Int) % 256 = ((hd g r l b k 7 : Nat) : Int) := by show _ = ((k % 256 : Nat) : Int); omega
  have e8 : z = ((hd g r l b k 8 : Nat) : Int) := hz.symm
  have e9 : (bytesOf (hd g r l b k) 9).toArray = (#[Value.int .u8 ((hd g r l b k 0 : Nat) : Int), Value.int .u8 ((hd g r l b k 1 : Nat) : Int), Value.int .u8 ((hd g r l b k 2 : Nat) : Int), Value.int .u8 ((hd g r l b k 3 : Nat) : Int), Value.int .u8 ((hd g r l b k 4 : Nat) : Int), Value.int .u8 ((hd g r l b k 5 : Nat) : Int), Value.int .u8 ((hd g r l b k 6 : Nat) : Int), Value.int .u8 ((hd g r l b k 7 : Nat) : Int), Value.int .u8 ((hd g r l b k 8 : Nat) : Int)] : Array Value) := rfl
  rw [e9, e1, e2, e3, e4, e7, e8, ← e5, ← e6]
  rfl

theorem mks_start (w : World) (h : Nat → Nat) : MkS w (w.alloc (.cells (bytesOf h 9).toArray 5)) h 9 (.slice (some ⟨w.heap.size, 0, none⟩) 9 9) :=
  ⟨(Below.refl _ _).alloc (Nat.le_refl _) _, ⟨by simp [bytesOf], .inr ⟨w.heap.size, 9, _, rfl, Nat.zero_le _, heap_alloc_new _ _, Nat.le_refl _, by decide, by simp [bytesOf], by rw [List.take_of_length_le (by simp [bytesOf])]⟩⟩, fun q hq => by simp [Value.ownBlock] at hq; omega⟩

/- b[lo:hi]. -/
theorem piece (l c lo pl : Nat) (x : Option Addr) (b : Nat → Nat) (w : World) (he : EltW w x l c b) (h : lo + pl ≤ l) (h0 : pl = 0 → lo = 0) :
    ∃ x2 c2, (∀ v, (Instr.slice 31 (.slice x l c) (some (.int .i64 (lo : Int))) (some (.int .i64 ((lo + pl : Nat) : Int))) none).run Try.prog v = .ok (.slice x2 pl c2) v) ∧ (x2 = none → pl = 0 ∧ c2 = 0) ∧ ∀ v, RowAt v x l b → RowAt v x2 pl (fun i => b (lo + i)) := by
  have hlc := he.le
  by_cases hp : pl = 0
  · subst hp
    obtain rfl := h0 rfl
    refine ⟨if c = 0 then x else x.map (·.add 0), c, fun v => ?_, fun e => ?_, fun v _ => .inl rfl⟩
    · rw [run_slice_lh v 31 _ _ _ elem_row .i64 .i64 ((0 : Nat) : Int) ((0 + 0 : Nat) : Int) (by omega) (by omega) (by omega), elem_is, size_byte]
      simp only [Result.andThen, sliced, Int.toNat_natCast, Nat.mul_one, Nat.sub_zero]
    · have : x = none := by
        by_cases e1 : c = 0
        · rw [if_pos e1] at e; exact e
        · rw [if_neg e1] at e
          cases x with
          | none => rfl
          | some ad => simp at e
      exact ⟨rfl, (he.nil this).2⟩
  · rcases he.row with e | ⟨bb, oo, rfl, _, _⟩
    · omega
    · refine ⟨_, c - lo, fun v => ?_, (fun e => by cases e), fun v hv => row_drop (m := lo) (hv.take h)⟩
      have := cut_lh bb oo l c lo (lo + pl) v (by omega) (by omega) (by omega)
      rw [Nat.add_sub_cancel_left] at this
      exact this

set_option maxHeartbeats 3000000 in
set_option maxRecDepth 100000 in
theorem make_any (g r l c : Nat) (x : Option Addr) (b : Nat → Nat) (w : World) (he : EltW w x l c b) (hg : g < 65536) (hr : r ≤ 1000) :
    Calls Try.prog 20 #[.int .i64 (g : Int), .int .i64 (r : Int), .slice x l c] w fun e w' => ∃ y cy Aa C, e = .returned (.slice y (pcs l) cy) ∧ Below w.heap.size w w' ∧ OwnG w' w.heap.size (.slice y (pcs l) cy) (pcs l) Aa (fun _ => 64) C (fun k => mkS g r l b k) ∧ (∀ i, i < pcs l → ∀ ad, Aa i = some ad → w.heap.size ≤ ad.block) := by
  have HE := hid he
  have H0 : Hid (OwnG (w.alloc (.cells #[] 31)) w.heap.size (.slice (some ⟨w.heap.size, 0, none⟩) 0 0) 0 (fun _ => none) (fun _ => 64) (fun _ => 64) (fun k => mkS g r l b k) ∧ Below w.heap.size w (w.alloc (.cells #[] 31)) ∧ ∀ i, i < 0 → ∀ ad : Addr, (fun _ : Nat => (none : Option Addr)) i = some ad → w.heap.size ≤ ad.block) := ⟨OwnG.empty w w.heap.size (Nat.le_refl _) _ _ _ _, (Below.refl _ _).alloc (Nat.le_refl _) _, fun i hi => by omega⟩
  have hl9 := he.sm
  have hlc := he.le
  have g1 : (g : Int).tmod 256 = (g : Int) % 256 := Int.tmod_eq_emod_of_nonneg (by omega)
  have g2 : (g : Int).tdiv 256 = (g : Int) / 256 := Int.tdiv_eq_ediv_of_nonneg (by omega)
  have r1 : (r : Int).tmod 256 = (r : Int) % 256 := Int.tmod_eq_emod_of_nonneg (by omega)
  have r2 : (r : Int).tdiv 256 = (r : Int) / 256 := Int.tdiv_eq_ediv_of_nonneg (by omega)
  have r3 : ((r : Int) / 256).tmod 256 = (r : Int) / 256 % 256 := Int.tmod_eq_emod_of_nonneg (by omega)
  have r4 : (r : Int).tdiv 65536 = 0 := by rw [Int.tdiv_eq_ediv_of_nonneg (by omega)]; omega
  have r5 : (r : Int).tdiv 16777216 = 0 := by rw [Int.tdiv_eq_ediv_of_nonneg (by omega)]; omega
  clear he
  go_enter Try.func20, Try.ntmps20
  go_wp2_with fail
  go_loopw [7, 8] (fun o i wr => ∃ (k : Nat) (y : Option Addr) (cy : Nat), k < pcs l ∧ i = .int .i64 k ∧ o = .slice y k cy ∧ Hid (∃ Aa C, OwnG wr w.heap.size (.slice y k cy) k Aa (fun _ => 64) C (fun k => mkS g r l b k) ∧ Below w.heap.size w wr ∧ ∀ i, i < k → ∀ ad, Aa i = some ad → w.heap.size ≤ ad.block)) (fun _ i _ => pcs l - (intOf i).toNat)
  case atStart => exact ⟨0, _, _, pcs_pos l, rfl, rfl, _, _, H0.out⟩
  case round =>
    clear H0
    obtain ⟨k, y, cy, hk, rfl, rfl, HR⟩ := hrel
    obtain ⟨wo, hwo⟩ : ∃ wo, wo = wr := ⟨_, rfl⟩
    subst hwo
    obtain ⟨Aa, C, hown, hbel, hfre⟩ := HR.out
    have hk51 : 51 * k ≤ l := by unfold pcs at hk; split at hk <;> omega
    obtain ⟨o1, ho1⟩ : ∃ o1, o1 = 51 * k := ⟨_, rfl⟩
    have ho1i : (51 : Int) * (k : Int) = (o1 : Int) := by omega
    obtain ⟨d, hd⟩ : ∃ d, d = l - o1 := ⟨_, rfl⟩
    have hdi : (l : Int) - (o1 : Int) = (d : Int) := by omega
    have hk9 : k ≤ 140737488351232 := by omega
    have ho9 : o1 ≤ 140737488351232 := by omega
    have hd9 : d ≤ 140737488351232 := by omega
    have hmw : IntKind.i64.wrap (o1 : Int) = (o1 : Int) := by rw [IntKind.wrap_i64]; omega
    have HO1 := hid ho1
    have HD := hid hd
    clear ho1 hd hk51
    by_cases hle : d ≤ 51
    · have hle' : ¬ (51 : Int) < (d : Int) := by omega
      have hpc : pcs l = k + 1 := by
        have h1 : pcs l ≤ k + 1 := pcs_fits.2 ⟨by omega, by have := HD.out; have := HO1.out; omega⟩
        omega
      have hpl : plen l k = d := by have := HD.out; have := HO1.out; unfold plen; omega
      have hla : plast l k = true := by unfold plast; simp [hpc]
      have hz8 : ((plen l k + (if plast l k = true then 128 else 0) : Nat) : Int) = ((d : Int) + 128) := by rw [hpl, hla]; simp
      obtain ⟨x2, c2, hsl, hx2n, hx2r⟩ := piece l c o1 d x b w HE.out (by have := HD.out; omega) (fun e => by have := HO1.out; have := HD.out; unfold pcs at hpc; split at hpc <;> omega)
      obtain ⟨e1, he1⟩ : ∃ e1, e1 = o1 + d := ⟨_, rfl⟩
      rw [← he1] at hsl
      have he1i : (o1 : Int) + (d : Int) = (e1 : Int) := by omega
      have he9 : e1 ≤ 140737488351232 := by have := HD.out; omega
      have hew : IntKind.i64.wrap (e1 : Int) = (e1 : Int) := by rw [IntKind.wrap_i64]; omega
      obtain ⟨h, hh⟩ : ∃ h, h = hd g r l b k := ⟨_, rfl⟩
      have hhead := head_eq g r l k b ((d : Int) + 128) hg hr hz8
      rw [← hh] at hhead
      have hlt : ∀ i, h i < 256 := fun i => by rw [hh]; exact hd_lt HE.out.lt i
      have hM0 := mks_start wo h
      have hbs : Below wo.heap.size wo (wo.alloc (.cells (bytesOf h 9).toArray 5)) := (Below.refl _ _).alloc (Nat.le_refl _) _
      have hrow1 : RowAt (wo.alloc (.cells (bytesOf h 9).toArray 5)) x2 d (fun i => b (o1 + i)) := hx2r _ ((HE.out.row.below hbel).below hbs)
      obtain ⟨xB, cB, wB, hapB, hMB⟩ := mks_push (c := c2) hM0 (Below.refl _ _) x2 hx2n hrow1 (fun i hi => by
        rw [hh]
        unfold hd
        have e1 : ∀ q, q < 9 → ¬ (9 + i = q) := fun q hq => by omega
        simp only [e1 0 (by omega), e1 1 (by omega), e1 2 (by omega), e1 3 (by omega), e1 4 (by omega), e1 5 (by omega), e1 6 (by omega), e1 7 (by omega), e1 8 (by omega), if_false]
        rw [if_pos (by omega), Nat.add_sub_cancel_left, HO1.out]) (by omega)
      obtain ⟨tB, htB⟩ : ∃ tB, tB = 9 + d := ⟨_, rfl⟩
      rw [← htB] at hapB hMB
      rw [← hhead] at hapB
      have HTB := hid htB
      have HMB := hid hMB
      have HZ0 : Hid (∀ i, tB ≤ i → i < 60 → h i = 0) := fun i h1 h2 => by
        rw [hh]
        unfold hd
        have e1 : ∀ q, q < 9 → ¬ (i = q) := fun q hq => by omega
        simp only [e1 0 (by omega), e1 1 (by omega), e1 2 (by omega), e1 3 (by omega), e1 4 (by omega), e1 5 (by omega), e1 6 (by omega), e1 7 (by omega), e1 8 (by omega), if_false]
        rw [if_neg (by omega)]
      have htB6 : tB ≤ 60 := by omega
      have HLT := hid hlt
      have HH := hid hh
      have HST := hid (And.intro hown (And.intro hbel hfre))
      have HPC := hid hpc
      clear hhead hM0 hMB hbs hrow1 htB hx2r hx2n hpl hla hz8 hh hlt hown hbel hfre HR hpc he1
      go_wp2_with (first
        | (at_builtin; refine wpList_append_run rfl _ _ 31 rfl _ _ rfl rfl hapB ?_; clear hapB))
      go_loopw [11] (fun s wr => ∃ (t : Nat) (xs : Option Addr) (cs : Nat), tB ≤ t ∧ t ≤ 60 ∧ s = .slice xs t cs ∧ Hid (MkS wo wr h t (.slice xs t cs))) (fun s _ => 60 - slLen s)
      case atStart => exact ⟨tB, xB, cB, Nat.le_refl _, htB6, rfl, HMB⟩
      case round =>
        clear HMB
        obtain ⟨t, xs, cs, ht1, ht2, rfl, HM⟩ := hrel
        by_cases ht : t < 60
        · have ht' : (t : Int) < 60 := by omega
          have hz1 : RowAt (wr.alloc (.cells #[.int .u8 0] 5)) (some ⟨wr.heap.size, 0, none⟩) 1 (fun _ => 0) := .inr ⟨wr.heap.size, 0, rfl, by simp, fun i hi => by
            obtain rfl : i = 0 := by omega
            simp⟩
          obtain ⟨xC, cC, wC, hapC, hMC⟩ := mks_push (c := 1) HM.out ((Below.refl _ _).alloc (Nat.le_refl _) (.cells #[.int .u8 0] 5)) (some ⟨wr.heap.size, 0, none⟩) (fun e => by cases e) hz1 (fun i hi => HZ0.out _ (by omega) (by omega)) (by omega)
          obtain ⟨t1, ht1e⟩ : ∃ t1, t1 = t + 1 := ⟨_, rfl⟩
          rw [← ht1e] at hapC hMC
          have HT1 := hid ht1e
          have HMC := hid hMC
          clear hz1 hMC ht1e
          go_wp2_with (first
            | (at_builtin; refine wpList_append_run rfl _ _ 31 rfl _ _ rfl rfl hapC ?_; clear hapC))
          first
            | exact ⟨⟨t1, xC, cC, by have := HT1.out; omega, by have := HT1.out; omega, rfl, HMC⟩, by have := HT1.out; simp only [slLen]; omega⟩
            | (go_roundw
               case rel => exact ⟨t1, xC, cC, by have := HT1.out; omega, by have := HT1.out; omega, rfl, HMC⟩
               case measure => have := HT1.out; simp only [slLen]; omega)
        · obtain rfl : t = 60 := by omega
          have hel := own_elt HM.out.own HLT.out (by omega)
          have hsum := rappend_full 60 cs xs h wr HLT.out (by omega) hel.row hel.nil
          have HPUSH : Hid (∀ (v : World) (g6 c6 : Nat), Below wr.heap.size wr v → RowAt v (some ⟨g6, 0, none⟩) 64 (fun i => if i < 60 then h i else lo (sumOf h 60) (i - 60)) → 64 ≤ c6 → wr.heap.size ≤ g6 → g6 < v.heap.size →
              ∃ y' c' w', (Builtin.append_ #[38, 38] 38 #[.slice y k cy, .slice (some ⟨v.heap.size, 0, none⟩) 1 1]).run Try.prog (v.alloc (.cells #[.slice (some ⟨g6, 0, none⟩) 64 c6] 31)) = .ok (.slice y' (k + 1) c') w' ∧ ∃ Aa C, OwnG w' w.heap.size (.slice y' (k + 1) c') (k + 1) Aa (fun _ => 64) C (fun k => mkS g r l b k) ∧ Below w.heap.size w w' ∧ ∀ i, i < k + 1 → ∀ ad, Aa i = some ad → w.heap.size ≤ ad.block) := fun v g6 c6 hv hrw hc6 hg6 hg6' => by
            obtain ⟨hown, hbel, hfre⟩ := HST.out
            have hbv : Below wo.heap.size wo v := HM.out.bel.trans (hv.mono HM.out.bel.size)
            have he6 : Elt v (some ⟨g6, 0, none⟩) 64 c6 (mkS g r l b k) := ⟨hrw.congr fun i hi => by
              rw [HH.out]
              unfold mkS
              by_cases e : i < 60
              · rw [if_pos e, if_pos e]
              · rw [if_neg e, if_neg e, if_pos (by omega)], (fun e => by cases e), hc6, by omega, fun j => mk_lt HE.out.lt j, fun ad e => by cases e; exact hg6'⟩
            have hsz := HM.out.bel.size
            have hkb : (k + 1) * 24 ≤ 140737488355328 := by
              have h1 : 51 * k ≤ l := by have := HO1.out; have := HD.out; rw [← HO1.out]; omega
              omega
            obtain ⟨x', c', w', e1, e2, e3, _⟩ := (hown.below hbv).push (Nat.le_trans hbel.size hbv.size) he6 (fun ad e hg => by
              cases e
              have := hown.olt _ hg
              have e5 : (⟨g6, 0, none⟩ : Addr).block = g6 := rfl
              omega) hkb
            refine ⟨x', c', w', e1, _, _, e2.congr fun i hi => ⟨rfl, ?_, rfl, fun j hj => ?_, fun j => mk_lt HE.out.lt j⟩, (hbel.trans (hbv.mono hbel.size)).trans (e3.below (fun q hq => hown.ob q hq) (Nat.le_trans hbel.size hbv.size)), fun i hi ad ha => ?_⟩
            · by_cases e : i < k
              · rw [ext_old _ _ _ e]
              · obtain rfl : i = k := by omega
                rw [ext_new]
            · by_cases e : i < k
              · rw [ext_old _ _ _ e]
              · obtain rfl : i = k := by omega
                rw [ext_new]
            · by_cases e : i < k
              · rw [ext_old _ _ _ e] at ha; exact hfre i e ad ha
              · obtain rfl : i = k := by omega
                rw [ext_new] at ha
                cases ha
                exact Nat.le_trans hbel.size (Nat.le_trans HM.out.bel.size hg6)
          obtain ⟨k1, hk1⟩ : ∃ k1, k1 = k + 1 := ⟨_, rfl⟩
          rw [← hk1] at HPUSH
          have hk1i : (k : Int) + 1 = (k1 : Int) := by omega
          have hk1w : IntKind.i64.wrap (k1 : Int) = (k1 : Int) := by rw [IntKind.wrap_i64]; omega
          have HK1 := hid hk1
          have hsum : Calls Try.prog 39 #[.slice xs 60 cs] wr fun e w' => ∃ g cy, e = .returned (.slice (some ⟨g, 0, none⟩) 64 cy) ∧ Below wr.heap.size wr w' ∧ RowAt w' (some ⟨g, 0, none⟩) 64 (fun i => if i < 60 then h i else lo (sumOf h 60) (i - 60)) ∧ 64 ≤ cy ∧ wr.heap.size ≤ g ∧ g < w'.heap.size := hsum
          clear hel hk1
          go_wp2_with (first
            | (go_at_call 39; refine hsum.mono ?_; rintro e w6 ⟨g6, c6, rfl, hb6, hr6, hc6, hg6, hg6'⟩; clear hsum
               obtain ⟨y', c', w7, hap7, HN⟩ := HPUSH.out w6 g6 c6 hb6 hr6 hc6 hg6 hg6'
               have HN2 := hid HN
               clear hb6 hr6 hc6 hg6 hg6' HN)
            | (at_builtin; refine wpList_append_run rfl _ _ 38 rfl _ _ rfl rfl hap7 ?_; clear hap7))
          go_ret
          obtain ⟨Aa2, C2, q1, q2, q3⟩ := HN2.out
          have e : pcs l = k1 := by rw [HPC.out, HK1.out]
          rw [e]
          exact ⟨y', c', Aa2, C2, rfl, q2, q1, q3⟩
    · have hgt' : (51 : Int) < (d : Int) := by omega
      have hpc : k + 1 < pcs l := by
        rcases Nat.lt_or_ge (k + 1) (pcs l) with h | h
        · exact h
        · have := (pcs_fits.1 h).2
          have := HD.out
          have := HO1.out
          omega
      have hpl : plen l k = 51 := plen_mid hpc
      have hla : plast l k = false := by unfold plast; simp; omega
      have hz8 : ((plen l k + (if plast l k = true then 128 else 0) : Nat) : Int) = 51 := by rw [hpl, hla]; simp
      obtain ⟨x2, c2, hsl, hx2n, hx2r⟩ := piece l c o1 51 x b w HE.out (by have := HD.out; omega) (fun e => by have := HO1.out; have := HD.out; omega)
      obtain ⟨e1, he1⟩ : ∃ e1, e1 = o1 + 51 := ⟨_, rfl⟩
      rw [← he1] at hsl
      have he1i : (o1 : Int) + 51 = (e1 : Int) := by omega
      have he9 : e1 ≤ 140737488351232 := by have := HD.out; omega
      have hew : IntKind.i64.wrap (e1 : Int) = (e1 : Int) := by rw [IntKind.wrap_i64]; omega
      obtain ⟨h, hh⟩ : ∃ h, h = hd g r l b k := ⟨_, rfl⟩
      have hhead := head_eq g r l k b 51 hg hr hz8
      rw [← hh] at hhead
      have hlt : ∀ i, h i < 256 := fun i => by rw [hh]; exact hd_lt HE.out.lt i
      have hM0 := mks_start wo h
      have hbs : Below wo.heap.size wo (wo.alloc (.cells (bytesOf h 9).toArray 5)) := (Below.refl _ _).alloc (Nat.le_refl _) _
      have hrow1 : RowAt (wo.alloc (.cells (bytesOf h 9).toArray 5)) x2 51 (fun i => b (o1 + i)) := hx2r _ ((HE.out.row.below hbel).below hbs)
      obtain ⟨xB, cB, wB, hapB, hMB⟩ := mks_push (c := c2) hM0 (Below.refl _ _) x2 hx2n hrow1 (fun i hi => by
        rw [hh]
        unfold hd
        have e1 : ∀ q, q < 9 → ¬ (9 + i = q) := fun q hq => by omega
        simp only [e1 0 (by omega), e1 1 (by omega), e1 2 (by omega), e1 3 (by omega), e1 4 (by omega), e1 5 (by omega), e1 6 (by omega), e1 7 (by omega), e1 8 (by omega), if_false]
        rw [if_pos (by omega), Nat.add_sub_cancel_left, HO1.out]) (by omega)
      obtain ⟨tB, htB⟩ : ∃ tB, tB = 9 + 51 := ⟨_, rfl⟩
      rw [← htB] at hapB hMB
      rw [← hhead] at hapB
      have HTB := hid htB
      have HMB := hid hMB
      have HZ0 : Hid (∀ i, tB ≤ i → i < 60 → h i = 0) := fun i h1 h2 => by
        rw [hh]
        unfold hd
        have e1 : ∀ q, q < 9 → ¬ (i = q) := fun q hq => by omega
        simp only [e1 0 (by omega), e1 1 (by omega), e1 2 (by omega), e1 3 (by omega), e1 4 (by omega), e1 5 (by omega), e1 6 (by omega), e1 7 (by omega), e1 8 (by omega), if_false]
        rw [if_neg (by omega)]
      have htB6 : tB ≤ 60 := by omega
      have HLT := hid hlt
      have HH := hid hh
      have HST := hid (And.intro hown (And.intro hbel hfre))
      have HPC := hid hpc
      clear hhead hM0 hMB hbs hrow1 htB hx2r hx2n hpl hla hz8 hh hlt hown hbel hfre HR hpc he1
      go_wp2_with (first
        | (at_builtin; refine wpList_append_run rfl _ _ 31 rfl _ _ rfl rfl hapB ?_; clear hapB))
      go_loopw [11] (fun s wr => ∃ (t : Nat) (xs : Option Addr) (cs : Nat), tB ≤ t ∧ t ≤ 60 ∧ s = .slice xs t cs ∧ Hid (MkS wo wr h t (.slice xs t cs))) (fun s _ => 60 - slLen s)
      case atStart => exact ⟨tB, xB, cB, Nat.le_refl _, htB6, rfl, HMB⟩
      case round =>
        clear HMB
        obtain ⟨t, xs, cs, ht1, ht2, rfl, HM⟩ := hrel
        by_cases ht : t < 60
        · have ht' : (t : Int) < 60 := by omega
          have hz1 : RowAt (wr.alloc (.cells #[.int .u8 0] 5)) (some ⟨wr.heap.size, 0, none⟩) 1 (fun _ => 0) := .inr ⟨wr.heap.size, 0, rfl, by simp, fun i hi => by
            obtain rfl : i = 0 := by omega
            simp⟩
          obtain ⟨xC, cC, wC, hapC, hMC⟩ := mks_push (c := 1) HM.out ((Below.refl _ _).alloc (Nat.le_refl _) (.cells #[.int .u8 0] 5)) (some ⟨wr.heap.size, 0, none⟩) (fun e => by cases e) hz1 (fun i hi => HZ0.out _ (by omega) (by omega)) (by omega)
          obtain ⟨t1, ht1e⟩ : ∃ t1, t1 = t + 1 := ⟨_, rfl⟩
          rw [← ht1e] at hapC hMC
          have HT1 := hid ht1e
          have HMC := hid hMC
          clear hz1 hMC ht1e
          go_wp2_with (first
            | (at_builtin; refine wpList_append_run rfl _ _ 31 rfl _ _ rfl rfl hapC ?_; clear hapC))
          first
            | exact ⟨⟨t1, xC, cC, by have := HT1.out; omega, by have := HT1.out; omega, rfl, HMC⟩, by have := HT1.out; simp only [slLen]; omega⟩
            | (go_roundw
               case rel => exact ⟨t1, xC, cC, by have := HT1.out; omega, by have := HT1.out; omega, rfl, HMC⟩
               case measure => have := HT1.out; simp only [slLen]; omega)
        · obtain rfl : t = 60 := by omega
          have hel := own_elt HM.out.own HLT.out (by omega)
          have hsum := rappend_full 60 cs xs h wr HLT.out (by omega) hel.row hel.nil
          have HPUSH : Hid (∀ (v : World) (g6 c6 : Nat), Below wr.heap.size wr v → RowAt v (some ⟨g6, 0, none⟩) 64 (fun i => if i < 60 then h i else lo (sumOf h 60) (i - 60)) → 64 ≤ c6 → wr.heap.size ≤ g6 → g6 < v.heap.size →
              ∃ y' c' w', (Builtin.append_ #[38, 38] 38 #[.slice y k cy, .slice (some ⟨v.heap.size, 0, none⟩) 1 1]).run Try.prog (v.alloc (.cells #[.slice (some ⟨g6, 0, none⟩) 64 c6] 31)) = .ok (.slice y' (k + 1) c') w' ∧ ∃ Aa C, OwnG w' w.heap.size (.slice y' (k + 1) c') (k + 1) Aa (fun _ => 64) C (fun k => mkS g r l b k) ∧ Below w.heap.size w w' ∧ ∀ i, i < k + 1 → ∀ ad, Aa i = some ad → w.heap.size ≤ ad.block) := fun v g6 c6 hv hrw hc6 hg6 hg6' => by
            obtain ⟨hown, hbel, hfre⟩ := HST.out
            have hbv : Below wo.heap.size wo v := HM.out.bel.trans (hv.mono HM.out.bel.size)
            have he6 : Elt v (some ⟨g6, 0, none⟩) 64 c6 (mkS g r l b k) := ⟨hrw.congr fun i hi => by
              rw [HH.out]
              unfold mkS
              by_cases e : i < 60
              · rw [if_pos e, if_pos e]
              · rw [if_neg e, if_neg e, if_pos (by omega)], (fun e => by cases e), hc6, by omega, fun j => mk_lt HE.out.lt j, fun ad e => by cases e; exact hg6'⟩
            have hsz := HM.out.bel.size
            have hkb : (k + 1) * 24 ≤ 140737488355328 := by
              have h1 : 51 * k ≤ l := by have := HO1.out; have := HD.out; rw [← HO1.out]; omega
              omega
            obtain ⟨x', c', w', e1, e2, e3, _⟩ := (hown.below hbv).push (Nat.le_trans hbel.size hbv.size) he6 (fun ad e hg => by
              cases e
              have := hown.olt _ hg
              have e5 : (⟨g6, 0, none⟩ : Addr).block = g6 := rfl
              omega) hkb
            refine ⟨x', c', w', e1, _, _, e2.congr fun i hi => ⟨rfl, ?_, rfl, fun j hj => ?_, fun j => mk_lt HE.out.lt j⟩, (hbel.trans (hbv.mono hbel.size)).trans (e3.below (fun q hq => hown.ob q hq) (Nat.le_trans hbel.size hbv.size)), fun i hi ad ha => ?_⟩
            · by_cases e : i < k
              · rw [ext_old _ _ _ e]
              · obtain rfl : i = k := by omega
                rw [ext_new]
            · by_cases e : i < k
              · rw [ext_old _ _ _ e]
              · obtain rfl : i = k := by omega
                rw [ext_new]
            · by_cases e : i < k
              · rw [ext_old _ _ _ e] at ha; exact hfre i e ad ha
              · obtain rfl : i = k := by omega
                rw [ext_new] at ha
                cases ha
                exact Nat.le_trans hbel.size (Nat.le_trans HM.out.bel.size hg6)
          obtain ⟨k1, hk1⟩ : ∃ k1, k1 = k + 1 := ⟨_, rfl⟩
          rw [← hk1] at HPUSH
          have hk1i : (k : Int) + 1 = (k1 : Int) := by omega
          have hk1w : IntKind.i64.wrap (k1 : Int) = (k1 : Int) := by rw [IntKind.wrap_i64]; omega
          have HK1 := hid hk1
          have hsum : Calls Try.prog 39 #[.slice xs 60 cs] wr fun e w' => ∃ g cy, e = .returned (.slice (some ⟨g, 0, none⟩) 64 cy) ∧ Below wr.heap.size wr w' ∧ RowAt w' (some ⟨g, 0, none⟩) 64 (fun i => if i < 60 then h i else lo (sumOf h 60) (i - 60)) ∧ 64 ≤ cy ∧ wr.heap.size ≤ g ∧ g < w'.heap.size := hsum
          clear hel hk1
          go_wp2_with (first
            | (go_at_call 39; refine hsum.mono ?_; rintro e w6 ⟨g6, c6, rfl, hb6, hr6, hc6, hg6, hg6'⟩; clear hsum
               obtain ⟨y', c', w7, hap7, HN⟩ := HPUSH.out w6 g6 c6 hb6 hr6 hc6 hg6 hg6'
               have HN2 := hid HN
               clear hb6 hr6 hc6 hg6 hg6' HN)
            | (at_builtin; refine wpList_append_run rfl _ _ 38 rfl _ _ rfl rfl hap7 ?_; clear hap7))
          first
            | exact ⟨⟨k1, y', c', by have := HK1.out; have := HPC.out; omega, rfl, rfl, HN2.out⟩, by have := HK1.out; have := HPC.out; simp [intOf]; omega⟩
            | (go_roundw
               case rel => exact ⟨k1, y', c', by have := HK1.out; have := HPC.out; omega, rfl, rfl, HN2.out⟩
               case measure => have := HK1.out; have := HPC.out; simp [intOf]; omega)

end Go.Proofs.Ythfpljfndnjcnaa

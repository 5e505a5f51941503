/-
  5 texts of this proof, one behind the other: StLive, StAwake, StRef, StRefEnc, StSame.
-/
import Derived.Test.YtbbjklenpgkooaaJ14
import Derived.Test.YtbbjklenpgkooaaJ04
/-
  A store's life: a batch that is done; a crash, and the store opened anew; a new disk's.
  Conditions: a disk of at most 300 sectors.
-/
namespace Go.Proofs.Ytbbjklenpgkooaa
open Go.RowKit By Dk Wi St Su Jo
set_option linter.unusedVariables false
set_option linter.unusedSimpArgs false
set_option maxRecDepth 100000

section
variable {B : Nat} {w0 w w' : World} {p n sp jp mb m u g : Nat} {M : KV} {K : Nat → Prop}

theorem ActsAt.away {a : Option Addr} {len : Nat} {V : Nat → AV} (h : ActsAt w a len V) (hw : Away K mb a len V) {G : Nat → Prop} (t : Turns G w w') (hG : ∀ k, k < w.heap.size → G k → K k ∨ k = mb) : ActsAt w' a len V := by
  refine h.turns t (fun h0 ad ha hg => ?_) (fun i hi h0 ad hx hg => ?_)
  · rcases h.row with h1 | ⟨b, o, e, hb, _⟩
    · exact h0 h1
    · rw [e] at ha
      injection ha with ha
      subst ha
      rcases hG b hb hg with q | q
      · exact (hw.1 h0 _ e).1 q
      · exact (hw.1 h0 _ e).2 q
  · rcases (h.act i hi).sl.row with h1 | ⟨b, o, e, hb, _⟩
    · exact h0 h1
    · rw [e] at hx
      injection hx with hx
      subst hx
      rcases hG b hb hg with q | q
      · exact (hw.2 i hi _ e).1 q
      · exact (hw.2 i hi _ e).2 q

theorem Away.mono {K' : Nat → Prop} {a : Option Addr} {len : Nat} {V : Nat → AV} (h : Away K mb a len V) (hK : ∀ q, K' q → K q) : Away K' mb a len V :=
  ⟨fun h0 ad ha => ⟨fun q => (h.1 h0 ad ha).1 (hK _ q), (h.1 h0 ad ha).2⟩, fun i hi ad ha => ⟨fun q => (h.2 i hi ad ha).1 (hK _ q), (h.2 i hi ad ha).2⟩⟩

set_option maxHeartbeats 2000000 in
theorem apply_ok (h : Alive B w0 w p n sp jp mb m u g M K) (a : Option Addr) (len cap : Nat) (V : Nat → AV) (hA : ActsAt w a len V) (hl : len ≤ 140737488351232) (hcap : len ≤ cap) (haw : Away K mb a len V) (o : List Nat) (hS : EncSays (pas V len) 0 o) (hcan : canL M (pas V len)) (hroom : u + pcs o.length ≤ n) (hg : g < 65536) :
    Calls Try.prog 12 #[.pointer (some ⟨sp, 0, none⟩), .slice a len cap] w fun e w' => e = .returned (.int .i64 0) ∧ Turns (fun q => K q ∨ q = mb) w w' ∧ ∃ K', Alive B w0 w' p n sp jp mb (m + 1) (u + pcs o.length) g (doL M (pas V len)) K' ∧ ∀ q, q < w.heap.size → K' q → K q := by
  obtain ⟨Vv, st, ln, ft, F, f, A, D, R, Aa, C, nb, DD, h1, h2, h3, h4, h5, h6, h7, h8, h9⟩ := h
  have hO := sopen_yes h2
  have hE := encode_any a len cap V w hA hl 0 o hS
  have hyes : (len ≤ 256 ∧ okL (pas V len)) ∧ o = enc (pas V len) ∧ o.length ≤ 13005 := by
    rcases hS with ⟨_, q, _⟩ | ⟨_, _, q, _⟩ | ⟨q0, q, _, q2⟩
    · cases q
    · cases q
    · rw [pas_len] at q0
      exact ⟨q0, q2, by rw [q2]; exact q⟩
  obtain ⟨⟨h256, hok⟩, hoe, hol⟩ := hyes
  have hgood : Good o M (pas V len) := ⟨by rw [hoe]; exact dec_enc (by rw [pas_len]; exact h256) hok (by rw [← hoe]; exact hol), hcan⟩
  have hcount := h1.count
  have HC : Hid (∀ v x cx, EncTold w v x o.length cx o → Calls Try.prog 32 #[.pointer (some ⟨sp, 0, none⟩), .slice a len cap] v fun e v2 => e = .returned (.bool true) ∧ v2.cell? ⟨sp, 0, none⟩ = some (.pointer (some ⟨jp, 0, none⟩)) ∧
      Calls Try.prog 36 #[.pointer (some ⟨jp, 0, none⟩), .slice x o.length cx] v2 fun e v3 => e = .returned (.int .i64 0) ∧ v3.cell? ⟨sp, 0, none⟩ = some (.pointer (some ⟨jp, 0, none⟩)) ∧
        Calls Try.prog 37 #[.pointer (some ⟨jp, 0, none⟩)] v3 fun e v4 => e = .returned (.tuple #[]) ∧
          Calls Try.prog 33 #[.pointer (some ⟨sp, 0, none⟩), .slice a len cap] v4 fun e v5 => e = .returned (.tuple #[]) ∧ Hid (Turns (fun q => K q ∨ q = mb) w v5 ∧ ∃ K', Alive B w0 v5 p n sp jp mb (m + 1) (u + pcs o.length) g (doL M (pas V len)) K' ∧ ∀ q, q < w.heap.size → K' q → K q)) := fun v x cx hT => by
    have hb := hT.2.2
    refine (cando_any (h2.below hb) a len cap V (hA.below hb) hl hcap true (by simp [hcan])).mono fun e v2 ⟨e1, b2⟩ => ⟨e1, ((h2.below hb).below b2).c0, ?_⟩
    have hb2 : Below w.heap.size w v2 := hb.trans (b2.mono hb.size)
    have hl2 := h1.below hb2
    have hst2 := h2.below hb2
    refine (hl2.put_ok x o.length cx (gl o) (sl_eltw (hT.1.below b2) (by omega)) (fun _ ad ha hk => by
      have := (hT.2.1 ad ha).1
      have := (h1.foot _ hk).2
      omega) hol (by rw [← h9]; exact hroom) hg).mono fun e v3 ⟨e3, K', V', F', A', D', R', Aa', C', l3, t3, hKK, _, _⟩ => ?_
    have hst3 : StAt v3 sp jp mb nb DD M (fun q => K' q ∨ q = sp) := hst2.move t3 h3 h4 (fun k _ hk => .inl hk) (fun k hk hq => hq.elim (fun q => .inl (hKK k hk q)) .inr)
    have hspl : sp < v2.heap.size := hst2.obj.lt
    have hmbl : mb < v2.heap.size := hst2.map.lt
    have hK'sp : ¬ K' sp := fun q => h3 (hKK sp hspl q)
    have hK'mb : ¬ K' mb := fun q => h4 (hKK mb hmbl q)
    refine ⟨e3, hst3.c0, l3.sync.mono fun e v4 ⟨e4, t4, l4⟩ => ⟨e4, ?_⟩⟩
    have hst4 := hst3.turns t4 hK'sp hK'mb (fun k _ hk => .inl hk)
    have hA3 : ActsAt v3 a len V := (hA.below hb2).away haw t3 (fun k _ hk => .inl hk)
    have haw3 : Away (fun q => q < v2.heap.size ∧ K' q) mb a len V := haw.mono (fun q hq => hKK q hq.1 hq.2)
    have hA4 : ActsAt v4 a len V := by
      refine hA3.turns t4 (fun h0 ad ha hk => ?_) (fun i hi h0 ad hx hk => ?_)
      · rcases hA.row with q1 | ⟨b, o', e5, hbl, _⟩
        · exact h0 q1
        · rw [e5] at ha
          injection ha with ha
          subst ha
          exact (haw.1 h0 _ e5).1 (hKK b (Nat.lt_of_lt_of_le hbl hb2.size) hk)
      · rcases (hA.act i hi).sl.row with q1 | ⟨b, o', e5, hbl, _⟩
        · exact h0 q1
        · rw [e5] at hx
          injection hx with hx
          subst hx
          exact (haw.2 i hi _ e5).1 (hKK b (Nat.lt_of_lt_of_le hbl hb2.size) hk)
    refine (do_any hst4 (fun q hq => by
      rcases hq with hq | hq
      · exact (l4.foot q hq).2
      · have := hst4.obj.lt; omega) a len cap V hA4 (fun h0 ad ha => (haw.1 h0 ad ha).2) (fun i hi ad ha => (haw.2 i hi ad ha).2) h256 hok (by omega)).mono fun e v5 ⟨e5, D5, nb5, q1, q2, q3⟩ => ⟨e5, ?_⟩
    have T5 : Turns (fun q => K q ∨ q = mb) w v5 := by
      have a1 : Turns (fun q => K q ∨ q = mb) w v3 := (Turns.of_below hb2).trans (t3.weak (fun k hk => .inl hk))
      have a2 : Turns (fun q => K q ∨ q = mb) w v4 := a1.more t4 (fun k hk => by
        rcases Nat.lt_or_ge k v2.heap.size with q | q
        · exact .inl (.inl (hKK k q hk))
        · exact .inr (Nat.le_trans hb2.size q))
      exact a2.trans (q3.weak (fun k hk => .inr hk))
    refine ⟨T5, K', ⟨V', _, _, _, F', _, _, _, R', Aa', C', nb5, D5, l4.turns q3 (fun k hk => by omega) (fun k hk e6 => hK'mb (by rw [← e6]; exact hk)), q2, hK'sp, hK'mb, h5, h6, by omega, ?_, ?_⟩, fun q hq hk => hKK q (Nat.lt_of_lt_of_le hq hb2.size) hk⟩
    · refine ⟨M, pas V len, h8.congr (recL_ext ln ft m o), ?_, rfl⟩
      rw [recL_new]
      exact hgood
    · rw [h9, stx_new]
  have HEL : Hid (∀ v x mx cx, EncTold w v x mx cx o → mx = o.length) := fun v x mx cx hT => hT.1.len.symm
  clear h1 h2 hA hS hcan h8 hroom hgood hoe hol hok haw
  go_enter Try.func12, Try.ntmps12
  go_wp2_with (first
    | (go_at_call 34; refine hO.mono ?_; rintro e w' ⟨rfl, hw⟩; subst w'; clear hO)
    | (go_at_call 5; refine hE.mono ?_; rintro e w1 ⟨x, mx, cx, rfl, hT⟩; clear hE
       obtain rfl : mx = o.length := HEL.out _ _ _ _ hT
       have hC := HC.out w1 x cx hT
       clear hT HC HEL)
    | (go_at_call 32; refine hC.mono ?_; rintro e w2 ⟨rfl, c0, hP⟩; clear hC)
    | (go_at_call 36; refine hP.mono ?_; rintro e w3 ⟨rfl, c3, hY⟩; clear hP)
    | (go_at_call 37; refine hY.mono ?_; rintro e w4 ⟨rfl, hDo⟩; clear hY)
    | (go_at_call 33; refine hDo.mono ?_; rintro e w5 ⟨rfl, HN⟩; clear hDo))
  go_ret
  exact ⟨rfl, HN.out⟩

/- A disk on which all is safe, and its store is opened. -/
theorem open_down {F : Nat → Prop} {st ln : Nat → Nat} {ft : Nat → Nat → Nat} {f A : Nat → Nat} {D : Nat → Nat → Nat} (h : Down B w0 w F p n g m st ln ft f A D) (hg : g < 65535) (hm : After (recL ln ft) m M) :
    Calls Try.prog 10 #[.pointer (some ⟨p, 0, none⟩)] w fun e w' => ∃ sq jq mq g' K', e = .returned (.tuple #[.pointer (some ⟨sq, 0, none⟩), .int .i64 0]) ∧ Below w.heap.size w w' ∧ g' ≤ g + 1 ∧ Alive B w0 w' p n sq jq mq m (st m) g' M K' ∧ ∀ q, q < w.heap.size → K' q → F q := by
  have hB : B ≤ w.heap.size := h.dsk.size
  refine (store_open w p (fun w1 jp1 g1 u1 R1 m1 Aa1 ln1 C1 ft1 => ∃ G K' , g1 = G + 1 ∧ G ≤ g ∧ m1 = m ∧ (∀ q, q < w.heap.size → K' q → F q) ∧ Life B w0 w1 K' (vs f) p n jp1 g1 m st m ln1 ft1 F 0 f A D R1 Aa1 C1 ∧ (∀ i, i < m → ln1 i = ln i ∧ ∀ j, j < ln i → ft1 i j = ft i j)) ?_).mono ?_
  · have e0 := vw_zero f A D
    have hGle : ∀ G, Top OkP (vs f) n G → G ≤ g := fun G hG => by
      rcases hG.is with e | ⟨k, k1, k2, k3⟩
      · omega
      · rw [← k3]; exact h.top k k1 k2
    refine (open_yes p n 0 F f A D w h.dsk.pd (fun G hG => by rw [e0] at hG; have := hGle G hG; omega)).mono fun e w' ⟨jp, G, k, st', R, Aa, C, h1, h2, h3, h4, h5⟩ => ?_
    rw [e0] at h3 h4 h5
    obtain ⟨rfl, hs⟩ := h.recs.uniq h4
    have hft := h.dsk.pd.flt
    have hst : st' m = st m := (hs m (Nat.le_refl _)).symm
    have hln : ∀ i, i < m → lnOf (vs f) st' i = lnOf (vs f) st i := fun i hi => by unfold lnOf; rw [hs i (by omega), hs (i + 1) (by omega)]
    have hfn : ∀ i, i < m → ftOf (vs f) st' i = ftOf (vs f) st i := fun i hi => by unfold ftOf; rw [hs i (by omega)]
    have hfoot := h5.foot
    have hcnt := h.recs.run.count m (Nat.le_refl _)
    have hle := h.recs.run.le
    have hn3 := h.n3
    refine ⟨jp, G + 1, _, R, m, Aa, _, C, _, h1, h2, h5, by omega, G, _, rfl, hGle G h3, rfl, fun q hq hk => ?_, ⟨⟨h.dsk.below h2, by rw [← hst]; exact h5.base hB, fun q hq hj => ?_⟩, Inv.open_ h.recs (fun q hq ho => Nat.lt_succ_of_le (h3.le q hq ho)) h.same, e0.symm, rfl, fun i hi => ?_, h.n3⟩, fun i hi => ?_⟩
    · rcases hk with hk | hk
      · exact hk
      · have := (hfoot q hk).1; omega
    · have := hft q hq
      have := (hfoot q hj).1
      omega
    · rw [hln i hi, hfn i hi]
      exact ⟨rfl, fun j _ => rfl⟩
    · rw [hln i hi, hfn i hi]
      exact h.alike i hi
  · rintro e w' ⟨w1, jp1, g1, u1, R1, m1, Aa1, ln1, C1, ft1, b1, j1, ⟨G, K', rfl, hG, rfl, hKF, l1, hal⟩, b2, hres⟩
    have hrec : ∀ i, i < m1 → recL ln ft i = recL ln1 ft1 i := fun i hi => by
      obtain ⟨q1, q2⟩ := hal i hi
      unfold recL
      rw [q1]
      exact List.map_congr_left fun j hj => (q2 j (List.mem_range.1 hj)).symm
    have hm1 := hm.congr hrec
    have hKlt := fun q hq => (l1.foot q hq).2
    rcases hres with ⟨sq, mq, nb, DD, N, r1, r2, r3, r4, r5, r6⟩ | ⟨r1, _⟩
    · have := After.unique _ _ r2 hm1
      subst this
      refine ⟨sq, jp1, mq, _, K', r1, b1.trans (b2.mono b1.size), by omega, ⟨_, _, _, _, _, _, _, _, _, _, _, nb, DD, l1.below b2, ⟨r6.obj, r6.map.weak (fun k hk hq => ?_), r6.ne⟩, fun hk => ?_, fun hk => ?_, ?_, ?_, r5, r2, rfl⟩, hKF⟩
      · rcases hq with hq | hq
        · have := hKlt k hq; omega
        · omega
      · have := hKlt _ hk; omega
      · have := hKlt _ hk; omega
      · have := b1.size; omega
      · have := b1.size; omega
    · exact absurd hm1 (r1 M)

theorem Alive.crash (h : Alive B w0 w p n sp jp mb m u g M K) (y : Option Addr) (l lc : Nat) (b : Nat → Bool) (hy : BoolsAt w y l b) (hyF : l ≠ 0 → ∀ a, y = some a → ¬ K a.block) (hl : l ≤ 140737488355328) (hg : g < 65535) :
    Calls Try.prog 23 #[.pointer (some ⟨p, 0, none⟩), .slice y l lc] w fun e w' => e = .returned (.tuple #[]) ∧ Turns K w w' ∧
      Calls Try.prog 10 #[.pointer (some ⟨p, 0, none⟩)] w' fun e w2 => ∃ sq jq mq g' K', e = .returned (.tuple #[.pointer (some ⟨sq, 0, none⟩), .int .i64 0]) ∧ Below w'.heap.size w' w2 ∧ g' ≤ g + 1 ∧ Alive B w0 w2 p n sq jq mq m u g' M K' ∧ ∀ q, q < w'.heap.size → K' q → K q := by
  obtain ⟨Vv, st, ln, ft, F, f, A, D, R, Aa, C, nb, DD, h1, h2, h3, h4, h5, h6, h7, h8, h9⟩ := h
  have hFK : ∀ k, F k → K k := fun k hk => by rw [h1.hK]; exact .inl hk
  refine (h1.crash y l lc b hy hyF hl).mono fun e w' ⟨e1, t1, m', f', q1, q2, q3⟩ => ⟨e1, t1, ?_⟩
  obtain rfl : m = m' := by omega
  rw [h9]
  exact (open_down q3 hg h8).mono fun e w2 ⟨sq, jq, mq, g', K', r1, r2, r3, r4, r5⟩ => ⟨sq, jq, mq, g', K', r1, r2, r3, r4, fun q hq hk => hFK q (r5 q hq hk)⟩

end

theorem open_new {B : Nat} {w0 w : World} {F : Nat → Prop} {p n : Nat} {A : Nat → Nat} {D : Nat → Nat → Nat} (h : Dsk B w0 w F p n 0 (fun _ => 0) A D) (hn : n ≤ 300) :
    Calls Try.prog 10 #[.pointer (some ⟨p, 0, none⟩)] w fun e w' => ∃ sq jq mq g' K', e = .returned (.tuple #[.pointer (some ⟨sq, 0, none⟩), .int .i64 0]) ∧ Below w.heap.size w w' ∧ g' ≤ 1 ∧ Alive B w0 w' p n sq jq mq 0 0 g' (fun _ => none) K' ∧ ∀ q, q < w.heap.size → K' q → F q :=
  open_down (down_new h hn (fun _ => 0) (fun _ _ => 0)) (by omega) rfl

end Go.Proofs.Ytbbjklenpgkooaa

/-
  Package store's All, as far as it is made; the statements' own check that a value is kept.
  Conditions: none.
-/
namespace Go.Proofs.Ytbbjklenpgkooaa
open Go.RowKit By Dk Wi St Su Jo
set_option linter.unusedVariables false
set_option linter.unusedSimpArgs false
set_option maxRecDepth 100000

theorem all_make (v : Option Addr) (s : ByteArray) (w : World) :
    Calls Try.prog 24 #[.pointer v, .string s] w fun e w' => e = .returned (.func (.func 43) #[] #[.pointer (some ⟨w.heap.size, 0, none⟩), .pointer (some ⟨w.heap.size + 1, 0, none⟩)]) ∧ w' = (w.alloc (.cells #[.pointer v] 32)).alloc (.cells #[.string s] 9) := by
  go_enter Try.func24, Try.ntmps24
  go_wp2_with fail
  go_ret
  exact ⟨rfl, rfl⟩

theorem func_ne (f : Nat) (b : Array Value) (w : World) : (binOp .neq 58 (.func (.func f) #[] b) .nilFunc).run Try.prog w = .ok (.bool true) w := by kernel_rfl

def aV (g : Nat) : Nat → AV := fun _ => ⟨⟨#[97]⟩, true, some ⟨g, 0, none⟩, 1, 1, [7]⟩

theorem aV_pas (g : Nat) : pas (aV g) 1 = [⟨[97], true, [7]⟩] := rfl

theorem aV_enc : enc [⟨[97], true, [7]⟩] = [1, 1, 97, 1, 1, 7] := by
  unfold enc encL encA
  simp [uv_small]

theorem aV_says (g : Nat) : EncSays (pas (aV g) 1) 0 [1, 1, 97, 1, 1, 7] := by
  rw [aV_pas]
  refine .inr (.inr ⟨⟨by simp, fun a ha => ?_⟩, by rw [aV_enc]; simp, rfl, aV_enc.symm⟩)
  simp at ha
  subst ha
  exact ⟨⟨by simp, by simp⟩, by simp⟩

theorem aV_can (g : Nat) (M : KV) : canL M (pas (aV g) 1) := canL_of fun i hi hs => by cases hs

theorem aV_acts (w : World) : ActsAt ((w.alloc (.cells #[.int .u8 7] 5)).alloc (.cells #[.string ⟨#[97]⟩, .bool true, .slice (some ⟨w.heap.size, 0, none⟩) 1 1] 48)) (some ⟨w.heap.size + 1, 0, none⟩) 1 (aV w.heap.size) := by
  have hsz : (w.alloc (.cells #[.int .u8 7] 5)).heap.size = w.heap.size + 1 := by simp
  refine ⟨.inr ⟨w.heap.size + 1, 0, rfl, by simp, fun i hi => ?_⟩, fun i hi => ⟨⟨rfl, Nat.le_refl _, (fun e => by cases e), .inr ⟨w.heap.size, 0, rfl, by simp; omega, fun j hj => ?_⟩, fun v hv => by simp [aV] at hv; omega⟩, by show 1 ≤ _; omega, by show (⟨#[97]⟩ : ByteArray).size ≤ _; decide⟩⟩
  · obtain rfl : i = 0 := by omega
    have t := Three.new (w.alloc (.cells #[.int .u8 7] 5)) (.string ⟨#[97]⟩) (.bool true) (.slice (some ⟨w.heap.size, 0, none⟩) 1 1) 48
    rw [hsz] at t
    exact ⟨t.c0, t.c1, t.c2⟩
  · obtain rfl : j = 0 := by have : j < 1 := hj; omega
    have b : Below (w.heap.size + 1) (w.alloc (.cells #[.int .u8 7] 5)) ((w.alloc (.cells #[.int .u8 7] 5)).alloc (.cells #[.string ⟨#[97]⟩, .bool true, .slice (some ⟨w.heap.size, 0, none⟩) 1 1] 48)) := (Below.refl _ _).alloc (by simp) _
    refine (b.cell (p := ⟨w.heap.size, 0, none⟩) (Nat.lt_succ_self _)).trans ?_
    simp [gl, aV]

set_option maxHeartbeats 2000000 in
theorem sawake (w : World) : Calls Try.prog 7 #[] w fun e w' => e = .returned (.bool true) ∧ Below w.heap.size w w' := by
  have hN := dnew 8 8 rfl w (by omega) (by omega)
  have HAP : Hid (∀ v p sq jq mq g' K, Alive w.heap.size w v p 8 sq jq mq 0 0 g' (fun _ => none) K → g' ≤ 1 → Calls Try.prog 12 #[.pointer (some ⟨sq, 0, none⟩), .slice (some ⟨v.heap.size + 1, 0, none⟩) 1 1] ((v.alloc (.cells #[.int .u8 7] 5)).alloc (.cells #[.string ⟨#[97]⟩, .bool true, .slice (some ⟨v.heap.size, 0, none⟩) 1 1] 48)) fun e v2 => e = .returned (.int .i64 0) ∧
      Calls Try.prog 23 #[.pointer (some ⟨p, 0, none⟩), .slice none 0 0] v2 fun e v3 => e = .returned (.tuple #[]) ∧
        Calls Try.prog 10 #[.pointer (some ⟨p, 0, none⟩)] v3 fun e v4 => ∃ sq2, e = .returned (.tuple #[.pointer (some ⟨sq2, 0, none⟩), .int .i64 0]) ∧
          Calls Try.prog 11 #[.pointer (some ⟨sq2, 0, none⟩), .string ⟨#[97]⟩] v4 fun e v5 => ∃ b5 c5, e = .returned (.tuple #[.slice (some b5) 1 c5, .bool true]) ∧ v5.cell? b5 = some (.int .u8 7) ∧ b5 = ⟨b5.block, b5.off, none⟩ ∧ Hid (Below w.heap.size w v5)) := fun v p sq jq mq g' K hal hg => by
    have b1 : Below v.heap.size v (v.alloc (.cells #[.int .u8 7] 5)) := (Below.refl _ _).alloc (Nat.le_refl _) _
    have b2 : Below v.heap.size v ((v.alloc (.cells #[.int .u8 7] 5)).alloc (.cells #[.string ⟨#[97]⟩, .bool true, .slice (some ⟨v.heap.size, 0, none⟩) 1 1] 48)) := b1.alloc (by simp) _
    have hal2 := hal.below b2
    have hfoot := hal.foot
    have hmb : mq < v.heap.size := by
      obtain ⟨⟨nb, DD, hst⟩, _⟩ := hal.stat
      exact hst.map.lt
    refine (apply_ok hal2 (some ⟨v.heap.size + 1, 0, none⟩) 1 1 (aV v.heap.size) (aV_acts v) (by omega) (Nat.le_refl _) ⟨fun _ ad ha => ?_, fun i hi ad ha => ?_⟩ [1, 1, 97, 1, 1, 7] (aV_says _) (aV_can _ _) (by show 0 + 1 ≤ 8; omega) (by omega)).mono fun e v2 ⟨e2, t2, K2, hal3, hK2⟩ => ⟨e2, ?_⟩
    · injection ha with ha
      subst ha
      exact ⟨fun hk => by have : v.heap.size + 1 < v.heap.size := (hfoot _ hk).2; omega, by show v.heap.size + 1 ≠ mq; omega⟩
    · injection ha with ha
      subst ha
      exact ⟨fun hk => by have : v.heap.size < v.heap.size := (hfoot _ hk).2; omega, by show v.heap.size ≠ mq; omega⟩
    refine (hal3.crash none 0 0 (fun _ => false) (.inl rfl) (fun h => absurd rfl h) (by omega) (by omega)).mono fun e v3 ⟨e3, t3, hop⟩ => ⟨e3, hop.mono ?_⟩
    rintro e v4 ⟨sq2, jq2, mq2, g2, K4, e4, b4, hg4, hal4, _⟩
    refine ⟨sq2, e4, ?_⟩
    obtain ⟨⟨nb, DD, hst⟩, _⟩ := hal4.stat
    have hM : doL (fun _ => none) (pas (aV v.heap.size) 1) ⟨#[97]⟩ = some [7] := by
      rw [aV_pas]
      have : str [97] = (⟨#[97]⟩ : ByteArray) := rfl
      simp [doL, doA, this]
    refine (get_any hst ⟨#[97]⟩ (by decide)).mono fun e v5 ⟨y, n5, c5, e5, b5, _, hv⟩ => ?_
    rw [hM] at e5 hv
    obtain ⟨hsl, _⟩ := hv [7] rfl
    have hn5 : n5 = 1 := hsl.len.symm
    subst hn5
    rcases hsl.row with h0 | ⟨bb, oo, rfl, _, hc⟩
    · omega
    · exact ⟨⟨bb, oo, none⟩, c5, e5, hc 0 (by omega), rfl, hal4.bel.trans (b5.mono hal4.size)⟩
  go_enter Try.func7, Try.ntmps7
  go_wp2_with (first
    | (go_at_call 22; refine hN.mono ?_; rintro e w1 ⟨p, F, rfl, d1⟩; clear hN
       have hO1 := open_new d1 (by omega)
       clear d1)
    | (go_at_call 10; refine hO1.mono ?_; rintro e w2 ⟨sq, jq, mq, g', K', rfl, _, hg, hal, _⟩; clear hO1
       have hA := HAP.out w2 p sq jq mq g' K' hal hg
       clear HAP hal hg)
    | (go_at_call 12; refine hA.mono ?_; rintro e w3 ⟨rfl, hC⟩; clear hA)
    | (go_at_call 23; refine hC.mono ?_; rintro e w4 ⟨rfl, hO2⟩; clear hC)
    | (go_at_call 10; refine hO2.mono ?_; rintro e w5 ⟨sq2, rfl, hG⟩; clear hO2)
    | (go_at_call 11; refine hG.mono ?_; rintro e w6 ⟨b5, c5, rfl, hcell, hb5, HB⟩; clear hG; obtain ⟨bb, bo, rfl⟩ : ∃ bb bo, b5 = ⟨bb, bo, none⟩ := ⟨_, _, hb5⟩; clear hb5
       have hfn := func_ne 43
       have hAl := all_make (some ⟨sq2, 0, none⟩) ⟨#[]⟩ w6)
    | (go_at_call 24; refine hAl.mono ?_; rintro e w7 ⟨rfl, hw⟩; subst w7; clear hAl))
  go_ret
  exact ⟨rfl, (HB.out.alloc HB.out.size _).alloc (by have := HB.out.size; simp; omega) _⟩

end Go.Proofs.Ytbbjklenpgkooaa

/-
  The document's may, Encode and Same of package store.
  Conditions: the acts lie in memory.
-/
namespace Go.Proofs.Ytbbjklenpgkooaa
open Go.RowKit By Dk Wi St
set_option linter.unusedVariables false
set_option linter.unusedSimpArgs false
set_option maxRecDepth 100000

theorem may_any (k : ByteArray) (s : Bool) (x : Option Addr) (n c : Nat) (w : World) (t : Bool) (ht : t = true ↔ (1 ≤ k.size ∧ k.size ≤ 64) ∧ n ≤ (if s = true then 4096 else 0)) (hk : k.size ≤ 140737488351232) (hn : n ≤ 140737488351232) :
    Calls Try.prog 19 #[.agg #[.string k, .bool s, .slice x n c]] w fun e w' => e = .returned (.bool t) ∧ Below w.heap.size w w' := by
  have hb : Below w.heap.size w (w.alloc (.cells #[.string k, .bool s, .slice x n c] 48)) := (Below.refl _ _).alloc (Nat.le_refl _) _
  have HB := hid hb
  clear hb
  cases s with
  | true =>
    rw [if_pos rfl] at ht
    by_cases h1 : 1 ≤ k.size
    · by_cases h2 : k.size ≤ 64
      · by_cases h3 : n ≤ 4096
        · obtain rfl : t = true := ht.2 ⟨⟨h1, h2⟩, h3⟩
          have q1 : (1 : Int) ≤ (k.size : Int) := by omega
          have q2 : (k.size : Int) ≤ 64 := by omega
          have q3 : (n : Int) ≤ 4096 := by omega
          clear ht h1 h2 h3
          go_enter Try.func19, Try.ntmps19
          go_wp2_with fail
          all_goals
            go_ret
            exact ⟨by first | (simp [*]; done) | (simp [*]; omega), HB.out⟩
        · obtain rfl : t = false := by cases t; rfl; exact absurd (ht.1 rfl).2 h3
          have q1 : (1 : Int) ≤ (k.size : Int) := by omega
          have q2 : (k.size : Int) ≤ 64 := by omega
          have q3 : ¬ (n : Int) ≤ 4096 := by omega
          clear ht h1 h2 h3
          go_enter Try.func19, Try.ntmps19
          go_wp2_with fail
          all_goals
            go_ret
            exact ⟨by first | (simp [*]; done) | (simp [*]; omega), HB.out⟩
      · obtain rfl : t = false := by cases t; rfl; exact absurd (ht.1 rfl).1.2 h2
        have q1 : (1 : Int) ≤ (k.size : Int) := by omega
        have q2 : ¬ (k.size : Int) ≤ 64 := by omega
        clear ht h1 h2
        go_enter Try.func19, Try.ntmps19
        go_wp2_with fail
        all_goals
          go_ret
          exact ⟨by simp [*], HB.out⟩
    · obtain rfl : t = false := by cases t; rfl; exact absurd (ht.1 rfl).1.1 h1
      have q1 : ¬ (1 : Int) ≤ (k.size : Int) := by omega
      clear ht h1
      go_enter Try.func19, Try.ntmps19
      go_wp2_with fail
      all_goals
        go_ret
        exact ⟨by simp [*], HB.out⟩
  | false =>
    rw [if_neg (show ¬ (false = true) by simp)] at ht
    by_cases h1 : 1 ≤ k.size
    · by_cases h2 : k.size ≤ 64
      · by_cases h3 : n ≤ 0
        · obtain rfl : t = true := ht.2 ⟨⟨h1, h2⟩, h3⟩
          have q1 : (1 : Int) ≤ (k.size : Int) := by omega
          have q2 : (k.size : Int) ≤ 64 := by omega
          have q3 : (n : Int) ≤ 4096 := by omega
          have q4 : ((n : Int) == 0) = true := by simp; omega
          have q5 : (n : Int) = 0 := by omega
          clear ht h1 h2 h3
          go_enter Try.func19, Try.ntmps19
          go_wp2_with fail
          all_goals
            go_ret
            exact ⟨by first | (simp [*]; done) | (simp [*]; omega), HB.out⟩
        · obtain rfl : t = false := by cases t; rfl; exact absurd (ht.1 rfl).2 h3
          have q1 : (1 : Int) ≤ (k.size : Int) := by omega
          have q2 : (k.size : Int) ≤ 64 := by omega
          have q4 : ((n : Int) == 0) = false := by simp; omega
          have q5 : ¬ (n : Int) = 0 := by omega
          clear ht h1 h2 h3
          go_enter Try.func19, Try.ntmps19
          go_wp2_with fail
          all_goals
            go_ret
            exact ⟨by first | (simp [*]; done) | (simp [*]; omega), HB.out⟩
      · obtain rfl : t = false := by cases t; rfl; exact absurd (ht.1 rfl).1.2 h2
        have q1 : (1 : Int) ≤ (k.size : Int) := by omega
        have q2 : ¬ (k.size : Int) ≤ 64 := by omega
        clear ht h1 h2
        go_enter Try.func19, Try.ntmps19
        go_wp2_with fail
        all_goals
          go_ret
          exact ⟨by simp [*], HB.out⟩
    · obtain rfl : t = false := by cases t; rfl; exact absurd (ht.1 rfl).1.1 h1
      have q1 : ¬ (1 : Int) ≤ (k.size : Int) := by omega
      clear ht h1
      go_enter Try.func19, Try.ntmps19
      go_wp2_with fail
      all_goals
        go_ret
        exact ⟨by simp [*], HB.out⟩


/- What one act adds to the document's bytes. -/
theorem rencode_no (a : Option Addr) (len cap : Nat) (V : Nat → AV) (w : World) (h : ActsAt w a len V) (hl : len ≤ 140737488351232) (hno : ¬ (len ≤ 256 ∧ okL (pas V len))) :
    Calls Try.prog 6 #[.slice a len cap] w fun e w' => e = .returned (.tuple #[.slice none 0 0, .int .i64 1]) ∧ Below w.heap.size w w' := by
  by_cases h256 : len ≤ 256
  · have q0 : ¬ (256 : Int) < (len : Int) := by omega
    have HL := hid h
    have HNO : Hid (¬ okL (pas V len)) := fun hh => hno ⟨h256, hh⟩
    clear h hno
    go_enter Try.func6, Try.ntmps6
    go_wp2_with fail
    go_loopw [4] (fun i wr => ∃ k : Nat, k ≤ len ∧ i = .int .i64 k ∧ Hid (okL (pas V k) ∧ Below w.heap.size w wr)) (fun i _ => len - (intOf i).toNat)
    case atStart => exact ⟨0, by omega, rfl, ⟨(fun a ha => by cases ha), Below.refl _ _⟩⟩
    case round =>
      obtain ⟨k, hk, rfl, HR⟩ := hrel
      have hlt : k < len := by
        rcases Nat.lt_or_ge k len with h | h
        · exact h
        · have : k = len := by omega
          subst this
          exact absurd HR.out.1 HNO.out
      have hlt' : (k : Int) < (len : Int) := by omega
      rcases HL.out.row with h0 | ⟨b, o, rfl, hbl, hc⟩
      · omega
      obtain ⟨f0, f1, f2⟩ := hc k hlt
      have k0 := (HR.out.2.cell (p := ⟨b, o + k * 3, none⟩) hbl).trans f0
      have k1 := (HR.out.2.cell (p := ⟨b, o + k * 3 + 1, none⟩) hbl).trans f1
      have k2 := (HR.out.2.cell (p := ⟨b, o + k * 3 + 2, none⟩) hbl).trans f2
      have ho := HL.out.act k hlt
      have hd := okA_pa ho
      have hks := ho.ks
      have hsm := ho.sm
      have HB1 : Hid (∀ w', Below wr.heap.size wr w' → Below w.heap.size w w') := fun w' hw => HR.out.2.trans (hw.mono HR.out.2.size)
      by_cases hok : okA (pa (V k))
      · have hA := may_any (V k).key (V k).set (V k).x (V k).n (V k).c wr true (by rw [← hd]; simp [hok]) hks hsm
        have HO := hid (okL_succ HR.out.1 hok)
        clear hc f0 f1 f2 ho hd hok HR hks hsm
        generalize (V k).key = Kk at *
        generalize (V k).set = Ks at *
        generalize (V k).x = Kx at *
        generalize (V k).n = Kn at *
        generalize (V k).c = Kc at *
        go_wp2_with (go_at_call 19; refine hA.mono ?_; rintro e w1 ⟨rfl, hb1⟩; clear hA; (have HB2 := hid (HB1.out w1 hb1)); clear hb1 HB1)
        go_roundw
        case rel => exact ⟨k + 1, by omega, by go_num, ⟨HO.out, HB2.out⟩⟩
        case measure => simp [intOf]; omega
      · have hA := may_any (V k).key (V k).set (V k).x (V k).n (V k).c wr false (by rw [← hd]; simp [hok]) hks hsm
        clear hc f0 f1 f2 ho hd hok HR hks hsm
        generalize (V k).key = Kk at *
        generalize (V k).set = Ks at *
        generalize (V k).x = Kx at *
        generalize (V k).n = Kn at *
        generalize (V k).c = Kc at *
        go_wp2_with (go_at_call 19; refine hA.mono ?_; rintro e w1 ⟨rfl, hb1⟩; clear hA; (have HB2 := hid (HB1.out w1 hb1)); clear hb1 HB1)
        go_ret2
        exact ⟨rfl, HB2.out⟩
  · have q0 : (256 : Int) < (len : Int) := by omega
    clear h hno
    go_enter Try.func6, Try.ntmps6
    go_wp2_with fail
    go_ret2
    exact ⟨rfl, Below.refl _ _⟩

end Go.Proofs.Ytbbjklenpgkooaa

/-
  The document's Encode of package store.
  Conditions: the acts lie in memory.
-/
namespace Go.Proofs.Ytbbjklenpgkooaa
open Go.RowKit By Dk Wi St
set_option linter.unusedVariables false
set_option linter.unusedSimpArgs false
set_option maxRecDepth 100000

def Out (w v : World) (x : Option Addr) (m c : Nat) (l : List Nat) : Prop := OwnL v w.heap.size (.slice x m c) l ∧ Below w.heap.size w v

theorem Out.below {w v v' : World} {x : Option Addr} {m c : Nat} {l : List Nat} (h : Out w v x m c l) (hb : Below v.heap.size v v') : Out w v' x m c l := ⟨h.1.below hb, h.2.trans (hb.mono h.2.size)⟩

theorem Out.push {w v v' : World} {x : Option Addr} {m c : Nat} {l : List Nat} (h : Out w v x m c l) (hl : ∀ u ∈ l, u < 256) (hb : Below v.heap.size v v') {y : Option Addr} {n d : Nat} {k : List Nat} (hk : Sl v' y n d k) (hs : l.length + n ≤ 140737488355328) :
    ∃ x3 m3 c3 w3, (Builtin.append_ #[23, 23] 23 #[.slice x m c, .slice y n d]).run Try.prog v' = .ok (.slice x3 m3 c3) w3 ∧ Out w w3 x3 m3 c3 (l ++ k) := by
  have h' := h.below hb
  obtain ⟨R', w3, p1, p2, p3⟩ := push_list v' w w.heap.size (.slice x m c) l h'.1 h'.2.size h'.2 y n d k hk hs
  obtain ⟨x3, c3, rfl, _⟩ := p2.sl (fun u hu => by
    rcases List.mem_append.1 hu with hu | hu
    · exact hl u hu
    · exact hk.lt u hu)
  exact ⟨x3, _, c3, w3, p1, p2, p3⟩

theorem Out.one {w v : World} {x : Option Addr} {m c : Nat} {l : List Nat} (h : Out w v x m c l) (hl : ∀ u ∈ l, u < 256) (b : Nat) (hb : b < 256) (hs : l.length ≤ 2000000) :
    ∃ x3 m3 c3 w3, (Builtin.append_ #[23, 23] 23 #[.slice x m c, .slice (some ⟨v.heap.size, 0, none⟩) 1 1]).run Try.prog (v.alloc (.cells #[.int .u8 (b : Int)] 5)) = .ok (.slice x3 m3 c3) w3 ∧ Out w w3 x3 m3 c3 (l ++ [b]) := by
  refine h.push hl ((Below.refl _ _).alloc (Nat.le_refl _) _) ⟨rfl, Nat.le_refl _, (fun e => by cases e), .inr ⟨v.heap.size, 0, rfl, by simp, fun i hi => ?_⟩, fun u hu => by simp at hu; omega⟩ (by omega)
  obtain rfl : i = 0 := by omega
  simp [gl]

theorem Out.key {w v : World} {x : Option Addr} {m c : Nat} {l : List Nat} (h : Out w v x m c l) (hl : ∀ u ∈ l, u < 256) (k : ByteArray) (hk : k.size ≤ 64) (hs : l.length ≤ 2000000) :
    ∃ cc W1, (convert 9 23 (.string k)).run Try.prog v = .ok (.slice (some ⟨v.heap.size, 0, none⟩) k.size cc) W1 ∧
      Calls Try.prog 21 #[.slice (some ⟨v.heap.size, 0, none⟩) k.size cc] W1 fun e w2 => ∃ y m2 c2, e = .returned (.slice y m2 c2) ∧ ∃ x3 m3 c3 w3, (Builtin.append_ #[23, 23] 23 #[.slice x m c, .slice y m2 c2]).run Try.prog w2 = .ok (.slice x3 m3 c3) w3 ∧ Hid (Out w w3 x3 m3 c3 (l ++ (uv k.size ++ nat k))) := by
  obtain ⟨cc, W1, h1, H1⟩ := conv_text k v
  refine ⟨cc, W1, h1, (rbytes_any _ k.size cc (nat k) W1 H1.out.2 (by omega)).mono fun e w2 ⟨R, q1, q2, q3⟩ => ?_⟩
  have u10 := uv_ten (n := k.size) (by omega)
  obtain ⟨y, c2, rfl, h4, _⟩ := q2.sl (fun u hu => by
    rcases List.mem_append.1 hu with hu | hu
    · exact uv_lt _ u hu
    · exact nat_lt k u hu)
  obtain ⟨x3, m3, c3, w3, p1, p2⟩ := h.push hl (H1.out.1.trans (q3.mono H1.out.1.size)) h4 (by rw [List.length_append, nat_length]; omega)
  exact ⟨y, _, c2, q1, x3, m3, c3, w3, p1, p2⟩

theorem Out.data {w v : World} {x : Option Addr} {m c : Nat} {l : List Nat} (h : Out w v x m c l) (hl : ∀ u ∈ l, u < 256) (y : Option Addr) (n d : Nat) (k : List Nat) (hk : Sl v y n d k) (hn : n ≤ 4096) (hs : l.length ≤ 2000000) :
    Calls Try.prog 21 #[.slice y n d] v fun e w2 => ∃ z m2 c2, e = .returned (.slice z m2 c2) ∧ Hid (Below v.heap.size v w2) ∧ ∃ x3 m3 c3 w3, (Builtin.append_ #[23, 23] 23 #[.slice x m c, .slice z m2 c2]).run Try.prog w2 = .ok (.slice x3 m3 c3) w3 ∧ Hid (Out w w3 x3 m3 c3 (l ++ (uv n ++ k))) := by
  refine (rbytes_any y n d k v hk (by omega)).mono fun e w2 ⟨R, q1, q2, q3⟩ => ?_
  have u10 := uv_ten (n := n) (by omega)
  obtain ⟨z, c2, rfl, h4, _⟩ := q2.sl (fun u hu => by
    rcases List.mem_append.1 hu with hu | hu
    · exact uv_lt _ u hu
    · exact hk.lt u hu)
  obtain ⟨x3, m3, c3, w3, p1, p2⟩ := h.push hl q3 h4 (by rw [List.length_append, hk.len]; omega)
  exact ⟨z, _, c2, q1, q3, x3, m3, c3, w3, p1, p2⟩

theorem cat_lt {l k : List Nat} (hl : ∀ u ∈ l, u < 256) (hk : ∀ u ∈ k, u < 256) : ∀ u ∈ l ++ k, u < 256 := fun u hu => by
  rcases List.mem_append.1 hu with hu | hu
  · exact hl u hu
  · exact hk u hu

theorem encL_lt {w : World} {a : Option Addr} {len : Nat} {V : Nat → AV} (h : ActsAt w a len V) {k : Nat} (hk : k ≤ len) : ∀ v ∈ uv len ++ encL (pas V k), v < 256 := fun v hv => by
  rcases List.mem_append.1 hv with hv | hv
  · exact uv_lt _ v hv
  · unfold encL at hv
    obtain ⟨p, hp, hv⟩ := List.mem_flatMap.1 hv
    obtain ⟨i, hi, rfl⟩ := pas_mem hp
    exact encA_lt (nat_lt _) (h.act i (by omega)).sl.lt v hv

set_option maxHeartbeats 1000000 in
theorem rencode_yes (a : Option Addr) (len cap : Nat) (V : Nat → AV) (w : World) (h : ActsAt w a len V) (h256 : len ≤ 256) (hokl : okL (pas V len)) (c : Nat) (o : List Nat) (hS : EncSays (pas V len) c o) :
    Calls Try.prog 6 #[.slice a len cap] w fun e w' => ∃ x m cx, e = .returned (.tuple #[.slice x m cx, .int .i64 (c : Int)]) ∧ EncTold w w' x m cx o := by
  have q0 : ¬ (256 : Int) < (len : Int) := by omega
  have hlt := enc_lt (pas_lt h)
  have u10 := uv_ten (n := len) (by omega)
  have hU : ∀ w1, Below w.heap.size w w1 → Calls Try.prog 20 #[.int .u64 (len : Int)] w1 fun e w' => ∃ x m cx, e = .returned (.slice x m cx) ∧ Hid (Out w w' x m cx (uv len ++ encL (pas V 0))) := fun w1 hb1 =>
    (ruvarint_any len w1 (by omega)).mono fun e w' ⟨R, h1, h2, h3⟩ => by
      obtain ⟨x, cx, rfl, _⟩ := h2.sl (uv_lt _)
      exact ⟨x, _, cx, h1, by simpa [pas, encL] using h2.mono hb1.size, hb1.trans (h3.mono hb1.size)⟩
  have HL := hid h
  have HO := hid hokl
  have HS := hid hS
  have HLT := hid hlt
  have HU := hid hU
  have hconv : ((len : Nat) : Int) % 18446744073709551616 = (len : Int) := by omega
  clear h hokl hS hlt hU
  go_enter Try.func6, Try.ntmps6
  go_wp2_with fail
  go_loopw [4] (fun i wr => ∃ k : Nat, k ≤ len ∧ i = .int .i64 k ∧ Hid (Below w.heap.size w wr)) (fun i _ => len - (intOf i).toNat)
  case atStart => exact ⟨0, by omega, rfl, Below.refl _ _⟩
  case round =>
    obtain ⟨k, hk, rfl, HR⟩ := hrel
    by_cases hkl : k < len
    · have hlt' : (k : Int) < (len : Int) := by omega
      rcases HL.out.row with h0 | ⟨b, o, rfl, hbl, hc⟩
      · omega
      obtain ⟨f0, f1, f2⟩ := hc k hkl
      have k0 := (HR.out.cell (p := ⟨b, o + k * 3, none⟩) hbl).trans f0
      have k1 := (HR.out.cell (p := ⟨b, o + k * 3 + 1, none⟩) hbl).trans f1
      have k2 := (HR.out.cell (p := ⟨b, o + k * 3 + 2, none⟩) hbl).trans f2
      have ho := HL.out.act k hkl
      have hd := okA_pa ho
      have HB1 : Hid (∀ w', Below wr.heap.size wr w' → Below w.heap.size w w') := fun w' hw => HR.out.trans (hw.mono HR.out.size)
      have hA := may_any (V k).key (V k).set (V k).x (V k).n (V k).c wr true (by rw [← hd]; simp [okL_lt HO.out hkl]) ho.ks ho.sm
      clear hc f0 f1 f2 ho hd HR
      generalize (V k).key = Kk at *
      generalize (V k).set = Ks at *
      generalize (V k).x = Kx at *
      generalize (V k).n = Kn at *
      generalize (V k).c = Kc at *
      go_wp2_with (go_at_call 19; refine hA.mono ?_; rintro e w1 ⟨rfl, hb1⟩; clear hA; (have HB2 := hid (HB1.out w1 hb1)); clear hb1 HB1)
      go_roundw
      case rel => exact ⟨k + 1, by omega, by go_num, HB2.out⟩
      case measure => simp [intOf]; omega
    · obtain rfl : k = len := by omega
      obtain ⟨w5, hw5⟩ : ∃ w5, w5 = wr := ⟨_, rfl⟩
      subst hw5
      have hU1 := HU.out w5 HR.out
      clear HU
      go_wp2_with (go_at_call 20; refine hU1.mono ?_; rintro e w2 ⟨x0, m0, c0, rfl, HR0⟩; clear hU1)
      go_loopw [5, 6] (fun out i wr => ∃ (j : Nat) (x : Option Addr) (m cx : Nat), j ≤ k ∧ out = .slice x m cx ∧ i = .int .i64 j ∧ Hid (Out w wr x m cx (uv k ++ encL (pas V j)))) (fun _ i _ => k - (intOf i).toNat)
      case atStart => exact ⟨0, x0, m0, c0, by omega, rfl, rfl, HR0.out⟩
      case round =>
        clear HR0 HR
        obtain ⟨j, x, m, cx, hj, rfl, rfl, HQ⟩ := hrel
        by_cases hjl : j < k
        · have hjl' : (j : Int) < (k : Int) := by omega
          rcases HL.out.row with h0 | ⟨b, o', rfl, hbl, hc⟩
          · omega
          obtain ⟨f0, f1, f2⟩ := hc j hjl
          have hbw := HQ.out.2
          have k0 := (hbw.cell (p := ⟨b, o' + j * 3, none⟩) hbl).trans f0
          have ho := HL.out.act j hjl
          have hoka := (okA_pa ho).1 (okL_lt HO.out hjl)
          have hn4 : (V j).n ≤ 4096 := by have := hoka.2; split at this <;> omega
          have hl0 := encL_lt HL.out hj
          have hle := encL_le V hj HO.out
          have hls : (uv k ++ encL (pas V j)).length ≤ 1100000 := by rw [List.length_append]; omega
          obtain ⟨cc, W1, hcv, hKB⟩ := HQ.out.key hl0 (V j).key hoka.1.2 (by omega)
          have hl1 := cat_lt hl0 (cat_lt (uv_lt (V j).key.size) (nat_lt (V j).key))
          have u1 := uv_ten (n := (V j).key.size) (by have := hoka.1.2; omega)
          have hls1 : (uv k ++ encL (pas V j) ++ (uv (V j).key.size ++ nat (V j).key)).length ≤ 1200000 := by
            have := hoka.1.2
            have h9 := hls
            simp only [List.length_append] at h9
            simp only [List.length_append, nat_length]
            omega
          have hfin : ∀ (s : List Nat), encA (pa (V j)) = uv (V j).key.size ++ nat (V j).key ++ s → uv k ++ encL (pas V j) ++ (uv (V j).key.size ++ nat (V j).key) ++ s = uv k ++ encL (pas V (j + 1)) := fun s hs => by
            rw [pas_succ, encL_snoc, hs]
            simp
          by_cases hset : (V j).set = true
          · -- set
            have HD : Hid (∀ w3 x3 m3 c3, Out w w3 x3 m3 c3 (uv k ++ encL (pas V j) ++ (uv (V j).key.size ++ nat (V j).key)) → w3.cell? ⟨b, o' + j * 3 + 1, none⟩ = some (.bool (V j).set) ∧ w3.cell? ⟨b, o' + j * 3 + 2, none⟩ = some (.slice (V j).x (V j).n (V j).c) ∧
                ∃ x4 m4 c4 w4, (Builtin.append_ #[23, 23] 23 #[.slice x3 m3 c3, .slice (some ⟨w3.heap.size, 0, none⟩) 1 1]).run Try.prog (w3.drew.alloc (.cells #[.int .u8 1] 5)) = .ok (.slice x4 m4 c4) w4 ∧ w4.cell? ⟨b, o' + j * 3 + 2, none⟩ = some (.slice (V j).x (V j).n (V j).c) ∧
                  Calls Try.prog 21 #[.slice (V j).x (V j).n (V j).c] w4 fun e w5 => ∃ y5 m5 c5, e = .returned (.slice y5 m5 c5) ∧ w5.cell? ⟨b, o' + j * 3 + 2, none⟩ = some (.slice (V j).x (V j).n (V j).c) ∧
                    ∃ x6 m6 c6 w6, (Builtin.append_ #[23, 23] 23 #[.slice x4 m4 c4, .slice y5 m5 c5]).run Try.prog w5 = .ok (.slice x6 m6 c6) w6 ∧ w6.cell? ⟨b, o' + j * 3 + 2, none⟩ = some (.slice (V j).x (V j).n (V j).c) ∧ Hid (Out w w6 x6 m6 c6 (uv k ++ encL (pas V (j + 1))))) := fun w3 x3 m3 c3 h3 => by
              have g1 := (h3.2.cell (p := ⟨b, o' + j * 3 + 1, none⟩) hbl).trans f1
              have g2 : ∀ {v y m c l}, Out w v y m c l → v.cell? ⟨b, o' + j * 3 + 2, none⟩ = some (.slice (V j).x (V j).n (V j).c) := fun hv => (hv.2.cell (p := ⟨b, o' + j * 3 + 2, none⟩) hbl).trans f2
              have hd3 : Out w w3.drew x3 m3 c3 _ := h3.below ((Below.refl _ _).drew)
              obtain ⟨x4, m4, c4, w4, p1, p2⟩ := hd3.one hl1 1 (by omega) (by omega)
              refine ⟨g1, g2 h3, x4, m4, c4, w4, p1, g2 p2, ?_⟩
              have hl4 := cat_lt hl1 (show ∀ u ∈ [1], u < 256 from fun u hu => by simp at hu; omega)
              refine (p2.data hl4 (V j).x (V j).n (V j).c (V j).d (ho.sl.below p2.2) hn4 (by rw [List.length_append]; simp only [List.length_cons, List.length_nil]; omega)).mono fun e w5 ⟨z, m2, c2, r1, r2, x6, m6, c6, w6, r3, r4⟩ => ⟨z, m2, c2, r1, g2 (p2.below r2.out), x6, m6, c6, w6, r3, g2 r4.out, ?_⟩
              have := r4.out
              rw [List.append_assoc _ [1], hfin ([1] ++ (uv (V j).n ++ (V j).d)) (by unfold encA pa; dsimp only; rw [if_pos hset, nat_length, ho.sl.len]; rfl)] at this
              exact this
            clear hc f0 f1 f2 hbw ho hoka hn4 hl0 hle hls hl1 u1 hls1 hfin HQ
            rw [hset] at HD
            generalize (V j).key = Kk at *
            generalize (V j).x = Kx at *
            generalize (V j).n = Kn at *
            generalize (V j).c = Kc at *
            generalize (V j).d = Kd at *
            go_wp2_with (first
              | (go_at_call 21; refine hKB.mono ?_; rintro e w3 ⟨y3, my3, cy3, rfl, x3, m3, c3, w4, hap, HN⟩; clear hKB
                 obtain ⟨s1, s2, x4, m4, c4, w5, hap2, s3, hB2⟩ := HD.out w4 x3 m3 c3 HN.out
                 clear HD HN)
              | (at_builtin; refine wpList_append_run rfl _ _ 23 rfl _ _ rfl rfl hap ?_; clear hap))
            refine wp_region_held_drew (S := fun v => v.cell? ⟨b, o' + j * 3 + 2, none⟩ = some (.slice Kx Kn Kc)) (by kernel_rfl) s2 (fun hHeld => ?_)
            refine wpAnyH_take (i := 0) (v := ?_) rfl (by kernel_rfl) (by kernel_rfl) (by kernel_rfl) (fun _ _ _ h => h) (Or.inl ⟨by rfl, ?_⟩) (by assumption) ?_
            case refine_2 => (intro w hSw; (try dsimp only at hSw); go_simp; (try with_reducible rfl))
            (try simp only [Act.put, List.getElem_toArray, List.getElem_cons_succ, List.getElem_cons_zero, List.setIfInBounds_toArray, List.set_cons_zero, List.set_cons_succ])
            refine wpAnyH_take (i := 3) (v := ?_) rfl (by kernel_rfl) (by kernel_rfl) (by kernel_rfl) (fun _ _ _ h => h) (Or.inl ⟨by rfl, ?_⟩) (by assumption) ?_
            case refine_2 => (intro w hSw; (try dsimp only at hSw); go_simp; (try with_reducible rfl))
            (try simp only [Act.put, List.getElem_toArray, List.getElem_cons_succ, List.getElem_cons_zero, List.setIfInBounds_toArray, List.set_cons_zero, List.set_cons_succ])
            refine wpAnyH_take (i := 4) (v := ?_) rfl (by kernel_rfl) (by kernel_rfl) (by kernel_rfl) (fun _ _ _ h => h) (Or.inl ⟨by rfl, ?_⟩) (by assumption) ?_
            case refine_2 => (intro w hSw; (try dsimp only at hSw); go_simp; (try with_reducible rfl))
            (try simp only [Act.put, List.getElem_toArray, List.getElem_cons_succ, List.getElem_cons_zero, List.setIfInBounds_toArray, List.set_cons_zero, List.set_cons_succ])
            refine wpAnyH_take (i := 5) (v := ?_) rfl (by kernel_rfl) (by kernel_rfl) (by kernel_rfl) (fun _ _ _ h => h) (Or.inl ⟨by rfl, ?_⟩) (by assumption) ?_
            case refine_2 => (intro w hSw; (try dsimp only at hSw); go_simp; (try with_reducible rfl))
            (try simp only [Act.put, List.getElem_toArray, List.getElem_cons_succ, List.getElem_cons_zero, List.setIfInBounds_toArray, List.set_cons_zero, List.set_cons_succ])
            refine wpAnyH_take (i := 6) (v := ?_) rfl (by kernel_rfl) (by kernel_rfl) (by kernel_rfl) (fun _ _ _ h => h) (Or.inl ⟨by rfl, ?_⟩) (by assumption) ?_
            case refine_2 => (intro w hSw; (try dsimp only at hSw); go_simp; (try with_reducible rfl))
            (try simp only [Act.put, List.getElem_toArray, List.getElem_cons_succ, List.getElem_cons_zero, List.setIfInBounds_toArray, List.set_cons_zero, List.set_cons_succ])
            refine wpAnyH_take (i := 7) (v := ?_) rfl (by kernel_rfl) (by kernel_rfl) (by kernel_rfl) (fun _ _ _ h => h) (Or.inl ⟨by rfl, ?_⟩) (by assumption) ?_
            case refine_2 => (intro w hSw; (try dsimp only at hSw); go_simp; (try with_reducible rfl))
            (try simp only [Act.put, List.getElem_toArray, List.getElem_cons_succ, List.getElem_cons_zero, List.setIfInBounds_toArray, List.set_cons_zero, List.set_cons_succ])
            refine wpAnyH_ready (rs := [1]) (by kernel_rfl) (by simp) ?_
            refine AllReadyH.cons rfl (fun K hK => ?_) AllReadyH.nil
            go_simp
            refine hK.out _ _ ((((Below.refl w4.heap.size w4.drew).alloc (Nat.le_refl _) _).cell (p := ⟨b, o' + j * 3 + 2, none⟩) (cell_lt' s2)).trans s2) (fun hHeld => ?_)
            clear hK K
            refine wpAnyH_ready (rs := [2]) (by kernel_rfl) (by simp) ?_
            refine AllReadyH.cons rfl (fun K hK => ?_) AllReadyH.nil
            refine st_append rfl _ _ 23 rfl _ _ rfl rfl hap2 ?_
            (try simp only [Act.put, List.getElem_toArray, List.getElem_cons_succ, List.getElem_cons_zero, List.setIfInBounds_toArray, List.set_cons_zero, List.set_cons_succ])
            refine hK.out _ _ s3 (fun hHeld => ?_)
            clear hK K
            refine wpAnyH_ready (rs := [8]) (by kernel_rfl) (by simp) ?_
            refine AllReadyH.cons rfl (fun K hK => ?_) AllReadyH.nil
            go_simp
            refine hB2.mono ?_
            rintro e w6 ⟨y5, m5, c5, rfl, s4, x6, m6, c6, w7, hap3, s5, HN⟩
            clear hB2
            refine hK.out _ _ s4 (fun hHeld => ?_)
            clear hK K
            refine wpAnyH_ready (rs := [9]) (by kernel_rfl) (by simp) ?_
            refine AllReadyH.cons rfl (fun K hK => ?_) AllReadyH.nil
            refine st_append rfl _ _ 23 rfl _ _ rfl rfl hap3 ?_
            (try simp only [Act.put, List.getElem_toArray, List.getElem_cons_succ, List.getElem_cons_zero, List.setIfInBounds_toArray, List.set_cons_zero, List.set_cons_succ])
            refine hK.out _ _ s5 (fun hHeld => ?_)
            clear hK K
            refine wpAnyH_take (i := 10) (v := ?_) rfl (by kernel_rfl) (by kernel_rfl) (by kernel_rfl) (fun _ _ _ h => h) (Or.inl ⟨by rfl, ?_⟩) (by assumption) ?_
            case refine_2 => (intro w hSw; (try dsimp only at hSw); go_simp; (try with_reducible rfl))
            (try simp only [Act.put, List.getElem_toArray, List.getElem_cons_succ, List.getElem_cons_zero, List.setIfInBounds_toArray, List.set_cons_zero, List.set_cons_succ])
            refine wpAnyH_done (by kernel_rfl) ?_ _
            go_wp2_with fail
            go_roundw
            case rel => exact ⟨j + 1, x6, m6, c6, by omega, rfl, by go_num, HN.out⟩
            case measure => simp [intOf]; omega
          · have hset' : (V j).set = false := by simpa using hset
            have HD : Hid (∀ w3 x3 m3 c3, Out w w3 x3 m3 c3 (uv k ++ encL (pas V j) ++ (uv (V j).key.size ++ nat (V j).key)) → w3.cell? ⟨b, o' + j * 3 + 1, none⟩ = some (.bool (V j).set) ∧
                ∃ x4 m4 c4 w4, (Builtin.append_ #[23, 23] 23 #[.slice x3 m3 c3, .slice (some ⟨w3.heap.size, 0, none⟩) 1 1]).run Try.prog (w3.alloc (.cells #[.int .u8 0] 5)) = .ok (.slice x4 m4 c4) w4 ∧ Hid (Out w w4 x4 m4 c4 (uv k ++ encL (pas V (j + 1))))) := fun w3 x3 m3 c3 h3 => by
              have g1 := (h3.2.cell (p := ⟨b, o' + j * 3 + 1, none⟩) hbl).trans f1
              obtain ⟨x4, m4, c4, w4, p1, p2⟩ := h3.one hl1 0 (by omega) (by omega)
              refine ⟨g1, x4, m4, c4, w4, p1, ?_⟩
              rw [hfin [0] (by unfold encA pa; dsimp only; rw [if_neg (by simp [hset']), nat_length])] at p2
              exact p2
            clear hc f0 f1 f2 hbw ho hoka hn4 hl0 hle hls hl1 u1 hls1 hfin HQ hset
            rw [hset'] at HD
            generalize (V j).key = Kk at *
            go_wp2_with (first
              | (go_at_call 21; refine hKB.mono ?_; rintro e w3 ⟨y3, my3, cy3, rfl, x3, m3, c3, w4, hap, HN⟩; clear hKB
                 obtain ⟨s1, x4, m4, c4, w5, hap2, HN2⟩ := HD.out w4 x3 m3 c3 HN.out
                 clear HD HN)
              | (at_builtin; refine wpList_append_run rfl _ _ 23 rfl _ _ rfl rfl hap ?_; clear hap)
              | (at_builtin; refine wpList_append_run rfl _ _ 23 rfl _ _ rfl rfl hap2 ?_; clear hap2))
            go_roundw
            case rel => exact ⟨j + 1, x4, m4, c4, by omega, rfl, by go_num, HN2.out⟩
            case measure => simp [intOf]; omega
        · obtain rfl : j = k := by omega
          have hfin := HQ.out
          have henc : uv j ++ encL (pas V j) = enc (pas V j) := by unfold enc; rw [pas_len]
          rw [henc] at hfin
          obtain ⟨x', c', he, hsl, hblk⟩ := hfin.1.sl HLT.out
          injection he with e1 e2 e3
          subst e1
          subst e2
          subst e3
          have HF := hid (And.intro hsl (And.intro hblk hfin.2))
          have hS := HS.out
          have hnn : (pas V j).length ≤ 256 ∧ okL (pas V j) := ⟨by rw [pas_len]; exact h256, HO.out⟩
          clear HQ hfin hsl hblk HL HO
          rcases hS with ⟨hno, _⟩ | ⟨_, hlong, rfl, rfl⟩ | ⟨_, hlong, rfl, rfl⟩
          · exact absurd hnn hno
          · have q0 : (13005 : Int) < ((enc (pas V j)).length : Int) := by omega
            clear HS henc hlong hnn
            generalize (enc (pas V j)).length = M at *
            go_wp2_with fail
            go_ret2
            exact ⟨none, 0, 0, rfl, Sl.empty _, (fun a ha => by cases ha), HF.out.2.2⟩
          · have q0 : ¬ (13005 : Int) < ((enc (pas V j)).length : Int) := by omega
            clear HS henc hlong hnn
            generalize hM : (enc (pas V j)).length = M at *
            have HM := hid hM
            clear hM
            go_wp2_with fail
            go_ret2
            exact ⟨_, _, _, rfl, HF.out.1, HF.out.2.1, HF.out.2.2⟩

theorem rencode_any (a : Option Addr) (len cap : Nat) (V : Nat → AV) (w : World) (h : ActsAt w a len V) (hl : len ≤ 140737488351232) (c : Nat) (o : List Nat) (hS : EncSays (pas V len) c o) :
    Calls Try.prog 6 #[.slice a len cap] w fun e w' => ∃ x m cx, e = .returned (.tuple #[.slice x m cx, .int .i64 (c : Int)]) ∧ EncTold w w' x m cx o := by
  by_cases hok : len ≤ 256 ∧ okL (pas V len)
  · exact rencode_yes a len cap V w h hok.1 hok.2 c o hS
  · have hc : c = 1 ∧ o = [] := by
      rcases hS with ⟨_, h1⟩ | ⟨h1, _⟩ | ⟨h1, _⟩
      · exact h1
      · rw [pas_len] at h1; exact absurd h1 hok
      · rw [pas_len] at h1; exact absurd h1 hok
    obtain ⟨rfl, rfl⟩ := hc
    exact (rencode_no a len cap V w h hl hok).mono fun e w' ⟨h1, h2⟩ => ⟨none, 0, 0, h1, Sl.empty _, (fun a ha => by cases ha), h2⟩

end Go.Proofs.Ytbbjklenpgkooaa

/-
  The document's Same of package store: lists that are alike.
  Conditions: the acts lie in memory.
-/
namespace Go.Proofs.Ytbbjklenpgkooaa
open Go.RowKit By Dk Wi St
set_option linter.unusedVariables false
set_option linter.unusedSimpArgs false
set_option maxRecDepth 100000

theorem ActsAt.drewN {w : World} {a : Option Addr} {len : Nat} {V : Nat → AV} (h : ActsAt w a len V) (m : Nat) : ActsAt (w.drewN m) a len V := h.below ⟨rfl, rfl, rfl, Nat.le_refl _, fun _ _ => rfl⟩

theorem pa_parts {v u : AV} (h : pa v = pa u) : v.key = u.key ∧ v.set = u.set ∧ v.d = u.d := by
  unfold pa at h
  injection h with h1 h2 h3
  exact ⟨nat_inj h1, h2, h3⟩

theorem pas_at {V U : Nat → AV} {n i : Nat} (h : pas V n = pas U n) (hi : i < n) : pa (V i) = pa (U i) := by
  have := congrArg (fun l => l[i]?) h
  simpa [pas, hi] using this

set_option maxHeartbeats 1000000 in
theorem rsame_yes (a b : Option Addr) (n ca cb : Nat) (V U : Nat → AV) (w : World) (h1 : ActsAt w a n V) (h2 : ActsAt w b n U) (he : pas V n = pas U n) (hn : n ≤ 140737488351232) :
    Calls Try.prog 9 #[.slice a n ca, .slice b n cb] w fun e w' => e = .returned (.bool true) ∧ Below w.heap.size w w' := by
  have H1 := hid h1
  have H2 := hid h2
  have HE := hid he
  clear h1 h2 he
  go_enter Try.func9, Try.ntmps9
  go_wp2_with fail
  go_loopw [5] (fun i wr => ∃ k m : Nat, k ≤ n ∧ i = .int .i64 k ∧ Hid (wr = w.drewN m)) (fun i _ => n - (intOf i).toNat)
  case atStart => exact ⟨0, 0, by omega, rfl, rfl⟩
  case round =>
    obtain ⟨k, m, hk, rfl, HW⟩ := hrel
    by_cases hkl : k < n
    · have hkl' : (k : Int) < (n : Int) := by omega
      rcases H1.out.row with h0 | ⟨ba, oa, rfl, hba, hca⟩
      · omega
      rcases H2.out.row with h0 | ⟨bb, ob, rfl, hbb, hcb⟩
      · omega
      obtain ⟨e1, e2, e3⟩ := pa_parts (pas_at HE.out hkl)
      obtain ⟨f0, f1, f2⟩ := hca k hkl
      obtain ⟨g0, g1, g2⟩ := hcb k hkl
      have hw := HW.out
      have k0 : wr.cell? ⟨ba, oa + k * 3, none⟩ = some (.string (V k).key) := by rw [hw]; exact f0
      have k1 : wr.cell? ⟨ba, oa + k * 3 + 1, none⟩ = some (.bool (V k).set) := by rw [hw]; exact f1
      have k2 : wr.cell? ⟨ba, oa + k * 3 + 2, none⟩ = some (.slice (V k).x (V k).n (V k).c) := by rw [hw]; exact f2
      have l0 : wr.cell? ⟨bb, ob + k * 3, none⟩ = some (.string (V k).key) := by rw [hw, e1]; exact g0
      have l1 : wr.cell? ⟨bb, ob + k * 3 + 1, none⟩ = some (.bool (V k).set) := by rw [hw, e2]; exact g1
      have l2 : wr.cell? ⟨bb, ob + k * 3 + 2, none⟩ = some (.slice (U k).x (U k).n (U k).c) := by rw [hw]; exact g2
      have c1 : ∀ q, (convert 23 9 (.slice (V k).x (V k).n (V k).c)).run Try.prog (wr.drewN q) = .ok (.string (str (V k).d)) (wr.drewN q) := fun q => by
        rw [hw, World.drewN_drewN]; exact conv_sl (((H1.out.drewN _).act k hkl).sl)
      have c2 : ∀ q, (convert 23 9 (.slice (U k).x (U k).n (U k).c)).run Try.prog (wr.drewN q) = .ok (.string (str (V k).d)) (wr.drewN q) := fun q => by
        rw [hw, World.drewN_drewN, e3]; exact conv_sl (((H2.out.drewN _).act k hkl).sl)
      clear hca hcb f0 f1 f2 g0 g1 g2 e1 e2 e3 hw
      generalize (V k).key = Kk at *
      generalize (V k).set = Ks at *
      generalize (V k).x = Kx at *
      generalize (V k).n = Kn at *
      generalize (V k).c = Kc at *
      generalize (U k).x = Ux at *
      generalize (U k).n = Un at *
      generalize (U k).c = Uc at *
      generalize str (V k).d = Kd at *
      go_wp2_with fail
      go_quiet (fail)
      go_wp2_with fail
      go_roundw
      case rel => exact ⟨k + 1, m + nq, by omega, by go_num, by rw [HW.out, World.drewN_drewN]; exact hid rfl⟩
      case measure => simp [intOf]; omega
    · obtain rfl : k = n := by omega
      go_wp2_with fail
      go_ret
      exact ⟨rfl, by rw [HW.out]; exact below_drewN' (Below.refl _ _) m⟩

end Go.Proofs.Ytbbjklenpgkooaa

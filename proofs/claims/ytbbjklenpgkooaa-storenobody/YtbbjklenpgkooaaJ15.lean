/-
  2 texts of this proof, one behind the other: StLive, StAwake.
-/
import Derived.Test.YtbbjklenpgkooaaJ14
/-
  A store's life: a batch that is done; a crash, and the store opened anew; a new disk's.
  Conditions: a disk of at most 300 sectors.
-/
namespace Go.Proofs.Ytbbjklenpgkooaa
open Go.RowKit By Dk Wi St Su Jo
set_option linter.unusedVariables false
set_option linter.unusedSimpArgs false
set_option maxRecDepth 100000

section
variable {B : Nat} {w0 w w' : World} {p n sp jp mb m u g : Nat} {M : KV} {K : Nat → Prop}

theorem ActsAt.away {a : Option Addr} {len : Nat} {V : Nat → AV} (h : ActsAt w a len V) (hw : Away K mb a len V) {G : Nat → Prop} (t : Turns G w w') (hG : ∀ k, k < w.heap.size → G k → K k ∨ k = mb) : ActsAt w' a len V := by
  refine h.turns t (fun h0 ad ha hg => ?_) (fun i hi h0 ad hx hg => ?_)
  · rcases h.row with h1 | ⟨b, o, e, hb, _⟩
    · exact h0 h1
    · rw [e] at ha
      injection ha with ha
      subst ha
      rcases hG b hb hg with q | q
      · exact (hw.1 h0 _ e).1 q
      · exact (hw.1 h0 _ e).2 q
  · rcases (h.act i hi).sl.row with h1 | ⟨b, o, e, hb, _⟩
    · exact h0 h1
    · rw [e] at hx
      injection hx with hx
      subst hx
      rcases hG b hb hg with q | q
      · exact (hw.2 i hi _ e).1 q
      · exact (hw.2 i hi _ e).2 q

theorem Away.mono {K' : Nat → Prop} {a : Option Addr} {len : Nat} {V : Nat → AV} (h : Away K mb a len V) (hK : ∀ q, K' q → K q) : Away K' mb a len V :=
  ⟨fun h0 ad ha => ⟨fun q => (h.1 h0 ad ha).1 (hK _ q), (h.1 h0 ad ha).2⟩, fun i hi ad ha => ⟨fun q => (h.2 i hi ad ha).1 (hK _ q), (h.2 i hi ad ha).2⟩⟩

set_option maxHeartbeats 2000000 in
theorem apply_ok (h : Alive B w0 w p n sp jp mb m u g M K) (a : Option Addr) (len cap : Nat) (V : Nat → AV) (hA : ActsAt w a len V) (hl : len ≤ 140737488351232) (hcap : len ≤ cap) (haw : Away K mb a len V) (o : List Nat) (hS : EncSays (pas V len) 0 o) (hcan : canL M (pas V len)) (hroom : u + pcs o.length ≤ n) (hg : g < 65536) :
    Calls Try.prog 12 #[.pointer (some ⟨sp, 0, none⟩), .slice a len cap] w fun e w' => e = .returned (.int .i64 0) ∧ Turns (fun q => K q ∨ q = mb) w w' ∧ ∃ K', Alive B w0 w' p n sp jp mb (m + 1) (u + pcs o.length) g (doL M (pas V len)) K' ∧ ∀ q, q < w.heap.size → K' q → K q := by
  obtain ⟨Vv, st, ln, ft, F, f, A, D, R, Aa, C, nb, DD, h1, h2, h3, h4, h5, h6, h7, h8, h9⟩ := h
  have hO := sopen_yes h2
  have hE := encode_any a len cap V w hA hl 0 o hS
  have hyes : (len ≤ 256 ∧ okL (pas V len)) ∧ o = enc (pas V len) ∧ o.length ≤ 13005 := by
    rcases hS with ⟨_, q, _⟩ | ⟨_, _, q, _⟩ | ⟨q0, q, _, q2⟩
    · cases q
    · cases q
    · rw [pas_len] at q0
      exact ⟨q0, q2, by rw [q2]; exact q⟩
  obtain ⟨⟨h256, hok⟩, hoe, hol⟩ := hyes
  have hgood : Good o M (pas V len) := ⟨by rw [hoe]; exact dec_enc (by rw [pas_len]; exact h256) hok (by rw [← hoe]; exact hol), hcan⟩
  have hcount := h1.count
  have HC : Hid (∀ v x cx, EncTold w v x o.length cx o → Calls Try.prog 32 #[.pointer (some ⟨sp, 0, none⟩), .slice a len cap] v fun e v2 => e = .returned (.bool true) ∧ v2.cell? ⟨sp, 0, none⟩ = some (.pointer (some ⟨jp, 0, none⟩)) ∧
      Calls Try.prog 36 #[.pointer (some ⟨jp, 0, none⟩), .slice x o.length cx] v2 fun e v3 => e = .returned (.int .i64 0) ∧ v3.cell? ⟨sp, 0, none⟩ = some (.pointer (some ⟨jp, 0, none⟩)) ∧
        Calls Try.prog 37 #[.pointer (some ⟨jp, 0, none⟩)] v3 fun e v4 => e = .returned (.tuple #[]) ∧
          Calls Try.prog 33 #[.pointer (some ⟨sp, 0, none⟩), .slice a len cap] v4 fun e v5 => e = .returned (.tuple #[]) ∧ Hid (Turns (fun q => K q ∨ q = mb) w v5 ∧ ∃ K', Alive B w0 v5 p n sp jp mb (m + 1) (u + pcs o.length) g (doL M (pas V len)) K' ∧ ∀ q, q < w.heap.size → K' q → K q)) := fun v x cx hT => by
    have hb := hT.2.2
    refine (cando_any (h2.below hb) a len cap V (hA.below hb) hl hcap true (by simp [hcan])).mono fun e v2 ⟨e1, b2⟩ => ⟨e1, ((h2.below hb).below b2).c0, ?_⟩
    have hb2 : Below w.heap.size w v2 := hb.trans (b2.mono hb.size)
    have hl2 := h1.below hb2
    have hst2 := h2.below hb2
    refine (hl2.put_ok x o.length cx (gl o) (sl_eltw (hT.1.below b2) (by omega)) (fun _ ad ha hk => by
      have := (hT.2.1 ad ha).1
      have := (h1.foot _ hk).2
      omega) hol (by rw [← h9]; exact hroom) hg).mono fun e v3 ⟨e3, K', V', F', A', D', R', Aa', C', l3, t3, hKK, _, _⟩ => ?_
    have hst3 : StAt v3 sp jp mb nb DD M (fun q => K' q ∨ q = sp) := hst2.move t3 h3 h4 (fun k _ hk => .inl hk) (fun k hk hq => hq.elim (fun q => .inl (hKK k hk q)) .inr)
    have hspl : sp < v2.heap.size := hst2.obj.lt
    have hmbl : mb < v2.heap.size := hst2.map.lt
    have hK'sp : ¬ K' sp := fun q => h3 (hKK sp hspl q)
    have hK'mb : ¬ K' mb := fun q => h4 (hKK mb hmbl q)
    refine ⟨e3, hst3.c0, l3.sync.mono fun e v4 ⟨e4, t4, l4⟩ => ⟨e4, ?_⟩⟩
    have hst4 := hst3.turns t4 hK'sp hK'mb (fun k _ hk => .inl hk)
    have hA3 : ActsAt v3 a len V := (hA.below hb2).away haw t3 (fun k _ hk => .inl hk)
    have haw3 : Away (fun q => q < v2.heap.size ∧ K' q) mb a len V := haw.mono (fun q hq => hKK q hq.1 hq.2)
    have hA4 : ActsAt v4 a len V := by
      refine hA3.turns t4 (fun h0 ad ha hk => ?_) (fun i hi h0 ad hx hk => ?_)
      · rcases hA.row with q1 | ⟨b, o', e5, hbl, _⟩
        · exact h0 q1
        · rw [e5] at ha
          injection ha with ha
          subst ha
          exact (haw.1 h0 _ e5).1 (hKK b (Nat.lt_of_lt_of_le hbl hb2.size) hk)
      · rcases (hA.act i hi).sl.row with q1 | ⟨b, o', e5, hbl, _⟩
        · exact h0 q1
        · rw [e5] at hx
          injection hx with hx
          subst hx
          exact (haw.2 i hi _ e5).1 (hKK b (Nat.lt_of_lt_of_le hbl hb2.size) hk)
    refine (do_any hst4 (fun q hq => by
      rcases hq with hq | hq
      · exact (l4.foot q hq).2
      · have := hst4.obj.lt; omega) a len cap V hA4 (fun h0 ad ha => (haw.1 h0 ad ha).2) (fun i hi ad ha => (haw.2 i hi ad ha).2) h256 hok (by omega)).mono fun e v5 ⟨e5, D5, nb5, q1, q2, q3⟩ => ⟨e5, ?_⟩
    have T5 : Turns (fun q => K q ∨ q = mb) w v5 := by
      have a1 : Turns (fun q => K q ∨ q = mb) w v3 := (Turns.of_below hb2).trans (t3.weak (fun k hk => .inl hk))
      have a2 : Turns (fun q => K q ∨ q = mb) w v4 := a1.more t4 (fun k hk => by
        rcases Nat.lt_or_ge k v2.heap.size with q | q
        · exact .inl (.inl (hKK k q hk))
        · exact .inr (Nat.le_trans hb2.size q))
      exact a2.trans (q3.weak (fun k hk => .inr hk))
    refine ⟨T5, K', ⟨V', _, _, _, F', _, _, _, R', Aa', C', nb5, D5, l4.turns q3 (fun k hk => by omega) (fun k hk e6 => hK'mb (by rw [← e6]; exact hk)), q2, hK'sp, hK'mb, h5, h6, by omega, ?_, ?_⟩, fun q hq hk => hKK q (Nat.lt_of_lt_of_le hq hb2.size) hk⟩
    · refine ⟨M, pas V len, h8.congr (recL_ext ln ft m o), ?_, rfl⟩
      rw [recL_new]
      exact hgood
    · rw [h9, stx_new]
  have HEL : Hid (∀ v x mx cx, EncTold w v x mx cx o → mx = o.length) := fun v x mx cx hT => hT.1.len.symm
  clear h1 h2 hA hS hcan h8 hroom hgood hoe hol hok haw
  go_enter Try.func12, Try.ntmps12
  go_wp2_with (first
    | (go_at_call 34; refine hO.mono ?_; rintro e w' ⟨rfl, hw⟩; subst w'; clear hO)
    | (go_at_call 5; refine hE.mono ?_; rintro e w1 ⟨x, mx, cx, rfl, hT⟩; clear hE
       obtain rfl : mx = o.length := HEL.out _ _ _ _ hT
       have hC := HC.out w1 x cx hT
       clear hT HC HEL)
    | (go_at_call 32; refine hC.mono ?_; rintro e w2 ⟨rfl, c0, hP⟩; clear hC)
    | (go_at_call 36; refine hP.mono ?_; rintro e w3 ⟨rfl, c3, hY⟩; clear hP)
    | (go_at_call 37; refine hY.mono ?_; rintro e w4 ⟨rfl, hDo⟩; clear hY)
    | (go_at_call 33; refine hDo.mono ?_; rintro e w5 ⟨rfl, HN⟩; clear hDo))
  go_ret
  exact ⟨rfl, HN.out⟩

/- A disk on which all is safe, and its store is opened. -/
theorem open_down {F : Nat → Prop} {st ln : Nat → Nat} {ft : Nat → Nat → Nat} {f A : Nat → Nat} {D : Nat → Nat → Nat} (h : Down B w0 w F p n g m st ln ft f A D) (hg : g < 65535) (hm : After (recL ln ft) m M) :
    Calls Try.prog 10 #[.pointer (some ⟨p, 0, none⟩)] w fun e w' => ∃ sq jq mq g' K', e = .returned (.tuple #[.pointer (some ⟨sq, 0, none⟩), .int .i64 0]) ∧ Below w.heap.size w w' ∧ g' ≤ g + 1 ∧ Alive B w0 w' p n sq jq mq m (st m) g' M K' ∧ ∀ q, q < w.heap.size → K' q → F q := by
  have hB : B ≤ w.heap.size := h.dsk.size
  refine (store_open w p (fun w1 jp1 g1 u1 R1 m1 Aa1 ln1 C1 ft1 => ∃ G K' , g1 = G + 1 ∧ G ≤ g ∧ m1 = m ∧ (∀ q, q < w.heap.size → K' q → F q) ∧ Life B w0 w1 K' (vs f) p n jp1 g1 m st m ln1 ft1 F 0 f A D R1 Aa1 C1 ∧ (∀ i, i < m → ln1 i = ln i ∧ ∀ j, j < ln i → ft1 i j = ft i j)) ?_).mono ?_
  · have e0 := vw_zero f A D
    have hGle : ∀ G, Top OkP (vs f) n G → G ≤ g := fun G hG => by
      rcases hG.is with e | ⟨k, k1, k2, k3⟩
      · omega
      · rw [← k3]; exact h.top k k1 k2
    refine (open_yes p n 0 F f A D w h.dsk.pd (fun G hG => by rw [e0] at hG; have := hGle G hG; omega)).mono fun e w' ⟨jp, G, k, st', R, Aa, C, h1, h2, h3, h4, h5⟩ => ?_
    rw [e0] at h3 h4 h5
    obtain ⟨rfl, hs⟩ := h.recs.uniq h4
    have hft := h.dsk.pd.flt
    have hst : st' m = st m := (hs m (Nat.le_refl _)).symm
    have hln : ∀ i, i < m → lnOf (vs f) st' i = lnOf (vs f) st i := fun i hi => by unfold lnOf; rw [hs i (by omega), hs (i + 1) (by omega)]
    have hfn : ∀ i, i < m → ftOf (vs f) st' i = ftOf (vs f) st i := fun i hi => by unfold ftOf; rw [hs i (by omega)]
    have hfoot := h5.foot
    have hcnt := h.recs.run.count m (Nat.le_refl _)
    have hle := h.recs.run.le
    have hn3 := h.n3
    refine ⟨jp, G + 1, _, R, m, Aa, _, C, _, h1, h2, h5, by omega, G, _, rfl, hGle G h3, rfl, fun q hq hk => ?_, ⟨⟨h.dsk.below h2, by rw [← hst]; exact h5.base hB, fun q hq hj => ?_⟩, Inv.open_ h.recs (fun q hq ho => Nat.lt_succ_of_le (h3.le q hq ho)) h.same, e0.symm, rfl, fun i hi => ?_, h.n3⟩, fun i hi => ?_⟩
    · rcases hk with hk | hk
      · exact hk
      · have := (hfoot q hk).1; omega
    · have := hft q hq
      have := (hfoot q hj).1
      omega
    · rw [hln i hi, hfn i hi]
      exact ⟨rfl, fun j _ => rfl⟩
    · rw [hln i hi, hfn i hi]
      exact h.alike i hi
  · rintro e w' ⟨w1, jp1, g1, u1, R1, m1, Aa1, ln1, C1, ft1, b1, j1, ⟨G, K', rfl, hG, rfl, hKF, l1, hal⟩, b2, hres⟩
    have hrec : ∀ i, i < m1 → recL ln ft i = recL ln1 ft1 i := fun i hi => by
      obtain ⟨q1, q2⟩ := hal i hi
      unfold recL
      rw [q1]
      exact List.map_congr_left fun j hj => (q2 j (List.mem_range.1 hj)).symm
    have hm1 := hm.congr hrec
    have hKlt := fun q hq => (l1.foot q hq).2
    rcases hres with ⟨sq, mq, nb, DD, N, r1, r2, r3, r4, r5, r6⟩ | ⟨r1, _⟩
    · have := After.unique _ _ r2 hm1
      subst this
      refine ⟨sq, jp1, mq, _, K', r1, b1.trans (b2.mono b1.size), by omega, ⟨_, _, _, _, _, _, _, _, _, _, _, nb, DD, l1.below b2, ⟨r6.obj, r6.map.weak (fun k hk hq => ?_), r6.ne⟩, fun hk => ?_, fun hk => ?_, ?_, ?_, r5, r2, rfl⟩, hKF⟩
      · rcases hq with hq | hq
        · have := hKlt k hq; omega
        · omega
      · have := hKlt _ hk; omega
      · have := hKlt _ hk; omega
      · have := b1.size; omega
      · have := b1.size; omega
    · exact absurd hm1 (r1 M)

theorem Alive.crash (h : Alive B w0 w p n sp jp mb m u g M K) (y : Option Addr) (l lc : Nat) (b : Nat → Bool) (hy : BoolsAt w y l b) (hyF : l ≠ 0 → ∀ a, y = some a → ¬ K a.block) (hl : l ≤ 140737488355328) (hg : g < 65535) :
    Calls Try.prog 23 #[.pointer (some ⟨p, 0, none⟩), .slice y l lc] w fun e w' => e = .returned (.tuple #[]) ∧ Turns K w w' ∧
      Calls Try.prog 10 #[.pointer (some ⟨p, 0, none⟩)] w' fun e w2 => ∃ sq jq mq g' K', e = .returned (.tuple #[.pointer (some ⟨sq, 0, none⟩), .int .i64 0]) ∧ Below w'.heap.size w' w2 ∧ g' ≤ g + 1 ∧ Alive B w0 w2 p n sq jq mq m u g' M K' ∧ ∀ q, q < w'.heap.size → K' q → K q := by
  obtain ⟨Vv, st, ln, ft, F, f, A, D, R, Aa, C, nb, DD, h1, h2, h3, h4, h5, h6, h7, h8, h9⟩ := h
  have hFK : ∀ k, F k → K k := fun k hk => by rw [h1.hK]; exact .inl hk
  refine (h1.crash y l lc b hy hyF hl).mono fun e w' ⟨e1, t1, m', f', q1, q2, q3⟩ => ⟨e1, t1, ?_⟩
  obtain rfl : m = m' := by omega
  rw [h9]
  exact (open_down q3 hg h8).mono fun e w2 ⟨sq, jq, mq, g', K', r1, r2, r3, r4, r5⟩ => ⟨sq, jq, mq, g', K', r1, r2, r3, r4, fun q hq hk => hFK q (r5 q hq hk)⟩

end

theorem open_new {B : Nat} {w0 w : World} {F : Nat → Prop} {p n : Nat} {A : Nat → Nat} {D : Nat → Nat → Nat} (h : Dsk B w0 w F p n 0 (fun _ => 0) A D) (hn : n ≤ 300) :
    Calls Try.prog 10 #[.pointer (some ⟨p, 0, none⟩)] w fun e w' => ∃ sq jq mq g' K', e = .returned (.tuple #[.pointer (some ⟨sq, 0, none⟩), .int .i64 0]) ∧ Below w.heap.size w w' ∧ g' ≤ 1 ∧ Alive B w0 w' p n sq jq mq 0 0 g' (fun _ => none) K' ∧ ∀ q, q < w.heap.size → K' q → F q :=
  open_down (down_new h hn (fun _ => 0) (fun _ _ => 0)) (by omega) rfl

end Go.Proofs.Ytbbjklenpgkooaa

/-
  Package store's All, as far as it is made; the statements' own check that a value is kept.
  Conditions: none.
-/
namespace Go.Proofs.Ytbbjklenpgkooaa
open Go.RowKit By Dk Wi St Su Jo
set_option linter.unusedVariables false
set_option linter.unusedSimpArgs false
set_option maxRecDepth 100000

theorem all_make (v : Option Addr) (s : ByteArray) (w : World) :
    Calls Try.prog 24 #[.pointer v, .string s] w fun e w' => e = .returned (.func (.func 43) #[] #[.pointer (some ⟨w.heap.size, 0, none⟩), .pointer (some ⟨w.heap.size + 1, 0, none⟩)]) ∧ w' = (w.alloc (.cells #[.pointer v] 32)).alloc (.cells #[.string s] 9) := by
  go_enter Try.func24, Try.ntmps24
  go_wp2_with fail
  go_ret
  exact ⟨rfl, rfl⟩

theorem func_ne (f : Nat) (b : Array Value) (w : World) : (binOp .neq 58 (.func (.func f) #[] b) .nilFunc).run Try.prog w = .ok (.bool true) w := by kernel_rfl

def aV (g : Nat) : Nat → AV := fun _ => ⟨⟨#[97]⟩, true, some ⟨g, 0, none⟩, 1, 1, [7]⟩

theorem aV_pas (g : Nat) : pas (aV g) 1 = [⟨[97], true, [7]⟩] := rfl

theorem aV_enc : enc [⟨[97], true, [7]⟩] = [1, 1, 97, 1, 1, 7] := by
  unfold enc encL encA
  simp [uv_small]

theorem aV_says (g : Nat) : EncSays (pas (aV g) 1) 0 [1, 1, 97, 1, 1, 7] := by
  rw [aV_pas]
  refine .inr (.inr ⟨⟨by simp, fun a ha => ?_⟩, by rw [aV_enc]; simp, rfl, aV_enc.symm⟩)
  simp at ha
  subst ha
  exact ⟨⟨by simp, by simp⟩, by simp⟩

theorem aV_can (g : Nat) (M : KV) : canL M (pas (aV g) 1) := canL_of fun i hi hs => by cases hs

theorem aV_acts (w : World) : ActsAt ((w.alloc (.cells #[.int .u8 7] 5)).alloc (.cells #[.string ⟨#[97]⟩, .bool true, .slice (some ⟨w.heap.size, 0, none⟩) 1 1] 48)) (some ⟨w.heap.size + 1, 0, none⟩) 1 (aV w.heap.size) := by
  have hsz : (w.alloc (.cells #[.int .u8 7] 5)).heap.size = w.heap.size + 1 := by simp
  refine ⟨.inr ⟨w.heap.size + 1, 0, rfl, by simp, fun i hi => ?_⟩, fun i hi => ⟨⟨rfl, Nat.le_refl _, (fun e => by cases e), .inr ⟨w.heap.size, 0, rfl, by simp; omega, fun j hj => ?_⟩, fun v hv => by simp [aV] at hv; omega⟩, by show 1 ≤ _; omega, by show (⟨#[97]⟩ : ByteArray).size ≤ _; decide⟩⟩
  · obtain rfl : i = 0 := by omega
    have t := Three.new (w.alloc (.cells #[.int .u8 7] 5)) (.string ⟨#[97]⟩) (.bool true) (.slice (some ⟨w.heap.size, 0, none⟩) 1 1) 48
    rw [hsz] at t
    exact ⟨t.c0, t.c1, t.c2⟩
  · obtain rfl : j = 0 := by have : j < 1 := hj; omega
    have b : Below (w.heap.size + 1) (w.alloc (.cells #[.int .u8 7] 5)) ((w.alloc (.cells #[.int .u8 7] 5)).alloc (.cells #[.string ⟨#[97]⟩, .bool true, .slice (some ⟨w.heap.size, 0, none⟩) 1 1] 48)) := (Below.refl _ _).alloc (by simp) _
    refine (b.cell (p := ⟨w.heap.size, 0, none⟩) (Nat.lt_succ_self _)).trans ?_
    simp [gl, aV]

set_option maxHeartbeats 2000000 in
theorem sawake (w : World) : Calls Try.prog 7 #[] w fun e w' => e = .returned (.bool true) ∧ Below w.heap.size w w' := by
  have hN := dnew 8 8 rfl w (by omega) (by omega)
  have HAP : Hid (∀ v p sq jq mq g' K, Alive w.heap.size w v p 8 sq jq mq 0 0 g' (fun _ => none) K → g' ≤ 1 → Calls Try.prog 12 #[.pointer (some ⟨sq, 0, none⟩), .slice (some ⟨v.heap.size + 1, 0, none⟩) 1 1] ((v.alloc (.cells #[.int .u8 7] 5)).alloc (.cells #[.string ⟨#[97]⟩, .bool true, .slice (some ⟨v.heap.size, 0, none⟩) 1 1] 48)) fun e v2 => e = .returned (.int .i64 0) ∧
      Calls Try.prog 23 #[.pointer (some ⟨p, 0, none⟩), .slice none 0 0] v2 fun e v3 => e = .returned (.tuple #[]) ∧
        Calls Try.prog 10 #[.pointer (some ⟨p, 0, none⟩)] v3 fun e v4 => ∃ sq2, e = .returned (.tuple #[.pointer (some ⟨sq2, 0, none⟩), .int .i64 0]) ∧
          Calls Try.prog 11 #[.pointer (some ⟨sq2, 0, none⟩), .string ⟨#[97]⟩] v4 fun e v5 => ∃ b5 c5, e = .returned (.tuple #[.slice (some b5) 1 c5, .bool true]) ∧ v5.cell? b5 = some (.int .u8 7) ∧ b5 = ⟨b5.block, b5.off, none⟩ ∧ Hid (Below w.heap.size w v5)) := fun v p sq jq mq g' K hal hg => by
    have b1 : Below v.heap.size v (v.alloc (.cells #[.int .u8 7] 5)) := (Below.refl _ _).alloc (Nat.le_refl _) _
    have b2 : Below v.heap.size v ((v.alloc (.cells #[.int .u8 7] 5)).alloc (.cells #[.string ⟨#[97]⟩, .bool true, .slice (some ⟨v.heap.size, 0, none⟩) 1 1] 48)) := b1.alloc (by simp) _
    have hal2 := hal.below b2
    have hfoot := hal.foot
    have hmb : mq < v.heap.size := by
      obtain ⟨⟨nb, DD, hst⟩, _⟩ := hal.stat
      exact hst.map.lt
    refine (apply_ok hal2 (some ⟨v.heap.size + 1, 0, none⟩) 1 1 (aV v.heap.size) (aV_acts v) (by omega) (Nat.le_refl _) ⟨fun _ ad ha => ?_, fun i hi ad ha => ?_⟩ [1, 1, 97, 1, 1, 7] (aV_says _) (aV_can _ _) (by show 0 + 1 ≤ 8; omega) (by omega)).mono fun e v2 ⟨e2, t2, K2, hal3, hK2⟩ => ⟨e2, ?_⟩
    · injection ha with ha
      subst ha
      exact ⟨fun hk => by have : v.heap.size + 1 < v.heap.size := (hfoot _ hk).2; omega, by show v.heap.size + 1 ≠ mq; omega⟩
    · injection ha with ha
      subst ha
      exact ⟨fun hk => by have : v.heap.size < v.heap.size := (hfoot _ hk).2; omega, by show v.heap.size ≠ mq; omega⟩
    refine (hal3.crash none 0 0 (fun _ => false) (.inl rfl) (fun h => absurd rfl h) (by omega) (by omega)).mono fun e v3 ⟨e3, t3, hop⟩ => ⟨e3, hop.mono ?_⟩
    rintro e v4 ⟨sq2, jq2, mq2, g2, K4, e4, b4, hg4, hal4, _⟩
    refine ⟨sq2, e4, ?_⟩
    obtain ⟨⟨nb, DD, hst⟩, _⟩ := hal4.stat
    have hM : doL (fun _ => none) (pas (aV v.heap.size) 1) ⟨#[97]⟩ = some [7] := by
      rw [aV_pas]
      have : str [97] = (⟨#[97]⟩ : ByteArray) := rfl
      simp [doL, doA, this]
    refine (get_any hst ⟨#[97]⟩ (by decide)).mono fun e v5 ⟨y, n5, c5, e5, b5, _, hv⟩ => ?_
    rw [hM] at e5 hv
    obtain ⟨hsl, _⟩ := hv [7] rfl
    have hn5 : n5 = 1 := hsl.len.symm
    subst hn5
    rcases hsl.row with h0 | ⟨bb, oo, rfl, _, hc⟩
    · omega
    · exact ⟨⟨bb, oo, none⟩, c5, e5, hc 0 (by omega), rfl, hal4.bel.trans (b5.mono hal4.size)⟩
  go_enter Try.func7, Try.ntmps7
  go_wp2_with (first
    | (go_at_call 22; refine hN.mono ?_; rintro e w1 ⟨p, F, rfl, d1⟩; clear hN
       have hO1 := open_new d1 (by omega)
       clear d1)
    | (go_at_call 10; refine hO1.mono ?_; rintro e w2 ⟨sq, jq, mq, g', K', rfl, _, hg, hal, _⟩; clear hO1
       have hA := HAP.out w2 p sq jq mq g' K' hal hg
       clear HAP hal hg)
    | (go_at_call 12; refine hA.mono ?_; rintro e w3 ⟨rfl, hC⟩; clear hA)
    | (go_at_call 23; refine hC.mono ?_; rintro e w4 ⟨rfl, hO2⟩; clear hC)
    | (go_at_call 10; refine hO2.mono ?_; rintro e w5 ⟨sq2, rfl, hG⟩; clear hO2)
    | (go_at_call 11; refine hG.mono ?_; rintro e w6 ⟨b5, c5, rfl, hcell, hb5, HB⟩; clear hG; obtain ⟨bb, bo, rfl⟩ : ∃ bb bo, b5 = ⟨bb, bo, none⟩ := ⟨_, _, hb5⟩; clear hb5
       have hfn := func_ne 43
       have hAl := all_make (some ⟨sq2, 0, none⟩) ⟨#[]⟩ w6)
    | (go_at_call 24; refine hAl.mono ?_; rintro e w7 ⟨rfl, hw⟩; subst w7; clear hAl))
  go_ret
  exact ⟨rfl, (HB.out.alloc HB.out.size _).alloc (by have := HB.out.size; simp; omega) _⟩

end Go.Proofs.Ytbbjklenpgkooaa

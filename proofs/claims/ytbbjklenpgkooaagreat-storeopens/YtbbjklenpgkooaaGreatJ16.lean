/-
  4 texts of this proof, one behind the other: StOpen, StLife, StLive, StAwake.
-/
import Derived.Test.YtbbjklenpgkooaaGreatJ14
import Derived.Test.YtbbjklenpgkooaaGreatJ15
import Derived.Test.YtbbjklenpgkooaaGreatJ08
import Derived.Test.YtbbjklenpgkooaaGreatJ09
/-
  Package store's Open: what records leave.
  Conditions: layer 8's Open gives a journal.
-/
namespace Go.Proofs.YtbbjklenpgkooaaGreat
open Go.RowKit By Dk Wi St Jo
variable [Inhabited PR] [∀ pre s : ByteArray, Decidable (Beg pre s)]
set_option linter.unusedSectionVars false
set_option linter.unusedVariables false
set_option linter.unusedSimpArgs false
set_option maxRecDepth 100000

def Good (b : List Nat) (M : KV) (l : List PA) : Prop := DecSays b 0 l ∧ canL M l

/- What some records leave, one behind the other. -/
def After (r : Nat → List Nat) : Nat → KV → Prop
  | 0, M => M = fun _ => none
  | k + 1, M => ∃ M0 l, After r k M0 ∧ Good (r k) M0 l ∧ M = doL M0 l

theorem dec_unique {b : List Nat} {l k : List PA} (h : DecSays b 0 l) (h' : DecSays b 0 k) : l = k := by
  rcases h with ⟨_, _, h1⟩ | ⟨_, h1, _⟩
  · rcases h' with ⟨_, _, h2⟩ | ⟨_, h2, _⟩
    · rw [h1, h2]
    · cases h2
  · cases h1

theorem After.unique (r : Nat → List Nat) : ∀ k {M N : KV}, After r k M → After r k N → M = N
  | 0, M, N, h, h' => by
    unfold After at h h'
    rw [h, h']
  | k + 1, M, N, ⟨M0, l, h1, h2, h3⟩, ⟨N0, l', k1, k2, k3⟩ => by
    obtain rfl := After.unique r k h1 k1
    obtain rfl := dec_unique h2.1 k2.1
    rw [h3, k3]

theorem After.take {r : Nat → List Nat} : ∀ {m : Nat} {M : KV}, After r m M → ∀ k, k ≤ m → ∃ N, After r k N
  | 0, M, h, k, hk => by
    obtain rfl : k = 0 := by omega
    exact ⟨M, h⟩
  | m + 1, M, h, k, hk => by
    by_cases e : k = m + 1
    · subst e; exact ⟨M, h⟩
    · obtain ⟨M0, l, h1, _⟩ := h
      exact After.take h1 k (by omega)

theorem After.congr {r q : Nat → List Nat} : ∀ {m : Nat} {M : KV}, After r m M → (∀ i, i < m → r i = q i) → After q m M
  | 0, M, h, _ => h
  | m + 1, M, ⟨M0, l, h1, h2, h3⟩, e => ⟨M0, l, h1.congr (fun i hi => e i (by omega)), by rw [← e m (by omega)]; exact h2, h3⟩

def recL (ln : Nat → Nat) (ft : Nat → Nat → Nat) : Nat → List Nat := fun i => (List.range (ln i)).map (ft i)

theorem elt_sl {w : World} {y : Option Addr} {l c : Nat} {f : Nat → Nat} (h : Elt w y l c f) : Sl w y l c ((List.range l).map f) :=
  ⟨by simp, h.le, fun e => (h.nil e).2, h.row.congr fun i hi => by simp [gl, hi], fun v hv => by
    simp only [List.mem_map] at hv
    obtain ⟨i, _, rfl⟩ := hv
    exact h.lt i⟩

theorem okL_dec {b : List Nat} {l : List PA} (h : DecSays b 0 l) : okL l := by
  rcases h with ⟨⟨_, h1, _⟩, _, h2⟩ | ⟨_, h1, _⟩
  · rw [h2]; exact h1
  · cases h1

/- A store, some of the journal's records being done. -/
structure OpSt (w1 wr : World) (p jp g u : Nat) (R : Value) (m : Nat) (Aa : Nat → Option Addr) (ln C : Nat → Nat) (ft : Nat → Nat → Nat) (B k : Nat) (M : KV) : Prop where
  jn : Jn wr B jp p g u R m Aa ln C ft
  bel : Below w1.heap.size w1 wr
  aft : After (recL ln ft) k M
  st : ∃ D nb, nb ≤ 256 * k ∧ StAt wr (w1.heap.size + 1) jp w1.heap.size nb D M (fun q => q ≤ w1.heap.size + 1)

theorem below_of_turns {F : Nat → Prop} {a b : World} {B : Nat} (h : Turns F a b) (hF : ∀ k, F k → B ≤ k) (hB : B ≤ a.heap.size) : Below B a b := h.below hF hB

set_option maxHeartbeats 2000000 in
theorem store_open (w : World) (p : Nat) (T : World → Nat → Nat → Nat → Value → Nat → (Nat → Option Addr) → (Nat → Nat) → (Nat → Nat) → (Nat → Nat → Nat) → Prop)
    (hJ : Calls Tryz.prog 30 #[.pointer (some ⟨p, 0, none⟩)] w fun e w1 => ∃ jp g u R m Aa ln C ft, e = .returned (.tuple #[.pointer (some ⟨jp, 0, none⟩), .int .i64 0]) ∧ Below w.heap.size w w1 ∧ Jn w1 w.heap.size jp p g u R m Aa ln C ft ∧ m ≤ 4096 ∧ T w1 jp g u R m Aa ln C ft) :
    Calls Tryz.prog 11 #[.pointer (some ⟨p, 0, none⟩)] w fun e w' => ∃ w1 jp g u R m Aa ln C ft, Below w.heap.size w w1 ∧ Jn w1 w.heap.size jp p g u R m Aa ln C ft ∧ T w1 jp g u R m Aa ln C ft ∧ Below w1.heap.size w1 w' ∧
      ((∃ sp mb nb D M, e = .returned (.tuple #[.pointer (some ⟨sp, 0, none⟩), .int .i64 0]) ∧ After (recL ln ft) m M ∧ w1.heap.size ≤ mb ∧ mb ≤ sp ∧ nb ≤ 256 * m ∧ StAt w' sp jp mb nb D M (fun q => q ≤ sp)) ∨
       ((∀ M, ¬ After (recL ln ft) m M) ∧ e = .returned (.tuple #[.pointer none, .int .i64 5]))) := by
  have hmm := @run_makeMap Tryz.prog
  go_enter Tryz.func11, Tryz.ntmps11
  go_wp2_with (first
    | (go_at_call 30; refine hJ.mono ?_; rintro e w1 ⟨jp, g, u, R, m, Aa, ln, C, ft, rfl, hb1, hjn, hm, hT⟩; clear hJ
       have HT := hid (And.intro hb1 (And.intro hjn hT))
       have HO : Hid (OpSt w1 ((w1.alloc (.map #[] 0)).alloc (.cells #[.pointer (some ⟨jp, 0, none⟩), .map (some w1.heap.size)] 79)) p jp g u R m Aa ln C ft w.heap.size 0 (fun _ => none)) := by
         have b1 : Below w1.heap.size w1 (w1.alloc (.map #[] 0)) := (Below.refl _ _).alloc (Nat.le_refl _) _
         have b2 : Below (w1.heap.size + 1) (w1.alloc (.map #[] 0)) ((w1.alloc (.map #[] 0)).alloc (.cells #[.pointer (some ⟨jp, 0, none⟩), .map (some w1.heap.size)] 79)) := (Below.refl _ _).alloc (by simp) _
         have b3 := b1.trans (b2.mono (Nat.le_succ _))
         have hsz : (w1.alloc (.map #[] 0)).heap.size = w1.heap.size + 1 := by simp
         refine ⟨hjn.below b3, b3, rfl, .map [], 0, by omega, ⟨?_, (MapAt.new w1 _).below (by rw [hsz]; exact b2), by omega⟩⟩
         have := Blk.new (w1.alloc (.map #[] 0)) 79 2 (fun i => if i = 0 then .pointer (some ⟨jp, 0, none⟩) else .map (some w1.heap.size)) #[.pointer (some ⟨jp, 0, none⟩), .map (some w1.heap.size)] rfl
         rw [hsz] at this
         exact this
       have hL : Calls Tryz.prog 31 #[.pointer (some ⟨jp, 0, none⟩)] ((w1.alloc (.map #[] 0)).alloc (.cells #[.pointer (some ⟨jp, 0, none⟩), .map (some w1.heap.size)] 79)) fun e w' => e = .returned (.int .i64 (m : Int)) ∧ w' = ((w1.alloc (.map #[] 0)).alloc (.cells #[.pointer (some ⟨jp, 0, none⟩), .map (some w1.heap.size)] 79)) := HO.out.jn.len
       clear hb1 hjn hT)
    | (go_at_call 31; refine hL.mono ?_; rintro e w' ⟨rfl, hw⟩; subst w'; clear hL))
  go_loopw [26] (fun i wr => ∃ (k : Nat) (M : KV), k ≤ m ∧ i = .int .i64 k ∧ Hid (OpSt w1 wr p jp g u R m Aa ln C ft w.heap.size k M)) (fun i _ => m - (intOf i).toNat)
  case atStart => exact ⟨0, _, by omega, rfl, HO.out⟩
  case round =>
    clear HO hmm
    obtain ⟨k, M, hk, rfl, HR⟩ := hrel
    by_cases hkl : k < m
    · have hkl' : (k : Int) < (m : Int) := by omega
      have hG := HR.out.jn.get k (k : Int) rfl hkl
      obtain ⟨c, acts, hS⟩ := dec_says (recL ln ft k)
      have HD : Hid (∀ v y cy, Below wr.heap.size wr v → Elt v y (ln k) cy (ft k) → Calls Tryz.prog 7 #[.slice y (ln k) cy] v fun e w' => ∃ a mm cm V, e = .returned (.tuple #[.slice a mm cm, .int .i64 (c : Int)]) ∧ mm ≤ 256 ∧ pas V mm = acts ∧ mm ≤ cm ∧ Below wr.heap.size wr w' ∧ ActsAt w' a mm V ∧ (∀ ad, a = some ad → wr.heap.size ≤ ad.block) ∧ (∀ i, i < mm → ∀ ad, (V i).x = some ad → wr.heap.size ≤ ad.block)) := fun v y cy hb he => by
        refine (decode_any y (ln k) cy (recL ln ft k) v (elt_sl he) he.sm c acts hS).mono fun e w' ⟨a, mm, cm, V, h1, h2, h3, h4, h5, h6, h7, h8⟩ => ?_
        have hs := hb.size
        exact ⟨a, mm, cm, V, h1, h2, h3, h4, hb.trans (h8.mono hs), h5, fun ad ha => Nat.le_trans hs (h6 ad ha), fun i hi ad ha => Nat.le_trans hs (h7 i hi ad ha)⟩
      by_cases hgood : c = 0 ∧ canL M acts
      · obtain ⟨rfl, hcan⟩ := hgood
        have HC : Hid (∀ v a mm cm V, mm ≤ 256 → pas V mm = acts → mm ≤ cm → Below wr.heap.size wr v → ActsAt v a mm V → (∀ ad, a = some ad → wr.heap.size ≤ ad.block) → (∀ i, i < mm → ∀ ad, (V i).x = some ad → wr.heap.size ≤ ad.block) →
            Calls Tryz.prog 33 #[.pointer (some ⟨w1.heap.size + 1, 0, none⟩), .slice a mm cm] v fun e v2 => e = .returned (.bool true) ∧
              Calls Tryz.prog 34 #[.pointer (some ⟨w1.heap.size + 1, 0, none⟩), .slice a mm cm] v2 fun e v3 => e = .returned (.tuple #[]) ∧ Hid (OpSt w1 v3 p jp g u R m Aa ln C ft w.heap.size (k + 1) (doL M acts))) := fun v a mm cm V h2 h3 hcm hb h4 h5 h6 => by
          obtain ⟨D, nb, hnb, hst⟩ := HR.out.st
          have hstv := hst.below hb
          refine (cando_any hstv a mm cm V h4 (by omega) hcm true (by rw [h3]; simp [hcan])).mono fun e v2 ⟨e1, b2⟩ => ⟨e1, ?_⟩
          have hst2 := hstv.below b2
          have hlt : w1.heap.size < wr.heap.size := hst.map.lt
          have hslt : w1.heap.size + 1 < wr.heap.size := hst.obj.lt
          have hsb := hb.size
          have hsb2 := b2.size
          refine (do_any hst2 (fun q hq => by omega) a mm cm V (h4.below b2) (fun _ ad ha => by have := h5 ad ha; omega) (fun i hi ad ha => by have := h6 i hi ad ha; omega) h2 (by rw [h3]; exact okL_dec hS) (by omega)).mono fun e v3 ⟨e3, D', nb', q1, q2, q3⟩ => ⟨e3, ?_⟩
          have hj := (HR.out.jn.below hb).below b2
          have hfoot := fun q hq => ((HT.out.2.1).foot q hq).2
          refine ⟨hj.turns q3 (fun q hq e4 => by have := hfoot q hq; omega), ?_, ⟨M, acts, HR.out.aft, ⟨hS, hcan⟩, rfl⟩, D', nb', by omega, by rw [← h3]; exact q2⟩
          have hbw := HR.out.bel
          exact (hbw.trans ((hb.trans (b2.mono hsb)).mono hbw.size)).trans (q3.below (fun q hq => by omega) (by have := hbw.size; omega))
        clear hcan hS
        go_wp2_with (first
          | (go_at_call 32; refine hG.mono ?_; rintro e v ⟨y, cy, rfl, hbv, hev, _⟩; clear hG
             have hD := HD.out v y cy hbv hev
             clear HD hbv hev)
          | (go_at_call 7; refine hD.mono ?_; rintro e v2 ⟨a, mm, cm, V, rfl, h2, h3, h3', h4, h5, h6, h7⟩; clear hD
             have hC := HC.out v2 a mm cm V h2 h3 h3' h4 h5 h6 h7
             clear HC h2 h3 h3' h4 h5 h6 h7)
          | (go_at_call 33; refine hC.mono ?_; rintro e v3 ⟨rfl, hDo⟩; clear hC)
          | (go_at_call 34; refine hDo.mono ?_; rintro e v4 ⟨rfl, HN⟩; clear hDo))
        go_roundw
        case rel => exact ⟨k + 1, _, by omega, by go_num, HN.out⟩
        case measure => simp [intOf]; omega
      · have HNO : Hid (∀ N, ¬ After (recL ln ft) m N) := fun N hN => by
          obtain ⟨N1, hN1⟩ := hN.take (k + 1) (by omega)
          obtain ⟨M0, l, g1, g2, g3⟩ := hN1
          have := After.unique _ k g1 HR.out.aft
          subst this
          rcases hS with ⟨q0, q1, q2⟩ | ⟨q0, q1, q2⟩
          · have : l = acts := dec_unique g2.1 (.inl ⟨q0, rfl, q2⟩)
            subst this
            exact hgood ⟨q1, g2.2⟩
          · rcases g2.1 with ⟨q3, _⟩ | ⟨_, q3, _⟩
            · exact q0 q3
            · cases q3
        by_cases hc0 : c = 0
        · subst hc0
          have hcan : ¬ canL M acts := fun hh => hgood ⟨rfl, hh⟩
          have HC : Hid (∀ v a mm cm V, mm ≤ 256 → pas V mm = acts → mm ≤ cm → Below wr.heap.size wr v → ActsAt v a mm V →
              Calls Tryz.prog 33 #[.pointer (some ⟨w1.heap.size + 1, 0, none⟩), .slice a mm cm] v fun e v2 => e = .returned (.bool false) ∧ Hid (Below w1.heap.size w1 v2)) := fun v a mm cm V h2 h3 hcm hb h4 => by
            obtain ⟨D, nb, hnb, hst⟩ := HR.out.st
            refine (cando_any (hst.below hb) a mm cm V h4 (by omega) hcm false (by rw [h3]; simp [hcan])).mono fun e v2 ⟨e1, b2⟩ => ⟨e1, ?_⟩
            have hbw := HR.out.bel
            exact hbw.trans ((hb.trans (b2.mono hb.size)).mono hbw.size)
          clear hcan hS hgood HR
          go_wp2_with (first
            | (go_at_call 32; refine hG.mono ?_; rintro e v ⟨y, cy, rfl, hbv, hev, _⟩; clear hG
               have hD := HD.out v y cy hbv hev
               clear HD hbv hev)
            | (go_at_call 7; refine hD.mono ?_; rintro e v2 ⟨a, mm, cm, V, rfl, h2, h3, h3', h4, h5, h6, h7⟩; clear hD
               have hC := HC.out v2 a mm cm V h2 h3 h3' h4 h5
               clear HC h2 h3 h3' h4 h5 h6 h7)
            | (go_at_call 33; refine hC.mono ?_; rintro e v3 ⟨rfl, HB3⟩; clear hC))
          go_ret2
          exact ⟨w1, jp, g, u, R, m, Aa, ln, C, ft, HT.out.1, HT.out.2.1, HT.out.2.2, HB3.out, .inr ⟨HNO.out, rfl⟩⟩
        · have hne : ((c : Int) != 0) = true := by simp; omega
          have HB0 := hid HR.out.bel
          clear hS hgood HR hc0
          go_wp2_with (first
            | (go_at_call 32; refine hG.mono ?_; rintro e v ⟨y, cy, rfl, hbv, hev, _⟩; clear hG
               have hD := HD.out v y cy hbv hev
               clear HD hbv hev)
            | (go_at_call 7; refine hD.mono ?_; rintro e v2 ⟨a, mm, cm, V, rfl, h2, h3, h3', h4, h5, h6, h7⟩; clear hD
               have HB3 := hid (HB0.out.trans (h4.mono HB0.out.size))
               clear h2 h3 h3' h4 h5 h6 h7))
          go_ret2
          exact ⟨w1, jp, g, u, R, m, Aa, ln, C, ft, HT.out.1, HT.out.2.1, HT.out.2.2, HB3.out, .inr ⟨HNO.out, rfl⟩⟩
    · obtain rfl : k = m := by omega
      go_wp2_with fail
      go_ret2
      obtain ⟨D, nb, hnb, hst⟩ := HR.out.st
      exact ⟨w1, jp, g, u, R, k, Aa, ln, C, ft, HT.out.1, HT.out.2.1, HT.out.2.2, HR.out.bel, .inl ⟨_, _, nb, D, M, rfl, HR.out.aft, Nat.le_refl _, Nat.le_succ _, hnb, hst⟩⟩

end Go.Proofs.YtbbjklenpgkooaaGreat

/-
  A store's life: opened, a batch applied or refused, crashed and opened anew.
  Conditions: a disk of at most 300 sectors.
-/
namespace Go.Proofs.YtbbjklenpgkooaaGreat
open Go.RowKit By Dk Wi St Su Jo
variable [Inhabited PR] [∀ pre s : ByteArray, Decidable (Beg pre s)]
set_option linter.unusedSectionVars false
set_option linter.unusedVariables false
set_option linter.unusedSimpArgs false
set_option maxRecDepth 100000

theorem MapAt.move {w w' : World} {mb nb : Nat} {D : DataW Value} {M : KV} {U U' G : Nat → Prop} (h : MapAt w mb nb D M U) (t : Turns G w w') (hm : ¬ G mb) (hG : ∀ k, k < w.heap.size → G k → U k) (hU : ∀ k, k < w.heap.size → U' k → U k) : MapAt w' mb nb D M U' := by
  have h1 := h.turns t hm hG
  refine ⟨h1.own, h1.has, fun s l hs => ?_, h1.keys⟩
  obtain ⟨x, n, c, k1, k2, k3, k4⟩ := h.val s l hs
  obtain ⟨x', n', c', q1, q2, q3, q4⟩ := h1.val s l hs
  have e := (k1 (.held (.slice none 0 0))).symm.trans (q1 (.held (.slice none 0 0)))
  injection e with e
  injection e with e1 e2 e3
  subst e1
  subst e2
  subst e3
  exact ⟨x, n, c, q1, q2, q3, fun a ha => ⟨(q4 a ha).1, fun hu => (k4 a ha).2.1 (hU _ (k4 a ha).1 hu), (q4 a ha).2.2⟩⟩

theorem StAt.move {w w' : World} {sp jp mb nb : Nat} {D : DataW Value} {M : KV} {U U' G : Nat → Prop} (h : StAt w sp jp mb nb D M U) (t : Turns G w w') (hs : ¬ G sp) (hm : ¬ G mb) (hG : ∀ k, k < w.heap.size → G k → U k) (hU : ∀ k, k < w.heap.size → U' k → U k) : StAt w' sp jp mb nb D M U' :=
  ⟨t.blk h.obj hs, h.map.move t hm hG hU, h.ne⟩

def Alive (B : Nat) (w0 w : World) (p n sp jp mb m u g : Nat) (M : KV) (K : Nat → Prop) : Prop :=
  ∃ V st ln ft F f A D R Aa C nb DD, Life B w0 w K V p n jp g m st m ln ft F 0 f A D R Aa C ∧ StAt w sp jp mb nb DD M (fun q => K q ∨ q = sp) ∧ ¬ K sp ∧ ¬ K mb ∧ B ≤ sp ∧ B ≤ mb ∧ nb ≤ 256 * m ∧ After (recL ln ft) m M ∧ u = st m

section
variable {B : Nat} {w0 w w' : World} {p n sp jp mb m u g : Nat} {M : KV} {K : Nat → Prop}

theorem Alive.below (h : Alive B w0 w p n sp jp mb m u g M K) (t : Below w.heap.size w w') : Alive B w0 w' p n sp jp mb m u g M K := by
  obtain ⟨V, st, ln, ft, F, f, A, D, R, Aa, C, nb, DD, h1, h2, h3⟩ := h
  exact ⟨V, st, ln, ft, F, f, A, D, R, Aa, C, nb, DD, h1.below t, h2.below t, h3⟩

theorem Alive.bel (h : Alive B w0 w p n sp jp mb m u g M K) : Below B w0 w := by
  obtain ⟨V, st, ln, ft, F, f, A, D, R, Aa, C, nb, DD, h1, _⟩ := h
  exact h1.jd.dsk.bel

theorem Alive.size (h : Alive B w0 w p n sp jp mb m u g M K) : B ≤ w.heap.size := by
  obtain ⟨V, st, ln, ft, F, f, A, D, R, Aa, C, nb, DD, h1, _⟩ := h
  exact h1.jd.dsk.size

theorem Alive.foot (h : Alive B w0 w p n sp jp mb m u g M K) : ∀ k, K k → B ≤ k ∧ k < w.heap.size := by
  obtain ⟨V, st, ln, ft, F, f, A, D, R, Aa, C, nb, DD, h1, _⟩ := h
  exact h1.foot

theorem Alive.stat (h : Alive B w0 w p n sp jp mb m u g M K) : (∃ nb DD, StAt w sp jp mb nb DD M (fun q => K q ∨ q = sp)) ∧ ¬ K mb ∧ B ≤ sp ∧ B ≤ mb ∧ u ≤ n ∧ n ≤ 300 := by
  obtain ⟨V, st, ln, ft, F, f, A, D, R, Aa, C, nb, DD, h1, h2, h3, h4, h5, h6, h7, h8, h9⟩ := h
  exact ⟨⟨nb, DD, h2⟩, h4, h5, h6, by rw [h9]; exact h1.used, h1.n3⟩

theorem batches_any (h : Alive B w0 w p n sp jp mb m u g M K) : Calls Tryz.prog 18 #[.pointer (some ⟨sp, 0, none⟩)] w fun e w' => e = .returned (.int .i64 (m : Int)) ∧ w' = w := by
  obtain ⟨V, st, ln, ft, F, f, A, D, R, Aa, C, nb, DD, h1, h2, _⟩ := h
  have hO := sopen_yes h2
  have c0 := h2.c0
  have hL := h1.jd.jn.len
  clear h1 h2
  go_enter Tryz.func18, Tryz.ntmps18
  go_wp2_with (first
    | (go_at_call 42; refine hO.mono ?_; rintro e w' ⟨rfl, hw⟩; subst w'; clear hO)
    | (go_at_call 31; refine hL.mono ?_; rintro e w' ⟨rfl, hw⟩; subst w'; clear hL))
  go_ret
  exact ⟨rfl, rfl⟩

/- Acts that lie outside the store. -/
def Away (K : Nat → Prop) (mb : Nat) (a : Option Addr) (len : Nat) (V : Nat → AV) : Prop :=
  (len ≠ 0 → ∀ ad, a = some ad → ¬ K ad.block ∧ ad.block ≠ mb) ∧ ∀ i, i < len → ∀ ad, (V i).x = some ad → ¬ K ad.block ∧ ad.block ≠ mb

theorem sl_eltw {v : World} {x : Option Addr} {l c : Nat} {o : List Nat} (h : Sl v x l c o) (hl : l ≤ 140737488351232) : EltW v x l c (gl o) :=
  ⟨h.row, h.nil', h.le, hl, fun j => gl_lt h.lt j⟩

theorem recL_ext (ln : Nat → Nat) (ft : Nat → Nat → Nat) (m : Nat) (o : List Nat) : ∀ i, i < m → recL ln ft i = recL (ext ln m o.length) (ext ft m (gl o)) i := fun i hi => by
  unfold recL
  rw [ext_old _ _ _ hi, ext_old _ _ _ hi]

theorem recL_new (ln : Nat → Nat) (ft : Nat → Nat → Nat) (m : Nat) (o : List Nat) : recL (ext ln m o.length) (ext ft m (gl o)) m = o := by
  unfold recL
  rw [ext_new, ext_new]
  apply List.ext_getElem?
  intro i
  by_cases h : i < o.length
  · simp [h, gl, List.getD]
  · rw [List.getElem?_eq_none (by simp; omega), List.getElem?_eq_none (by omega)]

/- Apply, where it is refused. -/
set_option maxHeartbeats 1000000 in
theorem apply_no (h : Alive B w0 w p n sp jp mb m u g M K) (a : Option Addr) (len cap : Nat) (V : Nat → AV) (hA : ActsAt w a len V) (hl : len ≤ 140737488351232) (hcap : len ≤ cap) (c : Nat) (o : List Nat) (hS : EncSays (pas V len) c o) (z : Nat)
    (hz : (c ≠ 0 ∧ z = c) ∨ (c = 0 ∧ ¬ canL M (pas V len) ∧ z = 4) ∨ (c = 0 ∧ canL M (pas V len) ∧ ¬ u + pcs o.length ≤ n ∧ z = 2)) :
    Calls Tryz.prog 17 #[.pointer (some ⟨sp, 0, none⟩), .slice a len cap] w fun e w' => e = .returned (.int .i64 (z : Int)) ∧ Below w.heap.size w w' := by
  obtain ⟨Vv, st, ln, ft, F, f, A, D, R, Aa, C, nb, DD, h1, h2, h3, h4, h5, h6, h7, h8, h9⟩ := h
  have hO := sopen_yes h2
  have hE := encode_any a len cap V w hA hl c o hS
  rcases hz with ⟨hc, rfl⟩ | ⟨rfl, hcan, rfl⟩ | ⟨rfl, hcan, hroom, rfl⟩
  · have hne : ((z : Int) != 0) = true := by simp; omega
    clear h1 h2 hA hS hc h8
    go_enter Tryz.func17, Tryz.ntmps17
    go_wp2_with (first
      | (go_at_call 42; refine hO.mono ?_; rintro e w' ⟨rfl, hw⟩; subst w'; clear hO)
      | (go_at_call 43; refine hE.mono ?_; rintro e w1 ⟨x, mx, cx, rfl, hT⟩; clear hE
         have HB := hid hT.2.2
         clear hT))
    go_ret
    exact ⟨rfl, HB.out⟩
  · have HC : Hid (∀ v, Below w.heap.size w v → Calls Tryz.prog 33 #[.pointer (some ⟨sp, 0, none⟩), .slice a len cap] v fun e v2 => e = .returned (.bool false) ∧ Hid (Below w.heap.size w v2)) := fun v hb =>
      (cando_any (h2.below hb) a len cap V (hA.below hb) hl hcap false (by simp [hcan])).mono fun e v2 ⟨e1, b2⟩ => ⟨e1, hb.trans (b2.mono hb.size)⟩
    clear h1 h2 hA hS hcan h8
    go_enter Tryz.func17, Tryz.ntmps17
    go_wp2_with (first
      | (go_at_call 42; refine hO.mono ?_; rintro e w' ⟨rfl, hw⟩; subst w'; clear hO)
      | (go_at_call 43; refine hE.mono ?_; rintro e w1 ⟨x, mx, cx, rfl, hT⟩; clear hE
         have hC := HC.out w1 hT.2.2
         clear hT HC)
      | (go_at_call 33; refine hC.mono ?_; rintro e w2 ⟨rfl, HB⟩; clear hC))
    go_ret
    exact ⟨rfl, HB.out⟩
  · have HC : Hid (∀ v, Below w.heap.size w v → Calls Tryz.prog 33 #[.pointer (some ⟨sp, 0, none⟩), .slice a len cap] v fun e v2 => e = .returned (.bool true) ∧ v2.cell? ⟨sp, 0, none⟩ = some (.pointer (some ⟨jp, 0, none⟩)) ∧
        ∀ x cx, Calls Tryz.prog 44 #[.pointer (some ⟨jp, 0, none⟩), .slice x o.length cx] v2 fun e v3 => e = .returned (.int .i64 2) ∧ Hid (Below w.heap.size w v3)) := fun v hb =>
      (cando_any (h2.below hb) a len cap V (hA.below hb) hl hcap true (by simp [hcan])).mono fun e v2 ⟨e1, b2⟩ => ⟨e1, ((h2.below hb).below b2).c0, fun x cx => by
        have hlen : o.length ≤ 13005 := by
          rcases hS with ⟨_, q, _⟩ | ⟨_, _, q, _⟩ | ⟨_, q, _, q2⟩
          · cases q
          · cases q
          · rw [q2]; exact q
        refine (((h1.below hb).below b2).put_full x o.length cx hlen (by rw [← h9]; exact hroom)).mono fun e v3 ⟨e3, k, hv⟩ => ⟨e3, ?_⟩
        rw [hv]
        exact below_drewN' (hb.trans (b2.mono hb.size)) k⟩
    have HEL : Hid (∀ v x mx cx, EncTold w v x mx cx o → mx = o.length) := fun v x mx cx hT => hT.1.len.symm
    clear h1 h2 hA hS hcan h8 hroom
    go_enter Tryz.func17, Tryz.ntmps17
    go_wp2_with (first
      | (go_at_call 42; refine hO.mono ?_; rintro e w' ⟨rfl, hw⟩; subst w'; clear hO)
      | (go_at_call 43; refine hE.mono ?_; rintro e w1 ⟨x, mx, cx, rfl, hT⟩; clear hE
         have hC := HC.out w1 hT.2.2
         obtain rfl : mx = o.length := HEL.out _ _ _ _ hT
         clear hT HC HEL)
      | (go_at_call 33; refine hC.mono ?_; rintro e w2 ⟨rfl, c0, hP⟩; clear hC; have hP1 := hP x cx; clear hP)
      | (go_at_call 44; refine hP1.mono ?_; rintro e w3 ⟨rfl, HB⟩; clear hP1))
    go_ret
    exact ⟨rfl, HB.out⟩

end

end Go.Proofs.YtbbjklenpgkooaaGreat

/-
  A store's life: a batch that is done; a crash, and the store opened anew; a new disk's.
  Conditions: a disk of at most 300 sectors.
-/
namespace Go.Proofs.YtbbjklenpgkooaaGreat
open Go.RowKit By Dk Wi St Su Jo
variable [Inhabited PR] [∀ pre s : ByteArray, Decidable (Beg pre s)]
set_option linter.unusedSectionVars false
set_option linter.unusedVariables false
set_option linter.unusedSimpArgs false
set_option maxRecDepth 100000

section
variable {B : Nat} {w0 w w' : World} {p n sp jp mb m u g : Nat} {M : KV} {K : Nat → Prop}

theorem ActsAt.away {a : Option Addr} {len : Nat} {V : Nat → AV} (h : ActsAt w a len V) (hw : Away K mb a len V) {G : Nat → Prop} (t : Turns G w w') (hG : ∀ k, k < w.heap.size → G k → K k ∨ k = mb) : ActsAt w' a len V := by
  refine h.turns t (fun h0 ad ha hg => ?_) (fun i hi h0 ad hx hg => ?_)
  · rcases h.row with h1 | ⟨b, o, e, hb, _⟩
    · exact h0 h1
    · rw [e] at ha
      injection ha with ha
      subst ha
      rcases hG b hb hg with q | q
      · exact (hw.1 h0 _ e).1 q
      · exact (hw.1 h0 _ e).2 q
  · rcases (h.act i hi).sl.row with h1 | ⟨b, o, e, hb, _⟩
    · exact h0 h1
    · rw [e] at hx
      injection hx with hx
      subst hx
      rcases hG b hb hg with q | q
      · exact (hw.2 i hi _ e).1 q
      · exact (hw.2 i hi _ e).2 q

theorem Away.mono {K' : Nat → Prop} {a : Option Addr} {len : Nat} {V : Nat → AV} (h : Away K mb a len V) (hK : ∀ q, K' q → K q) : Away K' mb a len V :=
  ⟨fun h0 ad ha => ⟨fun q => (h.1 h0 ad ha).1 (hK _ q), (h.1 h0 ad ha).2⟩, fun i hi ad ha => ⟨fun q => (h.2 i hi ad ha).1 (hK _ q), (h.2 i hi ad ha).2⟩⟩

set_option maxHeartbeats 2000000 in
theorem apply_ok (h : Alive B w0 w p n sp jp mb m u g M K) (a : Option Addr) (len cap : Nat) (V : Nat → AV) (hA : ActsAt w a len V) (hl : len ≤ 140737488351232) (hcap : len ≤ cap) (haw : Away K mb a len V) (o : List Nat) (hS : EncSays (pas V len) 0 o) (hcan : canL M (pas V len)) (hroom : u + pcs o.length ≤ n) (hg : g < 65536) :
    Calls Tryz.prog 17 #[.pointer (some ⟨sp, 0, none⟩), .slice a len cap] w fun e w' => e = .returned (.int .i64 0) ∧ Turns (fun q => K q ∨ q = mb) w w' ∧ ∃ K', Alive B w0 w' p n sp jp mb (m + 1) (u + pcs o.length) g (doL M (pas V len)) K' ∧ ∀ q, q < w.heap.size → K' q → K q := by
  obtain ⟨Vv, st, ln, ft, F, f, A, D, R, Aa, C, nb, DD, h1, h2, h3, h4, h5, h6, h7, h8, h9⟩ := h
  have hO := sopen_yes h2
  have hE := encode_any a len cap V w hA hl 0 o hS
  have hyes : (len ≤ 256 ∧ okL (pas V len)) ∧ o = enc (pas V len) ∧ o.length ≤ 13005 := by
    rcases hS with ⟨_, q, _⟩ | ⟨_, _, q, _⟩ | ⟨q0, q, _, q2⟩
    · cases q
    · cases q
    · rw [pas_len] at q0
      exact ⟨q0, q2, by rw [q2]; exact q⟩
  obtain ⟨⟨h256, hok⟩, hoe, hol⟩ := hyes
  have hgood : Good o M (pas V len) := ⟨by rw [hoe]; exact dec_enc (by rw [pas_len]; exact h256) hok (by rw [← hoe]; exact hol), hcan⟩
  have hcount := h1.count
  have HC : Hid (∀ v x cx, EncTold w v x o.length cx o → Calls Tryz.prog 33 #[.pointer (some ⟨sp, 0, none⟩), .slice a len cap] v fun e v2 => e = .returned (.bool true) ∧ v2.cell? ⟨sp, 0, none⟩ = some (.pointer (some ⟨jp, 0, none⟩)) ∧
      Calls Tryz.prog 44 #[.pointer (some ⟨jp, 0, none⟩), .slice x o.length cx] v2 fun e v3 => e = .returned (.int .i64 0) ∧ v3.cell? ⟨sp, 0, none⟩ = some (.pointer (some ⟨jp, 0, none⟩)) ∧
        Calls Tryz.prog 45 #[.pointer (some ⟨jp, 0, none⟩)] v3 fun e v4 => e = .returned (.tuple #[]) ∧
          Calls Tryz.prog 34 #[.pointer (some ⟨sp, 0, none⟩), .slice a len cap] v4 fun e v5 => e = .returned (.tuple #[]) ∧ Hid (Turns (fun q => K q ∨ q = mb) w v5 ∧ ∃ K', Alive B w0 v5 p n sp jp mb (m + 1) (u + pcs o.length) g (doL M (pas V len)) K' ∧ ∀ q, q < w.heap.size → K' q → K q)) := fun v x cx hT => by
    have hb := hT.2.2
    refine (cando_any (h2.below hb) a len cap V (hA.below hb) hl hcap true (by simp [hcan])).mono fun e v2 ⟨e1, b2⟩ => ⟨e1, ((h2.below hb).below b2).c0, ?_⟩
    have hb2 : Below w.heap.size w v2 := hb.trans (b2.mono hb.size)
    have hl2 := h1.below hb2
    have hst2 := h2.below hb2
    refine (hl2.put_ok x o.length cx (gl o) (sl_eltw (hT.1.below b2) (by omega)) (fun _ ad ha hk => by
      have := (hT.2.1 ad ha).1
      have := (h1.foot _ hk).2
      omega) hol (by rw [← h9]; exact hroom) hg).mono fun e v3 ⟨e3, K', V', F', A', D', R', Aa', C', l3, t3, hKK, _, _⟩ => ?_
    have hst3 : StAt v3 sp jp mb nb DD M (fun q => K' q ∨ q = sp) := hst2.move t3 h3 h4 (fun k _ hk => .inl hk) (fun k hk hq => hq.elim (fun q => .inl (hKK k hk q)) .inr)
    have hspl : sp < v2.heap.size := hst2.obj.lt
    have hmbl : mb < v2.heap.size := hst2.map.lt
    have hK'sp : ¬ K' sp := fun q => h3 (hKK sp hspl q)
    have hK'mb : ¬ K' mb := fun q => h4 (hKK mb hmbl q)
    refine ⟨e3, hst3.c0, l3.sync.mono fun e v4 ⟨e4, t4, l4⟩ => ⟨e4, ?_⟩⟩
    have hst4 := hst3.turns t4 hK'sp hK'mb (fun k _ hk => .inl hk)
    have hA3 : ActsAt v3 a len V := (hA.below hb2).away haw t3 (fun k _ hk => .inl hk)
    have haw3 : Away (fun q => q < v2.heap.size ∧ K' q) mb a len V := haw.mono (fun q hq => hKK q hq.1 hq.2)
    have hA4 : ActsAt v4 a len V := by
      refine hA3.turns t4 (fun h0 ad ha hk => ?_) (fun i hi h0 ad hx hk => ?_)
      · rcases hA.row with q1 | ⟨b, o', e5, hbl, _⟩
        · exact h0 q1
        · rw [e5] at ha
          injection ha with ha
          subst ha
          exact (haw.1 h0 _ e5).1 (hKK b (Nat.lt_of_lt_of_le hbl hb2.size) hk)
      · rcases (hA.act i hi).sl.row with q1 | ⟨b, o', e5, hbl, _⟩
        · exact h0 q1
        · rw [e5] at hx
          injection hx with hx
          subst hx
          exact (haw.2 i hi _ e5).1 (hKK b (Nat.lt_of_lt_of_le hbl hb2.size) hk)
    refine (do_any hst4 (fun q hq => by
      rcases hq with hq | hq
      · exact (l4.foot q hq).2
      · have := hst4.obj.lt; omega) a len cap V hA4 (fun h0 ad ha => (haw.1 h0 ad ha).2) (fun i hi ad ha => (haw.2 i hi ad ha).2) h256 hok (by omega)).mono fun e v5 ⟨e5, D5, nb5, q1, q2, q3⟩ => ⟨e5, ?_⟩
    have T5 : Turns (fun q => K q ∨ q = mb) w v5 := by
      have a1 : Turns (fun q => K q ∨ q = mb) w v3 := (Turns.of_below hb2).trans (t3.weak (fun k hk => .inl hk))
      have a2 : Turns (fun q => K q ∨ q = mb) w v4 := a1.more t4 (fun k hk => by
        rcases Nat.lt_or_ge k v2.heap.size with q | q
        · exact .inl (.inl (hKK k q hk))
        · exact .inr (Nat.le_trans hb2.size q))
      exact a2.trans (q3.weak (fun k hk => .inr hk))
    refine ⟨T5, K', ⟨V', _, _, _, F', _, _, _, R', Aa', C', nb5, D5, l4.turns q3 (fun k hk => by omega) (fun k hk e6 => hK'mb (by rw [← e6]; exact hk)), q2, hK'sp, hK'mb, h5, h6, by omega, ?_, ?_⟩, fun q hq hk => hKK q (Nat.lt_of_lt_of_le hq hb2.size) hk⟩
    · refine ⟨M, pas V len, h8.congr (recL_ext ln ft m o), ?_, rfl⟩
      rw [recL_new]
      exact hgood
    · rw [h9, stx_new]
  have HEL : Hid (∀ v x mx cx, EncTold w v x mx cx o → mx = o.length) := fun v x mx cx hT => hT.1.len.symm
  clear h1 h2 hA hS hcan h8 hroom hgood hoe hol hok haw
  go_enter Tryz.func17, Tryz.ntmps17
  go_wp2_with (first
    | (go_at_call 42; refine hO.mono ?_; rintro e w' ⟨rfl, hw⟩; subst w'; clear hO)
    | (go_at_call 43; refine hE.mono ?_; rintro e w1 ⟨x, mx, cx, rfl, hT⟩; clear hE
       obtain rfl : mx = o.length := HEL.out _ _ _ _ hT
       have hC := HC.out w1 x cx hT
       clear hT HC HEL)
    | (go_at_call 33; refine hC.mono ?_; rintro e w2 ⟨rfl, c0, hP⟩; clear hC)
    | (go_at_call 44; refine hP.mono ?_; rintro e w3 ⟨rfl, c3, hY⟩; clear hP)
    | (go_at_call 45; refine hY.mono ?_; rintro e w4 ⟨rfl, hDo⟩; clear hY)
    | (go_at_call 34; refine hDo.mono ?_; rintro e w5 ⟨rfl, HN⟩; clear hDo))
  go_ret
  exact ⟨rfl, HN.out⟩

/- A disk on which all is safe, and its store is opened. -/
theorem open_down {F : Nat → Prop} {st ln : Nat → Nat} {ft : Nat → Nat → Nat} {f A : Nat → Nat} {D : Nat → Nat → Nat} (h : Down B w0 w F p n g m st ln ft f A D) (hg : g < 65535) (hm : After (recL ln ft) m M) :
    Calls Tryz.prog 11 #[.pointer (some ⟨p, 0, none⟩)] w fun e w' => ∃ sq jq mq g' K', e = .returned (.tuple #[.pointer (some ⟨sq, 0, none⟩), .int .i64 0]) ∧ Below w.heap.size w w' ∧ g' ≤ g + 1 ∧ Alive B w0 w' p n sq jq mq m (st m) g' M K' ∧ ∀ q, q < w.heap.size → K' q → F q := by
  have hB : B ≤ w.heap.size := h.dsk.size
  refine (store_open w p (fun w1 jp1 g1 u1 R1 m1 Aa1 ln1 C1 ft1 => ∃ G K' , g1 = G + 1 ∧ G ≤ g ∧ m1 = m ∧ (∀ q, q < w.heap.size → K' q → F q) ∧ Life B w0 w1 K' (vs f) p n jp1 g1 m st m ln1 ft1 F 0 f A D R1 Aa1 C1 ∧ (∀ i, i < m → ln1 i = ln i ∧ ∀ j, j < ln i → ft1 i j = ft i j)) ?_).mono ?_
  · have e0 := vw_zero f A D
    have hGle : ∀ G, Top OkP (vs f) n G → G ≤ g := fun G hG => by
      rcases hG.is with e | ⟨k, k1, k2, k3⟩
      · omega
      · rw [← k3]; exact h.top k k1 k2
    refine (open_yes p n 0 F f A D w h.dsk.pd (fun G hG => by rw [e0] at hG; have := hGle G hG; omega)).mono fun e w' ⟨jp, G, k, st', R, Aa, C, h1, h2, h3, h4, h5⟩ => ?_
    rw [e0] at h3 h4 h5
    obtain ⟨rfl, hs⟩ := h.recs.uniq h4
    have hft := h.dsk.pd.flt
    have hst : st' m = st m := (hs m (Nat.le_refl _)).symm
    have hln : ∀ i, i < m → lnOf (vs f) st' i = lnOf (vs f) st i := fun i hi => by unfold lnOf; rw [hs i (by omega), hs (i + 1) (by omega)]
    have hfn : ∀ i, i < m → ftOf (vs f) st' i = ftOf (vs f) st i := fun i hi => by unfold ftOf; rw [hs i (by omega)]
    have hfoot := h5.foot
    have hcnt := h.recs.run.count m (Nat.le_refl _)
    have hle := h.recs.run.le
    have hn3 := h.n3
    refine ⟨jp, G + 1, _, R, m, Aa, _, C, _, h1, h2, h5, by omega, G, _, rfl, hGle G h3, rfl, fun q hq hk => ?_, ⟨⟨h.dsk.below h2, by rw [← hst]; exact h5.base hB, fun q hq hj => ?_⟩, Inv.open_ h.recs (fun q hq ho => Nat.lt_succ_of_le (h3.le q hq ho)) h.same, e0.symm, rfl, fun i hi => ?_, h.n3⟩, fun i hi => ?_⟩
    · rcases hk with hk | hk
      · exact hk
      · have := (hfoot q hk).1; omega
    · have := hft q hq
      have := (hfoot q hj).1
      omega
    · rw [hln i hi, hfn i hi]
      exact ⟨rfl, fun j _ => rfl⟩
    · rw [hln i hi, hfn i hi]
      exact h.alike i hi
  · rintro e w' ⟨w1, jp1, g1, u1, R1, m1, Aa1, ln1, C1, ft1, b1, j1, ⟨G, K', rfl, hG, rfl, hKF, l1, hal⟩, b2, hres⟩
    have hrec : ∀ i, i < m1 → recL ln ft i = recL ln1 ft1 i := fun i hi => by
      obtain ⟨q1, q2⟩ := hal i hi
      unfold recL
      rw [q1]
      exact List.map_congr_left fun j hj => (q2 j (List.mem_range.1 hj)).symm
    have hm1 := hm.congr hrec
    have hKlt := fun q hq => (l1.foot q hq).2
    rcases hres with ⟨sq, mq, nb, DD, N, r1, r2, r3, r4, r5, r6⟩ | ⟨r1, _⟩
    · have := After.unique _ _ r2 hm1
      subst this
      refine ⟨sq, jp1, mq, _, K', r1, b1.trans (b2.mono b1.size), by omega, ⟨_, _, _, _, _, _, _, _, _, _, _, nb, DD, l1.below b2, ⟨r6.obj, r6.map.weak (fun k hk hq => ?_), r6.ne⟩, fun hk => ?_, fun hk => ?_, ?_, ?_, r5, r2, rfl⟩, hKF⟩
      · rcases hq with hq | hq
        · have := hKlt k hq; omega
        · omega
      · have := hKlt _ hk; omega
      · have := hKlt _ hk; omega
      · have := b1.size; omega
      · have := b1.size; omega
    · exact absurd hm1 (r1 M)

theorem Alive.crash (h : Alive B w0 w p n sp jp mb m u g M K) (y : Option Addr) (l lc : Nat) (b : Nat → Bool) (hy : BoolsAt w y l b) (hyF : l ≠ 0 → ∀ a, y = some a → ¬ K a.block) (hl : l ≤ 140737488355328) (hg : g < 65535) :
    Calls Tryz.prog 12 #[.pointer (some ⟨p, 0, none⟩), .slice y l lc] w fun e w' => e = .returned (.tuple #[]) ∧ Turns K w w' ∧
      Calls Tryz.prog 11 #[.pointer (some ⟨p, 0, none⟩)] w' fun e w2 => ∃ sq jq mq g' K', e = .returned (.tuple #[.pointer (some ⟨sq, 0, none⟩), .int .i64 0]) ∧ Below w'.heap.size w' w2 ∧ g' ≤ g + 1 ∧ Alive B w0 w2 p n sq jq mq m u g' M K' ∧ ∀ q, q < w'.heap.size → K' q → K q := by
  obtain ⟨Vv, st, ln, ft, F, f, A, D, R, Aa, C, nb, DD, h1, h2, h3, h4, h5, h6, h7, h8, h9⟩ := h
  have hFK : ∀ k, F k → K k := fun k hk => by rw [h1.hK]; exact .inl hk
  refine (h1.crash y l lc b hy hyF hl).mono fun e w' ⟨e1, t1, m', f', q1, q2, q3⟩ => ⟨e1, t1, ?_⟩
  obtain rfl : m = m' := by omega
  rw [h9]
  exact (open_down q3 hg h8).mono fun e w2 ⟨sq, jq, mq, g', K', r1, r2, r3, r4, r5⟩ => ⟨sq, jq, mq, g', K', r1, r2, r3, r4, fun q hq hk => hFK q (r5 q hq hk)⟩

end

theorem open_new {B : Nat} {w0 w : World} {F : Nat → Prop} {p n : Nat} {A : Nat → Nat} {D : Nat → Nat → Nat} (h : Dsk B w0 w F p n 0 (fun _ => 0) A D) (hn : n ≤ 300) :
    Calls Tryz.prog 11 #[.pointer (some ⟨p, 0, none⟩)] w fun e w' => ∃ sq jq mq g' K', e = .returned (.tuple #[.pointer (some ⟨sq, 0, none⟩), .int .i64 0]) ∧ Below w.heap.size w w' ∧ g' ≤ 1 ∧ Alive B w0 w' p n sq jq mq 0 0 g' (fun _ => none) K' ∧ ∀ q, q < w.heap.size → K' q → F q :=
  open_down (down_new h hn (fun _ => 0) (fun _ _ => 0)) (by omega) rfl

end Go.Proofs.YtbbjklenpgkooaaGreat

/-
  Package store's All, as far as it is made; the statements' own check that a value is kept.
  Conditions: none.
-/
namespace Go.Proofs.YtbbjklenpgkooaaGreat
open Go.RowKit By Dk Wi St Su Jo
variable [Inhabited PR] [∀ pre s : ByteArray, Decidable (Beg pre s)]
set_option linter.unusedSectionVars false
set_option linter.unusedVariables false
set_option linter.unusedSimpArgs false
set_option maxRecDepth 100000

theorem all_make (v : Option Addr) (s : ByteArray) (w : World) :
    Calls Tryz.prog 22 #[.pointer v, .string s] w fun e w' => e = .returned (.func (.func 48) #[] #[.pointer (some ⟨w.heap.size, 0, none⟩), .pointer (some ⟨w.heap.size + 1, 0, none⟩)]) ∧ w' = (w.alloc (.cells #[.pointer v] 34)).alloc (.cells #[.string s] 9) := by
  go_enter Tryz.func22, Tryz.ntmps22
  go_wp2_with fail
  go_ret
  exact ⟨rfl, rfl⟩

theorem func_ne (f : Nat) (b : Array Value) (w : World) : (binOp .neq 58 (.func (.func f) #[] b) .nilFunc).run Tryz.prog w = .ok (.bool true) w := by kernel_rfl

def aV (g : Nat) : Nat → AV := fun _ => ⟨⟨#[97]⟩, true, some ⟨g, 0, none⟩, 1, 1, [7]⟩

theorem aV_pas (g : Nat) : pas (aV g) 1 = [⟨[97], true, [7]⟩] := rfl

theorem aV_enc : enc [⟨[97], true, [7]⟩] = [1, 1, 97, 1, 1, 7] := by
  unfold enc encL encA
  simp [uv_small]

theorem aV_says (g : Nat) : EncSays (pas (aV g) 1) 0 [1, 1, 97, 1, 1, 7] := by
  rw [aV_pas]
  refine .inr (.inr ⟨⟨by simp, fun a ha => ?_⟩, by rw [aV_enc]; simp, rfl, aV_enc.symm⟩)
  simp at ha
  subst ha
  exact ⟨⟨by simp, by simp⟩, by simp⟩

theorem aV_can (g : Nat) (M : KV) : canL M (pas (aV g) 1) := canL_of fun i hi hs => by cases hs

theorem aV_acts (w : World) : ActsAt ((w.alloc (.cells #[.int .u8 7] 5)).alloc (.cells #[.string ⟨#[97]⟩, .bool true, .slice (some ⟨w.heap.size, 0, none⟩) 1 1] 54)) (some ⟨w.heap.size + 1, 0, none⟩) 1 (aV w.heap.size) := by
  have hsz : (w.alloc (.cells #[.int .u8 7] 5)).heap.size = w.heap.size + 1 := by simp
  refine ⟨.inr ⟨w.heap.size + 1, 0, rfl, by simp, fun i hi => ?_⟩, fun i hi => ⟨⟨rfl, Nat.le_refl _, (fun e => by cases e), .inr ⟨w.heap.size, 0, rfl, by simp; omega, fun j hj => ?_⟩, fun v hv => by simp [aV] at hv; omega⟩, by show 1 ≤ _; omega, by show (⟨#[97]⟩ : ByteArray).size ≤ _; decide⟩⟩
  · obtain rfl : i = 0 := by omega
    have t := Three.new (w.alloc (.cells #[.int .u8 7] 5)) (.string ⟨#[97]⟩) (.bool true) (.slice (some ⟨w.heap.size, 0, none⟩) 1 1) 54
    rw [hsz] at t
    exact ⟨t.c0, t.c1, t.c2⟩
  · obtain rfl : j = 0 := by have : j < 1 := hj; omega
    have b : Below (w.heap.size + 1) (w.alloc (.cells #[.int .u8 7] 5)) ((w.alloc (.cells #[.int .u8 7] 5)).alloc (.cells #[.string ⟨#[97]⟩, .bool true, .slice (some ⟨w.heap.size, 0, none⟩) 1 1] 54)) := (Below.refl _ _).alloc (by simp) _
    refine (b.cell (p := ⟨w.heap.size, 0, none⟩) (Nat.lt_succ_self _)).trans ?_
    simp [gl, aV]

set_option maxHeartbeats 2000000 in
theorem sawake (w : World) : Calls Tryz.prog 6 #[] w fun e w' => e = .returned (.bool true) ∧ Below w.heap.size w w' := by
  have hN := dnew 8 8 rfl w (by omega) (by omega)
  have HAP : Hid (∀ v p sq jq mq g' K, Alive w.heap.size w v p 8 sq jq mq 0 0 g' (fun _ => none) K → g' ≤ 1 → Calls Tryz.prog 17 #[.pointer (some ⟨sq, 0, none⟩), .slice (some ⟨v.heap.size + 1, 0, none⟩) 1 1] ((v.alloc (.cells #[.int .u8 7] 5)).alloc (.cells #[.string ⟨#[97]⟩, .bool true, .slice (some ⟨v.heap.size, 0, none⟩) 1 1] 54)) fun e v2 => e = .returned (.int .i64 0) ∧
      Calls Tryz.prog 12 #[.pointer (some ⟨p, 0, none⟩), .slice none 0 0] v2 fun e v3 => e = .returned (.tuple #[]) ∧
        Calls Tryz.prog 11 #[.pointer (some ⟨p, 0, none⟩)] v3 fun e v4 => ∃ sq2, e = .returned (.tuple #[.pointer (some ⟨sq2, 0, none⟩), .int .i64 0]) ∧
          Calls Tryz.prog 21 #[.pointer (some ⟨sq2, 0, none⟩), .string ⟨#[97]⟩] v4 fun e v5 => ∃ b5 c5, e = .returned (.tuple #[.slice (some b5) 1 c5, .bool true]) ∧ v5.cell? b5 = some (.int .u8 7) ∧ b5 = ⟨b5.block, b5.off, none⟩ ∧ Hid (Below w.heap.size w v5)) := fun v p sq jq mq g' K hal hg => by
    have b1 : Below v.heap.size v (v.alloc (.cells #[.int .u8 7] 5)) := (Below.refl _ _).alloc (Nat.le_refl _) _
    have b2 : Below v.heap.size v ((v.alloc (.cells #[.int .u8 7] 5)).alloc (.cells #[.string ⟨#[97]⟩, .bool true, .slice (some ⟨v.heap.size, 0, none⟩) 1 1] 54)) := b1.alloc (by simp) _
    have hal2 := hal.below b2
    have hfoot := hal.foot
    have hmb : mq < v.heap.size := by
      obtain ⟨⟨nb, DD, hst⟩, _⟩ := hal.stat
      exact hst.map.lt
    refine (apply_ok hal2 (some ⟨v.heap.size + 1, 0, none⟩) 1 1 (aV v.heap.size) (aV_acts v) (by omega) (Nat.le_refl _) ⟨fun _ ad ha => ?_, fun i hi ad ha => ?_⟩ [1, 1, 97, 1, 1, 7] (aV_says _) (aV_can _ _) (by show 0 + 1 ≤ 8; omega) (by omega)).mono fun e v2 ⟨e2, t2, K2, hal3, hK2⟩ => ⟨e2, ?_⟩
    · injection ha with ha
      subst ha
      exact ⟨fun hk => by have : v.heap.size + 1 < v.heap.size := (hfoot _ hk).2; omega, by show v.heap.size + 1 ≠ mq; omega⟩
    · injection ha with ha
      subst ha
      exact ⟨fun hk => by have : v.heap.size < v.heap.size := (hfoot _ hk).2; omega, by show v.heap.size ≠ mq; omega⟩
    refine (hal3.crash none 0 0 (fun _ => false) (.inl rfl) (fun h => absurd rfl h) (by omega) (by omega)).mono fun e v3 ⟨e3, t3, hop⟩ => ⟨e3, hop.mono ?_⟩
    rintro e v4 ⟨sq2, jq2, mq2, g2, K4, e4, b4, hg4, hal4, _⟩
    refine ⟨sq2, e4, ?_⟩
    obtain ⟨⟨nb, DD, hst⟩, _⟩ := hal4.stat
    have hM : doL (fun _ => none) (pas (aV v.heap.size) 1) ⟨#[97]⟩ = some [7] := by
      rw [aV_pas]
      have : str [97] = (⟨#[97]⟩ : ByteArray) := rfl
      simp [doL, doA, this]
    refine (get_any hst ⟨#[97]⟩ (by decide)).mono fun e v5 ⟨y, n5, c5, e5, b5, _, hv⟩ => ?_
    rw [hM] at e5 hv
    obtain ⟨hsl, _⟩ := hv [7] rfl
    have hn5 : n5 = 1 := hsl.len.symm
    subst hn5
    rcases hsl.row with h0 | ⟨bb, oo, rfl, _, hc⟩
    · omega
    · exact ⟨⟨bb, oo, none⟩, c5, e5, hc 0 (by omega), rfl, hal4.bel.trans (b5.mono hal4.size)⟩
  go_enter Tryz.func6, Tryz.ntmps6
  go_wp2_with (first
    | (go_at_call 10; refine hN.mono ?_; rintro e w1 ⟨p, F, rfl, d1⟩; clear hN
       have hO1 := open_new d1 (by omega)
       clear d1)
    | (go_at_call 11; refine hO1.mono ?_; rintro e w2 ⟨sq, jq, mq, g', K', rfl, _, hg, hal, _⟩; clear hO1
       have hA := HAP.out w2 p sq jq mq g' K' hal hg
       clear HAP hal hg)
    | (go_at_call 17; refine hA.mono ?_; rintro e w3 ⟨rfl, hC⟩; clear hA)
    | (go_at_call 12; refine hC.mono ?_; rintro e w4 ⟨rfl, hO2⟩; clear hC)
    | (go_at_call 11; refine hO2.mono ?_; rintro e w5 ⟨sq2, rfl, hG⟩; clear hO2)
    | (go_at_call 21; refine hG.mono ?_; rintro e w6 ⟨b5, c5, rfl, hcell, hb5, HB⟩; clear hG; obtain ⟨bb, bo, rfl⟩ : ∃ bb bo, b5 = ⟨bb, bo, none⟩ := ⟨_, _, hb5⟩; clear hb5
       have hfn := func_ne 48
       have hAl := all_make (some ⟨sq2, 0, none⟩) ⟨#[]⟩ w6)
    | (go_at_call 22; refine hAl.mono ?_; rintro e w7 ⟨rfl, hw⟩; subst w7; clear hAl))
  go_ret
  exact ⟨rfl, (HB.out.alloc HB.out.size _).alloc (by have := HB.out.size; simp; omega) _⟩

end Go.Proofs.YtbbjklenpgkooaaGreat

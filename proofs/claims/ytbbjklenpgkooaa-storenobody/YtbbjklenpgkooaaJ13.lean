/-
  3 texts of this proof, one behind the other: JoCalls, StOpen, JoPutP.
-/
import Derived.Test.YtbbjklenpgkooaaJ12
import Derived.Test.YtbbjklenpgkooaaJ06
import Derived.Test.YtbbjklenpgkooaaJ09
/-
  What open, Len, Gen, Room, Sync and Get of a journal do: contracts over plain numbers ('JoPlain').
  Conditions: the journal is one that Open gave ('Jn'), or nobody's.
-/
namespace Go.Proofs.Ytbbjklenpgkooaa
open Go.RowKit By Dk Su Jo
set_option linter.unusedVariables false
set_option linter.unusedSimpArgs false
set_option maxRecDepth 100000

theorem jopen_any (jp : Nat) (p : Addr) (w : World) (h : w.cell? ⟨jp, 0, none⟩ = some (.pointer (some p))) :
    Calls Try.prog 54 #[.pointer (some ⟨jp, 0, none⟩)] w fun e w' => e = .returned (.bool true) ∧ w' = w := by
  go_enter Try.func54, Try.ntmps54
  go_wp2_with fail
  go_ret
  exact ⟨rfl, rfl⟩

theorem jopen_zero (jp : Nat) (w : World) (h : w.cell? ⟨jp, 0, none⟩ = some (.pointer none)) :
    Calls Try.prog 54 #[.pointer (some ⟨jp, 0, none⟩)] w fun e w' => e = .returned (.bool false) ∧ w' = w := by
  go_enter Try.func54, Try.ntmps54
  go_wp2_with fail
  go_ret
  exact ⟨rfl, rfl⟩

theorem jopen_nil (w : World) : Calls Try.prog 54 #[.pointer none] w fun e w' => e = .returned (.bool false) ∧ w' = w := by
  go_enter Try.func54, Try.ntmps54
  go_wp2_with fail
  go_ret
  exact ⟨rfl, rfl⟩

/- Nobody's journal: open tells false. -/
def Shut0 (v : Value) (w : World) : Prop := Calls Try.prog 54 #[v] w fun e w' => e = .returned (.bool false) ∧ w' = w

theorem len_no (v : Value) (w : World) (h : Shut0 v w) : Calls Try.prog 30 #[v] w fun e w' => e = .returned (.int .i64 0) ∧ w' = w := by
  unfold Shut0 at h
  go_enter Try.func30, Try.ntmps30
  go_wp2_with ((go_at_call 54; refine h.mono ?_; rintro e w' ⟨rfl, hw⟩; subst w'; clear h))
  go_ret
  exact ⟨rfl, rfl⟩

theorem room_no (v : Value) (w : World) (h : Shut0 v w) : Calls Try.prog 57 #[v] w fun e w' => e = .returned (.int .i64 (-1)) ∧ w' = w := by
  unfold Shut0 at h
  go_enter Try.func57, Try.ntmps57
  go_wp2_with ((go_at_call 54; refine h.mono ?_; rintro e w' ⟨rfl, hw⟩; subst w'; clear h))
  go_ret
  exact ⟨rfl, rfl⟩

theorem sync_no (v : Value) (w : World) (h : Shut0 v w) : Calls Try.prog 37 #[v] w fun e w' => e = .returned (.tuple #[]) ∧ w' = w := by
  unfold Shut0 at h
  go_enter Try.func37, Try.ntmps37
  go_wp2_with ((go_at_call 54; refine h.mono ?_; rintro e w' ⟨rfl, hw⟩; subst w'; clear h))
  refine bodyPost_end (results_none rfl _ _ _) rfl ?_
  exact ⟨rfl, rfl⟩

theorem put_no (v : Value) (x : Option Addr) (l c : Nat) (w : World) (h : Shut0 v w) : Calls Try.prog 36 #[v, .slice x l c] w fun e w' => e = .returned (.int .i64 1) ∧ w' = w := by
  unfold Shut0 at h
  go_enter Try.func36, Try.ntmps36
  go_wp2_with ((go_at_call 54; refine h.mono ?_; rintro e w' ⟨rfl, hw⟩; subst w'; clear h))
  go_ret
  exact ⟨rfl, rfl⟩

theorem get_no (v : Value) (m : Nat) (z : Int) (w : World) (h : Calls Try.prog 30 #[v] w fun e w' => e = .returned (.int .i64 (m : Int)) ∧ w' = w) (hz : 0 ≤ z) (hm : (m : Int) ≤ z) : Calls Try.prog 31 #[v, .int .i64 z] w fun e w' => e = .returned (.tuple #[.slice none 0 0, .bool false]) ∧ w' = w := by
  have hz' : ¬ z < 0 := by omega
  go_enter Try.func31, Try.ntmps31
  go_wp2_with ((go_at_call 30; refine h.mono ?_; rintro e w' ⟨rfl, hw⟩; subst w'; clear h))
  go_ret2
  exact ⟨rfl, rfl⟩

section
variable {w : World} {B jp p g u m : Nat} {R : Value} {A : Nat → Option Addr} {ln C : Nat → Nat} {ft : Nat → Nat → Nat}

theorem Jn.len (h : Jn w B jp p g u R m A ln C ft) : Calls Try.prog 30 #[.pointer (some ⟨jp, 0, none⟩)] w fun e w' => e = .returned (.int .i64 (m : Int)) ∧ w' = w := by
  have ho := jopen_any jp _ w h.c0
  obtain ⟨x, c, rfl, _⟩ := h.own.form
  have c2 := h.c2
  clear h
  go_enter Try.func30, Try.ntmps30
  go_wp2_with ((go_at_call 54; refine ho.mono ?_; rintro e w' ⟨rfl, hw⟩; subst w'; clear ho))
  go_ret
  exact ⟨rfl, rfl⟩

/- The i-th record: a copy in new memory. -/
theorem Jn.get (h : Jn w B jp p g u R m A ln C ft) (i : Nat) (z : Int) (hz : z = (i : Int)) (hi : i < m) :
    Calls Try.prog 31 #[.pointer (some ⟨jp, 0, none⟩), .int .i64 z] w fun e w' => ∃ y cy, e = .returned (.tuple #[.slice y (ln i) cy, .bool true]) ∧ Below w.heap.size w w' ∧ Elt w' y (ln i) cy (ft i) ∧ ∀ ad, y = some ad → w.heap.size ≤ ad.block := by
  subst hz
  have hlen := h.len
  have he := h.own.elt i hi
  have hcl := clone_full (A i) (ln i) (C i) (ft i) w he.row (by have := he.sm; omega) he.nil
  have HE := hid he
  obtain ⟨x, c, rfl, _, _, hc⟩ := h.own.form
  obtain ⟨q, rfl, hq⟩ := hc i hi
  have c2 := h.c2
  have hi' : (i : Int) < (m : Int) := by omega
  have hi2 : ¬ (m : Int) ≤ (i : Int) := by omega
  clear h hc he
  generalize A i = Ai at *
  generalize ln i = Li at *
  generalize C i = Ci at *
  go_enter Try.func31, Try.ntmps31
  go_wp2_with (first
    | (go_at_call 30; refine hlen.mono ?_; rintro e w' ⟨rfl, hw⟩; subst w'; clear hlen)
    | (go_at_call 35; refine hcl.mono ?_; rintro e w2 ⟨y, cy, rfl, hb2, hr2, hle, hnil, had⟩; clear hcl
       have HB := hid (And.intro hb2 (And.intro hr2 (And.intro hle (And.intro hnil had))))
       clear hb2 hr2 hle hnil had))
  go_ret2
  obtain ⟨hb2, hr2, hle, hnil, had⟩ := HB.out
  exact ⟨y, cy, rfl, hb2, ⟨hr2, hnil, hle, HE.out.sm, HE.out.lt, fun ad e => (had ad e).2⟩, fun ad e => (had ad e).1⟩

/- Room. -/
def roomZ (n u : Nat) : Int := if n = u then -1 else ((min (n - u) 255 * 51 : Nat) : Int)

set_option maxHeartbeats 1000000 in
theorem Jn.room {F : Nat → Prop} {n mm : Nat} {f Aw : Nat → Nat} {D : Nat → Nat → Nat} (h : Jn w B jp p g u R m A ln C ft) (hd : Pd w F p n mm f Aw D) (hu : u ≤ n) :
    Calls Try.prog 57 #[.pointer (some ⟨jp, 0, none⟩)] w fun e w' => e = .returned (.int .i64 (roomZ n u)) ∧ ∃ k, w' = w.drewN k := by
  have ho := jopen_any jp _ w h.c0
  have hn2 := hd.n1.2
  have c0 := h.c0
  have c3 := h.c3
  have hsz : ∀ k, Calls Try.prog 50 #[.pointer (some ⟨p, 0, none⟩)] (w.drewN k) fun e w' => e = .returned (.int .i64 (n : Int)) ∧ w' = w.drewN k := fun k => (hd.drewN k).size
  obtain ⟨d, hdd⟩ : ∃ d, d = n - u := ⟨_, rfl⟩
  have hdi : (n : Int) - (u : Int) = (d : Int) := by omega
  have hd9 : d ≤ 4096 := by omega
  have hwr : IntKind.i64.wrap (d : Int) = (d : Int) := by rw [IntKind.wrap_i64]; omega
  have HRZ : Hid (roomZ n u = if d = 0 then -1 else ((min d 255 * 51 : Nat) : Int)) := by
    show roomZ n u = _
    unfold roomZ
    rw [hdd]
    by_cases e : n = u
    · rw [if_pos e, if_pos (by omega)]
    · rw [if_neg e, if_neg (by omega)]
  clear h hd hdd
  go_enter Try.func57, Try.ntmps57
  go_wp2_with (first
    | (go_at_call 54; refine ho.mono ?_; rintro e w' ⟨rfl, hw⟩; subst w'; clear ho))
  go_quiet ((go_at_call 50; exact Calls.quiet_of_same (hsz _)))
  by_cases h0 : d = 0
  · have hz : roomZ n u = -1 := by rw [HRZ.out, if_pos h0]
    have HZ := hid hz
    subst h0
    clear hz HRZ
    go_wp2_with fail
    go_ret
    refine ⟨?_, _, rfl⟩
    rw [HZ.out]
    rfl
  · have h0' : ((d : Int) == 0) = false := by rw [beq_eq_false_iff_ne]; omega
    by_cases h5 : d ≤ 255
    · have hz : roomZ n u = (d : Int) * 51 := by rw [HRZ.out, if_neg h0, Nat.min_eq_left h5]; omega
      have HZ := hid hz
      have h5' : (d : Int) ≤ 255 := by omega
      clear hz HRZ
      go_wp2_with fail
      go_ret
      refine ⟨?_, _, rfl⟩
      rw [HZ.out]
      rfl
    · have hz : roomZ n u = 13005 := by rw [HRZ.out, if_neg h0, Nat.min_eq_right (by omega)]; rfl
      have HZ := hid hz
      have h5' : ¬ (d : Int) ≤ 255 := by omega
      have h5'' : (255 : Int) < (d : Int) := by omega
      clear hz HRZ
      go_wp2_with fail
      go_ret
      refine ⟨?_, _, rfl⟩
      rw [HZ.out]
      rfl

theorem Jn.sync {F : Nat → Prop} {n mm : Nat} {f Aw : Nat → Nat} {D : Nat → Nat → Nat} {B0 : Nat} {w0 : World} (h : Jn w B jp p g u R m A ln C ft) (hd : Dsk B0 w0 w F p n mm f Aw D) :
    Calls Try.prog 37 #[.pointer (some ⟨jp, 0, none⟩)] w fun e w' => e = .returned (.tuple #[]) ∧ Turns F w w' ∧ Dsk B0 w0 w' F p n 0 (kept f Aw D (fun _ => true) mm) Aw D := by
  have ho := jopen_any jp _ w h.c0
  have c0 := h.c0
  have hf := dflush _ _ _ _ _ _ _ _ w0 w hd
  clear h hd
  go_enter Try.func37, Try.ntmps37
  go_wp2_with (first
    | (go_at_call 54; refine ho.mono ?_; rintro e w' ⟨rfl, hw⟩; subst w'; clear ho)
    | (go_at_call 61; refine hf.mono ?_; rintro e w1 ⟨rfl, t1, d1⟩; clear hf
       have HT := hid (And.intro t1 d1)
       clear t1 d1))
  refine bodyPost_end (results_none rfl _ _ _) rfl ?_
  exact ⟨rfl, HT.out⟩

end

end Go.Proofs.Ytbbjklenpgkooaa

/-
  Package store's Open: what records leave.
  Conditions: layer 8's Open gives a journal.
-/
namespace Go.Proofs.Ytbbjklenpgkooaa
open Go.RowKit By Dk Wi St Jo
set_option linter.unusedVariables false
set_option linter.unusedSimpArgs false
set_option maxRecDepth 100000

def Good (b : List Nat) (M : KV) (l : List PA) : Prop := DecSays b 0 l ∧ canL M l

/- What some records leave, one behind the other. -/
def After (r : Nat → List Nat) : Nat → KV → Prop
  | 0, M => M = fun _ => none
  | k + 1, M => ∃ M0 l, After r k M0 ∧ Good (r k) M0 l ∧ M = doL M0 l

theorem dec_unique {b : List Nat} {l k : List PA} (h : DecSays b 0 l) (h' : DecSays b 0 k) : l = k := by
  rcases h with ⟨_, _, h1⟩ | ⟨_, h1, _⟩
  · rcases h' with ⟨_, _, h2⟩ | ⟨_, h2, _⟩
    · rw [h1, h2]
    · cases h2
  · cases h1

theorem After.unique (r : Nat → List Nat) : ∀ k {M N : KV}, After r k M → After r k N → M = N
  | 0, M, N, h, h' => by
    unfold After at h h'
    rw [h, h']
  | k + 1, M, N, ⟨M0, l, h1, h2, h3⟩, ⟨N0, l', k1, k2, k3⟩ => by
    obtain rfl := After.unique r k h1 k1
    obtain rfl := dec_unique h2.1 k2.1
    rw [h3, k3]

theorem After.take {r : Nat → List Nat} : ∀ {m : Nat} {M : KV}, After r m M → ∀ k, k ≤ m → ∃ N, After r k N
  | 0, M, h, k, hk => by
    obtain rfl : k = 0 := by omega
    exact ⟨M, h⟩
  | m + 1, M, h, k, hk => by
    by_cases e : k = m + 1
    · subst e; exact ⟨M, h⟩
    · obtain ⟨M0, l, h1, _⟩ := h
      exact After.take h1 k (by omega)

theorem After.congr {r q : Nat → List Nat} : ∀ {m : Nat} {M : KV}, After r m M → (∀ i, i < m → r i = q i) → After q m M
  | 0, M, h, _ => h
  | m + 1, M, ⟨M0, l, h1, h2, h3⟩, e => ⟨M0, l, h1.congr (fun i hi => e i (by omega)), by rw [← e m (by omega)]; exact h2, h3⟩

def recL (ln : Nat → Nat) (ft : Nat → Nat → Nat) : Nat → List Nat := fun i => (List.range (ln i)).map (ft i)

theorem elt_sl {w : World} {y : Option Addr} {l c : Nat} {f : Nat → Nat} (h : Elt w y l c f) : Sl w y l c ((List.range l).map f) :=
  ⟨by simp, h.le, fun e => (h.nil e).2, h.row.congr fun i hi => by simp [gl, hi], fun v hv => by
    simp only [List.mem_map] at hv
    obtain ⟨i, _, rfl⟩ := hv
    exact h.lt i⟩

theorem okL_dec {b : List Nat} {l : List PA} (h : DecSays b 0 l) : okL l := by
  rcases h with ⟨⟨_, h1, _⟩, _, h2⟩ | ⟨_, h1, _⟩
  · rw [h2]; exact h1
  · cases h1

/- A store, some of the journal's records being done. -/
structure OpSt (w1 wr : World) (p jp g u : Nat) (R : Value) (m : Nat) (Aa : Nat → Option Addr) (ln C : Nat → Nat) (ft : Nat → Nat → Nat) (B k : Nat) (M : KV) : Prop where
  jn : Jn wr B jp p g u R m Aa ln C ft
  bel : Below w1.heap.size w1 wr
  aft : After (recL ln ft) k M
  st : ∃ D nb, nb ≤ 256 * k ∧ StAt wr (w1.heap.size + 1) jp w1.heap.size nb D M (fun q => q ≤ w1.heap.size + 1)

theorem below_of_turns {F : Nat → Prop} {a b : World} {B : Nat} (h : Turns F a b) (hF : ∀ k, F k → B ≤ k) (hB : B ≤ a.heap.size) : Below B a b := h.below hF hB

set_option maxHeartbeats 2000000 in
theorem store_open (w : World) (p : Nat) (T : World → Nat → Nat → Nat → Value → Nat → (Nat → Option Addr) → (Nat → Nat) → (Nat → Nat) → (Nat → Nat → Nat) → Prop)
    (hJ : Calls Try.prog 29 #[.pointer (some ⟨p, 0, none⟩)] w fun e w1 => ∃ jp g u R m Aa ln C ft, e = .returned (.tuple #[.pointer (some ⟨jp, 0, none⟩), .int .i64 0]) ∧ Below w.heap.size w w1 ∧ Jn w1 w.heap.size jp p g u R m Aa ln C ft ∧ m ≤ 4096 ∧ T w1 jp g u R m Aa ln C ft) :
    Calls Try.prog 10 #[.pointer (some ⟨p, 0, none⟩)] w fun e w' => ∃ w1 jp g u R m Aa ln C ft, Below w.heap.size w w1 ∧ Jn w1 w.heap.size jp p g u R m Aa ln C ft ∧ T w1 jp g u R m Aa ln C ft ∧ Below w1.heap.size w1 w' ∧
      ((∃ sp mb nb D M, e = .returned (.tuple #[.pointer (some ⟨sp, 0, none⟩), .int .i64 0]) ∧ After (recL ln ft) m M ∧ w1.heap.size ≤ mb ∧ mb ≤ sp ∧ nb ≤ 256 * m ∧ StAt w' sp jp mb nb D M (fun q => q ≤ sp)) ∨
       ((∀ M, ¬ After (recL ln ft) m M) ∧ e = .returned (.tuple #[.pointer none, .int .i64 5]))) := by
  have hmm := @run_makeMap Try.prog
  go_enter Try.func10, Try.ntmps10
  go_wp2_with (first
    | (go_at_call 29; refine hJ.mono ?_; rintro e w1 ⟨jp, g, u, R, m, Aa, ln, C, ft, rfl, hb1, hjn, hm, hT⟩; clear hJ
       have HT := hid (And.intro hb1 (And.intro hjn hT))
       have HO : Hid (OpSt w1 ((w1.alloc (.map #[] 0)).alloc (.cells #[.pointer (some ⟨jp, 0, none⟩), .map (some w1.heap.size)] 38)) p jp g u R m Aa ln C ft w.heap.size 0 (fun _ => none)) := by
         have b1 : Below w1.heap.size w1 (w1.alloc (.map #[] 0)) := (Below.refl _ _).alloc (Nat.le_refl _) _
         have b2 : Below (w1.heap.size + 1) (w1.alloc (.map #[] 0)) ((w1.alloc (.map #[] 0)).alloc (.cells #[.pointer (some ⟨jp, 0, none⟩), .map (some w1.heap.size)] 38)) := (Below.refl _ _).alloc (by simp) _
         have b3 := b1.trans (b2.mono (Nat.le_succ _))
         have hsz : (w1.alloc (.map #[] 0)).heap.size = w1.heap.size + 1 := by simp
         refine ⟨hjn.below b3, b3, rfl, .map [], 0, by omega, ⟨?_, (MapAt.new w1 _).below (by rw [hsz]; exact b2), by omega⟩⟩
         have := Blk.new (w1.alloc (.map #[] 0)) 38 2 (fun i => if i = 0 then .pointer (some ⟨jp, 0, none⟩) else .map (some w1.heap.size)) #[.pointer (some ⟨jp, 0, none⟩), .map (some w1.heap.size)] rfl
         rw [hsz] at this
         exact this
       have hL : Calls Try.prog 30 #[.pointer (some ⟨jp, 0, none⟩)] ((w1.alloc (.map #[] 0)).alloc (.cells #[.pointer (some ⟨jp, 0, none⟩), .map (some w1.heap.size)] 38)) fun e w' => e = .returned (.int .i64 (m : Int)) ∧ w' = ((w1.alloc (.map #[] 0)).alloc (.cells #[.pointer (some ⟨jp, 0, none⟩), .map (some w1.heap.size)] 38)) := HO.out.jn.len
       clear hb1 hjn hT)
    | (go_at_call 30; refine hL.mono ?_; rintro e w' ⟨rfl, hw⟩; subst w'; clear hL))
  go_loopw [26] (fun i wr => ∃ (k : Nat) (M : KV), k ≤ m ∧ i = .int .i64 k ∧ Hid (OpSt w1 wr p jp g u R m Aa ln C ft w.heap.size k M)) (fun i _ => m - (intOf i).toNat)
  case atStart => exact ⟨0, _, by omega, rfl, HO.out⟩
  case round =>
    clear HO hmm
    obtain ⟨k, M, hk, rfl, HR⟩ := hrel
    by_cases hkl : k < m
    · have hkl' : (k : Int) < (m : Int) := by omega
      have hG := HR.out.jn.get k (k : Int) rfl hkl
      obtain ⟨c, acts, hS⟩ := dec_says (recL ln ft k)
      have HD : Hid (∀ v y cy, Below wr.heap.size wr v → Elt v y (ln k) cy (ft k) → Calls Try.prog 8 #[.slice y (ln k) cy] v fun e w' => ∃ a mm cm V, e = .returned (.tuple #[.slice a mm cm, .int .i64 (c : Int)]) ∧ mm ≤ 256 ∧ pas V mm = acts ∧ mm ≤ cm ∧ Below wr.heap.size wr w' ∧ ActsAt w' a mm V ∧ (∀ ad, a = some ad → wr.heap.size ≤ ad.block) ∧ (∀ i, i < mm → ∀ ad, (V i).x = some ad → wr.heap.size ≤ ad.block)) := fun v y cy hb he => by
        refine (decode_any y (ln k) cy (recL ln ft k) v (elt_sl he) he.sm c acts hS).mono fun e w' ⟨a, mm, cm, V, h1, h2, h3, h4, h5, h6, h7, h8⟩ => ?_
        have hs := hb.size
        exact ⟨a, mm, cm, V, h1, h2, h3, h4, hb.trans (h8.mono hs), h5, fun ad ha => Nat.le_trans hs (h6 ad ha), fun i hi ad ha => Nat.le_trans hs (h7 i hi ad ha)⟩
      by_cases hgood : c = 0 ∧ canL M acts
      · obtain ⟨rfl, hcan⟩ := hgood
        have HC : Hid (∀ v a mm cm V, mm ≤ 256 → pas V mm = acts → mm ≤ cm → Below wr.heap.size wr v → ActsAt v a mm V → (∀ ad, a = some ad → wr.heap.size ≤ ad.block) → (∀ i, i < mm → ∀ ad, (V i).x = some ad → wr.heap.size ≤ ad.block) →
            Calls Try.prog 32 #[.pointer (some ⟨w1.heap.size + 1, 0, none⟩), .slice a mm cm] v fun e v2 => e = .returned (.bool true) ∧
              Calls Try.prog 33 #[.pointer (some ⟨w1.heap.size + 1, 0, none⟩), .slice a mm cm] v2 fun e v3 => e = .returned (.tuple #[]) ∧ Hid (OpSt w1 v3 p jp g u R m Aa ln C ft w.heap.size (k + 1) (doL M acts))) := fun v a mm cm V h2 h3 hcm hb h4 h5 h6 => by
          obtain ⟨D, nb, hnb, hst⟩ := HR.out.st
          have hstv := hst.below hb
          refine (cando_any hstv a mm cm V h4 (by omega) hcm true (by rw [h3]; simp [hcan])).mono fun e v2 ⟨e1, b2⟩ => ⟨e1, ?_⟩
          have hst2 := hstv.below b2
          have hlt : w1.heap.size < wr.heap.size := hst.map.lt
          have hslt : w1.heap.size + 1 < wr.heap.size := hst.obj.lt
          have hsb := hb.size
          have hsb2 := b2.size
          refine (do_any hst2 (fun q hq => by omega) a mm cm V (h4.below b2) (fun _ ad ha => by have := h5 ad ha; omega) (fun i hi ad ha => by have := h6 i hi ad ha; omega) h2 (by rw [h3]; exact okL_dec hS) (by omega)).mono fun e v3 ⟨e3, D', nb', q1, q2, q3⟩ => ⟨e3, ?_⟩
          have hj := (HR.out.jn.below hb).below b2
          have hfoot := fun q hq => ((HT.out.2.1).foot q hq).2
          refine ⟨hj.turns q3 (fun q hq e4 => by have := hfoot q hq; omega), ?_, ⟨M, acts, HR.out.aft, ⟨hS, hcan⟩, rfl⟩, D', nb', by omega, by rw [← h3]; exact q2⟩
          have hbw := HR.out.bel
          exact (hbw.trans ((hb.trans (b2.mono hsb)).mono hbw.size)).trans (q3.below (fun q hq => by omega) (by have := hbw.size; omega))
        clear hcan hS
        go_wp2_with (first
          | (go_at_call 31; refine hG.mono ?_; rintro e v ⟨y, cy, rfl, hbv, hev, _⟩; clear hG
             have hD := HD.out v y cy hbv hev
             clear HD hbv hev)
          | (go_at_call 8; refine hD.mono ?_; rintro e v2 ⟨a, mm, cm, V, rfl, h2, h3, h3', h4, h5, h6, h7⟩; clear hD
             have hC := HC.out v2 a mm cm V h2 h3 h3' h4 h5 h6 h7
             clear HC h2 h3 h3' h4 h5 h6 h7)
          | (go_at_call 32; refine hC.mono ?_; rintro e v3 ⟨rfl, hDo⟩; clear hC)
          | (go_at_call 33; refine hDo.mono ?_; rintro e v4 ⟨rfl, HN⟩; clear hDo))
        go_roundw
        case rel => exact ⟨k + 1, _, by omega, by go_num, HN.out⟩
        case measure => simp [intOf]; omega
      · have HNO : Hid (∀ N, ¬ After (recL ln ft) m N) := fun N hN => by
          obtain ⟨N1, hN1⟩ := hN.take (k + 1) (by omega)
          obtain ⟨M0, l, g1, g2, g3⟩ := hN1
          have := After.unique _ k g1 HR.out.aft
          subst this
          rcases hS with ⟨q0, q1, q2⟩ | ⟨q0, q1, q2⟩
          · have : l = acts := dec_unique g2.1 (.inl ⟨q0, rfl, q2⟩)
            subst this
            exact hgood ⟨q1, g2.2⟩
          · rcases g2.1 with ⟨q3, _⟩ | ⟨_, q3, _⟩
            · exact q0 q3
            · cases q3
        by_cases hc0 : c = 0
        · subst hc0
          have hcan : ¬ canL M acts := fun hh => hgood ⟨rfl, hh⟩
          have HC : Hid (∀ v a mm cm V, mm ≤ 256 → pas V mm = acts → mm ≤ cm → Below wr.heap.size wr v → ActsAt v a mm V →
              Calls Try.prog 32 #[.pointer (some ⟨w1.heap.size + 1, 0, none⟩), .slice a mm cm] v fun e v2 => e = .returned (.bool false) ∧ Hid (Below w1.heap.size w1 v2)) := fun v a mm cm V h2 h3 hcm hb h4 => by
            obtain ⟨D, nb, hnb, hst⟩ := HR.out.st
            refine (cando_any (hst.below hb) a mm cm V h4 (by omega) hcm false (by rw [h3]; simp [hcan])).mono fun e v2 ⟨e1, b2⟩ => ⟨e1, ?_⟩
            have hbw := HR.out.bel
            exact hbw.trans ((hb.trans (b2.mono hb.size)).mono hbw.size)
          clear hcan hS hgood HR
          go_wp2_with (first
            | (go_at_call 31; refine hG.mono ?_; rintro e v ⟨y, cy, rfl, hbv, hev, _⟩; clear hG
               have hD := HD.out v y cy hbv hev
               clear HD hbv hev)
            | (go_at_call 8; refine hD.mono ?_; rintro e v2 ⟨a, mm, cm, V, rfl, h2, h3, h3', h4, h5, h6, h7⟩; clear hD
               have hC := HC.out v2 a mm cm V h2 h3 h3' h4 h5
               clear HC h2 h3 h3' h4 h5 h6 h7)
            | (go_at_call 32; refine hC.mono ?_; rintro e v3 ⟨rfl, HB3⟩; clear hC))
          go_ret2
          exact ⟨w1, jp, g, u, R, m, Aa, ln, C, ft, HT.out.1, HT.out.2.1, HT.out.2.2, HB3.out, .inr ⟨HNO.out, rfl⟩⟩
        · have hne : ((c : Int) != 0) = true := by simp; omega
          have HB0 := hid HR.out.bel
          clear hS hgood HR hc0
          go_wp2_with (first
            | (go_at_call 31; refine hG.mono ?_; rintro e v ⟨y, cy, rfl, hbv, hev, _⟩; clear hG
               have hD := HD.out v y cy hbv hev
               clear HD hbv hev)
            | (go_at_call 8; refine hD.mono ?_; rintro e v2 ⟨a, mm, cm, V, rfl, h2, h3, h3', h4, h5, h6, h7⟩; clear hD
               have HB3 := hid (HB0.out.trans (h4.mono HB0.out.size))
               clear h2 h3 h3' h4 h5 h6 h7))
          go_ret2
          exact ⟨w1, jp, g, u, R, m, Aa, ln, C, ft, HT.out.1, HT.out.2.1, HT.out.2.2, HB3.out, .inr ⟨HNO.out, rfl⟩⟩
    · obtain rfl : k = m := by omega
      go_wp2_with fail
      go_ret2
      obtain ⟨D, nb, hnb, hst⟩ := HR.out.st
      exact ⟨w1, jp, g, u, R, k, Aa, ln, C, ft, HT.out.1, HT.out.2.1, HT.out.2.2, HR.out.bel, .inl ⟨_, _, nb, D, M, rfl, HR.out.aft, Nat.le_refl _, Nat.le_succ _, hnb, hst⟩⟩

end Go.Proofs.Ytbbjklenpgkooaa

/-
  A journal and its disk side by side; what the steps of Put leave.
  Conditions: none.
-/
namespace Go.Proofs.Ytbbjklenpgkooaa
open Go.RowKit By Dk Su Jo
set_option linter.unusedVariables false
set_option linter.unusedSimpArgs false
set_option maxRecDepth 100000

/- An append that comes up alone in a region that draws its order. -/
theorem ready_append {P : Program} {w w' : World} {ops : Array Oper} {o : Oper} {a : Act} {K : Act → World → Prop} {Q : Exit → Act → World → Prop} {v' : Value} (hg : Region.wanted o (yielded ops a.tmps) = true) (s x : Operand) (t : TypeId)
    (ho : o.op = .call { callee := .builtin .append, args := #[s, x], argTypes := #[t, t] }) (v1 v2 : Value) (hs : a.eval s = v1) (hx : a.eval x = v2) (hr : (Builtin.append_ #[t, t] o.type #[v1, v2]).run P w = .ok v' w')
    (h : K (a.put o.dst v') w') : if Region.wanted o (yielded ops a.tmps) = true then Oper.wp P o a w K Q else K (a.put o.dst undef) w := by
  rw [if_pos hg]
  unfold Oper.wp execOp
  simp only [ho, resolve, invoke, builtin, Sem.run_bind, Sem.run_pure, Result.andThen_ok, List.map_toArray, List.map_cons, List.map_nil, hs, hx, hr]
  exact h

/- A list that is only read; it may lie anywhere if it is empty. -/
structure EltW (w : World) (x : Option Addr) (l c : Nat) (f : Nat → Nat) : Prop where
  row : RowAt w x l f
  nil : x = none → l = 0 ∧ c = 0
  le : l ≤ c
  sm : l ≤ 140737488351232
  lt : ∀ j, f j < 256

theorem Elt.w {w : World} {x : Option Addr} {l c : Nat} {f : Nat → Nat} (h : Elt w x l c f) : EltW w x l c f := ⟨h.row, h.nil, h.le, h.sm, h.lt⟩

theorem EltW.turns {w w' : World} {x : Option Addr} {l c : Nat} {f : Nat → Nat} {G : Nat → Prop} (h : EltW w x l c f) (t : Turns G w w') (hx : l ≠ 0 → ∀ ad, x = some ad → ¬ G ad.block) : EltW w' x l c f := by
  refine ⟨?_, h.nil, h.le, h.sm, h.lt⟩
  by_cases e : l = 0
  · exact .inl e
  · exact t.row h.row (hx e)

structure JD (B : Nat) (w0 w : World) (F : Nat → Prop) (p n mm : Nat) (f A : Nat → Nat) (D : Nat → Nat → Nat) (jp g u : Nat) (R : Value) (m : Nat) (Aa : Nat → Option Addr) (ln C : Nat → Nat) (ft : Nat → Nat → Nat) : Prop where
  dsk : Dsk B w0 w F p n mm f A D
  jn : Jn w B jp p g u R m Aa ln C ft
  dis : ∀ k, F k → ¬ jfoot R jp m Aa k

section
variable {B : Nat} {w0 w w' : World} {F : Nat → Prop} {p n mm : Nat} {f A : Nat → Nat} {D : Nat → Nat → Nat} {jp g u : Nat} {R : Value} {m : Nat} {Aa : Nat → Option Addr} {ln C : Nat → Nat} {ft : Nat → Nat → Nat}

theorem JD.below (h : JD B w0 w F p n mm f A D jp g u R m Aa ln C ft) (t : Below w.heap.size w w') : JD B w0 w' F p n mm f A D jp g u R m Aa ln C ft := ⟨h.dsk.below t, h.jn.below t, h.dis⟩

theorem JD.drewN (h : JD B w0 w F p n mm f A D jp g u R m Aa ln C ft) (k : Nat) : JD B w0 (w.drewN k) F p n mm f A D jp g u R m Aa ln C ft := h.below ⟨rfl, rfl, rfl, Nat.le_refl _, fun _ _ => rfl⟩

def both (F : Nat → Prop) (R : Value) (jp m : Nat) (Aa : Nat → Option Addr) : Nat → Prop := fun k => F k ∨ jfoot R jp m Aa k

theorem JD.turns {G : Nat → Prop} (h : JD B w0 w F p n mm f A D jp g u R m Aa ln C ft) (t : Turns G w w') (hG : ∀ k, G k → B ≤ k) (hd : ∀ k, both F R jp m Aa k → ¬ G k) : JD B w0 w' F p n mm f A D jp g u R m Aa ln C ft :=
  ⟨h.dsk.turns t hG (fun k hk => hd k (.inl hk)), h.jn.turns t (fun k hk => hd k (.inr hk)), h.dis⟩

theorem JD.foot (h : JD B w0 w F p n mm f A D jp g u R m Aa ln C ft) : ∀ k, both F R jp m Aa k → B ≤ k ∧ k < w.heap.size := fun k hk => by
  rcases hk with e | e
  · exact ⟨h.dsk.foot k e, h.dsk.pd.flt k e⟩
  · exact h.jn.foot k e

end

theorem room_fits {n u l : Nat} (hu : u ≤ n) (hl : l ≤ 13005) : ((l : Int) ≤ roomZ n u) ↔ u + pcs l ≤ n := by
  unfold roomZ
  by_cases e : n = u
  · rw [if_pos e]
    have := pcs_pos l
    constructor
    · intro h; omega
    · intro h; omega
  · rw [if_neg e]
    have h1 : pcs l ≤ n - u ↔ 0 < n - u ∧ l ≤ 51 * (n - u) := pcs_fits
    constructor
    · intro h
      have h2 : l ≤ min (n - u) 255 * 51 := by omega
      have h3 : min (n - u) 255 ≤ n - u := Nat.min_le_left _ _
      have := h1.2 ⟨by omega, by omega⟩
      omega
    · intro h
      have h2 := h1.1 (by omega)
      have h3 : l ≤ min (n - u) 255 * 51 := by
        rcases Nat.le_total (n - u) 255 with e1 | e1
        · rw [Nat.min_eq_left e1]; omega
        · rw [Nat.min_eq_right e1]; omega
      omega

/- A round of Put's loop: so many parts are written. -/
structure Pp (B : Nat) (w0 w wr : World) (S0 : Nat) (F F' : Nat → Prop) (p n mm : Nat) (f A A' : Nat → Nat) (D D' : Nat → Nat → Nat) (jp g u : Nat) (R : Value) (m : Nat) (Aa : Nat → Option Addr) (ln C : Nat → Nat) (ft : Nat → Nat → Nat) (Rp : Value) (l : Nat) (b : Nat → Nat) (X : Nat → Option Addr) (Cp : Nat → Nat) (k : Nat) : Prop where
  dsk : Dsk B w0 wr F' p n (mm + k) f A' D'
  jn : Jn wr B jp p g (u + k) R m Aa ln C ft
  par : wr.ownsRow 0 103 5 Rp (pcs l) (rowOf (prV g (m + 1) l X Cp) (pcs l * 5))
  pl : ∀ q, Rp.ownBlock = some q → w.heap.size ≤ q ∧ q < S0
  fF : ∀ q, F' q → F q ∨ S0 ≤ q
  tr : Turns (both F R jp m Aa) w wr
  sz : S0 ≤ wr.heap.size
  sw : w.heap.size ≤ S0
  old : ∀ i, i < mm → A' i = A i ∧ D' i = D i
  new : ∀ i, i < k → A' (mm + i) = u + i ∧ ∀ j, j < 64 → D' (mm + i) j = mkS g (m + 1) l b i j
  dis : ∀ q, F q → ¬ jfoot R jp m Aa q
  jl : ∀ q, both F R jp m Aa q → B ≤ q ∧ q < w.heap.size

section
variable {B : Nat} {w0 w wr : World} {S0 : Nat} {F F' : Nat → Prop} {p n mm : Nat} {f A A' : Nat → Nat} {D D' : Nat → Nat → Nat} {jp g u : Nat} {R : Value} {m : Nat} {Aa : Nat → Option Addr} {ln C : Nat → Nat} {ft : Nat → Nat → Nat} {Rp : Value} {l : Nat} {b : Nat → Nat} {X : Nat → Option Addr} {Cp : Nat → Nat} {k : Nat}

theorem Pp.dis' (h : Pp B w0 w wr S0 F F' p n mm f A A' D D' jp g u R m Aa ln C ft Rp l b X Cp k) : ∀ q, F' q → ¬ jfoot R jp m Aa q := fun q hq hj => by
  rcases h.fF q hq with e | e
  · exact h.dis q e hj
  · have := (h.jl q (.inr hj)).2
    have := h.sw
    omega

theorem Pp.cells (h : Pp B w0 w wr S0 F F' p n mm f A A' D D' jp g u R m Aa ln C ft Rp l b X Cp k) (hk : k < pcs l) : ∃ gp cp, Rp = .slice (some ⟨gp, 0, none⟩) (pcs l) cp ∧ wr.cell? ⟨gp, k * 5, none⟩ = some (.int .i64 (g : Int)) ∧ wr.cell? ⟨gp, k * 5 + 1, none⟩ = some (.int .u32 ((m + 1 : Nat) : Int)) ∧ wr.cell? ⟨gp, k * 5 + 2, none⟩ = some (.int .i64 (k : Int)) ∧
    wr.cell? ⟨gp, k * 5 + 3, none⟩ = some (.bool (plast l k)) ∧ wr.cell? ⟨gp, k * 5 + 4, none⟩ = some (.slice (X k) (plen l k) (Cp k)) := by
  rcases h.par.2 with ⟨_, h0⟩ | ⟨gp, cp, cur, hv, _⟩
  · omega
  · subst hv
    have hc : ∀ j, j < 5 → wr.cell? ⟨gp, k * 5 + j, none⟩ = some (prV g (m + 1) l X Cp (k * 5 + j)) := fun j hj => by
      have := h.par.cells (g := gp) rfl (k * 5 + j) _ (rowOf_get _ _ _ (by omega))
      rw [add_at, Nat.zero_add] at this
      exact this
    refine ⟨gp, cp, rfl, ?_, ?_, ?_, ?_, ?_⟩
    · have := hc 0 (by omega)
      rw [Nat.add_zero] at this
      rw [this]; unfold prV; rw [if_pos (by omega)]
    · rw [hc 1 (by omega)]; unfold prV; rw [if_neg (by omega), if_pos (by omega)]
    · rw [hc 2 (by omega)]; unfold prV; rw [if_neg (by omega), if_neg (by omega), if_pos (by omega), show (k * 5 + 2) / 5 = k by omega]
    · rw [hc 3 (by omega)]; unfold prV; rw [if_neg (by omega), if_neg (by omega), if_neg (by omega), if_pos (by omega), show (k * 5 + 3) / 5 = k by omega]
    · rw [hc 4 (by omega)]; unfold prV; rw [if_neg (by omega), if_neg (by omega), if_neg (by omega), if_neg (by omega), show (k * 5 + 4) / 5 = k by omega]

/- Behind the Write, and the count of sectors. -/
theorem Pp.next {v1 v2 : World} (h : Pp B w0 w wr S0 F F' p n mm f A A' D D' jp g u R m Aa ln C ft Rp l b X Cp k) (b1 : Below wr.heap.size wr v1) (t2 : Turns F' v1 v2) (d2 : Dsk B w0 v2 (grow F' v1 v2) p n (mm + k + 1) f (ext A' (mm + k) (u + k)) (ext D' (mm + k) (mkS g (m + 1) l b k))) :
    Pp B w0 w (v2.setCell ⟨jp, 3, none⟩ (.int .i64 ((u + (k + 1) : Nat) : Int))) S0 F (grow F' v1 v2) p n mm f A (ext A' (mm + k) (u + k)) D (ext D' (mm + k) (mkS g (m + 1) l b k)) jp g u R m Aa ln C ft Rp l b X Cp (k + 1) := by
  have hsz1 := b1.size
  have hjl := h.jl jp (.inr (.inl rfl))
  have hs := h.sz
  have hsw := h.sw
  have j1 := (h.jn.below b1).turns t2 (fun q hq hF => h.dis' q hF hq)
  have hg : ∀ q, grow F' v1 v2 q → F q ∨ S0 ≤ q := fun q hq => by
    rcases hq with e | e
    · exact h.fF q e
    · right; omega
  have hnj : ∀ q, grow F' v1 v2 q → q ≠ jp := fun q hq e => by
    subst e
    rcases hg q hq with e1 | e1
    · exact h.dis q e1 (.inl rfl)
    · omega
  have T3 : Turns (fun q => q = jp) v2 (v2.setCell ⟨jp, 3, none⟩ (.int .i64 ((u + (k + 1) : Nat) : Int))) := (Turns.refl (fun q => q = jp) v2).setCell (p := ⟨jp, 3, none⟩) (.inl rfl) _
  refine ⟨d2.turns T3 (fun q hq => by omega) (fun q hq e => hnj q hq e), ⟨(j1.obj.set 3 _).congr fun i hi => ?_, ?_, j1.jb, j1.af⟩, ?_, h.pl, hg, ?_, ?_, hsw, fun i hi => ?_, fun i hi => ?_, h.dis, h.jl⟩
  · unfold upd obj4
    have : i = 0 ∨ i = 1 ∨ i = 2 ∨ i = 3 := by omega
    rcases this with rfl | rfl | rfl | rfl <;> simp
  · exact j1.own.turns T3 (fun q hq e => by subst e; exact ownsRow_ne j1.own.own j1.obj (by decide) hq) (fun i hi ad ha e => (j1.af i hi ad ha).2 e)
  · refine ownsRow_same h.par fun q hq => ?_
    have hq1 := h.pl q hq
    have hqw := (h.par.lt q hq).2
    have e1 : q ≠ jp := fun e => by omega
    have e2 : ¬ F' q := fun e => by
      rcases h.fF q e with e | e
      · have := (h.jl q (.inl e)).2; omega
      · omega
    exact (Below.heap_setCell _ _ _ _ e1).trans ((t2.block q (by omega) e2).trans (b1.block q hqw))
  · have T1 : Turns (both F R jp m Aa) w v1 := ⟨b1.os.trans h.tr.os, b1.tape.trans h.tr.tape, b1.output.trans h.tr.output, Nat.le_trans h.tr.size b1.size, fun q hq hF => (b1.block q (Nat.lt_of_lt_of_le hq h.tr.size)).trans (h.tr.block q hq hF)⟩
    have T2 : Turns (both F R jp m Aa) w v2 := T1.more t2 (fun q hq => by
      rcases h.fF q hq with e | e
      · exact .inl (.inl e)
      · right; omega)
    exact T2.setCell (p := ⟨jp, 3, none⟩) (.inl (.inr (.inl rfl))) _
  · have := t2.size
    simp [World.setCell]
    omega
  · rw [ext_old _ _ _ (by omega), ext_old _ _ _ (by omega)]
    exact h.old i hi
  · by_cases e : i < k
    · rw [ext_old _ _ _ (by omega), ext_old _ _ _ (by omega)]
      exact h.new i e
    · obtain rfl : i = k := by omega
      rw [ext_new, ext_new]
      exact ⟨rfl, fun j hj => rfl⟩

/- The record itself, behind the others. -/
theorem Pp.done {v1 : World} {y : Option Addr} {cy : Nat} (h : Pp B w0 w wr S0 F F' p n mm f A A' D D' jp g u R m Aa ln C ft Rp l b X Cp k) (b1 : Below wr.heap.size wr v1) (he : Elt v1 y l cy b) (hy : ∀ ad, y = some ad → wr.heap.size ≤ ad.block) (hm : m ≤ 4096) :
    ∃ x' c' w', (Builtin.append_ #[92, 92] 92 #[R, .slice (some ⟨v1.heap.size, 0, none⟩) 1 1]).run Try.prog (v1.alloc (.cells #[.slice y l cy] 23)) = .ok (.slice x' (m + 1) c') w' ∧
      (∀ ob, (v1.alloc ob).cell? ⟨jp, 2, none⟩ = some R) ∧ w'.cell? ⟨jp, 2, none⟩ = some R ∧ w'.frozen? ⟨jp, 2, none⟩ = false ∧
      Hid (JD B w0 (w'.setCell ⟨jp, 2, none⟩ (.slice x' (m + 1) c')) F' p n (mm + k) f A' D' jp g (u + k) (.slice x' (m + 1) c') (m + 1) (ext Aa m y) (ext ln m l) (ext C m cy) (ext ft m b) ∧
        Turns (both F R jp m Aa) w (w'.setCell ⟨jp, 2, none⟩ (.slice x' (m + 1) c')) ∧ (∀ q, q < w.heap.size → both F' (.slice x' (m + 1) c') jp (m + 1) (ext Aa m y) q → both F R jp m Aa q)) := by
  have hsz1 := b1.size
  have hs := h.sz
  have hsw := h.sw
  have hjl := h.jl jp (.inr (.inl rfl))
  have j1 := h.jn.below b1
  have hB1 : B ≤ v1.heap.size := by omega
  obtain ⟨x', c', w', hrun, ho, T, hR'⟩ := j1.own.push hB1 he (fun ad e hg => by have := h.jn.own.olt _ hg; have := hy ad e; omega) (by omega)
  have hRj : R.ownBlock ≠ some jp := ownsRow_ne j1.own.own j1.obj (by decide)
  have hobj := T.blk j1.obj hRj
  have hR2 : ∀ q, (Value.slice x' (m + 1) c').ownBlock = some q → R.ownBlock = some q ∨ v1.heap.size ≤ q := hR'
  have hyl : ∀ ad, y = some ad → ad.block < v1.heap.size := he.old
  have T3 : Turns (fun q => q = jp) w' (w'.setCell ⟨jp, 2, none⟩ (.slice x' (m + 1) c')) := (Turns.refl (fun q => q = jp) w').setCell (p := ⟨jp, 2, none⟩) (.inl rfl) _
  have hoR : (Value.slice x' (m + 1) c').ownBlock ≠ some jp := fun e => by
    rcases hR2 jp e with e1 | e1
    · exact hRj e1
    · have := h.jn.obj.lt; omega
  have haf : ∀ i, i < m + 1 → ∀ ad, ext Aa m y i = some ad → B ≤ ad.block ∧ ad.block ≠ jp := fun i hi ad ha => by
    by_cases e : i < m
    · rw [ext_old _ _ _ e] at ha
      exact h.jn.af i e ad ha
    · obtain rfl : i = m := by omega
      rw [ext_new] at ha
      have := hy ad ha
      have := h.jn.obj.lt
      exact ⟨by omega, by omega⟩
  have hnew : ∀ q, jfoot (.slice x' (m + 1) c') jp (m + 1) (ext Aa m y) q → jfoot R jp m Aa q ∨ wr.heap.size ≤ q := fun q hq => by
    rcases hq with e | e | ⟨i, hi, ad, ha, rfl⟩
    · exact .inl (.inl e)
    · rcases hR2 q e with e1 | e1
      · exact .inl (.inr (.inl e1))
      · right; omega
    · by_cases e : i < m
      · rw [ext_old _ _ _ e] at ha
        exact .inl (.inr (.inr ⟨i, e, ad, ha, rfl⟩))
      · obtain rfl : i = m := by omega
        rw [ext_new] at ha
        exact .inr (hy ad ha)
  have hflt := h.dsk.pd.flt
  have d1 : Dsk B w0 (w'.setCell ⟨jp, 2, none⟩ (.slice x' (m + 1) c')) F' p n (mm + k) f A' D' := by
    refine ((h.dsk.below b1).turns T (fun q hq => h.jn.own.ob q hq) (fun q hq e => h.dis' q hq (.inr (.inl e)))).turns T3 (fun q hq => by omega) (fun q hq e => h.dis' q hq (.inl e))
  refine ⟨x', c', w', hrun, fun ob => ?_, hobj.cell (k := 2) (by omega), hobj.frozen 2, ⟨d1, ⟨(hobj.set 2 _).congr fun i hi => ?_, ho.turns T3 (fun q hq e => hoR (by rw [hq, e])) (fun i hi ad ha e => (haf i hi ad ha).2 e), h.jn.jb, haf⟩, fun q hq hj => ?_⟩, ?_, fun q hq hb => ?_⟩
  · exact (j1.below ((Below.refl _ _).alloc (Nat.le_refl _) ob)).c2
  · unfold upd obj4
    have : i = 0 ∨ i = 1 ∨ i = 2 ∨ i = 3 := by omega
    rcases this with rfl | rfl | rfl | rfl <;> simp
  · rcases hnew q hj with e | e
    · exact h.dis' q hq e
    · have := hflt q hq; omega
  · have T1 : Turns (both F R jp m Aa) w v1 := ⟨b1.os.trans h.tr.os, b1.tape.trans h.tr.tape, b1.output.trans h.tr.output, Nat.le_trans h.tr.size b1.size, fun q hq hF => (b1.block q (Nat.lt_of_lt_of_le hq h.tr.size)).trans (h.tr.block q hq hF)⟩
    exact (T1.more T (fun q hq => .inl (.inr (.inr (.inl hq))))).setCell (p := ⟨jp, 2, none⟩) (.inl (.inr (.inl rfl))) _
  · rcases hb with e | e
    · rcases h.fF q e with e | e
      · exact .inl e
      · omega
    · rcases hnew q e with e | e
      · exact .inr e
      · omega

end

end Go.Proofs.Ytbbjklenpgkooaa

/-
  Which names, chunks and entries may be: the program's answer, and the document's.
  Conditions: names are at most 2^20 bytes long.
-/
import Derived.Test.YtnfflmndejbepaaShMem
import Derived.Test.YtnfflmndejbepaaJNaRef
namespace Go.Proofs.Ytnfflmndejbepaa.Sh
set_option linter.unusedSectionVars false
variable [Inhabited DZ]
open Go.RowKit By Fl
set_option linter.unusedVariables false
set_option linter.unusedSimpArgs false
set_option maxRecDepth 100000

theorem within_any (n lo hi : Int) (w : World) : Calls Try.prog 42 #[.int .i64 n, .int .i64 lo, .int .i64 hi] w fun e w' => e = .returned (.bool (decide (lo ≤ n ∧ n ≤ hi))) ∧ w' = w := by
  by_cases h1 : lo ≤ n
  · by_cases h2 : n ≤ hi
    · go_enter Try.func42, Try.ntmps42
      go_wp2_with fail
      go_ret
      exact ⟨by simp [h1, h2], rfl⟩
    · have h2' : hi < n := by omega
      go_enter Try.func42, Try.ntmps42
      go_wp2_with fail
      go_ret
      exact ⟨by simp [h1, h2], rfl⟩
  · have h1' : n < lo := by omega
    go_enter Try.func42, Try.ntmps42
    go_wp2_with fail
    go_ret
    exact ⟨by simp; omega, rfl⟩

theorem rwithin_any (n lo hi : Int) (w : World) : Calls Try.prog 44 #[.int .i64 n, .int .i64 lo, .int .i64 hi] w fun e w' => e = .returned (.bool (decide (lo ≤ n ∧ n ≤ hi))) ∧ w' = w := by
  by_cases h1 : lo ≤ n
  · by_cases h2 : n ≤ hi
    · go_enter Try.func44, Try.ntmps44
      go_wp2_with fail
      go_ret
      exact ⟨by simp [h1, h2], rfl⟩
    · have h2' : hi < n := by omega
      go_enter Try.func44, Try.ntmps44
      go_wp2_with fail
      go_ret
      exact ⟨by simp [h1, h2], rfl⟩
  · have h1' : n < lo := by omega
    go_enter Try.func44, Try.ntmps44
    go_wp2_with fail
    go_ret
    exact ⟨by simp; omega, rfl⟩

theorem ncheck_any (s : ByteArray) (hs : s.size ≤ 1048576) : ∃ z : Int, (z = 0 ↔ NameOk s) ∧ ∀ w, Calls Try.prog 75 #[.string s] w fun e w' => e = .returned (.int .i64 z) ∧ Below w.heap.size w w' := by
  obtain ⟨rs, t, h⟩ := Na.txt_any (Na.nat s) (Na.nat_lt s)
  refine ⟨(Na.why rs t : Nat), ⟨fun e => ⟨rs, t, h, by omega⟩, fun ⟨rs', t', h', e⟩ => ?_⟩, fun w => Na.check_any s rs t _ w h (by omega) rfl⟩
  obtain ⟨rfl, rfl⟩ := Na.txt_one h h'
  rw [e]
  rfl

theorem rncheck_any (s : ByteArray) (hs : s.size ≤ 1048576) : ∃ z : Int, (z = 0 ↔ NameOk s) ∧ ∀ w, Calls Try.prog 49 #[.string s] w fun e w' => e = .returned (.int .i64 z) ∧ Below w.heap.size w w' := by
  obtain ⟨rs, t, h⟩ := Na.txt_any (Na.nat s) (Na.nat_lt s)
  refine ⟨(Na.why rs t : Nat), ⟨fun e => ⟨rs, t, h, by omega⟩, fun ⟨rs', t', h', e⟩ => ?_⟩, fun w => Na.rcheck_any s rs t _ w h hs rfl⟩
  obtain ⟨rfl, rfl⟩ := Na.txt_one h h'
  rw [e]
  rfl

theorem chunkmay_any {w : World} {F : Nat → Prop} {v : CV} (h : CAt w F v) : Calls Try.prog 60 #[vC v] w fun e w' => e = .returned (.bool (bz (okC (pC v)))) ∧ Below w.heap.size w w' := by
  obtain ⟨sz, x, n, c, dat, sum⟩ := v
  have hl : dat.length = n := h.s.len
  obtain ⟨t, ht⟩ : ∃ t, t = decide ((0 : Int) ≤ sz ∧ sz ≤ 4096) := ⟨_, rfl⟩
  have hc := fun W => within_any sz 0 4096 W
  rw [← ht] at hc
  have HT : Hid (bz (okC (pC ⟨sz, x, n, c, dat, sum⟩)) = (t && decide ((n : Int) ≤ 4096))) := hid (bz_eq (by unfold okC pC; simp [ht, hl]; omega))
  clear h ht
  unfold vC
  dsimp only
  cases t with
  | false =>
    go_enter Try.func60, Try.ntmps60
    go_wp2_with (go_at_call 42; refine (hc _).mono ?_; rintro e w1 ⟨rfl, hw⟩; subst w1)
    go_ret
    exact ⟨by rw [HT.out]; rfl, al _ _⟩
  | true =>
    go_enter Try.func60, Try.ntmps60
    go_wp2_with (go_at_call 42; refine (hc _).mono ?_; rintro e w1 ⟨rfl, hw⟩; subst w1)
    go_ret
    exact ⟨by rw [HT.out]; simp, al _ _⟩

theorem rchunk_any {w : World} {F : Nat → Prop} {v : CV} (h : CAt w F v) : Calls Try.prog 50 #[vC v] w fun e w' => e = .returned (.bool (bz (okC (pC v)))) ∧ Below w.heap.size w w' := by
  obtain ⟨sz, x, n, c, dat, sum⟩ := v
  have hl : dat.length = n := h.s.len
  obtain ⟨t, ht⟩ : ∃ t, t = decide ((0 : Int) ≤ sz ∧ sz ≤ 4096) := ⟨_, rfl⟩
  have hc := fun W => rwithin_any sz 0 4096 W
  rw [← ht] at hc
  have HT : Hid (bz (okC (pC ⟨sz, x, n, c, dat, sum⟩)) = (t && decide ((n : Int) ≤ 4096))) := hid (bz_eq (by unfold okC pC; simp [ht, hl]; omega))
  clear h ht
  unfold vC
  dsimp only
  cases t with
  | false =>
    go_enter Try.func50, Try.ntmps50
    go_wp2_with (go_at_call 44; refine (hc _).mono ?_; rintro e w1 ⟨rfl, hw⟩; subst w1)
    go_ret
    exact ⟨by rw [HT.out]; rfl, al _ _⟩
  | true =>
    go_enter Try.func50, Try.ntmps50
    go_wp2_with (go_at_call 44; refine (hc _).mono ?_; rintro e w1 ⟨rfl, hw⟩; subst w1)
    go_ret
    exact ⟨by rw [HT.out]; simp, al _ _⟩

/- What an entry's fields say. -/
def eBad (cb gone sb : Bool) : Bool := (cb && gone) || ((cb || gone) && sb)

theorem okE_is {e : Ent} {cb sb t1 t2 t3 t4 t5 t6 : Bool} (hcb : (e.code != 0) = cb) (hsb : (e.sz != 0) = sb) (h1 : t1 = decide ((1 : Int) ≤ e.seq ∧ e.seq ≤ 4096)) (h2 : t2 = decide ((0 : Int) ≤ e.cl ∧ e.cl ≤ 2147483647))
    (h3 : t3 = decide ((0 : Int) ≤ e.ks ∧ e.ks ≤ 2147483647)) (h4 : t4 = true ↔ NameOk e.nm) (h5 : t5 = decide ((0 : Int) ≤ e.sz ∧ e.sz ≤ 4096)) (h6 : t6 = decide ((0 : Int) ≤ e.code ∧ e.code ≤ 255)) :
    bz (okE e) = (!eBad cb e.gone sb && t1 && t2 && t3 && t4 && t5 && t6) := by
  refine bz_eq ?_
  unfold okE eBad
  rw [h1, h2, h3, h5, h6, ← hcb, ← hsb]
  simp only [Bool.and_eq_true, Bool.not_eq_true', decide_eq_true_eq, h4]
  by_cases hc : e.code = 0 <;> by_cases hz : e.sz = 0 <;> cases e.gone <;> simp [hc, hz]
  all_goals constructor
  all_goals (intro h; simp_all)

/- The calls that an entry's answer makes. -/
structure EFacts (wi ck : Nat) (e : Ent) (w : World) (cb sb t1 t2 t3 t4 t5 t6 : Bool) (z : Int) : Prop where
  cb : (e.code != 0) = cb
  sb : (e.sz != 0) = sb
  c1 : ∀ W, Calls Try.prog wi #[.int .i64 e.seq, .int .i64 1, .int .i64 4096] W fun r w' => r = .returned (.bool t1) ∧ w' = W
  c2 : ∀ W, Calls Try.prog wi #[.int .i64 e.cl, .int .i64 0, .int .i64 2147483647] W fun r w' => r = .returned (.bool t2) ∧ w' = W
  c3 : ∀ W, Calls Try.prog wi #[.int .i64 e.ks, .int .i64 0, .int .i64 2147483647] W fun r w' => r = .returned (.bool t3) ∧ w' = W
  zq : (z == 0) = t4
  c4 : Calls Try.prog ck #[.string e.nm] (w.alloc (.cells #[.int .i64 e.seq, .int .i64 e.cl, .int .i64 e.ks, .string e.nm, .int .i64 e.code, .bool e.gone, .int .i64 e.sz] 67)) fun r w' => r = .returned (.int .i64 z) ∧
    w'.cell? ⟨w.heap.size, 4, none⟩ = some (.int .i64 e.code) ∧ w'.cell? ⟨w.heap.size, 5, none⟩ = some (.bool e.gone) ∧ w'.cell? ⟨w.heap.size, 6, none⟩ = some (.int .i64 e.sz) ∧ Hid (Below w.heap.size w w')
  c5 : ∀ W, Calls Try.prog wi #[.int .i64 e.sz, .int .i64 0, .int .i64 4096] W fun r w' => r = .returned (.bool t5) ∧ w' = W
  c6 : ∀ W, Calls Try.prog wi #[.int .i64 e.code, .int .i64 0, .int .i64 255] W fun r w' => r = .returned (.bool t6) ∧ w' = W

theorem efacts {wi ck : Nat} {e : Ent} {w : World} (hw : ∀ (n lo hi : Int) (W : World), Calls Try.prog wi #[.int .i64 n, .int .i64 lo, .int .i64 hi] W fun r w' => r = .returned (.bool (decide (lo ≤ n ∧ n ≤ hi))) ∧ w' = W)
    (hc : ∃ z : Int, (z = 0 ↔ NameOk e.nm) ∧ ∀ W, Calls Try.prog ck #[.string e.nm] W fun r w' => r = .returned (.int .i64 z) ∧ Below W.heap.size W w') :
    ∃ cb sb t1 t2 t3 t4 t5 t6 z, EFacts wi ck e w cb sb t1 t2 t3 t4 t5 t6 z ∧ bz (okE e) = (!eBad cb e.gone sb && t1 && t2 && t3 && t4 && t5 && t6) := by
  obtain ⟨z, hz, hn⟩ := hc
  refine ⟨_, _, _, _, _, (z == 0), _, _, z, ⟨rfl, rfl, fun W => hw _ _ _ W, fun W => hw _ _ _ W, fun W => hw _ _ _ W, rfl, ?_, fun W => hw _ _ _ W, fun W => hw _ _ _ W⟩, okE_is rfl rfl rfl rfl rfl (by rw [← hz]; simp) rfl rfl⟩
  exact (hn _).mono fun r w' ⟨h1, h2⟩ => ⟨h1, keep h2 (by go_simp), keep h2 (by go_simp), keep h2 (by go_simp), on (al _ _) h2⟩

set_option maxHeartbeats 16000000 in
theorem entrymay_any {w : World} {F : Nat → Prop} {e : Ent} (h : EAt w F e) : Calls Try.prog 59 #[vE e] w fun r w' => r = .returned (.bool (bz (okE e))) ∧ Below w.heap.size w w' := by
  obtain ⟨cb, sb, t1, t2, t3, t4, t5, t6, z, ⟨hcb, hsb, C1, C2, C3, hz, C4, C5, C6⟩, HT⟩ := efacts (wi := 42) (ck := 75) (w := w) (fun n lo hi W => within_any n lo hi W) (ncheck_any e.nm h)
  rw [HT]
  obtain ⟨seq, cl, ks, nm, code, gone, sz⟩ := e
  unfold vE
  dsimp only at *
  clear h HT
  have c1 := hid C1
  have c2 := hid C2
  have c3 := hid C3
  have c4 := hid C4
  have c5 := hid C5
  have c6 := hid C6
  clear C1 C2 C3 C4 C5 C6
  cases cb <;> cases gone <;> cases sb
  · cases t1
    · go_enter Try.func59, Try.ntmps59
      go_wp2_with (first
        | (go_at_call 42; (with_reducible first | refine (c1.out _).mono ?_ | refine (c2.out _).mono ?_ | refine (c3.out _).mono ?_ | refine (c5.out _).mono ?_ | refine (c6.out _).mono ?_); rintro r w1 ⟨rfl, hw⟩; subst w1)
        | (go_at_call 75; refine c4.out.mono ?_; rintro r w1 ⟨rfl, p4, p5, p6, HB⟩))
      go_ret
      exact ⟨by simp [eBad], al _ _⟩
    cases t2
    · go_enter Try.func59, Try.ntmps59
      go_wp2_with (first
        | (go_at_call 42; (with_reducible first | refine (c1.out _).mono ?_ | refine (c2.out _).mono ?_ | refine (c3.out _).mono ?_ | refine (c5.out _).mono ?_ | refine (c6.out _).mono ?_); rintro r w1 ⟨rfl, hw⟩; subst w1)
        | (go_at_call 75; refine c4.out.mono ?_; rintro r w1 ⟨rfl, p4, p5, p6, HB⟩))
      go_ret
      exact ⟨by simp [eBad], al _ _⟩
    cases t3
    · go_enter Try.func59, Try.ntmps59
      go_wp2_with (first
        | (go_at_call 42; (with_reducible first | refine (c1.out _).mono ?_ | refine (c2.out _).mono ?_ | refine (c3.out _).mono ?_ | refine (c5.out _).mono ?_ | refine (c6.out _).mono ?_); rintro r w1 ⟨rfl, hw⟩; subst w1)
        | (go_at_call 75; refine c4.out.mono ?_; rintro r w1 ⟨rfl, p4, p5, p6, HB⟩))
      go_ret
      exact ⟨by simp [eBad], al _ _⟩
    cases t4
    · go_enter Try.func59, Try.ntmps59
      go_wp2_with (first
        | (go_at_call 42; (with_reducible first | refine (c1.out _).mono ?_ | refine (c2.out _).mono ?_ | refine (c3.out _).mono ?_ | refine (c5.out _).mono ?_ | refine (c6.out _).mono ?_); rintro r w1 ⟨rfl, hw⟩; subst w1)
        | (go_at_call 75; refine c4.out.mono ?_; rintro r w1 ⟨rfl, p4, p5, p6, HB⟩))
      go_ret
      exact ⟨by simp [eBad], HB.out⟩
    cases t5
    · go_enter Try.func59, Try.ntmps59
      go_wp2_with (first
        | (go_at_call 42; (with_reducible first | refine (c1.out _).mono ?_ | refine (c2.out _).mono ?_ | refine (c3.out _).mono ?_ | refine (c5.out _).mono ?_ | refine (c6.out _).mono ?_); rintro r w1 ⟨rfl, hw⟩; subst w1)
        | (go_at_call 75; refine c4.out.mono ?_; rintro r w1 ⟨rfl, p4, p5, p6, HB⟩))
      go_ret
      exact ⟨by simp [eBad], HB.out⟩
    cases t6
    · go_enter Try.func59, Try.ntmps59
      go_wp2_with (first
        | (go_at_call 42; (with_reducible first | refine (c1.out _).mono ?_ | refine (c2.out _).mono ?_ | refine (c3.out _).mono ?_ | refine (c5.out _).mono ?_ | refine (c6.out _).mono ?_); rintro r w1 ⟨rfl, hw⟩; subst w1)
        | (go_at_call 75; refine c4.out.mono ?_; rintro r w1 ⟨rfl, p4, p5, p6, HB⟩))
      go_ret
      exact ⟨by simp [eBad], HB.out⟩
    · go_enter Try.func59, Try.ntmps59
      go_wp2_with (first
        | (go_at_call 42; (with_reducible first | refine (c1.out _).mono ?_ | refine (c2.out _).mono ?_ | refine (c3.out _).mono ?_ | refine (c5.out _).mono ?_ | refine (c6.out _).mono ?_); rintro r w1 ⟨rfl, hw⟩; subst w1)
        | (go_at_call 75; refine c4.out.mono ?_; rintro r w1 ⟨rfl, p4, p5, p6, HB⟩))
      go_ret
      exact ⟨by simp [eBad], HB.out⟩
  · cases t1
    · go_enter Try.func59, Try.ntmps59
      go_wp2_with (first
        | (go_at_call 42; (with_reducible first | refine (c1.out _).mono ?_ | refine (c2.out _).mono ?_ | refine (c3.out _).mono ?_ | refine (c5.out _).mono ?_ | refine (c6.out _).mono ?_); rintro r w1 ⟨rfl, hw⟩; subst w1)
        | (go_at_call 75; refine c4.out.mono ?_; rintro r w1 ⟨rfl, p4, p5, p6, HB⟩))
      go_ret
      exact ⟨by simp [eBad], al _ _⟩
    cases t2
    · go_enter Try.func59, Try.ntmps59
      go_wp2_with (first
        | (go_at_call 42; (with_reducible first | refine (c1.out _).mono ?_ | refine (c2.out _).mono ?_ | refine (c3.out _).mono ?_ | refine (c5.out _).mono ?_ | refine (c6.out _).mono ?_); rintro r w1 ⟨rfl, hw⟩; subst w1)
        | (go_at_call 75; refine c4.out.mono ?_; rintro r w1 ⟨rfl, p4, p5, p6, HB⟩))
      go_ret
      exact ⟨by simp [eBad], al _ _⟩
    cases t3
    · go_enter Try.func59, Try.ntmps59
      go_wp2_with (first
        | (go_at_call 42; (with_reducible first | refine (c1.out _).mono ?_ | refine (c2.out _).mono ?_ | refine (c3.out _).mono ?_ | refine (c5.out _).mono ?_ | refine (c6.out _).mono ?_); rintro r w1 ⟨rfl, hw⟩; subst w1)
        | (go_at_call 75; refine c4.out.mono ?_; rintro r w1 ⟨rfl, p4, p5, p6, HB⟩))
      go_ret
      exact ⟨by simp [eBad], al _ _⟩
    cases t4
    · go_enter Try.func59, Try.ntmps59
      go_wp2_with (first
        | (go_at_call 42; (with_reducible first | refine (c1.out _).mono ?_ | refine (c2.out _).mono ?_ | refine (c3.out _).mono ?_ | refine (c5.out _).mono ?_ | refine (c6.out _).mono ?_); rintro r w1 ⟨rfl, hw⟩; subst w1)
        | (go_at_call 75; refine c4.out.mono ?_; rintro r w1 ⟨rfl, p4, p5, p6, HB⟩))
      go_ret
      exact ⟨by simp [eBad], HB.out⟩
    cases t5
    · go_enter Try.func59, Try.ntmps59
      go_wp2_with (first
        | (go_at_call 42; (with_reducible first | refine (c1.out _).mono ?_ | refine (c2.out _).mono ?_ | refine (c3.out _).mono ?_ | refine (c5.out _).mono ?_ | refine (c6.out _).mono ?_); rintro r w1 ⟨rfl, hw⟩; subst w1)
        | (go_at_call 75; refine c4.out.mono ?_; rintro r w1 ⟨rfl, p4, p5, p6, HB⟩))
      go_ret
      exact ⟨by simp [eBad], HB.out⟩
    cases t6
    · go_enter Try.func59, Try.ntmps59
      go_wp2_with (first
        | (go_at_call 42; (with_reducible first | refine (c1.out _).mono ?_ | refine (c2.out _).mono ?_ | refine (c3.out _).mono ?_ | refine (c5.out _).mono ?_ | refine (c6.out _).mono ?_); rintro r w1 ⟨rfl, hw⟩; subst w1)
        | (go_at_call 75; refine c4.out.mono ?_; rintro r w1 ⟨rfl, p4, p5, p6, HB⟩))
      go_ret
      exact ⟨by simp [eBad], HB.out⟩
    · go_enter Try.func59, Try.ntmps59
      go_wp2_with (first
        | (go_at_call 42; (with_reducible first | refine (c1.out _).mono ?_ | refine (c2.out _).mono ?_ | refine (c3.out _).mono ?_ | refine (c5.out _).mono ?_ | refine (c6.out _).mono ?_); rintro r w1 ⟨rfl, hw⟩; subst w1)
        | (go_at_call 75; refine c4.out.mono ?_; rintro r w1 ⟨rfl, p4, p5, p6, HB⟩))
      go_ret
      exact ⟨by simp [eBad], HB.out⟩
  · cases t1
    · go_enter Try.func59, Try.ntmps59
      go_wp2_with (first
        | (go_at_call 42; (with_reducible first | refine (c1.out _).mono ?_ | refine (c2.out _).mono ?_ | refine (c3.out _).mono ?_ | refine (c5.out _).mono ?_ | refine (c6.out _).mono ?_); rintro r w1 ⟨rfl, hw⟩; subst w1)
        | (go_at_call 75; refine c4.out.mono ?_; rintro r w1 ⟨rfl, p4, p5, p6, HB⟩))
      go_ret
      exact ⟨by simp [eBad], al _ _⟩
    cases t2
    · go_enter Try.func59, Try.ntmps59
      go_wp2_with (first
        | (go_at_call 42; (with_reducible first | refine (c1.out _).mono ?_ | refine (c2.out _).mono ?_ | refine (c3.out _).mono ?_ | refine (c5.out _).mono ?_ | refine (c6.out _).mono ?_); rintro r w1 ⟨rfl, hw⟩; subst w1)
        | (go_at_call 75; refine c4.out.mono ?_; rintro r w1 ⟨rfl, p4, p5, p6, HB⟩))
      go_ret
      exact ⟨by simp [eBad], al _ _⟩
    cases t3
    · go_enter Try.func59, Try.ntmps59
      go_wp2_with (first
        | (go_at_call 42; (with_reducible first | refine (c1.out _).mono ?_ | refine (c2.out _).mono ?_ | refine (c3.out _).mono ?_ | refine (c5.out _).mono ?_ | refine (c6.out _).mono ?_); rintro r w1 ⟨rfl, hw⟩; subst w1)
        | (go_at_call 75; refine c4.out.mono ?_; rintro r w1 ⟨rfl, p4, p5, p6, HB⟩))
      go_ret
      exact ⟨by simp [eBad], al _ _⟩
    cases t4
    · go_enter Try.func59, Try.ntmps59
      go_wp2_with (first
        | (go_at_call 42; (with_reducible first | refine (c1.out _).mono ?_ | refine (c2.out _).mono ?_ | refine (c3.out _).mono ?_ | refine (c5.out _).mono ?_ | refine (c6.out _).mono ?_); rintro r w1 ⟨rfl, hw⟩; subst w1)
        | (go_at_call 75; refine c4.out.mono ?_; rintro r w1 ⟨rfl, p4, p5, p6, HB⟩))
      go_ret
      exact ⟨by simp [eBad], HB.out⟩
    cases t5
    · go_enter Try.func59, Try.ntmps59
      go_wp2_with (first
        | (go_at_call 42; (with_reducible first | refine (c1.out _).mono ?_ | refine (c2.out _).mono ?_ | refine (c3.out _).mono ?_ | refine (c5.out _).mono ?_ | refine (c6.out _).mono ?_); rintro r w1 ⟨rfl, hw⟩; subst w1)
        | (go_at_call 75; refine c4.out.mono ?_; rintro r w1 ⟨rfl, p4, p5, p6, HB⟩))
      go_ret
      exact ⟨by simp [eBad], HB.out⟩
    cases t6
    · go_enter Try.func59, Try.ntmps59
      go_wp2_with (first
        | (go_at_call 42; (with_reducible first | refine (c1.out _).mono ?_ | refine (c2.out _).mono ?_ | refine (c3.out _).mono ?_ | refine (c5.out _).mono ?_ | refine (c6.out _).mono ?_); rintro r w1 ⟨rfl, hw⟩; subst w1)
        | (go_at_call 75; refine c4.out.mono ?_; rintro r w1 ⟨rfl, p4, p5, p6, HB⟩))
      go_ret
      exact ⟨by simp [eBad], HB.out⟩
    · go_enter Try.func59, Try.ntmps59
      go_wp2_with (first
        | (go_at_call 42; (with_reducible first | refine (c1.out _).mono ?_ | refine (c2.out _).mono ?_ | refine (c3.out _).mono ?_ | refine (c5.out _).mono ?_ | refine (c6.out _).mono ?_); rintro r w1 ⟨rfl, hw⟩; subst w1)
        | (go_at_call 75; refine c4.out.mono ?_; rintro r w1 ⟨rfl, p4, p5, p6, HB⟩))
      go_ret
      exact ⟨by simp [eBad], HB.out⟩
  · go_enter Try.func59, Try.ntmps59
    go_wp2_with (first
      | (go_at_call 42; (with_reducible first | refine (c1.out _).mono ?_ | refine (c2.out _).mono ?_ | refine (c3.out _).mono ?_ | refine (c5.out _).mono ?_ | refine (c6.out _).mono ?_); rintro r w1 ⟨rfl, hw⟩; subst w1)
      | (go_at_call 75; refine c4.out.mono ?_; rintro r w1 ⟨rfl, p4, p5, p6, HB⟩))
    go_ret
    exact ⟨by simp [eBad], al _ _⟩
  · cases t1
    · go_enter Try.func59, Try.ntmps59
      go_wp2_with (first
        | (go_at_call 42; (with_reducible first | refine (c1.out _).mono ?_ | refine (c2.out _).mono ?_ | refine (c3.out _).mono ?_ | refine (c5.out _).mono ?_ | refine (c6.out _).mono ?_); rintro r w1 ⟨rfl, hw⟩; subst w1)
        | (go_at_call 75; refine c4.out.mono ?_; rintro r w1 ⟨rfl, p4, p5, p6, HB⟩))
      go_ret
      exact ⟨by simp [eBad], al _ _⟩
    cases t2
    · go_enter Try.func59, Try.ntmps59
      go_wp2_with (first
        | (go_at_call 42; (with_reducible first | refine (c1.out _).mono ?_ | refine (c2.out _).mono ?_ | refine (c3.out _).mono ?_ | refine (c5.out _).mono ?_ | refine (c6.out _).mono ?_); rintro r w1 ⟨rfl, hw⟩; subst w1)
        | (go_at_call 75; refine c4.out.mono ?_; rintro r w1 ⟨rfl, p4, p5, p6, HB⟩))
      go_ret
      exact ⟨by simp [eBad], al _ _⟩
    cases t3
    · go_enter Try.func59, Try.ntmps59
      go_wp2_with (first
        | (go_at_call 42; (with_reducible first | refine (c1.out _).mono ?_ | refine (c2.out _).mono ?_ | refine (c3.out _).mono ?_ | refine (c5.out _).mono ?_ | refine (c6.out _).mono ?_); rintro r w1 ⟨rfl, hw⟩; subst w1)
        | (go_at_call 75; refine c4.out.mono ?_; rintro r w1 ⟨rfl, p4, p5, p6, HB⟩))
      go_ret
      exact ⟨by simp [eBad], al _ _⟩
    cases t4
    · go_enter Try.func59, Try.ntmps59
      go_wp2_with (first
        | (go_at_call 42; (with_reducible first | refine (c1.out _).mono ?_ | refine (c2.out _).mono ?_ | refine (c3.out _).mono ?_ | refine (c5.out _).mono ?_ | refine (c6.out _).mono ?_); rintro r w1 ⟨rfl, hw⟩; subst w1)
        | (go_at_call 75; refine c4.out.mono ?_; rintro r w1 ⟨rfl, p4, p5, p6, HB⟩))
      go_ret
      exact ⟨by simp [eBad], HB.out⟩
    cases t5
    · go_enter Try.func59, Try.ntmps59
      go_wp2_with (first
        | (go_at_call 42; (with_reducible first | refine (c1.out _).mono ?_ | refine (c2.out _).mono ?_ | refine (c3.out _).mono ?_ | refine (c5.out _).mono ?_ | refine (c6.out _).mono ?_); rintro r w1 ⟨rfl, hw⟩; subst w1)
        | (go_at_call 75; refine c4.out.mono ?_; rintro r w1 ⟨rfl, p4, p5, p6, HB⟩))
      go_ret
      exact ⟨by simp [eBad], HB.out⟩
    cases t6
    · go_enter Try.func59, Try.ntmps59
      go_wp2_with (first
        | (go_at_call 42; (with_reducible first | refine (c1.out _).mono ?_ | refine (c2.out _).mono ?_ | refine (c3.out _).mono ?_ | refine (c5.out _).mono ?_ | refine (c6.out _).mono ?_); rintro r w1 ⟨rfl, hw⟩; subst w1)
        | (go_at_call 75; refine c4.out.mono ?_; rintro r w1 ⟨rfl, p4, p5, p6, HB⟩))
      go_ret
      exact ⟨by simp [eBad], HB.out⟩
    · go_enter Try.func59, Try.ntmps59
      go_wp2_with (first
        | (go_at_call 42; (with_reducible first | refine (c1.out _).mono ?_ | refine (c2.out _).mono ?_ | refine (c3.out _).mono ?_ | refine (c5.out _).mono ?_ | refine (c6.out _).mono ?_); rintro r w1 ⟨rfl, hw⟩; subst w1)
        | (go_at_call 75; refine c4.out.mono ?_; rintro r w1 ⟨rfl, p4, p5, p6, HB⟩))
      go_ret
      exact ⟨by simp [eBad], HB.out⟩
  · go_enter Try.func59, Try.ntmps59
    go_wp2_with (first
      | (go_at_call 42; (with_reducible first | refine (c1.out _).mono ?_ | refine (c2.out _).mono ?_ | refine (c3.out _).mono ?_ | refine (c5.out _).mono ?_ | refine (c6.out _).mono ?_); rintro r w1 ⟨rfl, hw⟩; subst w1)
      | (go_at_call 75; refine c4.out.mono ?_; rintro r w1 ⟨rfl, p4, p5, p6, HB⟩))
    go_ret
    exact ⟨by simp [eBad], al _ _⟩
  · go_enter Try.func59, Try.ntmps59
    go_wp2_with (first
      | (go_at_call 42; (with_reducible first | refine (c1.out _).mono ?_ | refine (c2.out _).mono ?_ | refine (c3.out _).mono ?_ | refine (c5.out _).mono ?_ | refine (c6.out _).mono ?_); rintro r w1 ⟨rfl, hw⟩; subst w1)
      | (go_at_call 75; refine c4.out.mono ?_; rintro r w1 ⟨rfl, p4, p5, p6, HB⟩))
    go_ret
    exact ⟨by simp [eBad], al _ _⟩
  · go_enter Try.func59, Try.ntmps59
    go_wp2_with (first
      | (go_at_call 42; (with_reducible first | refine (c1.out _).mono ?_ | refine (c2.out _).mono ?_ | refine (c3.out _).mono ?_ | refine (c5.out _).mono ?_ | refine (c6.out _).mono ?_); rintro r w1 ⟨rfl, hw⟩; subst w1)
      | (go_at_call 75; refine c4.out.mono ?_; rintro r w1 ⟨rfl, p4, p5, p6, HB⟩))
    go_ret
    exact ⟨by simp [eBad], al _ _⟩

set_option maxHeartbeats 16000000 in
theorem rentry_any {w : World} {F : Nat → Prop} {e : Ent} (h : EAt w F e) : Calls Try.prog 51 #[vE e] w fun r w' => r = .returned (.bool (bz (okE e))) ∧ Below w.heap.size w w' := by
  obtain ⟨cb, sb, t1, t2, t3, t4, t5, t6, z, ⟨hcb, hsb, C1, C2, C3, hz, C4, C5, C6⟩, HT⟩ := efacts (wi := 44) (ck := 49) (w := w) (fun n lo hi W => rwithin_any n lo hi W) (rncheck_any e.nm h)
  rw [HT]
  obtain ⟨seq, cl, ks, nm, code, gone, sz⟩ := e
  unfold vE
  dsimp only at *
  clear h HT
  have c1 := hid C1
  have c2 := hid C2
  have c3 := hid C3
  have c4 := hid C4
  have c5 := hid C5
  have c6 := hid C6
  clear C1 C2 C3 C4 C5 C6
  cases t1
  · go_enter Try.func51, Try.ntmps51
    go_wp2_with (first
      | (go_at_call 44; (with_reducible first | refine (c1.out _).mono ?_ | refine (c2.out _).mono ?_ | refine (c3.out _).mono ?_ | refine (c5.out _).mono ?_ | refine (c6.out _).mono ?_); rintro r w1 ⟨rfl, hw⟩; subst w1)
      | (go_at_call 49; refine c4.out.mono ?_; rintro r w1 ⟨rfl, p4, p5, p6, HB⟩))
    go_ret
    exact ⟨by simp [eBad], al _ _⟩
  cases t2
  · go_enter Try.func51, Try.ntmps51
    go_wp2_with (first
      | (go_at_call 44; (with_reducible first | refine (c1.out _).mono ?_ | refine (c2.out _).mono ?_ | refine (c3.out _).mono ?_ | refine (c5.out _).mono ?_ | refine (c6.out _).mono ?_); rintro r w1 ⟨rfl, hw⟩; subst w1)
      | (go_at_call 49; refine c4.out.mono ?_; rintro r w1 ⟨rfl, p4, p5, p6, HB⟩))
    go_ret
    exact ⟨by simp [eBad], al _ _⟩
  cases t3
  · go_enter Try.func51, Try.ntmps51
    go_wp2_with (first
      | (go_at_call 44; (with_reducible first | refine (c1.out _).mono ?_ | refine (c2.out _).mono ?_ | refine (c3.out _).mono ?_ | refine (c5.out _).mono ?_ | refine (c6.out _).mono ?_); rintro r w1 ⟨rfl, hw⟩; subst w1)
      | (go_at_call 49; refine c4.out.mono ?_; rintro r w1 ⟨rfl, p4, p5, p6, HB⟩))
    go_ret
    exact ⟨by simp [eBad], al _ _⟩
  cases t4
  · go_enter Try.func51, Try.ntmps51
    go_wp2_with (first
      | (go_at_call 44; (with_reducible first | refine (c1.out _).mono ?_ | refine (c2.out _).mono ?_ | refine (c3.out _).mono ?_ | refine (c5.out _).mono ?_ | refine (c6.out _).mono ?_); rintro r w1 ⟨rfl, hw⟩; subst w1)
      | (go_at_call 49; refine c4.out.mono ?_; rintro r w1 ⟨rfl, p4, p5, p6, HB⟩))
    go_ret
    exact ⟨by simp [eBad], HB.out⟩
  cases cb <;> cases gone <;> cases sb
  · cases t5
    · go_enter Try.func51, Try.ntmps51
      go_wp2_with (first
        | (go_at_call 44; (with_reducible first | refine (c1.out _).mono ?_ | refine (c2.out _).mono ?_ | refine (c3.out _).mono ?_ | refine (c5.out _).mono ?_ | refine (c6.out _).mono ?_); rintro r w1 ⟨rfl, hw⟩; subst w1)
        | (go_at_call 49; refine c4.out.mono ?_; rintro r w1 ⟨rfl, p4, p5, p6, HB⟩))
      go_ret
      exact ⟨by simp [eBad], HB.out⟩
    cases t6
    · go_enter Try.func51, Try.ntmps51
      go_wp2_with (first
        | (go_at_call 44; (with_reducible first | refine (c1.out _).mono ?_ | refine (c2.out _).mono ?_ | refine (c3.out _).mono ?_ | refine (c5.out _).mono ?_ | refine (c6.out _).mono ?_); rintro r w1 ⟨rfl, hw⟩; subst w1)
        | (go_at_call 49; refine c4.out.mono ?_; rintro r w1 ⟨rfl, p4, p5, p6, HB⟩))
      go_ret
      exact ⟨by simp [eBad], HB.out⟩
    · go_enter Try.func51, Try.ntmps51
      go_wp2_with (first
        | (go_at_call 44; (with_reducible first | refine (c1.out _).mono ?_ | refine (c2.out _).mono ?_ | refine (c3.out _).mono ?_ | refine (c5.out _).mono ?_ | refine (c6.out _).mono ?_); rintro r w1 ⟨rfl, hw⟩; subst w1)
        | (go_at_call 49; refine c4.out.mono ?_; rintro r w1 ⟨rfl, p4, p5, p6, HB⟩))
      go_ret
      exact ⟨by simp [eBad], HB.out⟩
  · cases t5
    · go_enter Try.func51, Try.ntmps51
      go_wp2_with (first
        | (go_at_call 44; (with_reducible first | refine (c1.out _).mono ?_ | refine (c2.out _).mono ?_ | refine (c3.out _).mono ?_ | refine (c5.out _).mono ?_ | refine (c6.out _).mono ?_); rintro r w1 ⟨rfl, hw⟩; subst w1)
        | (go_at_call 49; refine c4.out.mono ?_; rintro r w1 ⟨rfl, p4, p5, p6, HB⟩))
      go_ret
      exact ⟨by simp [eBad], HB.out⟩
    cases t6
    · go_enter Try.func51, Try.ntmps51
      go_wp2_with (first
        | (go_at_call 44; (with_reducible first | refine (c1.out _).mono ?_ | refine (c2.out _).mono ?_ | refine (c3.out _).mono ?_ | refine (c5.out _).mono ?_ | refine (c6.out _).mono ?_); rintro r w1 ⟨rfl, hw⟩; subst w1)
        | (go_at_call 49; refine c4.out.mono ?_; rintro r w1 ⟨rfl, p4, p5, p6, HB⟩))
      go_ret
      exact ⟨by simp [eBad], HB.out⟩
    · go_enter Try.func51, Try.ntmps51
      go_wp2_with (first
        | (go_at_call 44; (with_reducible first | refine (c1.out _).mono ?_ | refine (c2.out _).mono ?_ | refine (c3.out _).mono ?_ | refine (c5.out _).mono ?_ | refine (c6.out _).mono ?_); rintro r w1 ⟨rfl, hw⟩; subst w1)
        | (go_at_call 49; refine c4.out.mono ?_; rintro r w1 ⟨rfl, p4, p5, p6, HB⟩))
      go_ret
      exact ⟨by simp [eBad], HB.out⟩
  · cases t5
    · go_enter Try.func51, Try.ntmps51
      go_wp2_with (first
        | (go_at_call 44; (with_reducible first | refine (c1.out _).mono ?_ | refine (c2.out _).mono ?_ | refine (c3.out _).mono ?_ | refine (c5.out _).mono ?_ | refine (c6.out _).mono ?_); rintro r w1 ⟨rfl, hw⟩; subst w1)
        | (go_at_call 49; refine c4.out.mono ?_; rintro r w1 ⟨rfl, p4, p5, p6, HB⟩))
      go_ret
      exact ⟨by simp [eBad], HB.out⟩
    cases t6
    · go_enter Try.func51, Try.ntmps51
      go_wp2_with (first
        | (go_at_call 44; (with_reducible first | refine (c1.out _).mono ?_ | refine (c2.out _).mono ?_ | refine (c3.out _).mono ?_ | refine (c5.out _).mono ?_ | refine (c6.out _).mono ?_); rintro r w1 ⟨rfl, hw⟩; subst w1)
        | (go_at_call 49; refine c4.out.mono ?_; rintro r w1 ⟨rfl, p4, p5, p6, HB⟩))
      go_ret
      exact ⟨by simp [eBad], HB.out⟩
    · go_enter Try.func51, Try.ntmps51
      go_wp2_with (first
        | (go_at_call 44; (with_reducible first | refine (c1.out _).mono ?_ | refine (c2.out _).mono ?_ | refine (c3.out _).mono ?_ | refine (c5.out _).mono ?_ | refine (c6.out _).mono ?_); rintro r w1 ⟨rfl, hw⟩; subst w1)
        | (go_at_call 49; refine c4.out.mono ?_; rintro r w1 ⟨rfl, p4, p5, p6, HB⟩))
      go_ret
      exact ⟨by simp [eBad], HB.out⟩
  · go_enter Try.func51, Try.ntmps51
    go_wp2_with (first
      | (go_at_call 44; (with_reducible first | refine (c1.out _).mono ?_ | refine (c2.out _).mono ?_ | refine (c3.out _).mono ?_ | refine (c5.out _).mono ?_ | refine (c6.out _).mono ?_); rintro r w1 ⟨rfl, hw⟩; subst w1)
      | (go_at_call 49; refine c4.out.mono ?_; rintro r w1 ⟨rfl, p4, p5, p6, HB⟩))
    go_ret
    exact ⟨by simp [eBad], HB.out⟩
  · cases t5
    · go_enter Try.func51, Try.ntmps51
      go_wp2_with (first
        | (go_at_call 44; (with_reducible first | refine (c1.out _).mono ?_ | refine (c2.out _).mono ?_ | refine (c3.out _).mono ?_ | refine (c5.out _).mono ?_ | refine (c6.out _).mono ?_); rintro r w1 ⟨rfl, hw⟩; subst w1)
        | (go_at_call 49; refine c4.out.mono ?_; rintro r w1 ⟨rfl, p4, p5, p6, HB⟩))
      go_ret
      exact ⟨by simp [eBad], HB.out⟩
    cases t6
    · go_enter Try.func51, Try.ntmps51
      go_wp2_with (first
        | (go_at_call 44; (with_reducible first | refine (c1.out _).mono ?_ | refine (c2.out _).mono ?_ | refine (c3.out _).mono ?_ | refine (c5.out _).mono ?_ | refine (c6.out _).mono ?_); rintro r w1 ⟨rfl, hw⟩; subst w1)
        | (go_at_call 49; refine c4.out.mono ?_; rintro r w1 ⟨rfl, p4, p5, p6, HB⟩))
      go_ret
      exact ⟨by simp [eBad], HB.out⟩
    · go_enter Try.func51, Try.ntmps51
      go_wp2_with (first
        | (go_at_call 44; (with_reducible first | refine (c1.out _).mono ?_ | refine (c2.out _).mono ?_ | refine (c3.out _).mono ?_ | refine (c5.out _).mono ?_ | refine (c6.out _).mono ?_); rintro r w1 ⟨rfl, hw⟩; subst w1)
        | (go_at_call 49; refine c4.out.mono ?_; rintro r w1 ⟨rfl, p4, p5, p6, HB⟩))
      go_ret
      exact ⟨by simp [eBad], HB.out⟩
  · go_enter Try.func51, Try.ntmps51
    go_wp2_with (first
      | (go_at_call 44; (with_reducible first | refine (c1.out _).mono ?_ | refine (c2.out _).mono ?_ | refine (c3.out _).mono ?_ | refine (c5.out _).mono ?_ | refine (c6.out _).mono ?_); rintro r w1 ⟨rfl, hw⟩; subst w1)
      | (go_at_call 49; refine c4.out.mono ?_; rintro r w1 ⟨rfl, p4, p5, p6, HB⟩))
    go_ret
    exact ⟨by simp [eBad], HB.out⟩
  · go_enter Try.func51, Try.ntmps51
    go_wp2_with (first
      | (go_at_call 44; (with_reducible first | refine (c1.out _).mono ?_ | refine (c2.out _).mono ?_ | refine (c3.out _).mono ?_ | refine (c5.out _).mono ?_ | refine (c6.out _).mono ?_); rintro r w1 ⟨rfl, hw⟩; subst w1)
      | (go_at_call 49; refine c4.out.mono ?_; rintro r w1 ⟨rfl, p4, p5, p6, HB⟩))
    go_ret
    exact ⟨by simp [eBad], HB.out⟩
  · go_enter Try.func51, Try.ntmps51
    go_wp2_with (first
      | (go_at_call 44; (with_reducible first | refine (c1.out _).mono ?_ | refine (c2.out _).mono ?_ | refine (c3.out _).mono ?_ | refine (c5.out _).mono ?_ | refine (c6.out _).mono ?_); rintro r w1 ⟨rfl, hw⟩; subst w1)
      | (go_at_call 49; refine c4.out.mono ?_; rintro r w1 ⟨rfl, p4, p5, p6, HB⟩))
    go_ret
    exact ⟨by simp [eBad], HB.out⟩

end Go.Proofs.Ytnfflmndejbepaa.Sh

/-
  What open, Len, Gen, Room, Sync and Get of a journal do: contracts over plain numbers ('JoPlain').
  Conditions: the journal is one that Open gave ('Jn'), or nobody's.
-/
import Derived.Test.YthfpljfndnjcnaaJoParts
import Derived.Test.YthfpljfndnjcnaaDkNobody
namespace Go.Proofs.Ythfpljfndnjcnaa
open Go.RowKit By Dk Su Jo
set_option linter.unusedVariables false
set_option linter.unusedSimpArgs false

theorem jopen_any (jp : Nat) (p : Addr) (w : World) (h : w.cell? ⟨jp, 0, none⟩ = some (.pointer (some p))) :
    Calls Try.prog 32 #[.pointer (some ⟨jp, 0, none⟩)] w fun e w' => e = .returned (.bool true) ∧ w' = w := by
  go_enter Try.func32, Try.ntmps32
  go_wp2_with fail
  go_ret
  exact ⟨rfl, rfl⟩

theorem jopen_zero (jp : Nat) (w : World) (h : w.cell? ⟨jp, 0, none⟩ = some (.pointer none)) :
    Calls Try.prog 32 #[.pointer (some ⟨jp, 0, none⟩)] w fun e w' => e = .returned (.bool false) ∧ w' = w := by
  go_enter Try.func32, Try.ntmps32
  go_wp2_with fail
  go_ret
  exact ⟨rfl, rfl⟩

theorem jopen_nil (w : World) : Calls Try.prog 32 #[.pointer none] w fun e w' => e = .returned (.bool false) ∧ w' = w := by
  go_enter Try.func32, Try.ntmps32
  go_wp2_with fail
  go_ret
  exact ⟨rfl, rfl⟩

/- Nobody's journal: open tells false. -/
def Shut0 (v : Value) (w : World) : Prop := Calls Try.prog 32 #[v] w fun e w' => e = .returned (.bool false) ∧ w' = w

theorem len_no (v : Value) (w : World) (h : Shut0 v w) : Calls Try.prog 23 #[v] w fun e w' => e = .returned (.int .i64 0) ∧ w' = w := by
  unfold Shut0 at h
  go_enter Try.func23, Try.ntmps23
  go_wp2_with ((go_at_call 32; refine h.mono ?_; rintro e w' ⟨rfl, hw⟩; subst w'; clear h))
  go_ret
  exact ⟨rfl, rfl⟩

theorem gen_no (v : Value) (w : World) (h : Shut0 v w) : Calls Try.prog 17 #[v] w fun e w' => e = .returned (.int .i64 0) ∧ w' = w := by
  unfold Shut0 at h
  go_enter Try.func17, Try.ntmps17
  go_wp2_with ((go_at_call 32; refine h.mono ?_; rintro e w' ⟨rfl, hw⟩; subst w'; clear h))
  go_ret
  exact ⟨rfl, rfl⟩

theorem room_no (v : Value) (w : World) (h : Shut0 v w) : Calls Try.prog 21 #[v] w fun e w' => e = .returned (.int .i64 (-1)) ∧ w' = w := by
  unfold Shut0 at h
  go_enter Try.func21, Try.ntmps21
  go_wp2_with ((go_at_call 32; refine h.mono ?_; rintro e w' ⟨rfl, hw⟩; subst w'; clear h))
  go_ret
  exact ⟨rfl, rfl⟩

theorem sync_no (v : Value) (w : World) (h : Shut0 v w) : Calls Try.prog 11 #[v] w fun e w' => e = .returned (.tuple #[]) ∧ w' = w := by
  unfold Shut0 at h
  go_enter Try.func11, Try.ntmps11
  go_wp2_with ((go_at_call 32; refine h.mono ?_; rintro e w' ⟨rfl, hw⟩; subst w'; clear h))
  refine bodyPost_end (results_none rfl _ _ _) rfl ?_
  exact ⟨rfl, rfl⟩

theorem put_no (v : Value) (x : Option Addr) (l c : Nat) (w : World) (h : Shut0 v w) : Calls Try.prog 22 #[v, .slice x l c] w fun e w' => e = .returned (.int .i64 1) ∧ w' = w := by
  unfold Shut0 at h
  go_enter Try.func22, Try.ntmps22
  go_wp2_with ((go_at_call 32; refine h.mono ?_; rintro e w' ⟨rfl, hw⟩; subst w'; clear h))
  go_ret
  exact ⟨rfl, rfl⟩

theorem get_no (v : Value) (m : Nat) (z : Int) (w : World) (h : Calls Try.prog 23 #[v] w fun e w' => e = .returned (.int .i64 (m : Int)) ∧ w' = w) (hz : 0 ≤ z) (hm : (m : Int) ≤ z) : Calls Try.prog 27 #[v, .int .i64 z] w fun e w' => e = .returned (.tuple #[.slice none 0 0, .bool false]) ∧ w' = w := by
  have hz' : ¬ z < 0 := by omega
  go_enter Try.func27, Try.ntmps27
  go_wp2_with ((go_at_call 23; refine h.mono ?_; rintro e w' ⟨rfl, hw⟩; subst w'; clear h))
  go_ret2
  exact ⟨rfl, rfl⟩

section
variable {w : World} {B jp p g u m : Nat} {R : Value} {A : Nat → Option Addr} {ln C : Nat → Nat} {ft : Nat → Nat → Nat}

theorem Jn.len (h : Jn w B jp p g u R m A ln C ft) : Calls Try.prog 23 #[.pointer (some ⟨jp, 0, none⟩)] w fun e w' => e = .returned (.int .i64 (m : Int)) ∧ w' = w := by
  have ho := jopen_any jp _ w h.c0
  obtain ⟨x, c, rfl, _⟩ := h.own.form
  have c2 := h.c2
  clear h
  go_enter Try.func23, Try.ntmps23
  go_wp2_with ((go_at_call 32; refine ho.mono ?_; rintro e w' ⟨rfl, hw⟩; subst w'; clear ho))
  go_ret
  exact ⟨rfl, rfl⟩

theorem Jn.gen (h : Jn w B jp p g u R m A ln C ft) : Calls Try.prog 17 #[.pointer (some ⟨jp, 0, none⟩)] w fun e w' => e = .returned (.int .i64 (g : Int)) ∧ w' = w := by
  have ho := jopen_any jp _ w h.c0
  have c1 := h.c1
  clear h
  go_enter Try.func17, Try.ntmps17
  go_wp2_with ((go_at_call 32; refine ho.mono ?_; rintro e w' ⟨rfl, hw⟩; subst w'; clear ho))
  go_ret
  exact ⟨rfl, rfl⟩

/- The i-th record: a copy in new memory. -/
theorem Jn.get (h : Jn w B jp p g u R m A ln C ft) (i : Nat) (z : Int) (hz : z = (i : Int)) (hi : i < m) :
    Calls Try.prog 27 #[.pointer (some ⟨jp, 0, none⟩), .int .i64 z] w fun e w' => ∃ y cy, e = .returned (.tuple #[.slice y (ln i) cy, .bool true]) ∧ Below w.heap.size w w' ∧ Elt w' y (ln i) cy (ft i) ∧ ∀ ad, y = some ad → w.heap.size ≤ ad.block := by
  subst hz
  have hlen := h.len
  have he := h.own.elt i hi
  have hcl := clone_full (A i) (ln i) (C i) (ft i) w he.row (by have := he.sm; omega) he.nil
  have HE := hid he
  obtain ⟨x, c, rfl, _, _, hc⟩ := h.own.form
  obtain ⟨q, rfl, hq⟩ := hc i hi
  have c2 := h.c2
  have hi' : (i : Int) < (m : Int) := by omega
  have hi2 : ¬ (m : Int) ≤ (i : Int) := by omega
  clear h hc he
  generalize A i = Ai at *
  generalize ln i = Li at *
  generalize C i = Ci at *
  go_enter Try.func27, Try.ntmps27
  go_wp2_with (first
    | (go_at_call 23; refine hlen.mono ?_; rintro e w' ⟨rfl, hw⟩; subst w'; clear hlen)
    | (go_at_call 42; refine hcl.mono ?_; rintro e w2 ⟨y, cy, rfl, hb2, hr2, hle, hnil, had⟩; clear hcl
       have HB := hid (And.intro hb2 (And.intro hr2 (And.intro hle (And.intro hnil had))))
       clear hb2 hr2 hle hnil had))
  go_ret2
  obtain ⟨hb2, hr2, hle, hnil, had⟩ := HB.out
  exact ⟨y, cy, rfl, hb2, ⟨hr2, hnil, hle, HE.out.sm, HE.out.lt, fun ad e => (had ad e).2⟩, fun ad e => (had ad e).1⟩

/- Room. -/
def roomZ (n u : Nat) : Int := if n = u then -1 else ((min (n - u) 255 * 51 : Nat) : Int)

set_option maxHeartbeats 1000000 in
theorem Jn.room {F : Nat → Prop} {n mm : Nat} {f Aw : Nat → Nat} {D : Nat → Nat → Nat} (h : Jn w B jp p g u R m A ln C ft) (hd : Pd w F p n mm f Aw D) (hu : u ≤ n) :
    Calls Try.prog 21 #[.pointer (some ⟨jp, 0, none⟩)] w fun e w' => e = .returned (.int .i64 (roomZ n u)) ∧ ∃ k, w' = w.drewN k := by
  have ho := jopen_any jp _ w h.c0
  have hn2 := hd.n1.2
  have c0 := h.c0
  have c3 := h.c3
  have hsz : ∀ k, Calls Try.prog 28 #[.pointer (some ⟨p, 0, none⟩)] (w.drewN k) fun e w' => e = .returned (.int .i64 (n : Int)) ∧ w' = w.drewN k := fun k => (hd.drewN k).size
  obtain ⟨d, hdd⟩ : ∃ d, d = n - u := ⟨_, rfl⟩
  have hdi : (n : Int) - (u : Int) = (d : Int) := by omega
  have hd9 : d ≤ 4096 := by omega
  have hwr : IntKind.i64.wrap (d : Int) = (d : Int) := by rw [IntKind.wrap_i64]; omega
  have HRZ : Hid (roomZ n u = if d = 0 then -1 else ((min d 255 * 51 : Nat) : Int)) := by
    show roomZ n u = _
    unfold roomZ
    rw [hdd]
    by_cases e : n = u
    · rw [if_pos e, if_pos (by omega)]
    · rw [if_neg e, if_neg (by omega)]
  clear h hd hdd
  go_enter Try.func21, Try.ntmps21
  go_wp2_with (first
    | (go_at_call 32; refine ho.mono ?_; rintro e w' ⟨rfl, hw⟩; subst w'; clear ho))
  go_quiet ((go_at_call 28; exact Calls.quiet_of_same (hsz _)))
  by_cases h0 : d = 0
  · have hz : roomZ n u = -1 := by rw [HRZ.out, if_pos h0]
    have HZ := hid hz
    subst h0
    clear hz HRZ
    go_wp2_with fail
    go_ret
    refine ⟨?_, _, rfl⟩
    rw [HZ.out]
    rfl
  · have h0' : ((d : Int) == 0) = false := by rw [beq_eq_false_iff_ne]; omega
    by_cases h5 : d ≤ 255
    · have hz : roomZ n u = (d : Int) * 51 := by rw [HRZ.out, if_neg h0, Nat.min_eq_left h5]; omega
      have HZ := hid hz
      have h5' : (d : Int) ≤ 255 := by omega
      clear hz HRZ
      go_wp2_with fail
      go_ret
      refine ⟨?_, _, rfl⟩
      rw [HZ.out]
      rfl
    · have hz : roomZ n u = 13005 := by rw [HRZ.out, if_neg h0, Nat.min_eq_right (by omega)]; rfl
      have HZ := hid hz
      have h5' : ¬ (d : Int) ≤ 255 := by omega
      have h5'' : (255 : Int) < (d : Int) := by omega
      clear hz HRZ
      go_wp2_with fail
      go_ret
      refine ⟨?_, _, rfl⟩
      rw [HZ.out]
      rfl

theorem Jn.sync {F : Nat → Prop} {n mm : Nat} {f Aw : Nat → Nat} {D : Nat → Nat → Nat} {B0 : Nat} {w0 : World} (h : Jn w B jp p g u R m A ln C ft) (hd : Dsk B0 w0 w F p n mm f Aw D) :
    Calls Try.prog 11 #[.pointer (some ⟨jp, 0, none⟩)] w fun e w' => e = .returned (.tuple #[]) ∧ Turns F w w' ∧ Dsk B0 w0 w' F p n 0 (kept f Aw D (fun _ => true) mm) Aw D := by
  have ho := jopen_any jp _ w h.c0
  have c0 := h.c0
  have hf := dflush _ _ _ _ _ _ _ _ w0 w hd
  clear h hd
  go_enter Try.func11, Try.ntmps11
  go_wp2_with (first
    | (go_at_call 32; refine ho.mono ?_; rintro e w' ⟨rfl, hw⟩; subst w'; clear ho)
    | (go_at_call 33; refine hf.mono ?_; rintro e w1 ⟨rfl, t1, d1⟩; clear hf
       have HT := hid (And.intro t1 d1)
       clear t1 d1))
  refine bodyPost_end (results_none rfl _ _ _) rfl ?_
  exact ⟨rfl, HT.out⟩

end

end Go.Proofs.Ythfpljfndnjcnaa

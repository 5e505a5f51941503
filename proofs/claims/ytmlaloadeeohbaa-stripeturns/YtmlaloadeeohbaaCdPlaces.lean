/-
  What placesOf, picked, inverseOf of package code do, bytes.Equal and bytes.Clone, and the document's Same: contracts over plain numbers.
  Conditions: lists that are looked at lie in memory.
-/
import Derived.Test.YtmlaloadeeohbaaCdRefEnc
import Derived.Test.YtmlaloadeeohbaaMxWant
import Derived.Laws.AppendOwnNone
namespace Go.Proofs.Ytmlaloadeeohbaa
open Go.RowKit Gf
set_option linter.unusedVariables false
set_option linter.unusedSimpArgs false
set_option maxRecDepth 100000

/- Bytes as text. -/
theorem str_inj {f g : Nat → Nat} {n m : Nat} (hf : ∀ i, f i < 256) (hg : ∀ i, g i < 256) (h : strOfNums (nums f n) = strOfNums (nums g m)) : n = m ∧ ∀ i, i < n → f i = g i := by
  have h1 : (nums f n).map (fun n => UInt8.ofNat n.toNat) = (nums g m).map (fun n => UInt8.ofNat n.toNat) := by
    rw [← strOfNums_data, ← strOfNums_data, h]
  have hl : n = m := by
    have := congrArg List.length h1
    simpa [nums] using this
  subst hl
  refine ⟨rfl, fun i hi => ?_⟩
  have h2 := congrArg (fun l => l[i]?) h1
  simp only [nums, List.map_map, List.getElem?_map, List.getElem?_range hi, Option.map_some, Function.comp, Int.toNat_natCast] at h2
  injection h2 with h2
  have h3 := congrArg UInt8.toNat h2
  simp only [UInt8.toNat_ofNat'] at h3
  rwa [Nat.mod_eq_of_lt (hf i), Nat.mod_eq_of_lt (hg i)] at h3

theorem toList_inj {S T : ByteArray} (h : S.toList = T.toList) : S = T := by
  rw [ByteArray.toList_eq, ByteArray.toList_eq] at h
  exact Go.WideShapes.bytes_inj h

theorem str_congr {f g : Nat → Nat} {n : Nat} (h : ∀ i, i < n → f i = g i) : strOfNums (nums f n) = strOfNums (nums g n) := by
  have : nums f n = nums g n := List.map_congr_left (fun i hi => by rw [h i (List.mem_range.1 hi)])
  rw [this]

def SameN (n1 n2 : Nat) (L1 L2 : Nat → Nat) (f g : Nat → Nat → Nat) : Prop := n1 = n2 ∧ ∀ r, r < n1 → L1 r = L2 r ∧ ∀ j, j < L1 r → f r j = g r j

theorem same_len (x y : Option Addr) (n1 n2 c1 c2 : Nat) (w : World) (h : n1 ≠ n2) :
    Calls Try.prog 14 #[.slice x n1 c1, .slice y n2 c2] w fun e w' => e = .returned (.bool false) ∧ ∃ m, w' = w.drewN m := by
  have g : ((n1 : Int) != (n2 : Int)) = true := by simp; omega
  clear h
  go_enter Try.func14, Try.ntmps14
  go_wp2_with fail
  go_ret
  exact ⟨rfl, 0, rfl⟩

set_option maxHeartbeats 1000000 in
set_option maxRecDepth 100000 in
theorem same_tops (b1 o1 b2 o2 n c1 c2 : Nat) (t : Bool) (A1 A2 : Nat → Option Addr) (L1 L2 C1 C2 : Nat → Nat) (f g : Nat → Nat → Nat) (w : World) (hn : n ≤ 1000)
    (h1 : IsGrid w (some ⟨b1, o1, none⟩) n A1 L1 C1 f) (h2 : IsGrid w (some ⟨b2, o2, none⟩) n A2 L2 C2 g) (hy : SameN n n L1 L2 f g → t = true) (hx : ∀ r, r < n → ¬ (L1 r = L2 r ∧ ∀ j, j < L1 r → f r j = g r j) → t = false) :
    Calls Try.prog 14 #[.slice (some ⟨b1, o1, none⟩) n c1, .slice (some ⟨b2, o2, none⟩) n c2] w fun e w' => e = .returned (.bool t) ∧ ∃ m, w' = w.drewN m := by
  go_enter Try.func14, Try.ntmps14
  go_wp2_with fail
  go_loopw [5] (fun i wr => ∃ k : Nat, k ≤ n ∧ i = .int .i64 k ∧ Hid (∃ m, wr = w.drewN m) ∧ Hid (∀ r, r < k → L1 r = L2 r ∧ ∀ j, j < L1 r → f r j = g r j)) (fun i _ => n - (intOf i).toNat)
  case atStart => exact ⟨0, by omega, rfl, ⟨0, rfl⟩, fun r hr => by omega⟩
  case round =>
    obtain ⟨k, hk, rfl, HW, HA⟩ := hrel
    by_cases hlt : k < n
    · have t1 : wr.cell? ⟨b1, o1 + k, none⟩ = some (.slice (A1 k) (L1 k) (C1 k)) := by obtain ⟨m, hm⟩ := HW.out; rw [hm]; exact grid_tops h1 hlt
      have t2 : wr.cell? ⟨b2, o2 + k, none⟩ = some (.slice (A2 k) (L2 k) (C2 k)) := by obtain ⟨m, hm⟩ := HW.out; rw [hm]; exact grid_tops h2 hlt
      have r1 : RowAt wr (A1 k) (L1 k) (f k) := by obtain ⟨m, hm⟩ := HW.out; rw [hm]; exact h1.2.1 k hlt
      have r2 : RowAt wr (A2 k) (L2 k) (g k) := by obtain ⟨m, hm⟩ := HW.out; rw [hm]; exact h2.2.1 k hlt
      have v1 := conv_row wr _ _ (C1 k) (f k) r1
      have v2 := conv_row wr _ _ (C2 k) (g k) r2
      have v1d := conv_row wr.drew _ _ (C1 k) (f k) r1
      have v2d := conv_row wr.drew _ _ (C2 k) (g k) r2
      have hkn : (k : Int) < (n : Int) := by omega
      by_cases e : L1 k = L2 k ∧ ∀ j, j < L1 k → f k j = g k j
      · have HA2 : Hid (∀ r, r < k + 1 → L1 r = L2 r ∧ ∀ j, j < L1 r → f r j = g r j) := fun r hr => by
          by_cases e2 : r = k
          · subst e2; exact e
          · exact HA.out r (by omega)
        have hstr : strOfNums (nums (g k) (L2 k)) = strOfNums (nums (f k) (L1 k)) := by rw [← e.1]; exact (str_congr e.2).symm
        rw [hstr] at v2 v2d
        generalize strOfNums (nums (f k) (L1 k)) = S at v1 v2 v1d v2d
        clear r1 r2 h1 h2 hy hx HA e hstr
        go_wp2_with fail
        go_region
        go_wp2_with fail
        go_roundw
        case rel => exact ⟨k + 1, by omega, by go_num, drewN_more (n := 1) HW.out, HA2⟩
        case measure => simp [intOf]; omega
      · have HZ : Hid (t = false) := hx k hlt e
        have hne : strOfNums (nums (f k) (L1 k)) ≠ strOfNums (nums (g k) (L2 k)) := fun h => e (str_inj (h1.2.2 k) (h2.2.2 k) h)
        generalize strOfNums (nums (f k) (L1 k)) = S at v1 v1d hne
        generalize strOfNums (nums (g k) (L2 k)) = S' at v2 v2d hne
        have hnb : (!S.toList == S'.toList) = true := by
          have : S.toList ≠ S'.toList := fun q => hne (toList_inj q)
          simpa using this
        clear r1 r2 h1 h2 hy hx HA e
        go_wp2_with fail
        go_region
        go_wp2_with fail
        go_ret
        exact ⟨by rw [HZ.out]; rfl, drewN_more (n := 1) HW.out⟩
    · have hk2 : k = n := by omega
      subst hk2
      have HZ : Hid (t = true) := hy ⟨rfl, HA.out⟩
      clear h1 h2 hy hx HA
      go_wp2_with fail
      go_ret
      exact ⟨by rw [HZ.out]; rfl, HW.out⟩

theorem same_grid (x y : Option Addr) (n1 n2 c1 c2 : Nat) (t : Bool) (A1 A2 : Nat → Option Addr) (L1 L2 C1 C2 : Nat → Nat) (f g : Nat → Nat → Nat) (w : World) (hn : n1 ≤ 1000)
    (h1 : IsGrid w x n1 A1 L1 C1 f) (h2 : IsGrid w y n2 A2 L2 C2 g) (hy : SameN n1 n2 L1 L2 f g → t = true) (hx : ¬ SameN n1 n2 L1 L2 f g → t = false) :
    Calls Try.prog 14 #[.slice x n1 c1, .slice y n2 c2] w fun e w' => e = .returned (.bool t) ∧ ∃ m, w' = w.drewN m := by
  by_cases e : n1 = n2
  · subst e
    by_cases h0 : n1 = 0
    · subst h0
      rw [hy ⟨rfl, fun r hr => by omega⟩]
      exact (same_zero x y c1 c2 w).mono fun e w' h => ⟨h.1, 0, h.2⟩
    · obtain ⟨b1, o1, rfl, _⟩ := grid_some h1 (by omega)
      obtain ⟨b2, o2, rfl, _⟩ := grid_some h2 (by omega)
      exact same_tops b1 o1 b2 o2 n1 c1 c2 t A1 A2 L1 L2 C1 C2 f g w hn h1 h2 hy (fun r hr q => hx (fun s => q (s.2 r hr)))
  · rw [hx (fun s => e s.1)]
    exact same_len x y n1 n2 c1 c2 w e

/- A copy in new memory. -/
theorem empty_bytes (w : World) : (w.alloc (.cells #[] 5)).ownsRow w.heap.size 5 1 (.slice (some ⟨w.heap.size, 0, none⟩) 0 0) 0 [] :=
  ⟨rfl, .inr ⟨w.heap.size, 0, #[], rfl, Nat.le_refl _, heap_alloc_new _ _, Nat.le_refl _, Nat.zero_le _, rfl, rfl⟩⟩

theorem bytes_copy (w : World) (ad : Addr) (n c : Nat) (f : Nat → Nat) (hl : RowAt w (some ad) n f) (hn : n ≤ 140737488351232) :
    ∃ g cy w', (Builtin.append_ #[22, 22] 22 #[.slice (some ⟨w.heap.size, 0, none⟩) 0 0, .slice (some ad) n c]).run Try.prog (w.alloc (.cells #[] 5)) = .ok (.slice (some ⟨g, 0, none⟩) n cy) w' ∧ Below w.heap.size w w' ∧
      w.heap.size ≤ g ∧ g < w'.heap.size ∧ ∀ j, j < n → w'.cell? ⟨g, 0 + j, none⟩ = some (.int .u8 (f j : Int)) := by
  obtain ⟨i0, hi, hz0, hz1, hz2⟩ := info_parts info_byte
  have hown := empty_bytes w
  obtain ⟨v', w', hr, h2, h3, h4⟩ := run_append_own (P := Try.prog) (w.alloc (.cells #[] 5)) w.heap.size 22 22 5 i0 (.int .u8 0) 1 1 Try.underlying22 hi hz0 hz1 hz2 rfl (by decide) _ 0 [] hown
      ad n c (bytesOf f n) (by simp [bytesOf]) (fun j u hj => by
        have hjm : j < n := by
          have := (List.getElem?_eq_some_iff.1 hj).1
          simpa [bytesOf] using this
        have e : u = .int .u8 (f j : Int) := by simp [bytesOf, hjm] at hj; exact hj.symm
        rcases hl with hl | ⟨b, o, hx, hb, hc⟩
        · omega
        · injection hx with hx
          subst hx
          rw [e, add_at]
          exact ((Below.refl w.heap.size w).alloc (Nat.le_refl _) _ |>.cell (by exact hb)).trans (hc j hjm)) (fun u hu => by
        simp [bytesOf] at hu
        obtain ⟨j, _, rfl⟩ := hu
        rfl) (by unfold maxLen; omega) (by omega) (by simp)
  rw [Nat.zero_add, List.nil_append] at h2
  rcases h2.2 with ⟨hv, _⟩ | ⟨g, cy, cur, hv, hg, hh, _⟩
  · have := h4.1 hv
    simp at this
  · have ho := h2
    subst hv
    refine ⟨g, cy, w', hr, ((Below.refl w.heap.size w).alloc (Nat.le_refl _) _).grown h3 (by simp) (fun k hk => (hown.lt k hk).1), hg, (Array.getElem?_eq_some_iff.1 hh).1, fun j hj => ?_⟩
    rw [Nat.zero_add, ho.cellAt j (by omega)]
    simp [bytesOf, hj]

theorem clone_nil (w : World) : Calls Try.prog 36 #[.slice none 0 0] w fun e w' => e = .returned (.slice none 0 0) ∧ w' = w := by
  have he : ∀ w : World, (binOp .eql 22 (.slice none 0 0) (.slice none 0 0)).run Try.prog w = .ok (.bool true) w := fun _ => by kernel_rfl
  go_enter Try.func36, Try.ntmps36
  go_wp2_with fail
  go_ret
  exact ⟨rfl, rfl⟩

theorem clone_some (ad : Addr) (n c : Nat) (f : Nat → Nat) (w : World) (hl : RowAt w (some ad) n f) (hn : n ≤ 140737488351232) :
    Calls Try.prog 36 #[.slice (some ad) n c] w fun e w' => ∃ g cy, e = .returned (.slice (some ⟨g, 0, none⟩) n cy) ∧ Below w.heap.size w w' ∧ w.heap.size ≤ g ∧ g < w'.heap.size ∧ ∀ j, j < n → w'.cell? ⟨g, 0 + j, none⟩ = some (.int .u8 (f j : Int)) := by
  obtain ⟨g, cy, w', hrun, h1, h2, h3, h4⟩ := bytes_copy w ad n c f hl hn
  clear hl
  have H1 : Hid (Below w.heap.size w w') := h1
  have he : ∀ w : World, (binOp .eql 22 (.slice (some ad) n c) (.slice none 0 0)).run Try.prog w = .ok (.bool false) w := fun _ => by kernel_rfl
  clear h1
  go_enter Try.func36, Try.ntmps36
  go_wp2_with (at_builtin; refine wpList_append_run rfl _ _ 22 rfl _ _ rfl rfl hrun ?_; clear hrun)
  go_ret
  exact ⟨g, cy, rfl, H1.out, h2, h3, h4⟩

theorem clone_any (x : Option Addr) (n c : Nat) (f : Nat → Nat) (w : World) (hl : RowAt w x n f) (hn : n ≤ 140737488351232) (hnil : x = none → n = 0 ∧ c = 0) :
    Calls Try.prog 36 #[.slice x n c] w fun e w' => ∃ y cy, e = .returned (.slice y n cy) ∧ Below w.heap.size w w' ∧ (n = 0 ∨ ∃ g o, y = some ⟨g, o, none⟩ ∧ w.heap.size ≤ g ∧ g < w'.heap.size ∧ ∀ j, j < n → w'.cell? ⟨g, o + j, none⟩ = some (.int .u8 (f j : Int))) := by
  cases x with
  | none =>
    obtain ⟨rfl, rfl⟩ := hnil rfl
    exact (clone_nil w).mono fun e w' h => ⟨none, 0, h.1, by rw [h.2]; exact Below.refl _ _, .inl rfl⟩
  | some ad => exact (clone_some ad n c f w hl hn).mono fun e w' ⟨g, cy, h1, h2, h3, h4, h5⟩ => ⟨_, cy, h1, h2, .inr ⟨g, 0, rfl, h3, h4, h5⟩⟩

/- Where one has a shard. -/
theorem push_int (w : World) (base : Nat) (V : Value) (c a : Nat) (g : Nat → Nat) (hown : w.ownsRow base 3 1 V c (intsOf (fun i => (g i : Int)) c)) (hc : c ≤ 1000) (hb : base ≤ w.heap.size) :
    ∃ V' w', (Builtin.append_ #[54, 54] 54 #[V, .slice (some ⟨w.heap.size, 0, none⟩) 1 1]).run Try.prog (w.alloc (.cells #[.int .i64 (a : Int)] 3)) = .ok V' w' ∧
      w'.ownsRow base 3 1 V' (c + 1) (intsOf (fun i => ((if i = c then a else g i : Nat) : Int)) (c + 1)) ∧ Below base w w' := by
  obtain ⟨i0, hi, hz0, hz1, hz2⟩ := info_parts info_int
  obtain ⟨v', w', hr, h2, h3, h4⟩ := run_append_own (P := Try.prog) (w.alloc (.cells #[.int .i64 (a : Int)] 3)) base 54 54 3 i0 (.int .i64 0) 1 8 Try.underlying54 hi hz0 hz1 hz2 rfl (by decide) V c _ (hown.alloc _)
    ⟨w.heap.size, 0, none⟩ 1 1 [.int .i64 (a : Int)] rfl (one_at w _ _) (by simp [Value.oneCell']) (by unfold maxLen; omega) (by omega) (by simp; omega)
  refine ⟨v', w', hr, ?_, ((Below.refl base w).alloc hb _).grown h3 (by simp; omega) (fun k hk => (hown.lt k hk).1)⟩
  rw [show intsOf (fun i => (((if i = c then a else g i : Nat)) : Int)) (c + 1) = intsOf (fun i => (g i : Int)) c ++ [.int .i64 (a : Int)] by
    simp only [intsOf, List.range_succ, List.map_append, List.map_cons, List.map_nil, if_true]
    congr 1
    refine List.map_congr_left fun r hr => ?_
    have : r ≠ c := by have := List.mem_range.1 hr; omega
    simp [this]]
  exact h2

theorem places_zero (x : Option Addr) (cx : Nat) (w : World) : Calls Try.prog 29 #[.slice x 0 cx] w fun e w' => e = .returned (.slice none 0 0) ∧ w' = w := by
  go_enter Try.func29, Try.ntmps29
  go_wp2_with fail
  refine wp_loop_rounds 1 ?_
  rw [rounds_succ]
  go_wp2_with fail
  go_ret
  exact ⟨rfl, rfl⟩

set_option maxHeartbeats 1000000 in
set_option maxRecDepth 100000 in
theorem places_any (b o p cx : Nat) (h : Nat → Bool) (w : World) (hp : p ≤ 1000) (hx : BoolsAt w (some ⟨b, o, none⟩) p h) (hp0 : 0 < p) :
    Calls Try.prog 29 #[.slice (some ⟨b, o, none⟩) p cx] w fun e w' => Below w.heap.size w w' ∧ ∃ V c g, e = .returned V ∧ Plc h p c g ∧ w'.ownsRow w.heap.size 3 1 V c (intsOf (fun i => (g i : Int)) c) := by
  have HX : Hid (BoolsAt w (some ⟨b, o, none⟩) p h) := hx
  have HA : Hid (∃ c g, Plc h 0 c g ∧ Below w.heap.size w w ∧ w.ownsRow w.heap.size 3 1 (.slice none 0 0) c (intsOf (fun i => (g i : Int)) c)) := ⟨0, fun _ => 0, plc_start h _, Below.refl _ _, rfl, .inl ⟨rfl, rfl⟩⟩
  clear hx
  go_enter Try.func29, Try.ntmps29
  go_wp2_with fail
  go_loopw [3, 8] (fun V i wr => ∃ k : Nat, k ≤ p ∧ i = .int .i64 k ∧ Hid (∃ c g, Plc h k c g ∧ Below w.heap.size w wr ∧ wr.ownsRow w.heap.size 3 1 V c (intsOf (fun i => (g i : Int)) c))) (fun _ i _ => p - (intOf i).toNat)
  case atStart => exact ⟨0, by omega, rfl, HA⟩
  case round =>
    clear HA
    obtain ⟨k, hk, rfl, HW⟩ := hrel
    obtain ⟨c, g, hP, hB, hO⟩ := HW.out
    by_cases hlt : k < p
    · have hkp : (k : Int) < (p : Int) := by omega
      have hc1 : wr.cell? ⟨b, o + k, none⟩ = some (.bool (h k)) := by
        rcases HX.out.below (Nat.le_refl _) hB with h0 | ⟨b', o', h1, h2, h3⟩
        · omega
        · injection h1 with h1
          injection h1 with e1 e2 _
          subst e1; subst e2
          exact h3 k hlt
      cases hh : h k with
      | true =>
        rw [hh] at hc1
        have hcle : c ≤ 1000 := by have := hP.all; have := cnt_le h k; omega
        obtain ⟨V', w3, hrun, hO3, hB3⟩ := push_int wr w.heap.size _ c k g hO hcle hB.size
        have HN : Hid (∃ c g, Plc h (k + 1) c g ∧ Below w.heap.size w w3 ∧ w3.ownsRow w.heap.size 3 1 V' c (intsOf (fun i => (g i : Int)) c)) := ⟨c + 1, _, plc_true hP hh, hB.trans hB3, hO3⟩
        clear hP hB hO HW hO3 hB3 hh
        go_wp2_with (at_builtin; refine wpList_append_run rfl _ _ 54 rfl _ _ rfl rfl hrun ?_; clear hrun)
        go_roundw
        case rel => exact ⟨k + 1, by omega, by go_num, HN⟩
        case measure => simp [intOf]; omega
      | false =>
        rw [hh] at hc1
        have HN : Hid (∃ c g, Plc h (k + 1) c g ∧ Below w.heap.size w wr ∧ wr.ownsRow w.heap.size 3 1 _ c (intsOf (fun i => (g i : Int)) c)) := ⟨c, g, plc_false hP hh, hB, hO⟩
        clear hP hB hO HW hh
        go_wp2_with fail
        go_roundw
        case rel => exact ⟨k + 1, by omega, by go_num, HN⟩
        case measure => simp [intOf]; omega
    · obtain rfl : k = p := by omega
      have HN : Hid (Below w.heap.size w wr ∧ Plc h k c g ∧ wr.ownsRow w.heap.size 3 1 _ c (intsOf (fun i => (g i : Int)) c)) := ⟨hB, hP, hO⟩
      clear hP hB hO HW
      go_wp2_with fail
      go_ret
      exact ⟨HN.out.1, _, c, g, rfl, HN.out.2⟩

/- The lists at some places. -/
set_option maxHeartbeats 1000000 in
set_option maxRecDepth 100000 in
theorem picked_any (b o n cn p cp : Nat) (y : Option Addr) (A : Nat → Option Addr) (L C : Nat → Nat) (f : Nat → Nat → Nat) (g : Nat → Nat) (w : World) (hp : p ≤ 1000) (h : IsGrid w (some ⟨b, o, none⟩) n A L C f) (hl : IntsAt w y p (fun i => (g i : Int))) (hg : ∀ i, i < p → g i < n) :
    Calls Try.prog 31 #[.slice (some ⟨b, o, none⟩) n cn, .slice y p cp] w fun e w' => e = .returned (.slice (some ⟨w.heap.size, 0, none⟩) p p) ∧ Build w w' p p (fun r => A (g r)) (fun r => L (g r)) (fun r => C (g r)) (fun r => f (g r)) := by
  have hmk := run_make_row' (P := Try.prog) 28 22 (.slice none 0 0) 24 Try.underlying28 info_row rfl .i64 .i64 p (by omega) (by omega)
  have HG : Hid (IsGrid w (some ⟨b, o, none⟩) n A L C f) := h
  have HL : Hid (IntsAt w y p (fun i => (g i : Int))) := hl
  have Hg : Hid (∀ i, i < p → g i < n) := hg
  have HA : Hid (Build w (w.alloc (.cells (madeCells #[.slice none 0 0] p) 22)) p 0 (fun r => A (g r)) (fun r => L (g r)) (fun r => C (g r)) (fun r => f (g r))) := build_start w p _ _ _ _ (fun r j => h.2.2 _ j)
  clear h hl hg
  go_enter Try.func31, Try.ntmps31
  go_wp2_with fail
  clear hmk
  go_loopw [13] (fun i wr => ∃ k : Nat, k ≤ p ∧ i = .int .i64 k ∧ Hid (Build w wr p k (fun r => A (g r)) (fun r => L (g r)) (fun r => C (g r)) (fun r => f (g r)))) (fun i _ => p - (intOf i).toNat)
  case atStart => exact ⟨0, by omega, rfl, HA⟩
  case round =>
    clear HA
    obtain ⟨k, hk, rfl, HW⟩ := hrel
    by_cases hlt : k < p
    · have hkp : (k : Int) < (p : Int) := by omega
      have hgk := Hg.out k hlt
      have hgn : (g k : Int) < (n : Int) := by omega
      have hG := HG.out.below HW.out.below
      have t1 := grid_tops hG hgk
      rcases HL.out.below (Nat.le_refl _) HW.out.below with h0 | ⟨lb, lo, rfl, _, hli⟩
      · omega
      · have t2 := hli k hlt
        obtain ⟨u, hu⟩ := HW.out.there k hlt
        have f1 := HW.out.fb k
        have HN : Hid (Build w (wr.setCell ⟨w.heap.size, k, none⟩ (.slice (A (g k)) (L (g k)) (C (g k)))) p (k + 1) (fun r => A (g r)) (fun r => L (g r)) (fun r => C (g r)) (fun r => f (g r))) := by
          have hrow : L (g k) = 0 ∨ ∃ q oo, A (g k) = some ⟨q, oo, none⟩ ∧ q ≠ w.heap.size ∧ q < wr.heap.size ∧ ∀ j, j < L (g k) → wr.cell? ⟨q, oo + j, none⟩ = some (.int .u8 (f (g k) j : Int)) := by
            rcases HG.out.2.1 (g k) hgk with h0 | ⟨q, oo, h1, h2, h3⟩
            · exact .inl h0
            · exact .inr ⟨q, oo, h1, by omega, Nat.lt_of_lt_of_le h2 HW.out.below.size, fun j hj => (HW.out.below.cell (by exact h2)).trans (h3 j hj)⟩
          have hp := HW.out.put (r := k) (i' := k + 1) (l := L (g k)) (c := C (g k)) (a := A (g k)) (f' := f (g k)) hlt (fun s hs => by omega) hrow (HG.out.2.2 (g k))
          have e1 : (fun s => if s = k then A (g k) else A (g s)) = fun s => A (g s) := by funext s; by_cases e : s = k <;> simp [e]
          have e2 : (fun s => if s = k then L (g k) else L (g s)) = fun s => L (g s) := by funext s; by_cases e : s = k <;> simp [e]
          have e3 : (fun s => if s = k then C (g k) else C (g s)) = fun s => C (g s) := by funext s; by_cases e : s = k <;> simp [e]
          have e4 : (fun s j => if s = k then f (g k) j else f (g s) j) = fun s => f (g s) := by funext s j; by_cases e : s = k <;> simp [e]
          rw [e1, e2, e3, e4] at hp
          exact hp
        clear HW hG hli
        go_wp2_with fail
        go_roundw
        case rel => exact ⟨k + 1, by omega, by go_num, HN⟩
        case measure => simp [intOf]; omega
    · obtain rfl : k = p := by omega
      go_wp2_with fail
      go_ret
      exact ⟨rfl, HW.out⟩

end Go.Proofs.Ytmlaloadeeohbaa

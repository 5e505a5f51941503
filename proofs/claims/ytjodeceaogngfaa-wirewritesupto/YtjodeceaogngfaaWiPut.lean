/-
  What Varint, Fixed4, Fixed8 and Bytes of package wire (the functions), and the document's, do: contracts over plain lists ('WiPlain').
  Conditions: bytes that are looked at lie in memory.
-/
import Derived.Test.YtjodeceaogngfaaWiWrite
namespace Go.Proofs.Ytjodeceaogngfaa
open Go.RowKit Wi By
set_option linter.unusedVariables false
set_option linter.unusedSimpArgs false
set_option maxRecDepth 100000

theorem i64_not_int (n : Int) (h1 : -9223372036854775808 ≤ n) (h2 : n ≤ 9223372036854775807) : bits .xor .i64 (-1) n = -1 - n := by
  show IntKind.i64.wrap ((BitVec.ofInt 64 (-1) ^^^ BitVec.ofInt 64 n).toNat : Int) = _
  have h3 : BitVec.ofInt 64 (-1) = BitVec.allOnes 64 := by decide
  rw [h3, BitVec.allOnes_xor, BitVec.toNat_not, BitVec.toNat_ofInt]
  simp [IntKind.wrap, IntKind.bits, IntKind.signed]
  omega

theorem or_low (q : Nat) : 2 * q ||| 1 = 2 * q + 1 := by
  have := Nat.two_pow_add_eq_or_of_lt (i := 1) (b := 1) (by omega) q
  simpa using this.symm

theorem folded_any (n : Int) (w : World) (h1 : -9223372036854775808 ≤ n) (h2 : n ≤ 9223372036854775807) :
    Calls Try.prog 44 #[.int .i64 n] w fun e w' => e = .returned (.int .u64 (zz n : Int)) ∧ w' = w := by
  by_cases h : n < 0
  · obtain ⟨q, hq⟩ : ∃ q : Nat, (q : Int) = -1 - n := ⟨(-1 - n).toNat, by omega⟩
    have hnot : bits .xor .i64 (-1) n = (q : Int) := by rw [i64_not_int n h1 h2, hq]
    have hqs : (q : Int) < 9223372036854775808 := by omega
    have hq0 : (0 : Int) ≤ (q : Int) := by omega
    have hor : bits .or .u64 (IntKind.u64.wrap (IntKind.u64.wrap (q : Int) * 2)) 1 = ((zz n : Nat) : Int) := by
      rw [show IntKind.u64.wrap (IntKind.u64.wrap (q : Int) * 2) = ((2 * q : Nat) : Int) by rw [IntKind.wrap_u64, IntKind.wrap_u64]; omega]
      have := u64_or_nat (2 * q) 1 (by omega) (by omega)
      rw [or_low, show 2 * q + 1 = zz n by unfold zz; rw [if_pos h]; omega] at this
      exact this
    generalize zz n = Z at hor
    clear hq h1 h2
    generalize (q : Int) = Q at *
    go_enter Try.func44, Try.ntmps44
    go_wp2_with fail
    go_ret
    exact ⟨rfl, rfl⟩
  · have hz : (zz n : Int) = n * 2 := by unfold zz; rw [if_neg h]; omega
    go_enter Try.func44, Try.ntmps44
    go_wp2_with fail
    go_ret
    exact ⟨by first | rfl | (rw [hz]; rfl), rfl⟩

theorem unfolded_any (n : Nat) (w : World) (hn : n < 18446744073709551616) :
    Calls Try.prog 40 #[.int .u64 n] w fun e w' => e = .returned (.int .i64 (unzz n)) ∧ w' = w := by
  have hand : bits .and .u64 (n : Int) 1 = ((n % 2 : Nat) : Int) := by
    have := u64_and_nat n 1 hn (by omega)
    rw [Nat.and_one_is_mod] at this
    exact this
  by_cases h : n % 2 = 1
  · rw [h] at hand
    have hnot : bits .xor .i64 (-1) ((n : Int) / 2) = unzz n := by
      rw [i64_not_int _ (by omega) (by omega)]
      unfold unzz
      rw [if_pos h]
      omega
    generalize unzz n = Z at hnot
    clear h
    go_enter Try.func40, Try.ntmps40
    go_wp2_with fail
    go_ret
    exact ⟨rfl, rfl⟩
  · rw [show n % 2 = 0 by omega] at hand
    have hz : unzz n = (n : Int) / 2 := by unfold unzz; rw [if_neg h]; omega
    clear h
    go_enter Try.func40, Try.ntmps40
    go_wp2_with fail
    go_ret
    exact ⟨by rw [hz]; rfl, rfl⟩

/- Varint(b, n). -/
theorem varint_any (x : Option Addr) (n c : Nat) (l : List Nat) (N : Int) (w : World) (hl : Sl w x n c l) (h1 : -9223372036854775808 ≤ N) (h2 : N ≤ 9223372036854775807) (hs : n ≤ 140737488350000) :
    Calls Try.prog 22 #[.slice x n c, .int .i64 N] w fun e w' => ∃ R, e = .returned R ∧ OwnL w' w.heap.size R (l ++ uv (zz N)) ∧ Below w.heap.size w w' := by
  have hf := folded_any N w h1 h2
  have hu := uvarint_any x n c l (zz N) w hl (zz_lt h1 h2) hs
  generalize zz N = Z at hf hu
  clear hl
  go_enter Try.func22, Try.ntmps22
  go_wp2_with (first
    | (go_at_call 44; refine hf.mono ?_; rintro e w' ⟨rfl, rfl⟩; clear hf)
    | (go_at_call 21; refine hu.mono ?_; rintro e w2 ⟨R, rfl, ho2, hb2⟩; clear hu))
  go_ret
  exact ⟨R, rfl, ho2, hb2⟩

/- The document's Varint. -/
theorem rvarint_any (N : Int) (w : World) (h1 : -9223372036854775808 ≤ N) (h2 : N ≤ 9223372036854775807) :
    Calls Try.prog 26 #[.int .i64 N] w fun e w' => ∃ R, e = .returned R ∧ OwnL w' w.heap.size R (uv (zz N)) ∧ Below w.heap.size w w' := by
  have hu := ruvarint_any (zz N) w (zz_lt h1 h2)
  by_cases h : N < 0
  · have hz : -(N + 1) * 2 + 1 = (zz N : Int) := by unfold zz; rw [if_pos h]; omega
    generalize zz N = Z at hu hz
    go_enter Try.func26, Try.ntmps26
    go_wp2_with (go_at_call 25; refine hu.mono ?_; rintro e w2 ⟨R, rfl, ho2, hb2⟩; clear hu)
    go_ret
    exact ⟨R, rfl, ho2, hb2⟩
  · have hz : N * 2 = (zz N : Int) := by unfold zz; rw [if_neg h]; omega
    generalize zz N = Z at hu hz
    go_enter Try.func26, Try.ntmps26
    go_wp2_with (go_at_call 25; refine hu.mono ?_; rintro e w2 ⟨R, rfl, ho2, hb2⟩; clear hu)
    go_ret
    exact ⟨R, rfl, ho2, hb2⟩

/- Fixed4(b, n). -/
theorem four_new (w : World) (N : Nat) (hN : N < 4294967296) :
    Sl (w.alloc (.cells #[.int .u8 ((N : Int) % 256), .int .u8 ((N : Int) / 256 % 256), .int .u8 ((N : Int) / 65536 % 256), .int .u8 ((N : Int) / 16777216)] 5)) (some ⟨w.heap.size, 0, none⟩) 4 4 (fx N 4) := by
  have e : (#[.int .u8 ((N : Int) % 256), .int .u8 ((N : Int) / 256 % 256), .int .u8 ((N : Int) / 65536 % 256), .int .u8 ((N : Int) / 16777216)] : Array Value) = (cellsL (fx N 4)).toArray := by
    rw [fx_four]
    have : (N : Int) / 16777216 = (N : Int) / 16777216 % 256 := by omega
    rw [this]
    simp [cellsL]
  rw [e]
  refine ⟨fx_len N 4, Nat.le_refl _, (fun h => by cases h), .inr ⟨w.heap.size, 0, rfl, by simp, fun i hi => ?_⟩, fx_lt N 4⟩
  rw [Nat.zero_add, wcell_of_heap (heap_alloc_new _ _)]
  have hl : i < (fx N 4).length := by rw [fx_len]; exact hi
  simp [cellsL, gl, hl]

theorem fixed4_any (x : Option Addr) (n c : Nat) (l : List Nat) (N : Nat) (w : World) (hl : Sl w x n c l) (hN : N < 4294967296) (hs : n ≤ 140737488350000) :
    Calls Try.prog 27 #[.slice x n c, .int .u32 N] w fun e w' => ∃ R, e = .returned R ∧ OwnL w' w.heap.size R (l ++ fx N 4) ∧ Below w.heap.size w w' := by
  have hb0 : Below w.heap.size w (w.alloc (.cells #[.int .u8 ((N : Int) % 256), .int .u8 ((N : Int) / 256 % 256), .int .u8 ((N : Int) / 65536 % 256), .int .u8 ((N : Int) / 16777216)] 5)) := (Below.refl _ _).alloc (Nat.le_refl _) _
  have hbe := behind_any x n c l _ 4 4 (fx N 4) _ (hl.below hb0) (four_new w N hN) (by omega) (by omega)
  have HB : Hid (Below w.heap.size w (w.alloc (.cells #[.int .u8 ((N : Int) % 256), .int .u8 ((N : Int) / 256 % 256), .int .u8 ((N : Int) / 65536 % 256), .int .u8 ((N : Int) / 16777216)] 5))) := hb0
  clear hl hb0
  go_enter Try.func27, Try.ntmps27
  go_wp2_with (go_at_call 43; refine hbe.mono ?_; rintro e w2 ⟨R, rfl, ho2, hb2⟩; clear hbe)
  go_ret
  exact ⟨R, rfl, ho2.mono HB.out.size, HB.out.trans (hb2.mono HB.out.size)⟩

/- Fixed8(b, n). -/
theorem fixed8_any (x : Option Addr) (n c : Nat) (l : List Nat) (N : Nat) (w : World) (hl : Sl w x n c l) (hN : N < 18446744073709551616) (hs : n ≤ 140737488349000) :
    Calls Try.prog 29 #[.slice x n c, .int .u64 N] w fun e w' => ∃ R, e = .returned R ∧ OwnL w' w.heap.size R (l ++ fx N 8) ∧ Below w.heap.size w w' := by
  have h4 := fixed4_any x n c l (N % 4294967296) w hl (by omega) (by omega)
  have hlt := hl.lt
  have hlen := hl.len
  have h5 : ∀ v y m d, Sl v y m d (l ++ fx (N % 4294967296) 4) → m ≤ 140737488350000 → Calls Try.prog 27 #[.slice y m d, .int .u32 ((N / 4294967296 : Nat) : Int)] v fun e w' => ∃ R, e = .returned R ∧ OwnL w' v.heap.size R (l ++ fx N 8) ∧ Below v.heap.size v w' := fun v y m d hy hm => by
    have := fixed4_any y m d _ (N / 4294967296) v hy (by omega) hm
    rw [List.append_assoc, fx_eight] at this
    exact this
  have hl4 : ∀ u ∈ l ++ fx (N % 4294967296) 4, u < 256 := fun u hu => by
    rcases List.mem_append.1 hu with hu | hu
    · exact hlt u hu
    · exact fx_lt _ _ u hu
  have hm4 : (l ++ fx (N % 4294967296) 4).length ≤ 140737488350000 := by rw [List.length_append, fx_len]; omega
  have ha : ((N % 4294967296 : Nat) : Int) = (N : Int) % 4294967296 := by omega
  have hb : ((N / 4294967296 : Nat) : Int) = (N : Int) / 4294967296 := by omega
  rw [ha] at h4
  simp only [hb] at h5
  generalize l ++ fx (N % 4294967296) 4 = l4 at *
  generalize l ++ fx N 8 = l8 at *
  clear hl hlt hlen ha hb
  go_enter Try.func29, Try.ntmps29
  go_wp2_with (first
    | (go_at_call 27; refine h4.mono ?_; rintro e w2 ⟨R, rfl, ho2, hb2⟩; obtain ⟨y, d, rfl, hy, _⟩ := ho2.sl hl4; clear h4 ho2)
    | (go_at_call 27; refine (h5 _ _ _ _ hy hm4).mono ?_; rintro e w3 ⟨R, rfl, ho3, hb3⟩; clear h5))
  go_ret
  exact ⟨R, rfl, ho3.mono hb2.size, hb2.trans (hb3.mono hb2.size)⟩

/- The document's Fixed. -/
set_option maxHeartbeats 1000000 in
set_option maxRecDepth 100000 in
theorem rfixed_any (N m : Nat) (w : World) (hN : N < 18446744073709551616) (hm : m ≤ 8) :
    Calls Try.prog 28 #[.int .u64 N, .int .i64 m] w fun e w' => ∃ R, e = .returned R ∧ OwnL w' w.heap.size R (fx N m) ∧ Below w.heap.size w w' := by
  have hst : OwnL w w.heap.size (.slice none 0 0) (fx N 0) := OwnL.start w _
  go_enter Try.func28, Try.ntmps28
  go_wp2_with fail
  go_loopw [5, 6] (fun r i wr => ∃ k : Nat, k ≤ m ∧ i = .int .i64 k ∧ Hid (OwnL wr w.heap.size r (fx N k) ∧ Below w.heap.size w wr)) (fun _ i _ => m - (intOf i).toNat)
  case atStart => exact ⟨0, by omega, rfl, hst, Below.refl _ _⟩
  case round =>
    obtain ⟨k, hk, rfl, HR⟩ := hrel
    clear hst
    by_cases hlt : k < m
    · obtain ⟨R', w', hr, h1, h2⟩ := push_one wr w w.heap.size u5 (fx N k) (N / 256 ^ k % 256) (Nat.mod_lt _ (by omega)) HR.out.1 HR.out.2.size HR.out.2 (by rw [fx_len]; omega)
      have HS : Hid (OwnL w' w.heap.size R' (fx N (k + 1)) ∧ Below w.heap.size w w') := ⟨by rw [fx_succ]; exact h1, h2⟩
      obtain ⟨s, hs⟩ : ∃ s : Nat, s = 8 * k := ⟨_, rfl⟩
      have hs8 : (8 : Int) * (k : Int) = (s : Int) := by omega
      have hs64 : s < 64 := by omega
      have hv : ((N / 256 ^ k % 256 : Nat) : Int) = (N : Int) / 2 ^ s % 256 := by
        have : 256 ^ k = 2 ^ s := by rw [hs, Nat.pow_mul]
        rw [this]
        simp
      rw [hv] at hr
      clear h1 h2 HR hv hs
      go_wp2_with (at_builtin; refine wpList_append_run rfl _ _ 22 rfl _ _ rfl rfl hr ?_; clear hr)
      go_roundw
      case rel => exact ⟨k + 1, by omega, by go_num, HS⟩
      case measure => simp [intOf]; omega
    · have hk2 : k = m := by omega
      subst hk2
      go_wp2_with fail
      go_ret
      exact ⟨_, rfl, HR.out.1, HR.out.2⟩

/- Bytes(b, s). -/
theorem bytes_any (x : Option Addr) (n c : Nat) (l : List Nat) (y : Option Addr) (m d : Nat) (k : List Nat) (w : World) (hl : Sl w x n c l) (hk : Sl w y m d k) (hs : n + m ≤ 140737488350000) :
    Calls Try.prog 30 #[.slice x n c, .slice y m d] w fun e w' => ∃ R, e = .returned R ∧ OwnL w' w.heap.size R (l ++ (uv m ++ k)) ∧ Below w.heap.size w w' := by
  have hu := uvarint_any x n c l m w hl (by omega) (by omega)
  have h10 := uv_ten (n := m) (by omega)
  have hp : ∀ v R, OwnL v w.heap.size R (l ++ uv m) → Below w.heap.size w v → ∃ R' w', (Builtin.append_ #[22, 22] 22 #[R, .slice y m d]).run Try.prog v = .ok R' w' ∧ OwnL w' w.heap.size R' (l ++ (uv m ++ k)) ∧ Below w.heap.size w w' := fun v R ho hb => by
    have := push_list v w w.heap.size R (l ++ uv m) ho hb.size hb y m d k (hk.below hb) (by rw [List.length_append, hl.len]; omega)
    rw [List.append_assoc] at this
    exact this
  clear hl hk h10
  generalize l ++ uv m = l1 at *
  generalize l ++ (uv m ++ k) = l2 at *
  have hconv : ((m : Nat) : Int) % 18446744073709551616 = (m : Int) := by omega
  go_enter Try.func30, Try.ntmps30
  go_wp2_with (first
    | (go_at_call 21; refine hu.mono ?_; rintro e w2 ⟨R, rfl, ho2, hb2⟩; obtain ⟨R3, w3, hr3, ho3, hb3⟩ := hp _ _ ho2 hb2; clear hu hp)
    | (at_builtin; refine wpList_append_run rfl _ _ 22 rfl _ _ rfl rfl hr3 ?_; clear hr3))
  go_ret
  exact ⟨R3, rfl, ho3, hb3⟩

/- The document's Bytes. -/
theorem rbytes_any (y : Option Addr) (m d : Nat) (k : List Nat) (w : World) (hk : Sl w y m d k) (hs : m ≤ 140737488350000) :
    Calls Try.prog 31 #[.slice y m d] w fun e w' => ∃ R, e = .returned R ∧ OwnL w' w.heap.size R (uv m ++ k) ∧ Below w.heap.size w w' := by
  have hu := ruvarint_any m w (by omega)
  have h10 := uv_ten (n := m) (by omega)
  have hp : ∀ v R, OwnL v w.heap.size R (uv m) → Below w.heap.size w v → ∃ R' w', (Builtin.append_ #[22, 22] 22 #[R, .slice y m d]).run Try.prog v = .ok R' w' ∧ OwnL w' w.heap.size R' (uv m ++ k) ∧ Below w.heap.size w w' := fun v R ho hb =>
    push_list v w w.heap.size R (uv m) ho hb.size hb y m d k (hk.below hb) (by omega)
  clear hk h10
  generalize uv m ++ k = l2 at *
  generalize uv m = l1 at *
  go_enter Try.func31, Try.ntmps31
  go_wp2_with (first
    | (go_at_call 25; refine hu.mono ?_; rintro e w2 ⟨R, rfl, ho2, hb2⟩; obtain ⟨R3, w3, hr3, ho3, hb3⟩ := hp _ _ ho2 hb2; clear hu hp)
    | (at_builtin; refine wpList_append_run rfl _ _ 22 rfl _ _ rfl rfl hr3 ?_; clear hr3))
  go_ret
  exact ⟨R3, rfl, ho3, hb3⟩

/- same(a, b). -/
theorem same_any (x y : Option Addr) (n m c d : Nat) (l k : List Nat) (t : Bool) (w : World) (hl : Sl w x n c l) (hk : Sl w y m d k) (ht : t = true ↔ l = k) :
    Calls Try.prog 9 #[.slice x n c, .slice y m d] w fun e w' => e = .returned (.bool t) ∧ w' = w := by
  have v1 := conv_row w x n c (gl l) hl.row
  have v2 := conv_row w y m d (gl k) hk.row
  have he : ((strOfNums (nums (gl l) n)).toList == (strOfNums (nums (gl k) m)).toList) = t := by
    by_cases e : l = k
    · rw [ht.2 e]
      subst e
      have : n = m := hl.len.symm.trans hk.len
      subst this
      simp
    · have hf : t = false := by cases t with | true => exact absurd (ht.1 rfl) e | false => rfl
      rw [hf]
      have hne : (strOfNums (nums (gl l) n)).toList ≠ (strOfNums (nums (gl k) m)).toList := fun q => e (by
        obtain ⟨h1, h2⟩ := str_inj (gl_lt hl.lt) (gl_lt hk.lt) (toList_inj q)
        apply List.ext_getElem?
        intro i
        by_cases hi : i < n
        · have h3 := h2 i hi
          have e1 : i < l.length := by rw [hl.len]; exact hi
          have e2 : i < k.length := by rw [hk.len, ← h1]; exact hi
          simp [gl, e1, e2] at h3
          simp [e1, e2, h3]
        · have e1 : ¬ i < l.length := by rw [hl.len]; exact hi
          have e2 : ¬ i < k.length := by rw [hk.len, ← h1]; exact hi
          simp [e1, e2])
      simpa using hne
  generalize strOfNums (nums (gl l) n) = S at v1 he
  generalize strOfNums (nums (gl k) m) = S' at v2 he
  clear hl hk ht
  go_enter Try.func9, Try.ntmps9
  go_wp2_with fail
  go_ret
  exact ⟨by rw [← he]; rfl, rfl⟩

/- The statements' own test. -/
theorem uv_300 : uv 300 = [172, 2] := by rw [uv_big (by omega), uv_small (by omega)]

theorem awake_any (w : World) : Calls Try.prog 10 #[] w fun e w' => e = .returned (.bool true) ∧ Below w.heap.size w w' := by
  have hb0 : Below w.heap.size w (w.alloc (.cells #[.int .u8 7] 5)) := (Below.refl _ _).alloc (Nat.le_refl _) _
  have h7 : Sl (w.alloc (.cells #[.int .u8 7] 5)) (some ⟨w.heap.size, 0, none⟩) 1 1 [7] := by
    refine ⟨rfl, Nat.le_refl _, (fun h => by cases h), .inr ⟨w.heap.size, 0, rfl, by simp, fun i hi => ?_⟩, fun v hv => by simp at hv; omega⟩
    obtain rfl : i = 0 := by omega
    simp [gl]
  have hu : Calls Try.prog 21 #[.slice (some ⟨w.heap.size, 0, none⟩) 1 1, .int .u64 300] (w.alloc (.cells #[.int .u8 7] 5)) fun e w' => ∃ g d, e = .returned (.slice (some ⟨g, 0, none⟩) 3 d) ∧ w'.cell? ⟨g, 0, none⟩ = some (.int .u8 7) ∧ w'.cell? ⟨g, 1, none⟩ = some (.int .u8 172) ∧ w'.cell? ⟨g, 2, none⟩ = some (.int .u8 2) ∧ Below w.heap.size w w' :=
    (uvarint_any _ 1 1 [7] 300 _ h7 (by omega) (by omega)).mono fun e w' ⟨R, he, ho, hb⟩ => by
      rw [uv_300] at ho
      have ho' : w'.ownsRow (w.alloc (.cells #[.int .u8 7] 5)).heap.size 5 1 R 3 (bytesOf (gl [7, 172, 2]) 3) := ho
      obtain ⟨g, d, rfl, _, _, _, hc, _⟩ := own_rowAt ho' (fun h => by
        rcases ho.2 with ⟨_, h0⟩ | ⟨g, c, cur, h1, _⟩
        · simp at h0
        · rw [h] at h1; cases h1)
      exact ⟨g, d, he, hc 0 (by omega), hc 1 (by omega), hc 2 (by omega), hb0.trans (hb.mono hb0.size)⟩
  clear hb0 h7
  go_enter Try.func10, Try.ntmps10
  go_wp2_with (go_at_call 21; refine hu.mono ?_; rintro e w2 ⟨g, d, rfl, c0, c1, c2, hb2⟩; clear hu)
  go_ret
  exact ⟨rfl, hb2⟩

end Go.Proofs.Ytjodeceaogngfaa

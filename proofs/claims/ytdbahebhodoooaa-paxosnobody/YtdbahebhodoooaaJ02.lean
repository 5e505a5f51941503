/-
  5 texts of this proof, one behind the other: WiWrite, WiPut, WiLead, WiRead, WiTake.
-/
import Derived.Test.YtdbahebhodoooaaJ01
/-
  What behind and Uvarint of package wire, and the document's Uvarint, do: contracts over plain lists ('WiPlain').
  Conditions: bytes that are looked at lie in memory.
-/
namespace Go.Proofs.Ytdbahebhodoooaa
open Go.RowKit Wi By
set_option linter.unusedVariables false
set_option linter.unusedSimpArgs false
set_option maxRecDepth 100000

/- behind(b, more). -/
theorem behind_any (x : Option Addr) (n c : Nat) (l : List Nat) (y : Option Addr) (m d : Nat) (k : List Nat) (w : World) (hl : Sl w x n c l) (hk : Sl w y m d k) (hm : 0 < m) (hs : n + m ≤ 140737488355328) :
    Calls Try.prog 96 #[.slice x n c, .slice y m d] w fun e w' => ∃ R, e = .returned R ∧ OwnL w' w.heap.size R (l ++ k) ∧ Below w.heap.size w w' := by
  obtain ⟨R, w', hr, h1, h2⟩ := push_cut w x n l c hl y m d k hk hm hs
  have hcut := fun v => cut_end x n c v hl.le
  have H : Hid (OwnL w' w.heap.size R (l ++ k) ∧ Below w.heap.size w w') := ⟨h1, h2⟩
  clear h1 h2 hl hk hm hs
  go_enter Try.func96, Try.ntmps96
  go_wp2_with (at_builtin; refine wpList_append_run rfl _ _ 35 rfl _ _ rfl rfl hr ?_; clear hr)
  go_ret
  exact ⟨R, rfl, H.out.1, H.out.2⟩

theorem or_high : ∀ a, a < 256 → a ||| 128 = a % 128 + 128 := by decide +kernel

structure Digs (g : Nat) (w0 wr : World) (d : List Nat) (k M N : Nat) : Prop where
  turn : Turn g w0 wr
  len : d.length = k
  eq : d ++ uv M = uv N
  cell : ∀ j, j < 10 → wr.cell? ⟨g, j, none⟩ = some (.int .u8 (gl d j : Int))
  fr : ∀ j, wr.frozen? ⟨g, j, none⟩ = false
  bound : M * 128 ^ k ≤ N
  lt : ∀ v ∈ d, v < 256

theorem gl_end (d : List Nat) : gl d d.length = 0 := by simp [gl]

theorem digs_set {g : Nat} {w0 wr : World} {d : List Nat} {k M N : Nat} (h : Digs g w0 wr d k M N) (v : Nat) (hk : k < 10) :
    ∀ j, j < 10 → (wr.setCell ⟨g, k, none⟩ (.int .u8 (v : Int))).cell? ⟨g, j, none⟩ = some (.int .u8 (gl (d ++ [v]) j : Int)) := by
  intro j hj
  by_cases e : j = k
  · subst e
    rw [World.cell?_setCell_same _ _ _ (h.cell j hj)]
    have hlen := h.len
    rw [gl_append, if_neg (by omega), hlen, Nat.sub_self]
    rfl
  · rw [World.cell?_setCell_other _ _ _ _ (fun q => e (by injection q with _ q2 _; exact q2.symm)), h.cell j hj]
    have hlen := h.len
    rw [gl_append]
    by_cases hlt : j < d.length
    · rw [if_pos hlt]
    · rw [if_neg hlt]
      have e1 : gl d j = 0 := by simp [gl, Nat.le_of_not_lt hlt]
      have e2 : gl [v] (j - d.length) = 0 := by
        obtain ⟨q, hq⟩ : ∃ q, j - d.length = q + 1 := ⟨j - d.length - 1, by omega⟩
        rw [hq]
        simp [gl]
      rw [e1, e2]

theorem digs_step {g : Nat} {w0 wr : World} {d : List Nat} {k M N : Nat} (h : Digs g w0 wr d k M N) (hM : 128 ≤ M) (hk : k < 10) :
    Digs g w0 (wr.setCell ⟨g, k, none⟩ (.int .u8 ((M % 128 + 128 : Nat) : Int))) (d ++ [M % 128 + 128]) (k + 1) (M / 128) N := by
  refine ⟨h.turn.setCell rfl _, by simp [h.len], ?_, digs_set h _ hk, fun j => by simpa using h.fr j, ?_, fun v hv => ?_⟩
  · rw [← h.eq, uv_big hM]
    simp
  · refine Nat.le_trans ?_ h.bound
    rw [Nat.pow_succ, Nat.mul_comm (128 ^ k), ← Nat.mul_assoc]
    exact Nat.mul_le_mul_right _ (Nat.div_mul_le_self _ _)
  · rcases List.mem_append.1 hv with hv | hv
    · exact h.lt v hv
    · simp at hv
      omega

theorem digs_start (w : World) (N : Nat) : Digs w.heap.size (w.alloc (.cells #[.int .u8 0, .int .u8 0, .int .u8 0, .int .u8 0, .int .u8 0, .int .u8 0, .int .u8 0, .int .u8 0, .int .u8 0, .int .u8 0] 142)) (w.alloc (.cells #[.int .u8 0, .int .u8 0, .int .u8 0, .int .u8 0, .int .u8 0, .int .u8 0, .int .u8 0, .int .u8 0, .int .u8 0, .int .u8 0] 142)) [] 0 N N := by
  refine ⟨Turn.refl _ _, rfl, rfl, fun j hj => ?_, fun j => frozen_new _ _ _ j, by omega, fun v hv => by cases hv⟩
  have h := wcell_of_heap (i := j) (heap_alloc_new w (.cells (List.replicate 10 (Value.int .u8 0)).toArray 142))
  rw [List.getElem?_replicate, if_pos hj] at h
  exact h

theorem ten_is : Try.prog.arrayLen 142 = 10 := by kernel_rfl
theorem ten_row : Try.prog.underlying 142 = some (.array (Try.prog.arrayLen 142) (Try.prog.elem 142)) := by kernel_rfl
theorem ten_elem : Try.prog.elem 142 = 5 := by kernel_rfl

theorem cut_ten (g m : Nat) (w : World) (h : m ≤ 10) :
    (Instr.sliceAt 142 (.pointer (some ⟨g, 0, none⟩)) none (some (.int .i64 (m : Int))) none).run Try.prog w = .ok (.slice (some ⟨g, 0, none⟩) m 10) w := by
  rw [run_sliceAt_array_h w 142 _ ten_row .i64 (m : Int) (by omega) (by rw [ten_is]; omega), ten_elem, wsize_byte, ten_is]
  simp [Result.andThen, slicedAt, Addr.add]

/- Uvarint(b, n). -/
set_option maxHeartbeats 1000000 in
set_option maxRecDepth 100000 in
theorem uvarint_any (x : Option Addr) (n c : Nat) (l : List Nat) (N : Nat) (w : World) (hl : Sl w x n c l) (hN : N < 18446744073709551616) (hs : n ≤ 140737488350000) :
    Calls Try.prog 85 #[.slice x n c, .int .u64 N] w fun e w' => ∃ R, e = .returned R ∧ OwnL w' w.heap.size R (l ++ uv N) ∧ Below w.heap.size w w' := by
  have Hl : Hid (Sl w x n c l) := hl
  clear hl
  go_enter Try.func85, Try.ntmps85
  go_wp2_with fail
  have hst := digs_start w N
  go_loopw [1, 6] (fun v i wr => ∃ k M : Nat, k ≤ 9 ∧ M < 18446744073709551616 ∧ v = .int .u64 M ∧ i = .int .i64 k ∧ Hid (∃ d, Digs w.heap.size (w.alloc (.cells #[.int .u8 0, .int .u8 0, .int .u8 0, .int .u8 0, .int .u8 0, .int .u8 0, .int .u8 0, .int .u8 0, .int .u8 0, .int .u8 0] 142)) wr d k M N)) (fun v _ _ => (intOf v).toNat)
  case atStart => exact ⟨0, N, by omega, hN, rfl, rfl, ⟨_, hst⟩⟩
  case round =>
    obtain ⟨k, M, hk, hM, rfl, rfl, HR⟩ := hrel
    clear hst
    obtain ⟨d, hd⟩ := HR.out
    have h1 := hd.cell k (by omega)
    have h2 := hd.fr k
    by_cases hlt : 128 ≤ M
    · have hk8 : k ≤ 8 := by
        by_cases e : k ≤ 8
        · exact e
        · have e9 : k = 9 := by omega
          have := hd.bound
          rw [e9] at this
          omega
      have hor : bits .or .u8 ((M : Int) % 256) 128 = ((M % 128 + 128 : Nat) : Int) := by
        have := u8_or_nat (M % 256) 128 (by omega) (by omega)
        rw [or_high _ (by omega), show M % 256 % 128 = M % 128 by omega] at this
        exact this
      have HS : Hid (∃ d, Digs w.heap.size (w.alloc (.cells #[.int .u8 0, .int .u8 0, .int .u8 0, .int .u8 0, .int .u8 0, .int .u8 0, .int .u8 0, .int .u8 0, .int .u8 0, .int .u8 0] 142)) (wr.setCell ⟨w.heap.size, k, none⟩ (.int .u8 ((M % 128 + 128 : Nat) : Int))) d (k + 1) (M / 128) N) := ⟨_, digs_step hd hlt (by omega)⟩
      clear hd HR
      generalize M % 128 + 128 = V at hor HS
      go_wp2_with fail
      go_roundw
      case rel => exact ⟨k + 1, M / 128, by omega, by omega, by go_num, by go_num, HS⟩
      case measure => simp [intOf]; omega
    · obtain ⟨m, hm⟩ : ∃ m, m = k + 1 := ⟨_, rfl⟩
      have hm1 : (k : Int) + 1 = (m : Int) := by omega
      have hmod : (M : Int) % 256 = (M : Int) := by omega
      have hm10 : m ≤ 10 := by omega
      have ht := (hd.turn.setCell (p := ⟨w.heap.size, k, none⟩) rfl (.int .u8 (M : Int)))
      have hb0 : Below w.heap.size w (w.alloc (.cells #[.int .u8 0, .int .u8 0, .int .u8 0, .int .u8 0, .int .u8 0, .int .u8 0, .int .u8 0, .int .u8 0, .int .u8 0, .int .u8 0] 142)) := (Below.refl _ _).alloc (Nat.le_refl _) _
      have hb1 : Below w.heap.size w (wr.setCell ⟨w.heap.size, k, none⟩ (.int .u8 (M : Int))) := hb0.trans (ht.below (Nat.le_refl _) (by simp))
      have hk2 : Sl (wr.setCell ⟨w.heap.size, k, none⟩ (.int .u8 (M : Int))) (some ⟨w.heap.size, 0, none⟩) m 10 (uv N) := by
        have hlen : (d ++ [M]).length = m := by simp [hd.len, hm]
        rw [← hd.eq, uv_small (by omega)]
        refine ⟨hlen, hm10, (fun e => by cases e), .inr ⟨w.heap.size, 0, rfl, ?_, fun i hi => ?_⟩, fun v hv => ?_⟩
        · have := ht.size
          simp at this
          simp [World.setCell] at *
          omega
        · rw [Nat.zero_add]
          exact digs_set hd M (by omega) i (by omega)
        · rcases List.mem_append.1 hv with hv | hv
          · exact hd.lt v hv
          · simp at hv
            omega
      have hsl : ∀ v : World, (Instr.sliceAt 142 (.pointer (some ⟨w.heap.size, 0, none⟩)) none (some (.int .i64 (m : Int))) none).run Try.prog v = .ok (.slice (some ⟨w.heap.size, 0, none⟩) m 10) v := fun v => cut_ten w.heap.size m v hm10
      have hbe := behind_any x n c l _ m 10 (uv N) _ (Hl.out.below hb1) hk2 (by omega) (by omega)
      have HB1 : Hid (Below w.heap.size w (wr.setCell ⟨w.heap.size, k, none⟩ (.int .u8 (M : Int)))) := hb1
      clear hd HR ht hb0 hb1 hk2 hm
      go_wp2_with (go_at_call 96; refine hbe.mono ?_; rintro e w2 ⟨R, rfl, ho2, hb2⟩; clear hbe)
      go_ret
      exact ⟨R, rfl, ho2.mono HB1.out.size, HB1.out.trans (hb2.mono HB1.out.size)⟩

end Go.Proofs.Ytdbahebhodoooaa

/-
  What Varint, Fixed4, Fixed8 and Bytes of package wire (the functions), and the document's, do: contracts over plain lists ('WiPlain').
  Conditions: bytes that are looked at lie in memory.
-/
namespace Go.Proofs.Ytdbahebhodoooaa
open Go.RowKit Wi By
set_option linter.unusedVariables false
set_option linter.unusedSimpArgs false
set_option maxRecDepth 100000

theorem i64_not_int (n : Int) (h1 : -9223372036854775808 ≤ n) (h2 : n ≤ 9223372036854775807) : bits .xor .i64 (-1) n = -1 - n := by
  show IntKind.i64.wrap ((BitVec.ofInt 64 (-1) ^^^ BitVec.ofInt 64 n).toNat : Int) = _
  have h3 : BitVec.ofInt 64 (-1) = BitVec.allOnes 64 := by decide
  rw [h3, BitVec.allOnes_xor, BitVec.toNat_not, BitVec.toNat_ofInt]
  simp [IntKind.wrap, IntKind.bits, IntKind.signed]
  omega

theorem or_low (q : Nat) : 2 * q ||| 1 = 2 * q + 1 := by
  have := Nat.two_pow_add_eq_or_of_lt (i := 1) (b := 1) (by omega) q
  simpa using this.symm

/- Fixed4(b, n). -/
theorem four_new (w : World) (N : Nat) (hN : N < 4294967296) :
    Sl (w.alloc (.cells #[.int .u8 ((N : Int) % 256), .int .u8 ((N : Int) / 256 % 256), .int .u8 ((N : Int) / 65536 % 256), .int .u8 ((N : Int) / 16777216)] 5)) (some ⟨w.heap.size, 0, none⟩) 4 4 (fx N 4) := by
  have e : (#[.int .u8 ((N : Int) % 256), .int .u8 ((N : Int) / 256 % 256), .int .u8 ((N : Int) / 65536 % 256), .int .u8 ((N : Int) / 16777216)] : Array Value) = (cellsL (fx N 4)).toArray := by
    rw [fx_four]
    have : (N : Int) / 16777216 = (N : Int) / 16777216 % 256 := by omega
    rw [this]
    simp [cellsL]
  rw [e]
  refine ⟨fx_len N 4, Nat.le_refl _, (fun h => by cases h), .inr ⟨w.heap.size, 0, rfl, by simp, fun i hi => ?_⟩, fx_lt N 4⟩
  rw [Nat.zero_add, wcell_of_heap (heap_alloc_new _ _)]
  have hl : i < (fx N 4).length := by rw [fx_len]; exact hi
  simp [cellsL, gl, hl]

theorem fixed4_any (x : Option Addr) (n c : Nat) (l : List Nat) (N : Nat) (w : World) (hl : Sl w x n c l) (hN : N < 4294967296) (hs : n ≤ 140737488350000) :
    Calls Try.prog 94 #[.slice x n c, .int .u32 N] w fun e w' => ∃ R, e = .returned R ∧ OwnL w' w.heap.size R (l ++ fx N 4) ∧ Below w.heap.size w w' := by
  have hb0 : Below w.heap.size w (w.alloc (.cells #[.int .u8 ((N : Int) % 256), .int .u8 ((N : Int) / 256 % 256), .int .u8 ((N : Int) / 65536 % 256), .int .u8 ((N : Int) / 16777216)] 5)) := (Below.refl _ _).alloc (Nat.le_refl _) _
  have hbe := behind_any x n c l _ 4 4 (fx N 4) _ (hl.below hb0) (four_new w N hN) (by omega) (by omega)
  have HB : Hid (Below w.heap.size w (w.alloc (.cells #[.int .u8 ((N : Int) % 256), .int .u8 ((N : Int) / 256 % 256), .int .u8 ((N : Int) / 65536 % 256), .int .u8 ((N : Int) / 16777216)] 5))) := hb0
  clear hl hb0
  go_enter Try.func94, Try.ntmps94
  go_wp2_with (go_at_call 96; refine hbe.mono ?_; rintro e w2 ⟨R, rfl, ho2, hb2⟩; clear hbe)
  go_ret
  exact ⟨R, rfl, ho2.mono HB.out.size, HB.out.trans (hb2.mono HB.out.size)⟩

/- Fixed8(b, n). -/
theorem fixed8_any (x : Option Addr) (n c : Nat) (l : List Nat) (N : Nat) (w : World) (hl : Sl w x n c l) (hN : N < 18446744073709551616) (hs : n ≤ 140737488349000) :
    Calls Try.prog 78 #[.slice x n c, .int .u64 N] w fun e w' => ∃ R, e = .returned R ∧ OwnL w' w.heap.size R (l ++ fx N 8) ∧ Below w.heap.size w w' := by
  have h4 := fixed4_any x n c l (N % 4294967296) w hl (by omega) (by omega)
  have hlt := hl.lt
  have hlen := hl.len
  have h5 : ∀ v y m d, Sl v y m d (l ++ fx (N % 4294967296) 4) → m ≤ 140737488350000 → Calls Try.prog 94 #[.slice y m d, .int .u32 ((N / 4294967296 : Nat) : Int)] v fun e w' => ∃ R, e = .returned R ∧ OwnL w' v.heap.size R (l ++ fx N 8) ∧ Below v.heap.size v w' := fun v y m d hy hm => by
    have := fixed4_any y m d _ (N / 4294967296) v hy (by omega) hm
    rw [List.append_assoc, fx_eight] at this
    exact this
  have hl4 : ∀ u ∈ l ++ fx (N % 4294967296) 4, u < 256 := fun u hu => by
    rcases List.mem_append.1 hu with hu | hu
    · exact hlt u hu
    · exact fx_lt _ _ u hu
  have hm4 : (l ++ fx (N % 4294967296) 4).length ≤ 140737488350000 := by rw [List.length_append, fx_len]; omega
  have ha : ((N % 4294967296 : Nat) : Int) = (N : Int) % 4294967296 := by omega
  have hb : ((N / 4294967296 : Nat) : Int) = (N : Int) / 4294967296 := by omega
  rw [ha] at h4
  simp only [hb] at h5
  generalize l ++ fx (N % 4294967296) 4 = l4 at *
  generalize l ++ fx N 8 = l8 at *
  clear hl hlt hlen ha hb
  go_enter Try.func78, Try.ntmps78
  go_wp2_with (first
    | (go_at_call 94; refine h4.mono ?_; rintro e w2 ⟨R, rfl, ho2, hb2⟩; obtain ⟨y, d, rfl, hy, _⟩ := ho2.sl hl4; clear h4 ho2)
    | (go_at_call 94; refine (h5 _ _ _ _ hy hm4).mono ?_; rintro e w3 ⟨R, rfl, ho3, hb3⟩; clear h5))
  go_ret
  exact ⟨R, rfl, ho3.mono hb2.size, hb2.trans (hb3.mono hb2.size)⟩

/- Bytes(b, s). -/
theorem bytes_any (x : Option Addr) (n c : Nat) (l : List Nat) (y : Option Addr) (m d : Nat) (k : List Nat) (w : World) (hl : Sl w x n c l) (hk : Sl w y m d k) (hs : n + m ≤ 140737488350000) :
    Calls Try.prog 88 #[.slice x n c, .slice y m d] w fun e w' => ∃ R, e = .returned R ∧ OwnL w' w.heap.size R (l ++ (uv m ++ k)) ∧ Below w.heap.size w w' := by
  have hu := uvarint_any x n c l m w hl (by omega) (by omega)
  have h10 := uv_ten (n := m) (by omega)
  have hp : ∀ v R, OwnL v w.heap.size R (l ++ uv m) → Below w.heap.size w v → ∃ R' w', (Builtin.append_ #[35, 35] 35 #[R, .slice y m d]).run Try.prog v = .ok R' w' ∧ OwnL w' w.heap.size R' (l ++ (uv m ++ k)) ∧ Below w.heap.size w w' := fun v R ho hb => by
    have := push_list v w w.heap.size R (l ++ uv m) ho hb.size hb y m d k (hk.below hb) (by rw [List.length_append, hl.len]; omega)
    rw [List.append_assoc] at this
    exact this
  clear hl hk h10
  generalize l ++ uv m = l1 at *
  generalize l ++ (uv m ++ k) = l2 at *
  have hconv : ((m : Nat) : Int) % 18446744073709551616 = (m : Int) := by omega
  go_enter Try.func88, Try.ntmps88
  go_wp2_with (first
    | (go_at_call 85; refine hu.mono ?_; rintro e w2 ⟨R, rfl, ho2, hb2⟩; obtain ⟨R3, w3, hr3, ho3, hb3⟩ := hp _ _ ho2 hb2; clear hu hp)
    | (at_builtin; refine wpList_append_run rfl _ _ 35 rfl _ _ rfl rfl hr3 ?_; clear hr3))
  go_ret
  exact ⟨R3, rfl, ho3, hb3⟩

/- The statements' own test. -/
theorem uv_300 : uv 300 = [172, 2] := by rw [uv_big (by omega), uv_small (by omega)]

end Go.Proofs.Ytdbahebhodoooaa

/-
  What leading of package wire does: a contract over plain lists ('WiPlain').
  Conditions: bytes that are looked at lie in memory.
-/
namespace Go.Proofs.Ytdbahebhodoooaa
open Go.RowKit Wi By
set_option linter.unusedVariables false
set_option linter.unusedSimpArgs false
set_option maxRecDepth 100000

def ld (l : List Nat) : Nat × Nat := match lead l with | none => (0, 0) | some q => q

theorem ld_none {l : List Nat} (h : lead l = none) : ld l = (0, 0) := by unfold ld; rw [h]
theorem ld_some {l : List Nat} {q : Nat × Nat} (h : lead l = some q) : ld l = q := by unfold ld; rw [h]

theorem or_add (N d s : Nat) (h : N < 2 ^ s) : N ||| d * 2 ^ s = N + d * 2 ^ s := by
  have := Nat.two_pow_add_eq_or_of_lt h d
  rw [Nat.or_comm, Nat.mul_comm d, ← this, Nat.add_comm]

/- One digit more, by shifting and by or. -/
theorem digit_or (N d s : Nat) (hN : N < 18446744073709551616) : ∃ N2 : Nat, bits .or .u64 (N : Int) (IntKind.u64.wrap ((d : Int) * 2 ^ s)) = (N2 : Int) ∧ N2 < 18446744073709551616 ∧ (N < 2 ^ s → d * 2 ^ s < 18446744073709551616 → N2 = N + d * 2 ^ s) := by
  have e : IntKind.u64.wrap ((d : Int) * 2 ^ s) = ((d * 2 ^ s % 18446744073709551616 : Nat) : Int) := by
    rw [IntKind.wrap_u64, Int.natCast_emod, Int.natCast_mul, Int.natCast_pow]
    rfl
  refine ⟨N ||| (d * 2 ^ s % 18446744073709551616), ?_, ?_, fun h1 h2 => ?_⟩
  · rw [e]
    exact u64_or_nat N _ hN (Nat.mod_lt _ (by omega))
  · exact Nat.or_lt_two_pow (n := 64) hN (Nat.mod_lt _ (by omega))
  · rw [Nat.mod_eq_of_lt h2]
    exact or_add N d s h1

theorem drop_cons {l : List Nat} {k : Nat} (h : k < l.length) : l.drop k = gl l k :: l.drop (k + 1) := by
  rw [List.drop_eq_getElem_cons h]
  simp [gl, h]

def Lead (l : List Nat) (k N : Nat) : Prop := (k ≤ 9 ∧ leadF (l.drop k) k N = lead l ∧ N < 128 ^ k) ∨ (k = 10 ∧ lead l = none)

theorem pow7 (k : Nat) : 128 ^ k = 2 ^ (7 * k) := by rw [Nat.pow_mul]

theorem lead_more {l : List Nat} {k N N2 : Nat} (h : Lead l k N) (hk : k < l.length) (hk9 : k ≤ 9) (hv : 128 ≤ gl l k) (hv2 : gl l k < 256)
    (hN2 : N < 2 ^ (7 * k) → (gl l k - 128) * 2 ^ (7 * k) < 18446744073709551616 → N2 = N + (gl l k - 128) * 2 ^ (7 * k)) : Lead l (k + 1) N2 := by
  rcases h with ⟨_, h1, h2⟩ | ⟨h1, _⟩
  · rw [drop_cons hk, leadF, if_neg (by omega), if_pos hv] at h1
    by_cases h8 : k ≤ 8
    · left
      have hp : 128 ^ k ≤ 128 ^ 8 := Nat.pow_le_pow_right (by omega) h8
      have hm : (gl l k - 128) * 128 ^ k ≤ 127 * 128 ^ k := Nat.mul_le_mul_right _ (by omega)
      have e := hN2 (by rw [← pow7]; exact h2) (by rw [← pow7]; omega)
      rw [← pow7] at e
      refine ⟨by omega, by rw [e]; exact h1, ?_⟩
      rw [e, Nat.pow_succ]
      omega
    · right
      refine ⟨by omega, ?_⟩
      rw [← h1]
      exact leadF_ten _ _ _ (by omega)
  · omega

theorem lead_bad {l : List Nat} {k N : Nat} (h : Lead l k N) (hk : k < l.length) (hk9 : k ≤ 9) (hv : gl l k < 128) (hb : (0 < k ∧ gl l k = 0) ∨ (k = 9 ∧ 1 < gl l k)) : ld l = (0, 0) := by
  rcases h with ⟨_, h1, h2⟩ | ⟨h1, _⟩
  · rw [drop_cons hk, leadF, if_neg (by omega), if_neg (by omega), if_pos hb] at h1
    exact ld_none h1.symm
  · omega

theorem lead_good {l : List Nat} {k N N2 : Nat} (h : Lead l k N) (hk : k < l.length) (hk9 : k ≤ 9) (hv : gl l k < 128) (hb : ¬ ((0 < k ∧ gl l k = 0) ∨ (k = 9 ∧ 1 < gl l k)))
    (hN2 : N < 2 ^ (7 * k) → gl l k * 2 ^ (7 * k) < 18446744073709551616 → N2 = N + gl l k * 2 ^ (7 * k)) : ld l = (N2, k + 1) := by
  rcases h with ⟨_, h1, h2⟩ | ⟨h1, _⟩
  · rw [drop_cons hk, leadF, if_neg (by omega), if_neg (by omega), if_neg hb] at h1
    have e := hN2 (by rw [← pow7]; exact h2) (by
      rw [← pow7]
      by_cases h9 : k = 9
      · subst h9
        have : gl l 9 ≤ 1 := by omega
        omega
      · have hp : 128 ^ k ≤ 128 ^ 8 := Nat.pow_le_pow_right (by omega) (by omega)
        have hm : gl l k * 128 ^ k ≤ 127 * 128 ^ k := Nat.mul_le_mul_right _ (by omega)
        omega)
    rw [← pow7] at e
    rw [ld_some h1.symm, e]
  · omega

theorem lead_over {l : List Nat} {k N : Nat} (h : Lead l k N) (hk : l.length ≤ k ∨ k = 10) : ld l = (0, 0) := by
  rcases h with ⟨h0, h1, h2⟩ | ⟨h1, h2⟩
  · rw [List.drop_eq_nil_of_le (by omega)] at h1
    exact ld_none h1.symm
  · exact ld_none h2

set_option maxHeartbeats 1000000 in
set_option maxRecDepth 100000 in
theorem leading_short (b o n c : Nat) (l : List Nat) (w : World) (hl : Sl w (some ⟨b, o, none⟩) n c l) (hn : n ≤ 140737488355328) (hle : n ≤ 10) :
    Calls Try.prog 80 #[.slice (some ⟨b, o, none⟩) n c] w fun e w' => e = .returned (.tuple #[.int .u64 ((ld l).1 : Int), .int .i64 ((ld l).2 : Int)]) ∧ w' = w := by
  have hcut : ∀ v : World, (Instr.slice 35 (.slice (some ⟨b, o, none⟩) n c) none (some (.int .i64 (n : Int))) none).run Try.prog v = .ok (.slice (some ⟨b, o, none⟩) n c) v := fun v => cut_head (some ⟨b, o, none⟩) n c n v (by have := hl.le; omega)
  have Hl : Hid (Sl w (some ⟨b, o, none⟩) n c l) := hl
  have hlen := hl.len
  clear hl
  go_enter Try.func80, Try.ntmps80
  go_wp2_with fail
  go_loop [4, 13] (fun a i => ∃ k N : Nat, k ≤ n ∧ N < 18446744073709551616 ∧ a = .int .u64 N ∧ i = .int .i64 k ∧ Hid (Lead l k N)) (fun _ i => n - (intOf i).toNat)
  case atStart => exact ⟨0, 0, by omega, by omega, rfl, rfl, .inl ⟨by omega, rfl, by simp⟩⟩
  case round =>
    obtain ⟨k, N, hk, hN, rfl, rfl, HR⟩ := hrel
    clear hcut
    by_cases hlt : k < n
    · have hx1 : w.cell? ⟨b, o + k, none⟩ = some (.int .u8 (gl l k : Int)) := by
        rcases Hl.out.row with h0 | ⟨b', o', ha, _, hc⟩
        · omega
        · cases ha
          exact hc k (by omega)
      have hv := gl_lt Hl.out.lt k
      have hkl : k < l.length := by omega
      obtain ⟨s, hs⟩ : ∃ s : Nat, s = 7 * k := ⟨_, rfl⟩
      have hs7 : (7 : Int) * (k : Int) = (s : Int) := by omega
      have hs64 : s < 64 := by omega
      by_cases h128 : 128 ≤ gl l k
      · obtain ⟨u, hu⟩ : ∃ u : Nat, u = gl l k - 128 := ⟨_, rfl⟩
        have hu1 : (gl l k : Int) - 128 = (u : Int) := by omega
        have hu2 : u < 128 := by omega
        obtain ⟨N2, hor, hN2, he⟩ := digit_or N u s hN
        have HS : Hid (Lead l (k + 1) N2) := lead_more HR.out hkl (by omega) h128 hv (by rw [← hs, ← hu]; exact he)
        clear he HR Hl hu hs hkl hlen
        generalize gl l k = v at *
        go_wp2_with fail
        go_round
        case rel => exact ⟨k + 1, N2, by omega, hN2, rfl, by go_num, HS⟩
        case measure => simp [intOf]; omega
      · by_cases hbad : (0 < k ∧ gl l k = 0) ∨ (k = 9 ∧ 1 < gl l k)
        · have HD : Hid (ld l = (0, 0)) := lead_bad HR.out hkl (by omega) (by omega) hbad
          clear HR Hl hs hkl hlen
          rcases hbad with ⟨hk0, hv0⟩ | ⟨hk9, hv1⟩
          · rw [hv0] at hx1
            clear h128 hv hv0
            go_wp2_with fail
            go_ret2
            exact ⟨by rw [HD.out]; rfl, rfl⟩
          · generalize gl l k = v at *
            subst hk9
            go_wp2_with fail
            go_ret2
            exact ⟨by rw [HD.out]; rfl, rfl⟩
        · obtain ⟨N2, hor, hN2, he⟩ := digit_or N (gl l k) s hN
          have HD : Hid (ld l = (N2, k + 1)) := lead_good HR.out hkl (by omega) (by omega) hbad (N2 := N2) (by rw [← hs]; exact he)
          obtain ⟨k1, hk1⟩ : ∃ k1 : Nat, k1 = k + 1 := ⟨_, rfl⟩
          have hk1i : (k : Int) + 1 = (k1 : Int) := by omega
          rw [← hk1] at HD
          clear he HR Hl hs hkl hlen hk1
          generalize gl l k = v at *
          by_cases hk0 : k = 0
          · have hz : (k : Int) < 1 := by omega
            have hz9 : ((k : Int) == 9) = false := by simp; omega
            clear hbad hk0
            go_wp2_with fail
            go_ret2
            exact ⟨by rw [HD.out]; rfl, rfl⟩
          · have hv0 : 0 < v := by omega
            have hk0' : 0 < k := by omega
            by_cases hk9 : k = 9
            · have hv1 : v < 2 := by omega
              have hvb : ((v : Int) == 0) = false := by simp; omega
              have hvc : decide ((1 : Int) < (v : Int)) = false := by simp; omega
              have hz9 : ((k : Int) == 9) = true := by simp; omega
              clear hbad hk0 hk9
              go_wp2_with fail
              go_ret2
              exact ⟨by rw [HD.out]; rfl, rfl⟩
            · have hz9 : ((k : Int) == 9) = false := by simp; omega
              clear hbad hk0
              go_wp2_with fail
              go_ret2
              exact ⟨by rw [HD.out]; rfl, rfl⟩
    · have hk2 : k = n := by omega
      subst hk2
      have HD : Hid (ld l = (0, 0)) := lead_over HR.out (by omega)
      clear HR Hl hlen
      go_wp2_with fail
      go_ret2
      exact ⟨by rw [HD.out]; rfl, rfl⟩

set_option maxHeartbeats 1000000 in
set_option maxRecDepth 100000 in
theorem leading_long (b o n c : Nat) (l : List Nat) (w : World) (hl : Sl w (some ⟨b, o, none⟩) n c l) (hn : n ≤ 140737488355328) (hle : 10 < n) :
    Calls Try.prog 80 #[.slice (some ⟨b, o, none⟩) n c] w fun e w' => e = .returned (.tuple #[.int .u64 ((ld l).1 : Int), .int .i64 ((ld l).2 : Int)]) ∧ w' = w := by
  have hcut : ∀ v : World, (Instr.slice 35 (.slice (some ⟨b, o, none⟩) n c) none (some (.int .i64 (10 : Int))) none).run Try.prog v = .ok (.slice (some ⟨b, o, none⟩) 10 c) v := fun v => cut_head (some ⟨b, o, none⟩) n c 10 v (by have := hl.le; omega)
  have Hl : Hid (Sl w (some ⟨b, o, none⟩) n c l) := hl
  have hlen := hl.len
  clear hl
  go_enter Try.func80, Try.ntmps80
  go_wp2_with fail
  go_loop [4, 13] (fun a i => ∃ k N : Nat, k ≤ 10 ∧ N < 18446744073709551616 ∧ a = .int .u64 N ∧ i = .int .i64 k ∧ Hid (Lead l k N)) (fun _ i => 10 - (intOf i).toNat)
  case atStart => exact ⟨0, 0, by omega, by omega, rfl, rfl, .inl ⟨by omega, rfl, by simp⟩⟩
  case round =>
    obtain ⟨k, N, hk, hN, rfl, rfl, HR⟩ := hrel
    clear hcut
    by_cases hlt : k < 10
    · have hx1 : w.cell? ⟨b, o + k, none⟩ = some (.int .u8 (gl l k : Int)) := by
        rcases Hl.out.row with h0 | ⟨b', o', ha, _, hc⟩
        · omega
        · cases ha
          exact hc k (by omega)
      have hv := gl_lt Hl.out.lt k
      have hkl : k < l.length := by omega
      obtain ⟨s, hs⟩ : ∃ s : Nat, s = 7 * k := ⟨_, rfl⟩
      have hs7 : (7 : Int) * (k : Int) = (s : Int) := by omega
      have hs64 : s < 64 := by omega
      by_cases h128 : 128 ≤ gl l k
      · obtain ⟨u, hu⟩ : ∃ u : Nat, u = gl l k - 128 := ⟨_, rfl⟩
        have hu1 : (gl l k : Int) - 128 = (u : Int) := by omega
        have hu2 : u < 128 := by omega
        obtain ⟨N2, hor, hN2, he⟩ := digit_or N u s hN
        have HS : Hid (Lead l (k + 1) N2) := lead_more HR.out hkl (by omega) h128 hv (by rw [← hs, ← hu]; exact he)
        clear he HR Hl hu hs hkl hlen
        generalize gl l k = v at *
        go_wp2_with fail
        go_round
        case rel => exact ⟨k + 1, N2, by omega, hN2, rfl, by go_num, HS⟩
        case measure => simp [intOf]; omega
      · by_cases hbad : (0 < k ∧ gl l k = 0) ∨ (k = 9 ∧ 1 < gl l k)
        · have HD : Hid (ld l = (0, 0)) := lead_bad HR.out hkl (by omega) (by omega) hbad
          clear HR Hl hs hkl hlen
          rcases hbad with ⟨hk0, hv0⟩ | ⟨hk9, hv1⟩
          · rw [hv0] at hx1
            clear h128 hv hv0
            go_wp2_with fail
            go_ret2
            exact ⟨by rw [HD.out]; rfl, rfl⟩
          · generalize gl l k = v at *
            subst hk9
            go_wp2_with fail
            go_ret2
            exact ⟨by rw [HD.out]; rfl, rfl⟩
        · obtain ⟨N2, hor, hN2, he⟩ := digit_or N (gl l k) s hN
          have HD : Hid (ld l = (N2, k + 1)) := lead_good HR.out hkl (by omega) (by omega) hbad (N2 := N2) (by rw [← hs]; exact he)
          obtain ⟨k1, hk1⟩ : ∃ k1 : Nat, k1 = k + 1 := ⟨_, rfl⟩
          have hk1i : (k : Int) + 1 = (k1 : Int) := by omega
          rw [← hk1] at HD
          clear he HR Hl hs hkl hlen hk1
          generalize gl l k = v at *
          by_cases hk0 : k = 0
          · have hz : (k : Int) < 1 := by omega
            have hz9 : ((k : Int) == 9) = false := by simp; omega
            clear hbad hk0
            go_wp2_with fail
            go_ret2
            exact ⟨by rw [HD.out]; rfl, rfl⟩
          · have hv0 : 0 < v := by omega
            have hk0' : 0 < k := by omega
            by_cases hk9 : k = 9
            · have hv1 : v < 2 := by omega
              have hvb : ((v : Int) == 0) = false := by simp; omega
              have hvc : decide ((1 : Int) < (v : Int)) = false := by simp; omega
              have hz9 : ((k : Int) == 9) = true := by simp; omega
              clear hbad hk0 hk9
              go_wp2_with fail
              go_ret2
              exact ⟨by rw [HD.out]; rfl, rfl⟩
            · have hz9 : ((k : Int) == 9) = false := by simp; omega
              clear hbad hk0
              go_wp2_with fail
              go_ret2
              exact ⟨by rw [HD.out]; rfl, rfl⟩
    · have hk2 : k = 10 := by omega
      subst hk2
      have HD : Hid (ld l = (0, 0)) := lead_over HR.out (by omega)
      clear HR Hl hlen
      go_wp2_with fail
      go_ret2
      exact ⟨by rw [HD.out]; rfl, rfl⟩

theorem leading_none (x : Option Addr) (c : Nat) (w : World) :
    Calls Try.prog 80 #[.slice x 0 c] w fun e w' => e = .returned (.tuple #[.int .u64 0, .int .i64 0]) ∧ w' = w := by
  have hcut : ∀ v : World, (Instr.slice 35 (.slice x 0 c) none (some (.int .i64 0)) none).run Try.prog v = .ok (.slice x 0 c) v := fun v => cut_head x 0 c 0 v (by omega)
  go_enter Try.func80, Try.ntmps80
  go_wp2_with fail
  refine wp_loop_rounds 1 ?_
  rw [rounds_succ]
  go_wp2_with fail
  go_ret2
  exact ⟨rfl, rfl⟩

theorem leading_any (x : Option Addr) (n c : Nat) (l : List Nat) (w : World) (hl : Sl w x n c l) (hn : n ≤ 140737488355328) :
    Calls Try.prog 80 #[.slice x n c] w fun e w' => e = .returned (.tuple #[.int .u64 ((ld l).1 : Int), .int .i64 ((ld l).2 : Int)]) ∧ w' = w := by
  by_cases h0 : n = 0
  · subst h0
    have : l = [] := List.eq_nil_of_length_eq_zero hl.len
    subst this
    exact leading_none x c w
  · rcases hl.row with h | ⟨b, o, rfl, _, _⟩
    · exact absurd h h0
    · by_cases h10 : n ≤ 10
      · exact leading_short b o n c l w hl hn h10
      · exact leading_long b o n c l w hl hn (by omega)

end Go.Proofs.Ytdbahebhodoooaa

/-
  What Read and the reader's methods of package wire do: contracts over plain lists ('WiPlain').
  Conditions: bytes that are looked at lie in memory.
-/
namespace Go.Proofs.Ytdbahebhodoooaa
open Go.RowKit Wi By
set_option linter.unusedVariables false
set_option linter.unusedSimpArgs false
set_option maxRecDepth 100000

/- A list that is a part of another one: in the same block. -/
def From (x x' : Option Addr) : Prop := ∀ a', x' = some a' → ∃ a, x = some a ∧ a.block = a'.block

theorem From.refl (x : Option Addr) : From x x := fun a h => ⟨a, h, rfl⟩
theorem From.trans {x y z : Option Addr} (h : From x y) (k : From y z) : From x z := fun a ha => by
  obtain ⟨b, hb, e⟩ := k a ha
  obtain ⟨c, hc, e2⟩ := h b hb
  exact ⟨c, hc, e2.trans e⟩
theorem From.cut (x : Option Addr) (c k : Nat) : From x (cutTo x c k) := fun a ha => cutTo_block ha
theorem From.ap {x y : Option Addr} {p : Nat} (h : From x y) (hx : ∀ a, x = some a → a.block ≠ p) : ∀ a, y = some a → a.block ≠ p := fun a ha => by
  obtain ⟨b, hb, e⟩ := h a ha
  rw [← e]
  exact hx b hb

def PGo (w w' : World) (p : Nat) (x : Option Addr) (l' : List Nat) (e' : Nat) : Prop := Turn p w w' ∧ ∃ x' n' c', PRd w' p x' n' c' l' e' ∧ From x x'

/- bytes.Clone, in new memory. -/
theorem clone_sl (x : Option Addr) (n c : Nat) (l : List Nat) (w : World) (hl : Sl w x n c l) (hn : n ≤ 140737488355328) :
    Calls Try.prog 60 #[.slice x n c] w fun e w' => ∃ y cy, e = .returned (.slice y n cy) ∧ Below w.heap.size w w' ∧ Sl w' y n cy l ∧ ∀ a, y = some a → w.heap.size ≤ a.block ∧ a.block < w'.heap.size := by
  cases x with
  | none =>
    obtain ⟨rfl, rfl⟩ := hl.nil' rfl
    have h0 : l = [] := List.eq_nil_of_length_eq_zero hl.len
    subst h0
    exact (clone_nil w).mono fun e w' h => ⟨none, 0, h.1, by rw [h.2]; exact Below.refl _ _, Sl.empty _, fun a ha => by cases ha⟩
  | some ad =>
    obtain ⟨g, cy, w', hrun, h1, h0, h2, h3, h4, h5⟩ := bytes_copy w (some ad) n c (gl l) hl.row (fun h => by cases h) hn
    have hcy : n ≤ cy := by
      rcases h0.2 with ⟨h, _⟩ | ⟨g', c', cur, h, _, _, hc, _⟩
      · cases h
      · injection h with _ _ h; rw [h]; exact hc
    have H1 : Hid (Below w.heap.size w w' ∧ Sl w' (some ⟨g, 0, none⟩) n cy l) := ⟨h1, hl.len, hcy, (fun h => by cases h), h5, hl.lt⟩
    have he : ∀ w : World, (binOp .eql 35 (.slice (some ad) n c) (.slice none 0 0)).run Try.prog w = .ok (.bool false) w := fun _ => by kernel_rfl
    clear h1 h0 h4 h5 hl hcy
    go_enter Try.func60, Try.ntmps60
    go_wp2_with (at_builtin; refine wpList_append_run rfl _ _ 35 rfl _ _ rfl rfl hrun ?_; clear hrun)
    go_ret
    exact ⟨some ⟨g, 0, none⟩, cy, rfl, H1.out.1, H1.out.2, fun a ha => by cases ha; exact ⟨h2, h3⟩⟩

/- Read(b). -/
theorem prd_new (w : World) (y : Option Addr) (n cy : Nat) (l : List Nat) (hy : Sl w y n cy l) (ha : ∀ a, y = some a → a.block < w.heap.size) (hn : n ≤ 140737488355328) :
    PRd (w.alloc (.cells #[.slice y n cy, .int .i64 0] 104)) w.heap.size y n cy l 0 :=
  ⟨by simp, by simp, fun j => frozen_new _ _ _ j, hy.below ((Below.refl _ _).alloc (Nat.le_refl _) _), fun a h => by have := ha a h; omega, hn⟩

theorem read_any (x : Option Addr) (n c : Nat) (l : List Nat) (w : World) (hl : Sl w x n c l) (hn : n ≤ 140737488355328) :
    Calls Try.prog 39 #[.slice x n c] w fun e w' => ∃ p y cy, e = .returned (.pointer (some ⟨p, 0, none⟩)) ∧ w.heap.size ≤ p ∧ Below w.heap.size w w' ∧ PRd w' p y n cy l 0 ∧ ∀ a, y = some a → w.heap.size ≤ a.block ∧ a.block < w'.heap.size := by
  have hc := clone_sl x n c l w hl hn
  clear hl
  go_enter Try.func39, Try.ntmps39
  go_wp2_with (go_at_call 60; refine hc.mono ?_; rintro e w2 ⟨y, cy, rfl, hb, hy, ha⟩; clear hc)
  go_ret
  exact ⟨w2.heap.size, y, cy, rfl, hb.size, hb.alloc hb.size _, prd_new w2 y n cy l hy (fun a h => (ha a h).2) hn, fun a h => ⟨(ha a h).1, by have := (ha a h).2; simp; omega⟩⟩

/- Err, Left, Done. -/
theorem perr_any (p e : Nat) (w : World) (hc : w.cell? ⟨p, 1, none⟩ = some (.int .i64 (e : Int))) :
    Calls Try.prog 61 #[.pointer (some ⟨p, 0, none⟩)] w fun ed w' => ed = .returned (.int .i64 (e : Int)) ∧ w' = w := by
  go_enter Try.func61, Try.ntmps61
  go_wp2_with fail
  go_ret
  exact ⟨rfl, rfl⟩

theorem pleft_any (p n c : Nat) (x : Option Addr) (w : World) (hc : w.cell? ⟨p, 0, none⟩ = some (.slice x n c)) :
    Calls Try.prog 65 #[.pointer (some ⟨p, 0, none⟩)] w fun ed w' => ed = .returned (.int .i64 (n : Int)) ∧ w' = w := by
  go_enter Try.func65, Try.ntmps65
  go_wp2_with fail
  go_ret
  exact ⟨rfl, rfl⟩

theorem pdone_any (p n c e : Nat) (x : Option Addr) (l : List Nat) (w : World) (h : PRd w p x n c l e) :
    Calls Try.prog 45 #[.pointer (some ⟨p, 0, none⟩)] w fun ed w' => ed = .returned (.int .i64 (rDone l e : Int)) ∧ w' = w := by
  have h1 := perr_any p e w h.wrong
  have h2 := pleft_any p n c x w h.rest
  have hlen := h.sl.len
  by_cases he : e = 0
  · subst he
    by_cases h0 : n = 0
    · have HD : Hid (rDone l 0 = 0) := (by unfold rDone; rw [if_neg (by omega), if_neg (by omega)] : rDone l 0 = 0)
      subst h0
      clear h
      go_enter Try.func45, Try.ntmps45
      go_wp2_with (first
        | (go_at_call 61; refine h1.mono ?_; rintro e w' ⟨rfl, rfl⟩; clear h1)
        | (go_at_call 65; refine h2.mono ?_; rintro e w' ⟨rfl, rfl⟩; clear h2))
      go_ret
      exact ⟨by rw [HD.out]; rfl, rfl⟩
    · have HD : Hid (rDone l 0 = 5) := (by unfold rDone; rw [if_neg (by omega), if_pos (by omega)] : rDone l 0 = 5)
      have hpos : 0 < n := by omega
      clear h
      go_enter Try.func45, Try.ntmps45
      go_wp2_with (first
        | (go_at_call 61; refine h1.mono ?_; rintro e w' ⟨rfl, rfl⟩; clear h1)
        | (go_at_call 65; refine h2.mono ?_; rintro e w' ⟨rfl, rfl⟩; clear h2))
      go_ret
      exact ⟨by rw [HD.out]; rfl, rfl⟩
  · have HD : Hid (rDone l e = e) := (by unfold rDone; rw [if_pos he] : rDone l e = e)
    have hne : ((e : Int) != 0) = true := by simp; omega
    clear h h2
    go_enter Try.func45, Try.ntmps45
    go_wp2_with (go_at_call 61; refine h1.mono ?_; rintro e w' ⟨rfl, rfl⟩; clear h1)
    go_ret
    exact ⟨by rw [HD.out]; rfl, rfl⟩

/- Uvarint(). -/
theorem puv_any (p n c e : Nat) (x : Option Addr) (l : List Nat) (w : World) (h : PRd w p x n c l e) :
    Calls Try.prog 62 #[.pointer (some ⟨p, 0, none⟩)] w fun ed w' => ed = .returned (.int .u64 ((rUv l e).1 : Int)) ∧ PGo w w' p x (rUv l e).2.1 (rUv l e).2.2 := by
  have h1 := perr_any p e w h.wrong
  have hsm := h.small
  by_cases he : e = 0
  · subst he
    have h2 := leading_any x n c l w h.sl hsm
    have hc0 := h.rest
    have hc1 := h.wrong
    have hf0 := h.fr 0
    have hf1 := h.fr 1
    cases hl : lead l with
    | none =>
      rw [ld_none hl] at h2
      have HD : Hid (rUv l 0 = (0, l, 5) ∧ PGo w (w.setCell ⟨p, 1, none⟩ (.int .i64 5)) p x l 5) := ⟨rUv_no hl, (Turn.refl p w).setCell rfl _, x, n, c, h.setWrong 5, From.refl x⟩
      clear h hl
      go_enter Try.func62, Try.ntmps62
      go_wp2_with (first
        | (go_at_call 61; refine h1.mono ?_; rintro e w' ⟨rfl, rfl⟩; clear h1)
        | (go_at_call 80; refine h2.mono ?_; rintro e w' ⟨rfl, rfl⟩; clear h2))
      go_ret
      rw [HD.out.1]
      exact ⟨rfl, HD.out.2⟩
    | some q =>
      obtain ⟨N, k⟩ := q
      rw [ld_some hl] at h2
      have hk := (lead_canon h.sl.lt hl).2.2.1
      have hN := (lead_canon h.sl.lt hl).2.2.2
      have hkp := lead_pos h.sl.lt hl
      rw [h.sl.len] at hk
      have hcut := fun v => wcut_from x n c k v hk
      have hk0 : ((k : Int) == 0) = false := by simp; omega
      have HD : Hid (rUv l 0 = (N, l.drop k, 0) ∧ PGo w (w.setCell ⟨p, 0, none⟩ (.slice (cutTo x c k) (n - k) (c - k))) p x (l.drop k) 0) :=
        ⟨rUv_yes hl, (Turn.refl p w).setCell rfl _, _, _, _, h.setRest (h.sl.from k hk) ((From.cut x c k).ap h.ap) (by omega), From.cut x c k⟩
      clear h hl
      go_enter Try.func62, Try.ntmps62
      go_wp2_with (first
        | (go_at_call 61; refine h1.mono ?_; rintro e w' ⟨rfl, rfl⟩; clear h1)
        | (go_at_call 80; refine h2.mono ?_; rintro e w' ⟨rfl, rfl⟩; clear h2))
      go_ret
      rw [HD.out.1]
      exact ⟨rfl, HD.out.2⟩
  · have HD : Hid (rUv l e = (0, l, e) ∧ PGo w w p x l e) := ⟨rUv_bad he, Turn.refl p w, x, n, c, h, From.refl x⟩
    have hne : ((e : Int) != 0) = true := by simp; omega
    clear h
    go_enter Try.func62, Try.ntmps62
    go_wp2_with (go_at_call 61; refine h1.mono ?_; rintro e w' ⟨rfl, rfl⟩; clear h1)
    go_ret
    rw [HD.out.1]
    exact ⟨rfl, HD.out.2⟩

/- refuse(begin, wrong). -/
theorem prefuse_any (p n c e e' n' c' : Nat) (x x' : Option Addr) (l l' : List Nat) (w : World) (h : PRd w p x n c l e) (hs : Sl w x' n' c' l') (ha : ∀ a, x' = some a → a.block ≠ p) (hn : n' ≤ 140737488355328) :
    Calls Try.prog 63 #[.pointer (some ⟨p, 0, none⟩), .slice x' n' c', .int .i64 (e' : Int)] w fun ed w' => ed = .returned (.tuple #[]) ∧ PGo w w' p x' l' e' := by
  have hc0 := h.rest
  have hf0 := h.fr 0
  have hg := h.setRest hs ha hn
  have hc1 := hg.wrong
  have hf1 := hg.fr 1
  have HD : Hid (PGo w ((w.setCell ⟨p, 0, none⟩ (.slice x' n' c')).setCell ⟨p, 1, none⟩ (.int .i64 (e' : Int))) p x' l' e') := ⟨((Turn.refl p w).setCell rfl _).setCell rfl _, x', n', c', hg.setWrong e', From.refl x'⟩
  clear h hg hs ha
  go_enter Try.func63, Try.ntmps63
  go_wp2_with fail
  go_end0
  exact ⟨rfl, HD.out⟩

end Go.Proofs.Ytdbahebhodoooaa

/-
  What the reader's fixed, Fixed4, Fixed8, Byte, Number and Bytes of package wire do: contracts over plain lists ('WiPlain').
  Conditions: bytes that are looked at lie in memory.
-/
namespace Go.Proofs.Ytdbahebhodoooaa
open Go.RowKit Wi By
set_option linter.unusedVariables false
set_option linter.unusedSimpArgs false
set_option maxRecDepth 100000

theorem pow8 (k : Nat) : 256 ^ k = 2 ^ (8 * k) := by rw [Nat.pow_mul]

theorem le_digit {l : List Nat} {k N N2 : Nat} (hl : ∀ v ∈ l, v < 256) (hk : k < l.length) (hk7 : k ≤ 7) (hN : N = le (l.take k))
    (h : N < 2 ^ (8 * k) → gl l k * 2 ^ (8 * k) < 18446744073709551616 → N2 = N + gl l k * 2 ^ (8 * k)) : N2 = le (l.take (k + 1)) := by
  have h1 : le (l.take k) < 256 ^ (l.take k).length := le_lt _ (fun v hv => hl v (List.mem_of_mem_take hv))
  rw [List.length_take, Nat.min_eq_left (by omega)] at h1
  have hv := gl_lt hl k
  have hp : 256 ^ k ≤ 256 ^ 7 := Nat.pow_le_pow_right (by omega) hk7
  have hm : gl l k * 256 ^ k ≤ 255 * 256 ^ k := Nat.mul_le_mul_right _ (by omega)
  have e := h (by rw [← pow8, hN]; exact h1) (by rw [← pow8]; omega)
  rw [e, ← pow8, hN, le_take_succ l k hk]
  rfl

theorem rFx_bad {s : Nat} {l : List Nat} {e : Nat} (h : e ≠ 0) : rFx s l e = (0, l, e) := by unfold rFx; rw [if_pos h]
theorem rFx_no {s : Nat} {l : List Nat} (h : l.length < s) : rFx s l 0 = (0, l, 5) := by unfold rFx; rw [if_neg (by omega), if_pos h]
theorem rFx_yes {s : Nat} {l : List Nat} (h : s ≤ l.length) : rFx s l 0 = (le (l.take s), l.drop s, 0) := by unfold rFx; rw [if_neg (by omega), if_neg (by omega)]

theorem rFx_lt (s : Nat) (l : List Nat) (e : Nat) (hl : ∀ v ∈ l, v < 256) (hs : 0 < s) : (rFx s l e).1 < 256 ^ s := by
  by_cases h : e = 0
  · subst h
    by_cases h2 : l.length < s
    · rw [rFx_no h2]; exact Nat.pow_pos (by omega)
    · rw [rFx_yes (by omega)]
      have := le_lt (l.take s) (fun v hv => hl v (List.mem_of_mem_take hv))
      rw [List.length_take, Nat.min_eq_left (by omega)] at this
      exact this
  · rw [rFx_bad h]; exact Nat.pow_pos (by omega)

/- Number(most). -/
theorem rNum_bad {t : Int} {l : List Nat} {e : Nat} (h : e ≠ 0) : rNum t l e = (0, l, e) := by unfold rNum; rw [if_pos h]
theorem rNum_no {t : Int} {l : List Nat} (h : (rUv l 0).2.2 ≠ 0) : rNum t l 0 = (0, (rUv l 0).2.1, (rUv l 0).2.2) := by unfold rNum; rw [if_neg (by omega), if_pos h]
theorem rNum_long {t : Int} {l : List Nat} (h : (rUv l 0).2.2 = 0) (ht : t < 0 ∨ t < ((rUv l 0).1 : Int)) : rNum t l 0 = (0, l, 3) := by unfold rNum; rw [if_neg (by omega), if_neg (by omega), if_pos ht]
theorem rNum_yes {t : Int} {l : List Nat} (h : (rUv l 0).2.2 = 0) (ht : ¬ (t < 0 ∨ t < ((rUv l 0).1 : Int))) : rNum t l 0 = rUv l 0 := by unfold rNum; rw [if_neg (by omega), if_neg (by omega), if_neg ht]

theorem rNum_lt (t : Int) (l : List Nat) (e : Nat) (ht : t ≤ 9223372036854775807) : (rNum t l e).1 < 9223372036854775808 := by
  by_cases h : e = 0
  · subst h
    by_cases h2 : (rUv l 0).2.2 = 0
    · by_cases h3 : t < 0 ∨ t < ((rUv l 0).1 : Int)
      · rw [rNum_long h2 h3]; show 0 < _; omega
      · rw [rNum_yes h2 h3]; omega
    · rw [rNum_no h2]; show 0 < _; omega
  · rw [rNum_bad h]; show 0 < _; omega

theorem pnum_any (p n c e : Nat) (t : Int) (x : Option Addr) (l : List Nat) (w : World) (h : PRd w p x n c l e) (ht1 : -9223372036854775808 ≤ t) (ht2 : t ≤ 9223372036854775807) :
    Calls Try.prog 40 #[.pointer (some ⟨p, 0, none⟩), .int .i64 t] w fun ed w' => ed = .returned (.int .i64 ((rNum t l e).1 : Int)) ∧ PGo w w' p x (rNum t l e).2.1 (rNum t l e).2.2 := by
  have h1 := perr_any p e w h.wrong
  have hsm := h.small
  by_cases he : e = 0
  · subst he
    have hc0 := h.rest
    have hu : Calls Try.prog 62 #[.pointer (some ⟨p, 0, none⟩)] w fun ed w' => ed = .returned (.int .u64 ((rUv l 0).1 : Int)) ∧ w'.cell? ⟨p, 1, none⟩ = some (.int .i64 ((rUv l 0).2.2 : Int)) ∧ PGo w w' p x (rUv l 0).2.1 (rUv l 0).2.2 :=
      (puv_any p n c 0 x l w h).mono fun ed w' ⟨h1, h2⟩ => ⟨h1, by obtain ⟨_, x', n', c', h3, _⟩ := h2; exact h3.wrong, h2⟩
    have hN := rUv_lt l 0 h.sl.lt
    by_cases he2 : (rUv l 0).2.2 = 0
    · by_cases hlong : t < 0 ∨ t < ((rUv l 0).1 : Int)
      · have HD : Hid (rNum t l 0 = (0, l, 3)) := rNum_long he2 hlong
        have hr : ∀ v, PGo w v p x (rUv l 0).2.1 (rUv l 0).2.2 → Calls Try.prog 63 #[.pointer (some ⟨p, 0, none⟩), .slice x n c, .int .i64 3] v fun ed w' => ed = .returned (.tuple #[]) ∧ PGo w w' p x l 3 := fun v hv => by
          obtain ⟨t1, x', n', c', h3, h4⟩ := hv
          exact (prefuse_any p n' c' _ 3 n c x' x _ l v h3 (h.sl.turn t1 h.ap) h.ap hsm).mono fun ed w' ⟨h5, h6⟩ => ⟨h5, t1.trans h6.1, h6.2⟩
        rw [he2] at hu hr
        generalize (rUv l 0).1 = N at *
        generalize (rUv l 0).2.1 = l2 at *
        clear h he2
        by_cases hneg : t < 0
        · clear hlong
          go_enter Try.func40, Try.ntmps40
          go_wp2_with (first
            | (go_at_call 61; refine h1.mono ?_; rintro e w' ⟨rfl, rfl⟩; clear h1)
            | (go_at_call 62; refine hu.mono ?_; rintro e w2 ⟨rfl, hc2, hg⟩; clear hu)
            | (go_at_call 63; refine (hr _ hg).mono ?_; rintro e w3 ⟨rfl, hg3⟩; clear hr))
          go_ret
          rw [HD.out]
          exact ⟨rfl, hg3⟩
        · have hl2 : t < (N : Int) := by omega
          have hneg' : (0 : Int) ≤ t := by omega
          clear hlong hneg
          go_enter Try.func40, Try.ntmps40
          go_wp2_with (first
            | (go_at_call 61; refine h1.mono ?_; rintro e w' ⟨rfl, rfl⟩; clear h1)
            | (go_at_call 62; refine hu.mono ?_; rintro e w2 ⟨rfl, hc2, hg⟩; clear hu)
            | (go_at_call 63; refine (hr _ hg).mono ?_; rintro e w3 ⟨rfl, hg3⟩; clear hr))
          go_ret
          rw [HD.out]
          exact ⟨rfl, hg3⟩
      · have HD : Hid (rNum t l 0 = ((rUv l 0).1, (rUv l 0).2.1, 0)) := by
          show rNum t l 0 = _
          rw [rNum_yes he2 hlong]
          exact Prod.ext rfl (Prod.ext rfl he2)
        rw [he2] at hu
        generalize (rUv l 0).1 = N at *
        generalize (rUv l 0).2.1 = l2 at *
        have hl2 : (N : Int) ≤ t := by omega
        have hneg' : (0 : Int) ≤ t := by omega
        clear h hlong he2
        go_enter Try.func40, Try.ntmps40
        go_wp2_with (first
          | (go_at_call 61; refine h1.mono ?_; rintro e w' ⟨rfl, rfl⟩; clear h1)
          | (go_at_call 62; refine hu.mono ?_; rintro e w2 ⟨rfl, hc2, hg⟩; clear hu))
        go_ret
        rw [HD.out]
        exact ⟨rfl, hg⟩
    · have HD : Hid (rNum t l 0 = (0, (rUv l 0).2.1, (rUv l 0).2.2)) := rNum_no he2
      generalize (rUv l 0).1 = N at *
      generalize (rUv l 0).2.1 = l2 at *
      generalize (rUv l 0).2.2 = e2 at *
      have hne : ((e2 : Int) != 0) = true := by simp; omega
      clear h
      go_enter Try.func40, Try.ntmps40
      go_wp2_with (first
        | (go_at_call 61; refine h1.mono ?_; rintro e w' ⟨rfl, rfl⟩; clear h1)
        | (go_at_call 62; refine hu.mono ?_; rintro e w2 ⟨rfl, hc2, hg⟩; clear hu))
      go_ret
      rw [HD.out]
      exact ⟨rfl, hg⟩
  · have HD : Hid (rNum t l e = (0, l, e) ∧ PGo w w p x l e) := ⟨rNum_bad he, Turn.refl p w, x, n, c, h, From.refl x⟩
    have hne : ((e : Int) != 0) = true := by simp; omega
    clear h
    go_enter Try.func40, Try.ntmps40
    go_wp2_with (go_at_call 61; refine h1.mono ?_; rintro e w' ⟨rfl, rfl⟩; clear h1)
    go_ret
    rw [HD.out.1]
    exact ⟨rfl, HD.out.2⟩

/- Bytes(most). -/
theorem rBy_bad {t : Int} {l : List Nat} {e : Nat} (h : e ≠ 0) : rBy t l e = ([], l, e) := by unfold rBy; rw [if_pos h]
theorem rBy_no {t : Int} {l : List Nat} (h : (rNum t l 0).2.2 ≠ 0) : rBy t l 0 = ([], (rNum t l 0).2.1, (rNum t l 0).2.2) := by unfold rBy; rw [if_neg (by omega), if_pos h]
theorem rBy_few {t : Int} {l : List Nat} (h : (rNum t l 0).2.2 = 0) (h2 : (rNum t l 0).2.1.length < (rNum t l 0).1) : rBy t l 0 = ([], l, 5) := by unfold rBy; rw [if_neg (by omega), if_neg (by omega), if_pos h2]
theorem rBy_yes {t : Int} {l : List Nat} (h : (rNum t l 0).2.2 = 0) (h2 : (rNum t l 0).1 ≤ (rNum t l 0).2.1.length) : rBy t l 0 = ((rNum t l 0).2.1.take (rNum t l 0).1, (rNum t l 0).2.1.drop (rNum t l 0).1, 0) := by unfold rBy; rw [if_neg (by omega), if_neg (by omega), if_neg (by omega)]

def PTold (w w' : World) (p : Nat) (x : Option Addr) (v : Value) (k l' : List Nat) (e' : Nat) : Prop := PGo w w' p x l' e' ∧ ∃ y cy, v = .slice y k.length cy ∧ Sl w' y k.length cy k ∧ ∀ a, y = some a → w.heap.size ≤ a.block

theorem pbytes_any (p n c e : Nat) (t : Int) (x : Option Addr) (l : List Nat) (w : World) (h : PRd w p x n c l e) (ht1 : -9223372036854775808 ≤ t) (ht2 : t ≤ 9223372036854775807) :
    Calls Try.prog 44 #[.pointer (some ⟨p, 0, none⟩), .int .i64 t] w fun ed w' => ∃ v, ed = .returned v ∧ PTold w w' p x v (rBy t l e).1 (rBy t l e).2.1 (rBy t l e).2.2 := by
  have h1 := perr_any p e w h.wrong
  have hsm := h.small
  by_cases he : e = 0
  · subst he
    have hc0 := h.rest
    have hu : Calls Try.prog 40 #[.pointer (some ⟨p, 0, none⟩), .int .i64 t] w fun ed w' => ed = .returned (.int .i64 ((rNum t l 0).1 : Int)) ∧ Turn p w w' ∧ ∃ x' c', PRd w' p x' (rNum t l 0).2.1.length c' (rNum t l 0).2.1 (rNum t l 0).2.2 ∧ From x x' :=
      (pnum_any p n c 0 t x l w h ht1 ht2).mono fun ed w' ⟨h1, h2, x', n', c', h3, h4⟩ => ⟨h1, h2, x', c', by rw [h3.sl.len]; exact h3, h4⟩
    have hN := rNum_lt t l 0 ht2
    by_cases he2 : (rNum t l 0).2.2 = 0
    · by_cases hfew : (rNum t l 0).2.1.length < (rNum t l 0).1
      · have HD : Hid (rBy t l 0 = ([], l, 5)) := rBy_few he2 hfew
        have hr : ∀ v x' n' c' l' e', Turn p w v → PRd v p x' n' c' l' e' → Calls Try.prog 63 #[.pointer (some ⟨p, 0, none⟩), .slice x n c, .int .i64 5] v fun ed w' => ed = .returned (.tuple #[]) ∧ PGo w w' p x l 5 := fun v x' n' c' l' e' t1 h3 =>
          (prefuse_any p n' c' _ 5 n c x' x _ l v h3 (h.sl.turn t1 h.ap) h.ap hsm).mono fun ed w' ⟨h5, h6⟩ => ⟨h5, t1.trans h6.1, h6.2⟩
        rw [he2] at hu
        generalize (rNum t l 0).1 = N at *
        generalize (rNum t l 0).2.1 = l2 at *
        clear h he2
        go_enter Try.func44, Try.ntmps44
        go_wp2_with (first
          | (go_at_call 61; refine h1.mono ?_; rintro e w' ⟨rfl, rfl⟩; clear h1)
          | (go_at_call 40; refine hu.mono ?_; rintro e w2 ⟨rfl, t2, x2, c2, hg, _⟩; have hd0 := hg.rest; have hd1 := hg.wrong; have hr2 := hr _ _ _ _ _ _ t2 hg; clear hu hr hg)
          | (go_at_call 63; refine hr2.mono ?_; rintro e w3 ⟨rfl, hg3⟩; clear hr2))
        go_ret
        rw [HD.out]
        exact ⟨_, rfl, hg3, none, 0, rfl, Sl.empty _, fun a ha => by cases ha⟩
      · have hle : (rNum t l 0).1 ≤ (rNum t l 0).2.1.length := by omega
        have HD : Hid (rBy t l 0 = ((rNum t l 0).2.1.take (rNum t l 0).1, (rNum t l 0).2.1.drop (rNum t l 0).1, 0)) := rBy_yes he2 hle
        rw [he2] at hu
        generalize (rNum t l 0).1 = N at *
        generalize (rNum t l 0).2.1 = l2 at *
        obtain ⟨m, hm⟩ : ∃ m, m = l2.length := ⟨_, rfl⟩
        rw [← hm] at hu hle
        have Hm : Hid (m = l2.length) := hm
        clear h he2 hfew hm
        go_enter Try.func44, Try.ntmps44
        go_wp2_with (first
          | (go_at_call 61; refine h1.mono ?_; rintro e w' ⟨rfl, rfl⟩; clear h1)
          | (go_at_call 40; refine hu.mono ?_; rintro e w2 ⟨rfl, t2, x2, c2, hg, hfr⟩; have hd0 := hg.rest; have hd1 := hg.wrong; have HG : Hid (PRd w2 p x2 m c2 l2 0 ∧ Turn p w' w2 ∧ From x x2) := ⟨hg, t2, hfr⟩; have hhead := fun v => cut_head x2 m c2 N v (Nat.le_trans hle hg.sl.le); have hcut := fun v => wcut_from x2 m c2 N v hle; have hcl := clone_sl x2 N c2 (l2.take N) w2 (hg.sl.head N hle) (Nat.le_trans hle hg.small); clear hu hg t2 hfr)
          | (go_at_call 60; refine hcl.mono ?_; rintro e w3 ⟨y, cy, rfl, hb3, hy3, hyb⟩; have hk3 := HG.out.1.below hb3; have he0 := hk3.rest; have hf0 := hk3.fr 0; have H3 : Hid (Below w2.heap.size w2 w3 ∧ Sl w3 y N cy (l2.take N) ∧ PRd w3 p x2 m c2 l2 0 ∧ ∀ a, y = some a → w2.heap.size ≤ a.block) := ⟨hb3, hy3, hk3, fun a ha => (hyb a ha).1⟩; clear hcl hhead hb3 hy3 hk3 hyb))
        go_ret
        rw [HD.out]
        obtain ⟨g1, g2, g3⟩ := HG.out
        obtain ⟨k1, k2, k3, k4⟩ := H3.out
        have t3 : Turn p w' w3 := g2.trans (Turn.of_below k1)
        have hlen : (l2.take N).length = N := by rw [List.length_take]; have := Hm.out; omega
        have hyp : ∀ a, y = some a → a.block ≠ p := fun a ha => by
          have h1 := k4 a ha
          have h2 := g1.lt
          omega
        refine ⟨_, rfl, ⟨t3.setCell rfl _, _, _, _, k3.setRest (k3.sl.from N hle) ((From.cut x2 c2 N).ap k3.ap) (by have := k3.small; omega), g3.trans (From.cut x2 c2 N)⟩, y, cy, by rw [hlen]; rfl, ?_, fun a ha => Nat.le_trans g2.size (k4 a ha)⟩
        rw [hlen]
        exact k2.turn ((Turn.refl p w3).setCell rfl _) hyp
    · have HD : Hid (rBy t l 0 = ([], (rNum t l 0).2.1, (rNum t l 0).2.2)) := rBy_no he2
      generalize (rNum t l 0).1 = N at *
      generalize (rNum t l 0).2.1 = l2 at *
      generalize (rNum t l 0).2.2 = e2 at *
      have hne : ((e2 : Int) != 0) = true := by simp; omega
      clear h
      go_enter Try.func44, Try.ntmps44
      go_wp2_with (first
        | (go_at_call 61; refine h1.mono ?_; rintro e w' ⟨rfl, rfl⟩; clear h1)
        | (go_at_call 40; refine hu.mono ?_; rintro e w2 ⟨rfl, t2, x2, c2, hg, hfr⟩; have hd1 := hg.wrong; clear hu))
      go_ret
      rw [HD.out]
      exact ⟨_, rfl, ⟨t2, x2, _, c2, hg, hfr⟩, none, 0, rfl, Sl.empty _, fun a ha => by cases ha⟩
  · have HD : Hid (rBy t l e = ([], l, e) ∧ PGo w w p x l e) := ⟨rBy_bad he, Turn.refl p w, x, n, c, h, From.refl x⟩
    have hne : ((e : Int) != 0) = true := by simp; omega
    clear h
    go_enter Try.func44, Try.ntmps44
    go_wp2_with (go_at_call 61; refine h1.mono ?_; rintro e w' ⟨rfl, rfl⟩; clear h1)
    go_ret
    rw [HD.out.1]
    exact ⟨_, rfl, HD.out.2, none, 0, rfl, Sl.empty _, fun a ha => by cases ha⟩

end Go.Proofs.Ytdbahebhodoooaa

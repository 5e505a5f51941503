/-
  What behind and Uvarint of package wire, and the document's Uvarint, do: contracts over plain lists ('WiPlain').
  Conditions: bytes that are looked at lie in memory.
-/
import Derived.Test.YtjodeceaogngfaaWiMem
namespace Go.Proofs.Ytjodeceaogngfaa
open Go.RowKit Wi By
set_option linter.unusedVariables false
set_option linter.unusedSimpArgs false
set_option maxRecDepth 100000

/- behind(b, more). -/
theorem behind_any (x : Option Addr) (n c : Nat) (l : List Nat) (y : Option Addr) (m d : Nat) (k : List Nat) (w : World) (hl : Sl w x n c l) (hk : Sl w y m d k) (hm : 0 < m) (hs : n + m ≤ 140737488355328) :
    Calls Try.prog 43 #[.slice x n c, .slice y m d] w fun e w' => ∃ R, e = .returned R ∧ OwnL w' w.heap.size R (l ++ k) ∧ Below w.heap.size w w' := by
  obtain ⟨R, w', hr, h1, h2⟩ := push_cut w x n l c hl y m d k hk hm hs
  have hcut := fun v => cut_end x n c v hl.le
  have H : Hid (OwnL w' w.heap.size R (l ++ k) ∧ Below w.heap.size w w') := ⟨h1, h2⟩
  clear h1 h2 hl hk hm hs
  go_enter Try.func43, Try.ntmps43
  go_wp2_with (at_builtin; refine wpList_append_run rfl _ _ 22 rfl _ _ rfl rfl hr ?_; clear hr)
  go_ret
  exact ⟨R, rfl, H.out.1, H.out.2⟩

theorem or_high : ∀ a, a < 256 → a ||| 128 = a % 128 + 128 := by decide +kernel

structure Digs (g : Nat) (w0 wr : World) (d : List Nat) (k M N : Nat) : Prop where
  turn : Turn g w0 wr
  len : d.length = k
  eq : d ++ uv M = uv N
  cell : ∀ j, j < 10 → wr.cell? ⟨g, j, none⟩ = some (.int .u8 (gl d j : Int))
  fr : ∀ j, wr.frozen? ⟨g, j, none⟩ = false
  bound : M * 128 ^ k ≤ N
  lt : ∀ v ∈ d, v < 256

theorem gl_end (d : List Nat) : gl d d.length = 0 := by simp [gl]

theorem digs_set {g : Nat} {w0 wr : World} {d : List Nat} {k M N : Nat} (h : Digs g w0 wr d k M N) (v : Nat) (hk : k < 10) :
    ∀ j, j < 10 → (wr.setCell ⟨g, k, none⟩ (.int .u8 (v : Int))).cell? ⟨g, j, none⟩ = some (.int .u8 (gl (d ++ [v]) j : Int)) := by
  intro j hj
  by_cases e : j = k
  · subst e
    rw [World.cell?_setCell_same _ _ _ (h.cell j hj)]
    have hlen := h.len
    rw [gl_append, if_neg (by omega), hlen, Nat.sub_self]
    rfl
  · rw [World.cell?_setCell_other _ _ _ _ (fun q => e (by injection q with _ q2 _; exact q2.symm)), h.cell j hj]
    have hlen := h.len
    rw [gl_append]
    by_cases hlt : j < d.length
    · rw [if_pos hlt]
    · rw [if_neg hlt]
      have e1 : gl d j = 0 := by simp [gl, Nat.le_of_not_lt hlt]
      have e2 : gl [v] (j - d.length) = 0 := by
        obtain ⟨q, hq⟩ : ∃ q, j - d.length = q + 1 := ⟨j - d.length - 1, by omega⟩
        rw [hq]
        simp [gl]
      rw [e1, e2]

theorem digs_step {g : Nat} {w0 wr : World} {d : List Nat} {k M N : Nat} (h : Digs g w0 wr d k M N) (hM : 128 ≤ M) (hk : k < 10) :
    Digs g w0 (wr.setCell ⟨g, k, none⟩ (.int .u8 ((M % 128 + 128 : Nat) : Int))) (d ++ [M % 128 + 128]) (k + 1) (M / 128) N := by
  refine ⟨h.turn.setCell rfl _, by simp [h.len], ?_, digs_set h _ hk, fun j => by simpa using h.fr j, ?_, fun v hv => ?_⟩
  · rw [← h.eq, uv_big hM]
    simp
  · refine Nat.le_trans ?_ h.bound
    rw [Nat.pow_succ, Nat.mul_comm (128 ^ k), ← Nat.mul_assoc]
    exact Nat.mul_le_mul_right _ (Nat.div_mul_le_self _ _)
  · rcases List.mem_append.1 hv with hv | hv
    · exact h.lt v hv
    · simp at hv
      omega

theorem digs_start (w : World) (N : Nat) : Digs w.heap.size (w.alloc (.cells #[.int .u8 0, .int .u8 0, .int .u8 0, .int .u8 0, .int .u8 0, .int .u8 0, .int .u8 0, .int .u8 0, .int .u8 0, .int .u8 0] 72)) (w.alloc (.cells #[.int .u8 0, .int .u8 0, .int .u8 0, .int .u8 0, .int .u8 0, .int .u8 0, .int .u8 0, .int .u8 0, .int .u8 0, .int .u8 0] 72)) [] 0 N N := by
  refine ⟨Turn.refl _ _, rfl, rfl, fun j hj => ?_, fun j => frozen_new _ _ _ j, by omega, fun v hv => by cases hv⟩
  have h := wcell_of_heap (i := j) (heap_alloc_new w (.cells (List.replicate 10 (Value.int .u8 0)).toArray 72))
  rw [List.getElem?_replicate, if_pos hj] at h
  exact h

theorem ten_is : Try.prog.arrayLen 72 = 10 := by kernel_rfl
theorem ten_row : Try.prog.underlying 72 = some (.array (Try.prog.arrayLen 72) (Try.prog.elem 72)) := by kernel_rfl
theorem ten_elem : Try.prog.elem 72 = 5 := by kernel_rfl

theorem cut_ten (g m : Nat) (w : World) (h : m ≤ 10) :
    (Instr.sliceAt 72 (.pointer (some ⟨g, 0, none⟩)) none (some (.int .i64 (m : Int))) none).run Try.prog w = .ok (.slice (some ⟨g, 0, none⟩) m 10) w := by
  rw [run_sliceAt_array_h w 72 _ ten_row .i64 (m : Int) (by omega) (by rw [ten_is]; omega), ten_elem, wsize_byte, ten_is]
  simp [Result.andThen, slicedAt, Addr.add]

/- Uvarint(b, n). -/
set_option maxHeartbeats 1000000 in
set_option maxRecDepth 100000 in
theorem uvarint_any (x : Option Addr) (n c : Nat) (l : List Nat) (N : Nat) (w : World) (hl : Sl w x n c l) (hN : N < 18446744073709551616) (hs : n ≤ 140737488350000) :
    Calls Try.prog 21 #[.slice x n c, .int .u64 N] w fun e w' => ∃ R, e = .returned R ∧ OwnL w' w.heap.size R (l ++ uv N) ∧ Below w.heap.size w w' := by
  have Hl : Hid (Sl w x n c l) := hl
  clear hl
  go_enter Try.func21, Try.ntmps21
  go_wp2_with fail
  have hst := digs_start w N
  go_loopw [1, 6] (fun v i wr => ∃ k M : Nat, k ≤ 9 ∧ M < 18446744073709551616 ∧ v = .int .u64 M ∧ i = .int .i64 k ∧ Hid (∃ d, Digs w.heap.size (w.alloc (.cells #[.int .u8 0, .int .u8 0, .int .u8 0, .int .u8 0, .int .u8 0, .int .u8 0, .int .u8 0, .int .u8 0, .int .u8 0, .int .u8 0] 72)) wr d k M N)) (fun v _ _ => (intOf v).toNat)
  case atStart => exact ⟨0, N, by omega, hN, rfl, rfl, ⟨_, hst⟩⟩
  case round =>
    obtain ⟨k, M, hk, hM, rfl, rfl, HR⟩ := hrel
    clear hst
    obtain ⟨d, hd⟩ := HR.out
    have h1 := hd.cell k (by omega)
    have h2 := hd.fr k
    by_cases hlt : 128 ≤ M
    · have hk8 : k ≤ 8 := by
        by_cases e : k ≤ 8
        · exact e
        · have e9 : k = 9 := by omega
          have := hd.bound
          rw [e9] at this
          omega
      have hor : bits .or .u8 ((M : Int) % 256) 128 = ((M % 128 + 128 : Nat) : Int) := by
        have := u8_or_nat (M % 256) 128 (by omega) (by omega)
        rw [or_high _ (by omega), show M % 256 % 128 = M % 128 by omega] at this
        exact this
      have HS : Hid (∃ d, Digs w.heap.size (w.alloc (.cells #[.int .u8 0, .int .u8 0, .int .u8 0, .int .u8 0, .int .u8 0, .int .u8 0, .int .u8 0, .int .u8 0, .int .u8 0, .int .u8 0] 72)) (wr.setCell ⟨w.heap.size, k, none⟩ (.int .u8 ((M % 128 + 128 : Nat) : Int))) d (k + 1) (M / 128) N) := ⟨_, digs_step hd hlt (by omega)⟩
      clear hd HR
      generalize M % 128 + 128 = V at hor HS
      go_wp2_with fail
      go_roundw
      case rel => exact ⟨k + 1, M / 128, by omega, by omega, by go_num, by go_num, HS⟩
      case measure => simp [intOf]; omega
    · obtain ⟨m, hm⟩ : ∃ m, m = k + 1 := ⟨_, rfl⟩
      have hm1 : (k : Int) + 1 = (m : Int) := by omega
      have hmod : (M : Int) % 256 = (M : Int) := by omega
      have hm10 : m ≤ 10 := by omega
      have ht := (hd.turn.setCell (p := ⟨w.heap.size, k, none⟩) rfl (.int .u8 (M : Int)))
      have hb0 : Below w.heap.size w (w.alloc (.cells #[.int .u8 0, .int .u8 0, .int .u8 0, .int .u8 0, .int .u8 0, .int .u8 0, .int .u8 0, .int .u8 0, .int .u8 0, .int .u8 0] 72)) := (Below.refl _ _).alloc (Nat.le_refl _) _
      have hb1 : Below w.heap.size w (wr.setCell ⟨w.heap.size, k, none⟩ (.int .u8 (M : Int))) := hb0.trans (ht.below (Nat.le_refl _) (by simp))
      have hk2 : Sl (wr.setCell ⟨w.heap.size, k, none⟩ (.int .u8 (M : Int))) (some ⟨w.heap.size, 0, none⟩) m 10 (uv N) := by
        have hlen : (d ++ [M]).length = m := by simp [hd.len, hm]
        rw [← hd.eq, uv_small (by omega)]
        refine ⟨hlen, hm10, (fun e => by cases e), .inr ⟨w.heap.size, 0, rfl, ?_, fun i hi => ?_⟩, fun v hv => ?_⟩
        · have := ht.size
          simp at this
          simp [World.setCell] at *
          omega
        · rw [Nat.zero_add]
          exact digs_set hd M (by omega) i (by omega)
        · rcases List.mem_append.1 hv with hv | hv
          · exact hd.lt v hv
          · simp at hv
            omega
      have hsl : ∀ v : World, (Instr.sliceAt 72 (.pointer (some ⟨w.heap.size, 0, none⟩)) none (some (.int .i64 (m : Int))) none).run Try.prog v = .ok (.slice (some ⟨w.heap.size, 0, none⟩) m 10) v := fun v => cut_ten w.heap.size m v hm10
      have hbe := behind_any x n c l _ m 10 (uv N) _ (Hl.out.below hb1) hk2 (by omega) (by omega)
      have HB1 : Hid (Below w.heap.size w (wr.setCell ⟨w.heap.size, k, none⟩ (.int .u8 (M : Int)))) := hb1
      clear hd HR ht hb0 hb1 hk2 hm
      go_wp2_with (go_at_call 43; refine hbe.mono ?_; rintro e w2 ⟨R, rfl, ho2, hb2⟩; clear hbe)
      go_ret
      exact ⟨R, rfl, ho2.mono HB1.out.size, HB1.out.trans (hb2.mono HB1.out.size)⟩

/- The document's Uvarint. -/
set_option maxHeartbeats 1000000 in
set_option maxRecDepth 100000 in
theorem ruvarint_any (N : Nat) (w : World) (hN : N < 18446744073709551616) :
    Calls Try.prog 25 #[.int .u64 N] w fun e w' => ∃ R, e = .returned R ∧ OwnL w' w.heap.size R (uv N) ∧ Below w.heap.size w w' := by
  have h10 := uv_ten hN
  have hst : OwnL w w.heap.size (.slice none 0 0) [] := OwnL.start w _
  go_enter Try.func25, Try.ntmps25
  go_wp2_with fail
  go_loopw [0, 3] (fun v r wr => ∃ M : Nat, M < 18446744073709551616 ∧ v = .int .u64 M ∧ Hid (∃ d, d ++ uv M = uv N ∧ OwnL wr w.heap.size r d ∧ Below w.heap.size w wr)) (fun v _ _ => (intOf v).toNat)
  case atStart => exact ⟨N, hN, rfl, [], rfl, hst, Below.refl _ _⟩
  case round =>
    obtain ⟨M, hM, rfl, HR⟩ := hrel
    clear hst
    obtain ⟨d, hd1, hd2, hd3⟩ := HR.out
    have hdl : d.length ≤ 10 := by
      have := congrArg List.length hd1
      simp at this
      omega
    by_cases hlt : 128 ≤ M
    · obtain ⟨R', w', hr, h1, h2⟩ := push_one wr w w.heap.size u3 d (M % 128 + 128) (by omega) hd2 hd3.size hd3 (by omega)
      have HS : Hid (∃ d, d ++ uv (M / 128) = uv N ∧ OwnL w' w.heap.size R' d ∧ Below w.heap.size w w') := ⟨_, by rw [← hd1, uv_big hlt]; simp, h1, h2⟩
      have hr' : (Builtin.append_ #[22, 22] 22 #[u3, .slice (some ⟨wr.heap.size, 0, none⟩) 1 1]).run Try.prog (wr.alloc (.cells #[.int .u8 ((M : Int) % 128 + 128)] 5)) = .ok R' w' := hr
      clear hd1 hd2 hd3 hdl h1 h2 HR hr
      go_wp2_with (at_builtin; refine wpList_append_run rfl _ _ 22 rfl _ _ rfl rfl hr' ?_; clear hr')
      go_roundw
      case rel => exact ⟨M / 128, by omega, by go_num, HS⟩
      case measure => simp [intOf]; omega
    · obtain ⟨R', w', hr, h1, h2⟩ := push_one wr w w.heap.size u3 d M (by omega) hd2 hd3.size hd3 (by omega)
      have HS : Hid (OwnL w' w.heap.size R' (uv N) ∧ Below w.heap.size w w') := ⟨by rw [← hd1, uv_small (by omega)]; exact h1, h2⟩
      have hmod : (M : Int) % 256 = (M : Int) := by omega
      clear hd1 hd2 hd3 hdl h1 h2 HR
      go_wp2_with (at_builtin; refine wpList_append_run rfl _ _ 22 rfl _ _ rfl rfl hr ?_; clear hr)
      go_ret
      exact ⟨R', rfl, HS.out.1, HS.out.2⟩

end Go.Proofs.Ytjodeceaogngfaa

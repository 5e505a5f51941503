/-
  Fold and Same.
  Conditions: the text is at most 2^45 bytes long.
-/
import Derived.Test.YtjhbfcfipfmnbaaNaFoldP
import Derived.Test.YtjhbfcfipfmnbaaNaShelf
namespace Go.Proofs.Ytjhbfcfipfmnbaa.Na
open Go.RowKit
set_option linter.unusedVariables false
set_option linter.unusedSimpArgs false

theorem folded_any (r : Nat) (w : World) (hr : r < 1114112) :
    Calls Try.prog 31 #[.int .i32 r] w fun e w' => e = .returned (.int .i32 (foldN r : Nat)) ∧ w' = w := by
  by_cases h1 : 65 ≤ r
  · have g1 : (65 : Int) ≤ (r : Int) := by omega
    by_cases h2 : r ≤ 90
    · have g2 : (r : Int) ≤ 90 := by omega
      have HE : Hid (((foldN r : Nat) : Int) = (r : Int) + 32) := by
        show _ = _
        rw [fold_yes' h1 h2]
        omega
      clear h1 h2
      go_enter Try.func31, Try.ntmps31
      go_wp2_with fail
      go_ret
      rw [HE.out]
      exact ⟨rfl, rfl⟩
    · have g2 : ¬ (r : Int) ≤ 90 := by omega
      rw [fold_no' (by omega)]
      clear h1 h2
      go_enter Try.func31, Try.ntmps31
      go_wp2_with fail
      go_ret
      exact ⟨rfl, rfl⟩
  · have g1 : ¬ (65 : Int) ≤ (r : Int) := by omega
    rw [fold_no' (by omega)]
    clear h1
    go_enter Try.func31, Try.ntmps31
    go_wp2_with fail
    go_ret
    exact ⟨rfl, rfl⟩

theorem fold_no (s : ByteArray) (rs t : List Nat) (w : World) (h : Txt (nat s) rs t) (hs : s.size ≤ 35184372088832) (ht : t ≠ []) :
    Calls Try.prog 15 #[.string s] w fun e w' => e = .returned (.tuple #[.string ⟨#[]⟩, .int .i64 5]) ∧ Below w.heap.size w w' := by
  have c1 := count_any s rs t 0 false w h (by omega) (fun hh => absurd hh ht) (fun _ => ⟨rfl, rfl⟩)
  clear h ht
  go_enter Try.func15, Try.ntmps15
  go_wp2_with (go_at_call 8; refine c1.mono ?_; clear c1; rintro e w' ⟨rfl, hb1⟩)
  go_ret2
  exact ⟨rfl, hb1⟩

set_option maxHeartbeats 2000000 in
set_option maxRecDepth 100000 in
theorem fold_yes (s : ByteArray) (rs : List Nat) (w : World) (h : Txt (nat s) rs []) (hs : s.size ≤ 35184372088832) :
    Calls Try.prog 15 #[.string s] w fun e w' => e = .returned (.tuple #[.string (str (flat (rs.map foldN))), .int .i64 0]) ∧ Below w.heap.size w w' := by
  have c1 := count_any s rs [] rs.length true w h (by omega) (fun _ => ⟨rfl, rfl⟩) (fun hh => absurd rfl hh)
  have hle := h.len
  rw [nat_length, List.length_nil, Nat.add_zero] at hle
  have HL : Hid (s.size = pos rs rs.length) := hle
  have HX : Hid (Txt (nat s) rs []) := h
  generalize hN : rs.length = N at c1
  have HN : Hid (rs.length = N) := hN
  clear h hN hle
  go_enter Try.func15, Try.ntmps15
  go_wp2_with (first
    | (go_at_call 8; refine c1.mono ?_; clear c1; rintro e w1 ⟨rfl, hb1⟩)
    | (go_at_call 29
       refine (grow_any w1.heap.size w1.heap.size s.size (w1.alloc (.cells #[.pointer none, .slice none 0 0] 47)) (Nat.le_refl _) (heap_alloc_new _ _) (by simp) (by omega)).mono ?_
       rintro e w2 ⟨rfl, hbd, hb2⟩
       have HB2 : Hid (Below w1.heap.size w1 w2 ∧ Lib.IsBuilderF 47 5 w1.heap.size w1.heap.size (Lib.byteCells []) w2 ∧ w1.heap.size < w2.heap.size) := ⟨((Below.refl _ _).alloc (Nat.le_refl _) _).trans hb2, Lib.IsBuilderF.of (.inr hbd), by have := hb2.size; simp at this; omega⟩
       clear hbd hb2))
  have HB1 : Hid (Below w.heap.size w w1) := hb1
  clear hb1
  generalize hB : w1.heap.size = B at HB2 ⊢
  have HBB : Hid (w1.heap.size = B) := hB
  have HS : Hid ((w2.iter s 0).heap[w2.heap.size]? = some (.stringIter s (pos rs 0))) := World.iter_heap w2 s 0
  have HI0 : Hid (Lib.IsBuilderF 47 5 B B (Lib.byteCells (acc rs 0)) (w2.iter s 0) ∧ Below B w1 (w2.iter s 0)) := ⟨HB2.out.2.1.alloc _, HB2.out.1.alloc (by have := HB2.out.2.2; omega) _⟩
  generalize hIT : w2.heap.size = IT at HS HB2 ⊢
  have HIT : Hid (B < IT) := HB2.out.2.2
  generalize w2.iter s 0 = W0 at HS HI0 ⊢
  clear hB HB2 hIT
  go_loopw [] (fun wr => ∃ k p : Nat, k ≤ N ∧ Hid (p = pos rs k) ∧ wr.heap[IT]? = some (.stringIter s p) ∧ Hid (Lib.IsBuilderF 47 5 B B (Lib.byteCells (acc rs k)) wr ∧ Below B w1 wr)) (fun wr => s.size + 1 - wr.iterPos IT)
  case atStart => exact ⟨0, _, Nat.zero_le _, rfl, HS.out, HI0⟩
  case round =>
    clear HS HI0
    obtain ⟨k, p, hk, HP, hit, HI⟩ := hrel
    have hipos : wr.iterPos IT = p := by simp [World.iterPos, hit]
    have HIP : Hid (wr.iterPos IT = p) := hipos
    clear hipos
    by_cases hlt : k < N
    · obtain ⟨r, p', q, hr, hp', hq, hpq, hqs, hr2, _, hdr⟩ := next_rune HX.out (by rw [HN.out]; exact hlt) w
      obtain rfl : p' = p := by rw [hp', HP.out]
      have hde : Utf8.decode s p' = (r, width r) := by rw [decode_nat, hp', hr]; exact HX.out.dec (by rw [HN.out]; exact hlt)
      have hqw : p' + width r = q := by rw [hq, hp', hr]; exact (pos_succ (by rw [HN.out]; exact hlt)).symm
      have hnx : ∀ ty, (Instr.next (.pointer (some ⟨IT, 0, none⟩)) true ty).run Try.prog wr = .ok (.tuple #[.bool true, .int .i64 (p' : Int), .int .i32 (r : Int)]) (wr.iterAt IT s q) := fun ty => by
        rw [Lib.run_next_any_at wr IT s p' ty hit (by omega), hde, hqw]
      have hit2 := Lib.iterAt_heap wr IT s p' q hit
      have HI2 : Hid (Lib.IsBuilderF 47 5 B B (Lib.byteCells (acc rs k)) (wr.iterAt IT s q) ∧ Below B w1 (wr.iterAt IT s q)) := ⟨HI.out.1.iterAt hit q, Lib.below_iterAt HI.out.2 (Nat.le_of_lt HIT.out) s q⟩
      have HAC : Hid (acc rs (k + 1) = acc rs k ++ Lib.encodeRune ((foldN r : Nat) : Int)) := by rw [hr]; exact acc_succ (by rw [HN.out]; exact hlt) HX.out.ok
      have hal : (acc rs k).length = p' := by rw [acc_length rs k (by rw [HN.out]; omega), hp']
      have HQ : Hid (q = pos rs (k + 1) ∧ p' < q) := ⟨hq, hpq⟩
      have hBw : B ≤ (wr.iterAt IT s q).heap.size := by have := HI2.out.2.size; rw [HBB.out] at this; exact this
      have cF : ∀ v, Calls Try.prog 31 #[.int .i32 r] v fun e w' => e = .returned (.int .i32 (foldN r : Nat)) ∧ w' = v := fun v => folded_any r v hr2
      have hfl : foldN r < 1114200 := by unfold foldN; split <;> omega
      have cW := write_any B B (Lib.byteCells (acc rs k)) ((foldN r : Nat) : Int) (by omega) (by omega) (wr.iterAt IT s q) HI2.out.1 (by rw [Lib.byteCells_length]; omega) hBw
      generalize wr.iterAt IT s q = W1 at hnx hit2 HI2 hBw cW
      generalize foldN r = R at cF cW HAC hfl
      clear hde hqw hr hp' hq hpq hdr hal hBw HI
      have HH2 : Hid (W1.heap[IT]? = some (.stringIter s q)) := hit2
      clear hit2 hit
      go_wp2_with (first
        | (go_at_call 31; refine (cF _).mono ?_; clear cF; rintro e w' ⟨rfl, hw⟩; subst w')
        | (go_at_call 30; refine cW.mono ?_; clear cW; rintro e w3 ⟨rfl, hb3, hb4, hb5⟩; have H3 : Hid (Lib.BuilderAtF 47 5 B B (.pointer (some ⟨B, 0, none⟩)) (Lib.byteCells (acc rs k) ++ Lib.runeCells (R : Int)) w3 ∧ Below B W1 w3 ∧ Lib.OthersKept 5 (some B) W1 w3) := ⟨hb3, hb4, hb5⟩; clear hb3 hb4 hb5))
      have hit3 := H3.out.2.2.iter HH2.out (by have := HIT.out; omega)
      go_roundw
      case rel =>
        refine ⟨k + 1, q, by omega, HQ.out.1, hit3, ?_, HI2.out.2.trans H3.out.2.1⟩
        rw [HAC.out, Lib.byteCells_append, Lib.byteCells_encodeRune]
        exact .inr H3.out.1
      case measure =>
        have := HQ.out.2
        rw [HIP.out]
        simp only [World.iterPos, hit3]
        omega
    · obtain rfl : k = N := by omega
      have hend : ¬ p < s.size := by rw [HP.out, HL.out, HN.out]; omega
      have hnx : ∀ ty, (Instr.next (.pointer (some ⟨IT, 0, none⟩)) true ty).run Try.prog wr = .ok (.tuple #[.bool false]) wr := fun ty => Lib.run_next_end_at wr IT s p ty hit hend
      have cS := string_any B B (acc rs k) wr HI.out.1 (by have := HI.out.2.size; rw [HBB.out] at this; exact this)
      rw [show (⟨(acc rs k).toArray⟩ : ByteArray) = str (flat (rs.map foldN)) by rw [← acc_all rs, HN.out]] at cS
      obtain ⟨S, HSS⟩ : ∃ S, Hid (str (flat (rs.map foldN)) = S) := ⟨_, rfl⟩
      rw [HSS.out] at cS
      clear hit hend
      go_wp2_with (go_at_call 32; refine cS.mono ?_; clear cS; rintro e w3 ⟨rfl, hb3⟩)
      go_ret2
      rw [HSS.out]
      refine ⟨rfl, HB1.out.trans ?_⟩
      have h1 := HI.out.2.trans hb3
      rw [← HBB.out] at h1
      exact h1.mono HB1.out.size

end Go.Proofs.Ytjhbfcfipfmnbaa.Na

/-
  The document's Fold.
  Conditions: the text is at most 2^20 bytes long.
-/
import Derived.Test.YtjhbfcfipfmnbaaNaFoldP
import Derived.Test.YtjhbfcfipfmnbaaNaRef
import Derived.Lib.ConvBytes
import Derived.Laws.IdiomStrings
namespace Go.Proofs.Ytjhbfcfipfmnbaa.Na
open Go.RowKit
set_option linter.unusedVariables false
set_option linter.unusedSimpArgs false

/- Bytes of one's own that may be written. -/
structure Buf (w wr : World) (G n : Nat) (f : Nat → Nat) : Prop where
  below : Below w.heap.size w wr
  le : w.heap.size ≤ G
  cell : ∀ j, j < n → wr.cell? ⟨G, j, none⟩ = some (.int .u8 (f j : Int))
  thaw : ∀ j, j < n → wr.frozen? ⟨G, j, none⟩ = false

theorem Buf.set {w wr : World} {G n : Nat} {f : Nat → Nat} (h : Buf w wr G n f) (k y : Nat) (hk : k < n) :
    Buf w (wr.setCell ⟨G, k, none⟩ (.int .u8 (y : Int))) G n (fun j => if j = k then y else f j) := by
  refine ⟨h.below.trans ⟨rfl, rfl, rfl, by simp [World.setCell], fun q hq => Below.heap_setCell _ _ _ _ (by have := h.le; simp; omega)⟩, h.le, fun j hj => ?_, fun j hj => by simpa using h.thaw j hj⟩
  by_cases e : j = k
  · subst e
    simpa using World.cell?_setCell_same _ _ _ (h.cell j hj)
  · rw [World.cell?_setCell_other _ _ _ _ (fun hh => e (by injection hh with _ h2 _; exact h2.symm)), if_neg e]
    exact h.cell j hj

theorem Buf.congr {w wr : World} {G n : Nat} {f g : Nat → Nat} (h : Buf w wr G n f) (e : ∀ j, j < n → f j = g j) : Buf w wr G n g :=
  ⟨h.below, h.le, fun j hj => by rw [← e j hj]; exact h.cell j hj, h.thaw⟩

theorem conv_bytes (s : ByteArray) (w : World) :
    ∃ c W1, (convert 9 45 (.string s)).run Try.prog w = .ok (.slice (some ⟨w.heap.size, 0, none⟩) s.size c) W1 ∧ Hid (Buf w W1 w.heap.size s.size (fun j => (nat s).getD j 0)) := by
  refine ⟨_, _, Lib.run_convert_string_bytes w 9 45 5 s Try.underlying9 Try.underlying45 Try.underlying5, ⟨⟨rfl, rfl, rfl, by rw [Lib.bytesWorld_size]; omega, fun q hq => Lib.bytesWorld_at_old w _ s q hq⟩, Nat.le_refl _, fun j hj => ?_, fun j hj => ?_⟩⟩
  · rw [Lib.bytesWorld_cell w _ s j hj]
    have e : (s.data.toList.getD j 0).toNat = (nat s).getD j 0 := by
      have h1 : j < s.data.toList.length := by rw [Array.length_toList]; exact hj
      simp [nat, List.getD, List.getElem?_eq_getElem h1]
    rw [e]
  · have h1 := Lib.bytesWorld_at_new w 5 s
    have h2 : s.size ≤ (Lib.bytesCells w 5 s).size := by
      unfold Lib.bytesCells
      simp only [Array.size_append, Array.size_map]
      exact Nat.le_add_right _ _
    simp [World.frozen?, h1]
    omega

def mid (s : ByteArray) (k j : Nat) : Nat := if j < k then foldN ((nat s).getD j 0) else (nat s).getD j 0

theorem conv_back (s : ByteArray) (w wr : World) (G c : Nat) (h : Buf w wr G s.size (mid s s.size)) :
    (convert 45 9 (.slice (some ⟨G, 0, none⟩) s.size c)).run Try.prog wr = .ok (.string (str ((nat s).map foldN))) wr := by
  have hl : (((nat s).map foldN).map UInt8.ofNat).length = s.size := by simp [nat_length]
  have := run_convert_bytes_back (P := Try.prog) wr 45 9 5 ⟨G, 0, none⟩ c (((nat s).map foldN).map UInt8.ofNat) Try.underlying45 Try.underlying5 Try.underlying9 (fun j hj => by
    have hj2 : j < s.size := by omega
    have e1 := h.cell j hj2
    have e2 : (⟨G, 0, none⟩ : Addr).add j = ⟨G, j, none⟩ := by unfold Addr.add; split <;> simp_all
    rw [e2, e1]
    have hjn : j < (nat s).length := by rw [nat_length]; exact hj2
    have e3 : mid s s.size j = foldN ((nat s)[j]) := by
      unfold mid
      rw [if_pos hj2]
      simp [List.getD, List.getElem?_eq_getElem hjn]
    have e4 : foldN ((nat s)[j]) < 256 := by
      have := nat_lt s _ (List.getElem_mem hjn)
      unfold foldN
      split <;> omega
    rw [e3]
    simp [UInt8.toNat_ofNat', Nat.mod_eq_of_lt e4])
  rw [hl] at this
  exact this

theorem rfold_no (s : ByteArray) (rs t : List Nat) (w : World) (h : Txt (nat s) rs t) (hs : s.size ≤ 1048576) (ht : t ≠ []) :
    Calls Try.prog 16 #[.string s] w fun e w' => e = .returned (.tuple #[.string ⟨#[]⟩, .int .i64 5]) ∧ Below w.heap.size w w' := by
  have c1 := runes_no s rs t w h hs ht
  clear h ht
  go_enter Try.func16, Try.ntmps16
  go_wp2_with (go_at_call 9; refine c1.mono ?_; clear c1; rintro e w' ⟨rfl, hb1⟩)
  go_ret2
  exact ⟨rfl, hb1⟩

set_option maxRecDepth 100000 in
theorem rfold_yes (s : ByteArray) (rs : List Nat) (w : World) (h : Txt (nat s) rs []) (hs : s.size ≤ 1048576) :
    Calls Try.prog 16 #[.string s] w fun e w' => e = .returned (.tuple #[.string (str (flat (rs.map foldN))), .int .i64 0]) ∧ Below w.heap.size w w' := by
  have c1 := runes_yes s rs w h hs
  obtain ⟨S, HS⟩ : ∃ S, Hid (S = str (flat (rs.map foldN))) := ⟨_, rfl⟩
  have HS2 : Hid (str ((nat s).map foldN) = S) := by
    show _ = _
    rw [HS.out, flat_fold, h.eq, List.append_nil]
  generalize rs.length = N at c1
  clear h
  go_enter Try.func16, Try.ntmps16
  go_wp2_with (go_at_call 9
               refine c1.mono ?_
               clear c1
               rintro e w1 ⟨g, cc, rfl, hb1, hi⟩
               clear hi
               have HB1 : Hid (Below w.heap.size w w1) := hb1
               clear hb1
               obtain ⟨c', W1, hconv, HBuf⟩ := conv_bytes s w1
               obtain ⟨G, hG⟩ : ∃ G, G = w1.heap.size := ⟨_, rfl⟩
               rw [← hG] at hconv HBuf
               clear hG)
  clear hconv
  go_loopw [7] (fun i wr => ∃ k : Nat, i = .int .i64 k ∧ k ≤ s.size ∧ Hid (Buf w1 wr G s.size (mid s k))) (fun i _ => s.size - (intOf i).toNat)
  case atStart => exact ⟨0, rfl, Nat.zero_le _, HBuf.out.congr fun j _ => by simp [mid]⟩
  case round =>
    clear HBuf
    obtain ⟨k, rfl, hk, HB⟩ := hrel
    by_cases hlt : k < s.size
    · have i1 : (k : Int) < (s.size : Int) := by omega
      have hcell := HB.out.cell k hlt
      have hthaw := HB.out.thaw k hlt
      have hxl := getD_lt' (nat_lt s) k
      rw [show mid s k k = (nat s).getD k 0 by simp [mid]] at hcell
      have HM : Hid (∀ y, y = foldN ((nat s).getD k 0) → ∀ j, (if j = k then y else mid s k j) = mid s (k + 1) j) := fun y hy j => by
        unfold mid
        by_cases e : j = k
        · subst e; simp [hy]
        · rw [if_neg e]
          by_cases e2 : j < k
          · rw [if_pos e2, if_pos (by omega)]
          · rw [if_neg e2, if_neg (by omega)]
      obtain ⟨x, hx⟩ : ∃ x, x = (nat s).getD k 0 := ⟨_, rfl⟩
      rw [← hx] at hcell hxl HM
      have HX : Hid (x = (nat s).getD k 0) := hx
      clear hx
      by_cases h1 : 65 ≤ x
      · by_cases h2 : x ≤ 90
        · obtain ⟨y, hy⟩ : ∃ y : Nat, (x : Int) + 32 = (y : Int) := ⟨x + 32, by omega⟩
          have HN : Hid (Buf w1 (wr.setCell ⟨G, k, none⟩ (.int .u8 (y : Int))) G s.size (mid s (k + 1))) := (HB.out.set k y hlt).congr fun j _ => HM.out y (by rw [fold_yes' h1 h2]; omega) j
          clear HM HB
          go_wp2_with fail
          go_roundw
          case rel => exact ⟨k + 1, rfl, by omega, HN⟩
          case measure => simp [intOf]; omega
        · have HN : Hid (Buf w1 wr G s.size (mid s (k + 1))) := HB.out.congr fun j _ => by
            rw [← HM.out x (by rw [fold_no' (by omega)]) j]
            by_cases e : j = k
            · subst e; rw [if_pos rfl, HX.out]; simp [mid]
            · rw [if_neg e]
          clear HM HB
          go_wp2_with fail
          go_roundw
          case rel => exact ⟨k + 1, rfl, by omega, HN⟩
          case measure => simp [intOf]; omega
      · have HN : Hid (Buf w1 wr G s.size (mid s (k + 1))) := HB.out.congr fun j _ => by
          rw [← HM.out x (by rw [fold_no' (by omega)]) j]
          by_cases e : j = k
          · subst e; rw [if_pos rfl, HX.out]; simp [mid]
          · rw [if_neg e]
        clear HM HB
        go_wp2_with fail
        go_roundw
        case rel => exact ⟨k + 1, rfl, by omega, HN⟩
        case measure => simp [intOf]; omega
    · obtain rfl : k = s.size := by omega
      have hback := conv_back s w1 wr G c' HB.out
      rw [HS2.out] at hback
      go_wp2_with fail
      go_ret2
      rw [← HS.out]
      exact ⟨rfl, HB1.out.trans (HB.out.below.mono HB1.out.size)⟩

end Go.Proofs.Ytjhbfcfipfmnbaa.Na

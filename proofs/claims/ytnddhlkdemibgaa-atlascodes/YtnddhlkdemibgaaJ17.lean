/-
  2 texts of this proof, one behind the other: AtCodes01, AtCodes00.
-/
import Derived.Test.YtnddhlkdemibgaaJ08
import Derived.Test.YtnddhlkdemibgaaJ15
import Derived.Test.YtnddhlkdemibgaaJ16
import Derived.Test.YtnddhlkdemibgaaJ04
/-
  Maps' and changes' bytes, and that they are read back, a map that may not be, a change that may be.
  Conditions: none.
-/
namespace Go.Proofs.Ytnddhlkdemibgaa.At
open Go.RowKit By Fl
set_option linter.unusedVariables false
set_option linter.unusedSimpArgs false
set_option maxRecDepth 100000

set_option maxHeartbeats 12800000 in
theorem walk_01 (V0 : MpV) (V1 : Ch) (w : World) (h0 : MapIn w V0) (htm : mayM V0.m = false) (htc : mayC V1 = true) : Calls Try.prog 6 #[vM V0.m.ep V0.m.pool V0.x V0.n V0.c, vC V1] w fun e w' => e = .returned (.bool true) ∧ Below w.heap.size w w' := by
  obtain ⟨⟨ep, p, L⟩, x, n, c⟩ := V0
  have HO := hid h0.os
  have hk := h0.k
  dsimp only at HO hk htm ⊢
  have hE := fun W (hW : At.Os W x n c L) => encode_any ⟨ep, p, L⟩ hW hk
  have hX := fun W (hW : At.Os W x n c L) => renc_any ⟨ep, p, L⟩ hW
  have hK := fun W => encodeChange_any V1 W
  have hY := fun W => rencC_any V1 W
  have hQ := fun W => eq_change V1 V1 W
  rw [(eqC_iff _ _).2 rfl] at hQ
  have hS := fun W (y : Option Addr) (yn yc : Nat) (h : At.Os W x n c L) (h' : At.Os W y yn yc L) => rsame_any ⟨ep, p, L⟩ ⟨ep, p, L⟩ h h'
  rw [(eqM_iff _ _).2 rfl] at hS
  have hA := fun W => awake_any W
  have eT : errB true = 0 := rfl
  have eF : errB false = 1 := rfl
  have cT : cod true = 0 := rfl
  rw [htm] at hE hX
  rw [htc] at hK hY
  obtain ⟨NM, hNM⟩ : ∃ NM : List Nat, NM = [] := ⟨_, rfl⟩
  have HLm : Hid (NM.length ≤ 140737488355328 ∧ ∀ v ∈ NM, v < 256) := hid ⟨by rw [hNM]; simp, by rw [hNM]; simp⟩
  simp only [Bool.false_eq_true, if_false] at hE hX
  rw [← hNM] at hE hX
  clear hNM
  have HDc := hid (decC_forth htc)
  obtain ⟨NC, hNC⟩ : ∃ NC, NC = wrB (numsC V1) := ⟨_, rfl⟩
  have HLc : Hid (NC.length ≤ 140737488355328 ∧ ∀ v ∈ NC, v < 256) := hid ⟨by rw [hNC]; have := wrB_len _ (nums_fit htc); have h9 : (numsC V1).length = 9 := rfl; omega, by rw [hNC]; exact wrB_lt _⟩
  rw [← hNC] at hK hY HDc
  simp only [if_true] at hK hY
  clear hNC
  have hDm := fun W (x : Option Addr) (n c : Nat) (h : Go.Proofs.Ytnddhlkdemibgaa.Sl W x n c NM) (hn : n ≤ 140737488355328) => decode_any x n c NM W h hn
  have hDc := fun W (x : Option Addr) (n c : Nat) (h : Go.Proofs.Ytnddhlkdemibgaa.Sl W x n c NC) (hn : n ≤ 140737488355328) => decodeChange_any x n c NC W h hn
  obtain ⟨⟨⟨z0, ⟨z1, z2, z3, z4⟩, zL⟩, zt⟩, hz⟩ : ∃ z, z = decM NM := ⟨_, rfl⟩
  rw [← hz] at hDm
  dsimp only at hDm
  generalize cod zt = zc at *
  clear hz
  rw [HDc.out] at hDc
  dsimp only at hDc
  rw [cT] at hDc
  clear HDc
  rw [eF] at hE hX
  rw [eT] at hK hY
  clear h0 hk htm htc
  obtain ⟨k, m, g, d⟩ := p
  obtain ⟨ck, c0, c1, c2, c3, c4, c5, c6, c7⟩ := V1
  unfold vM vC at *
  dsimp only at hE hX hK hY hQ hS hDm hDc ⊢
  have b0 : Below w.heap.size w ((w.alloc (.cells #[.int .i64 ep, .int .i64 k, .int .i64 m, .int .i64 g, .int .i64 d, .slice x n c] 26)).alloc (.cells #[.int .i64 ck, .int .i64 c0, .bool c1, .bool c2, .int .i64 c3, .int .i64 c4, .int .i64 c5, .int .i64 c6, .int .i64 c7] 30)) := on (al _ _) (al _ _)
  have hE0 := hE _ (HO.out.below b0)
  clear hE
  go_enter Try.func6, Try.ntmps6
  go_wp2_with (first
    | (
       go_at_call 24; refine hE0.mono ?_; rintro e w1 ⟨R1, rfl, H1⟩; clear hE0
       have hb1 := H1.out.2
       have k0 := keep hb1 (b := w.heap.size) (o := 0) (x := .int .i64 ep) (by first | assumption | go_simp)
       have k1 := keep hb1 (b := w.heap.size) (o := 1) (x := .int .i64 k) (by first | assumption | go_simp)
       have k2 := keep hb1 (b := w.heap.size) (o := 2) (x := .int .i64 m) (by first | assumption | go_simp)
       have k3 := keep hb1 (b := w.heap.size) (o := 3) (x := .int .i64 g) (by first | assumption | go_simp)
       have k4 := keep hb1 (b := w.heap.size) (o := 4) (x := .int .i64 d) (by first | assumption | go_simp)
       have k5 := keep hb1 (b := w.heap.size) (o := 5) (x := .slice x n c) (by first | assumption | go_simp)
       have j0 := keep hb1 (b := w.heap.size + 1) (o := 0) (x := .int .i64 ck) (by first | assumption | go_simp)
       have j1 := keep hb1 (b := w.heap.size + 1) (o := 1) (x := .int .i64 c0) (by first | assumption | go_simp)
       have j2 := keep hb1 (b := w.heap.size + 1) (o := 2) (x := .bool c1) (by first | assumption | go_simp)
       have j3 := keep hb1 (b := w.heap.size + 1) (o := 3) (x := .bool c2) (by first | assumption | go_simp)
       have j4 := keep hb1 (b := w.heap.size + 1) (o := 4) (x := .int .i64 c3) (by first | assumption | go_simp)
       have j5 := keep hb1 (b := w.heap.size + 1) (o := 5) (x := .int .i64 c4) (by first | assumption | go_simp)
       have j6 := keep hb1 (b := w.heap.size + 1) (o := 6) (x := .int .i64 c5) (by first | assumption | go_simp)
       have j7 := keep hb1 (b := w.heap.size + 1) (o := 7) (x := .int .i64 c6) (by first | assumption | go_simp)
       have j8 := keep hb1 (b := w.heap.size + 1) (o := 8) (x := .int .i64 c7) (by first | assumption | go_simp)
       have l0 : w.heap.size < w1.heap.size := cell_lt' k0
       have l1 : w.heap.size + 1 < w1.heap.size := cell_lt' j0
       have B1 := on b0 hb1
       have hX1 := hX _ (HO.out.below B1)
       obtain ⟨x1, d1, rfl, hs1, _⟩ := H1.out.1.sl HLm.out.2
       have HS1 := hid hs1
       clear hX hb1 hs1)
    | (
       go_at_call 25; refine hX1.mono ?_; rintro e w2 ⟨R2, rfl, H2⟩; clear hX1
       have hb2 := H2.out.2
       replace k0 := keep hb2 k0
       replace k1 := keep hb2 k1
       replace k2 := keep hb2 k2
       replace k3 := keep hb2 k3
       replace k4 := keep hb2 k4
       replace k5 := keep hb2 k5
       replace j0 := keep hb2 j0
       replace j1 := keep hb2 j1
       replace j2 := keep hb2 j2
       replace j3 := keep hb2 j3
       replace j4 := keep hb2 j4
       replace j5 := keep hb2 j5
       replace j6 := keep hb2 j6
       replace j7 := keep hb2 j7
       replace j8 := keep hb2 j8
       have B2 := on B1 hb2
       obtain ⟨x2, d2, rfl, hs2, _⟩ := H2.out.1.sl HLm.out.2
       have HS2 := hid (And.intro (HS1.out.below hb2) hs2)
       clear hb2 hs2)
    | (
       go_at_call 26; refine (hK _).mono ?_; rintro e w3 ⟨R3, rfl, H3⟩; clear hK
       have hb3 := H3.out.2
       replace k0 := keep hb3 k0
       replace k1 := keep hb3 k1
       replace k2 := keep hb3 k2
       replace k3 := keep hb3 k3
       replace k4 := keep hb3 k4
       replace k5 := keep hb3 k5
       replace j0 := keep hb3 j0
       replace j1 := keep hb3 j1
       replace j2 := keep hb3 j2
       replace j3 := keep hb3 j3
       replace j4 := keep hb3 j4
       replace j5 := keep hb3 j5
       replace j6 := keep hb3 j6
       replace j7 := keep hb3 j7
       replace j8 := keep hb3 j8
       have B3 := on B2 hb3
       obtain ⟨x3, d3, rfl, hs3, _⟩ := H3.out.1.sl HLc.out.2
       have HS3 := hid (And.intro (HS2.out.1.below hb3) (And.intro (HS2.out.2.below hb3) hs3))
       clear hb3 hs3)
    | (
       go_at_call 27; refine (hY _).mono ?_; rintro e w4 ⟨R4, rfl, H4⟩; clear hY
       have hb4 := H4.out.2
       replace k0 := keep hb4 k0
       replace k1 := keep hb4 k1
       replace k2 := keep hb4 k2
       replace k3 := keep hb4 k3
       replace k4 := keep hb4 k4
       replace k5 := keep hb4 k5
       replace j0 := keep hb4 j0
       replace j1 := keep hb4 j1
       replace j2 := keep hb4 j2
       replace j3 := keep hb4 j3
       replace j4 := keep hb4 j4
       replace j5 := keep hb4 j5
       replace j6 := keep hb4 j6
       replace j7 := keep hb4 j7
       replace j8 := keep hb4 j8
       have B4 := on B3 hb4
       obtain ⟨x4, d4, rfl, hs4, _⟩ := H4.out.1.sl HLc.out.2
       have hv1 : (convert 52 9 (.slice x1 NM.length d1)).run Try.prog w4 = .ok (.string (str NM)) w4 := After.conv (HS3.out.1.below hb4) ⟨w4, Below.refl _ _⟩
       have hv2 : (convert 52 9 (.slice x2 NM.length d2)).run Try.prog w4 = .ok (.string (str NM)) w4 := After.conv (HS3.out.2.1.below hb4) ⟨w4, Below.refl _ _⟩
       have hv3 : (convert 52 9 (.slice x3 NC.length d3)).run Try.prog w4 = .ok (.string (str NC)) w4 := After.conv (HS3.out.2.2.below hb4) ⟨w4, Below.refl _ _⟩
       have hv4 : (convert 52 9 (.slice x4 NC.length d4)).run Try.prog w4 = .ok (.string (str NC)) w4 := After.conv hs4 ⟨w4, Below.refl _ _⟩
       have hDm4 := hDm w4 _ _ _ (HS3.out.1.below hb4) HLm.out.1
       have HS4 := hid (HS3.out.2.2.below hb4)
       clear hDm hb4 hs4)
    | (
       go_at_call 28; refine hDm4.mono ?_; rintro e w5 ⟨y, yn, yc, rfl, H5⟩; clear hDm4
       have hb5 := H5.out.1
       replace k0 := keep hb5 k0
       replace k1 := keep hb5 k1
       replace k2 := keep hb5 k2
       replace k3 := keep hb5 k3
       replace k4 := keep hb5 k4
       replace k5 := keep hb5 k5
       replace j0 := keep hb5 j0
       replace j1 := keep hb5 j1
       replace j2 := keep hb5 j2
       replace j3 := keep hb5 j3
       replace j4 := keep hb5 j4
       replace j5 := keep hb5 j5
       replace j6 := keep hb5 j6
       replace j7 := keep hb5 j7
       replace j8 := keep hb5 j8
       have bN := al w5 (.cells #[.int .i64 z0, .int .i64 z1, .int .i64 z2, .int .i64 z3, .int .i64 z4, .slice y yn yc] 26)
       have B5 := on (on B4 hb5) bN
       have HO5 := hid (H5.out.2.below bN)
       have hDc5 := hDc _ _ _ _ (HS4.out.below (on hb5 bN)) HLc.out.1
       replace k0 := keep bN k0
       replace k1 := keep bN k1
       replace k2 := keep bN k2
       replace k3 := keep bN k3
       replace k4 := keep bN k4
       replace k5 := keep bN k5
       replace j0 := keep bN j0
       replace j1 := keep bN j1
       replace j2 := keep bN j2
       replace j3 := keep bN j3
       replace j4 := keep bN j4
       replace j5 := keep bN j5
       replace j6 := keep bN j6
       replace j7 := keep bN j7
       replace j8 := keep bN j8
       clear hDc hb5)
    | (
       go_at_call 29; refine hDc5.mono ?_; rintro e w6 ⟨rfl, hb6⟩; clear hDc5
       have q0 := keep hb6 (b := w5.heap.size) (o := 0) (x := .int .i64 z0) (by first | assumption | go_simp)
       have q1 := keep hb6 (b := w5.heap.size) (o := 1) (x := .int .i64 z1) (by first | assumption | go_simp)
       have q2 := keep hb6 (b := w5.heap.size) (o := 2) (x := .int .i64 z2) (by first | assumption | go_simp)
       have q3 := keep hb6 (b := w5.heap.size) (o := 3) (x := .int .i64 z3) (by first | assumption | go_simp)
       have q4 := keep hb6 (b := w5.heap.size) (o := 4) (x := .int .i64 z4) (by first | assumption | go_simp)
       have q5 := keep hb6 (b := w5.heap.size) (o := 5) (x := .slice y yn yc) (by first | assumption | go_simp)
       replace k0 := keep hb6 k0
       replace k1 := keep hb6 k1
       replace k2 := keep hb6 k2
       replace k3 := keep hb6 k3
       replace k4 := keep hb6 k4
       replace k5 := keep hb6 k5
       replace j0 := keep hb6 j0
       replace j1 := keep hb6 j1
       replace j2 := keep hb6 j2
       replace j3 := keep hb6 j3
       replace j4 := keep hb6 j4
       replace j5 := keep hb6 j5
       replace j6 := keep hb6 j6
       replace j7 := keep hb6 j7
       replace j8 := keep hb6 j8
       have bD := al w6 (.cells #[.int .i64 ck, .int .i64 c0, .bool c1, .bool c2, .int .i64 c3, .int .i64 c4, .int .i64 c5, .int .i64 c6, .int .i64 c7] 30)
       have B6 := on (on B5 hb6) bD
       have HO6 := hid (HO5.out.below (on hb6 bD))
       replace k0 := keep bD k0
       replace k1 := keep bD k1
       replace k2 := keep bD k2
       replace k3 := keep bD k3
       replace k4 := keep bD k4
       replace k5 := keep bD k5
       replace j0 := keep bD j0
       replace j1 := keep bD j1
       replace j2 := keep bD j2
       replace j3 := keep bD j3
       replace j4 := keep bD j4
       replace j5 := keep bD j5
       replace j6 := keep bD j6
       replace j7 := keep bD j7
       replace j8 := keep bD j8
       replace q0 := keep bD q0
       replace q1 := keep bD q1
       replace q2 := keep bD q2
       replace q3 := keep bD q3
       replace q4 := keep bD q4
       replace q5 := keep bD q5
       clear hb6)
    | (
       go_at_call 19; refine (hA _).mono ?_; rintro e w9 ⟨rfl, hb9⟩; clear hA))
  go_ret
  exact ⟨rfl, on B6 hb9⟩

end Go.Proofs.Ytnddhlkdemibgaa.At

/-
  Maps' and changes' bytes, and that they are read back, a map that may not be, a change that may not be.
  Conditions: none.
-/
namespace Go.Proofs.Ytnddhlkdemibgaa.At
open Go.RowKit By Fl
set_option linter.unusedVariables false
set_option linter.unusedSimpArgs false
set_option maxRecDepth 100000

set_option maxHeartbeats 12800000 in
theorem walk_00 (V0 : MpV) (V1 : Ch) (w : World) (h0 : MapIn w V0) (htm : mayM V0.m = false) (htc : mayC V1 = false) : Calls Try.prog 6 #[vM V0.m.ep V0.m.pool V0.x V0.n V0.c, vC V1] w fun e w' => e = .returned (.bool true) ∧ Below w.heap.size w w' := by
  obtain ⟨⟨ep, p, L⟩, x, n, c⟩ := V0
  have HO := hid h0.os
  have hk := h0.k
  dsimp only at HO hk htm ⊢
  have hE := fun W (hW : At.Os W x n c L) => encode_any ⟨ep, p, L⟩ hW hk
  have hX := fun W (hW : At.Os W x n c L) => renc_any ⟨ep, p, L⟩ hW
  have hK := fun W => encodeChange_any V1 W
  have hY := fun W => rencC_any V1 W
  have hQ := fun W => eq_change V1 V1 W
  rw [(eqC_iff _ _).2 rfl] at hQ
  have hS := fun W (y : Option Addr) (yn yc : Nat) (h : At.Os W x n c L) (h' : At.Os W y yn yc L) => rsame_any ⟨ep, p, L⟩ ⟨ep, p, L⟩ h h'
  rw [(eqM_iff _ _).2 rfl] at hS
  have hA := fun W => awake_any W
  have eT : errB true = 0 := rfl
  have eF : errB false = 1 := rfl
  have cT : cod true = 0 := rfl
  rw [htm] at hE hX
  rw [htc] at hK hY
  obtain ⟨NM, hNM⟩ : ∃ NM : List Nat, NM = [] := ⟨_, rfl⟩
  have HLm : Hid (NM.length ≤ 140737488355328 ∧ ∀ v ∈ NM, v < 256) := hid ⟨by rw [hNM]; simp, by rw [hNM]; simp⟩
  simp only [Bool.false_eq_true, if_false] at hE hX
  rw [← hNM] at hE hX
  clear hNM
  obtain ⟨NC, hNC⟩ : ∃ NC : List Nat, NC = [] := ⟨_, rfl⟩
  have HLc : Hid (NC.length ≤ 140737488355328 ∧ ∀ v ∈ NC, v < 256) := hid ⟨by rw [hNC]; simp, by rw [hNC]; simp⟩
  simp only [Bool.false_eq_true, if_false] at hK hY
  rw [← hNC] at hK hY
  clear hNC
  have hDm := fun W (x : Option Addr) (n c : Nat) (h : Go.Proofs.Ytnddhlkdemibgaa.Sl W x n c NM) (hn : n ≤ 140737488355328) => decode_any x n c NM W h hn
  have hDc := fun W (x : Option Addr) (n c : Nat) (h : Go.Proofs.Ytnddhlkdemibgaa.Sl W x n c NC) (hn : n ≤ 140737488355328) => decodeChange_any x n c NC W h hn
  obtain ⟨⟨⟨z0, ⟨z1, z2, z3, z4⟩, zL⟩, zt⟩, hz⟩ : ∃ z, z = decM NM := ⟨_, rfl⟩
  rw [← hz] at hDm
  dsimp only at hDm
  generalize cod zt = zc at *
  clear hz
  obtain ⟨⟨⟨u0, ⟨u1, u2, u3, u4, u5, u6, u7, u8⟩⟩, ut⟩, hu⟩ : ∃ z, z = decC NC := ⟨_, rfl⟩
  rw [← hu] at hDc
  dsimp only at hDc
  generalize cod ut = uc at *
  clear hu
  rw [eF] at hE hX
  rw [eF] at hK hY
  clear h0 hk htm htc
  obtain ⟨k, m, g, d⟩ := p
  obtain ⟨ck, c0, c1, c2, c3, c4, c5, c6, c7⟩ := V1
  unfold vM vC at *
  dsimp only at hE hX hK hY hQ hS hDm hDc ⊢
  have b0 : Below w.heap.size w ((w.alloc (.cells #[.int .i64 ep, .int .i64 k, .int .i64 m, .int .i64 g, .int .i64 d, .slice x n c] 26)).alloc (.cells #[.int .i64 ck, .int .i64 c0, .bool c1, .bool c2, .int .i64 c3, .int .i64 c4, .int .i64 c5, .int .i64 c6, .int .i64 c7] 30)) := on (al _ _) (al _ _)
  have hE0 := hE _ (HO.out.below b0)
  clear hE
  go_enter Try.func6, Try.ntmps6
  go_wp2_with (first
    | (
       go_at_call 24; refine hE0.mono ?_; rintro e w1 ⟨R1, rfl, H1⟩; clear hE0
       have hb1 := H1.out.2
       have k0 := keep hb1 (b := w.heap.size) (o := 0) (x := .int .i64 ep) (by first | assumption | go_simp)
       have k1 := keep hb1 (b := w.heap.size) (o := 1) (x := .int .i64 k) (by first | assumption | go_simp)
       have k2 := keep hb1 (b := w.heap.size) (o := 2) (x := .int .i64 m) (by first | assumption | go_simp)
       have k3 := keep hb1 (b := w.heap.size) (o := 3) (x := .int .i64 g) (by first | assumption | go_simp)
       have k4 := keep hb1 (b := w.heap.size) (o := 4) (x := .int .i64 d) (by first | assumption | go_simp)
       have k5 := keep hb1 (b := w.heap.size) (o := 5) (x := .slice x n c) (by first | assumption | go_simp)
       have j0 := keep hb1 (b := w.heap.size + 1) (o := 0) (x := .int .i64 ck) (by first | assumption | go_simp)
       have j1 := keep hb1 (b := w.heap.size + 1) (o := 1) (x := .int .i64 c0) (by first | assumption | go_simp)
       have j2 := keep hb1 (b := w.heap.size + 1) (o := 2) (x := .bool c1) (by first | assumption | go_simp)
       have j3 := keep hb1 (b := w.heap.size + 1) (o := 3) (x := .bool c2) (by first | assumption | go_simp)
       have j4 := keep hb1 (b := w.heap.size + 1) (o := 4) (x := .int .i64 c3) (by first | assumption | go_simp)
       have j5 := keep hb1 (b := w.heap.size + 1) (o := 5) (x := .int .i64 c4) (by first | assumption | go_simp)
       have j6 := keep hb1 (b := w.heap.size + 1) (o := 6) (x := .int .i64 c5) (by first | assumption | go_simp)
       have j7 := keep hb1 (b := w.heap.size + 1) (o := 7) (x := .int .i64 c6) (by first | assumption | go_simp)
       have j8 := keep hb1 (b := w.heap.size + 1) (o := 8) (x := .int .i64 c7) (by first | assumption | go_simp)
       have l0 : w.heap.size < w1.heap.size := cell_lt' k0
       have l1 : w.heap.size + 1 < w1.heap.size := cell_lt' j0
       have B1 := on b0 hb1
       have hX1 := hX _ (HO.out.below B1)
       obtain ⟨x1, d1, rfl, hs1, _⟩ := H1.out.1.sl HLm.out.2
       have HS1 := hid hs1
       clear hX hb1 hs1)
    | (
       go_at_call 25; refine hX1.mono ?_; rintro e w2 ⟨R2, rfl, H2⟩; clear hX1
       have hb2 := H2.out.2
       replace k0 := keep hb2 k0
       replace k1 := keep hb2 k1
       replace k2 := keep hb2 k2
       replace k3 := keep hb2 k3
       replace k4 := keep hb2 k4
       replace k5 := keep hb2 k5
       replace j0 := keep hb2 j0
       replace j1 := keep hb2 j1
       replace j2 := keep hb2 j2
       replace j3 := keep hb2 j3
       replace j4 := keep hb2 j4
       replace j5 := keep hb2 j5
       replace j6 := keep hb2 j6
       replace j7 := keep hb2 j7
       replace j8 := keep hb2 j8
       have B2 := on B1 hb2
       obtain ⟨x2, d2, rfl, hs2, _⟩ := H2.out.1.sl HLm.out.2
       have HS2 := hid (And.intro (HS1.out.below hb2) hs2)
       clear hb2 hs2)
    | (
       go_at_call 26; refine (hK _).mono ?_; rintro e w3 ⟨R3, rfl, H3⟩; clear hK
       have hb3 := H3.out.2
       replace k0 := keep hb3 k0
       replace k1 := keep hb3 k1
       replace k2 := keep hb3 k2
       replace k3 := keep hb3 k3
       replace k4 := keep hb3 k4
       replace k5 := keep hb3 k5
       replace j0 := keep hb3 j0
       replace j1 := keep hb3 j1
       replace j2 := keep hb3 j2
       replace j3 := keep hb3 j3
       replace j4 := keep hb3 j4
       replace j5 := keep hb3 j5
       replace j6 := keep hb3 j6
       replace j7 := keep hb3 j7
       replace j8 := keep hb3 j8
       have B3 := on B2 hb3
       obtain ⟨x3, d3, rfl, hs3, _⟩ := H3.out.1.sl HLc.out.2
       have HS3 := hid (And.intro (HS2.out.1.below hb3) (And.intro (HS2.out.2.below hb3) hs3))
       clear hb3 hs3)
    | (
       go_at_call 27; refine (hY _).mono ?_; rintro e w4 ⟨R4, rfl, H4⟩; clear hY
       have hb4 := H4.out.2
       replace k0 := keep hb4 k0
       replace k1 := keep hb4 k1
       replace k2 := keep hb4 k2
       replace k3 := keep hb4 k3
       replace k4 := keep hb4 k4
       replace k5 := keep hb4 k5
       replace j0 := keep hb4 j0
       replace j1 := keep hb4 j1
       replace j2 := keep hb4 j2
       replace j3 := keep hb4 j3
       replace j4 := keep hb4 j4
       replace j5 := keep hb4 j5
       replace j6 := keep hb4 j6
       replace j7 := keep hb4 j7
       replace j8 := keep hb4 j8
       have B4 := on B3 hb4
       obtain ⟨x4, d4, rfl, hs4, _⟩ := H4.out.1.sl HLc.out.2
       have hv1 : (convert 52 9 (.slice x1 NM.length d1)).run Try.prog w4 = .ok (.string (str NM)) w4 := After.conv (HS3.out.1.below hb4) ⟨w4, Below.refl _ _⟩
       have hv2 : (convert 52 9 (.slice x2 NM.length d2)).run Try.prog w4 = .ok (.string (str NM)) w4 := After.conv (HS3.out.2.1.below hb4) ⟨w4, Below.refl _ _⟩
       have hv3 : (convert 52 9 (.slice x3 NC.length d3)).run Try.prog w4 = .ok (.string (str NC)) w4 := After.conv (HS3.out.2.2.below hb4) ⟨w4, Below.refl _ _⟩
       have hv4 : (convert 52 9 (.slice x4 NC.length d4)).run Try.prog w4 = .ok (.string (str NC)) w4 := After.conv hs4 ⟨w4, Below.refl _ _⟩
       have hDm4 := hDm w4 _ _ _ (HS3.out.1.below hb4) HLm.out.1
       have HS4 := hid (HS3.out.2.2.below hb4)
       clear hDm hb4 hs4)
    | (
       go_at_call 28; refine hDm4.mono ?_; rintro e w5 ⟨y, yn, yc, rfl, H5⟩; clear hDm4
       have hb5 := H5.out.1
       replace k0 := keep hb5 k0
       replace k1 := keep hb5 k1
       replace k2 := keep hb5 k2
       replace k3 := keep hb5 k3
       replace k4 := keep hb5 k4
       replace k5 := keep hb5 k5
       replace j0 := keep hb5 j0
       replace j1 := keep hb5 j1
       replace j2 := keep hb5 j2
       replace j3 := keep hb5 j3
       replace j4 := keep hb5 j4
       replace j5 := keep hb5 j5
       replace j6 := keep hb5 j6
       replace j7 := keep hb5 j7
       replace j8 := keep hb5 j8
       have bN := al w5 (.cells #[.int .i64 z0, .int .i64 z1, .int .i64 z2, .int .i64 z3, .int .i64 z4, .slice y yn yc] 26)
       have B5 := on (on B4 hb5) bN
       have HO5 := hid (H5.out.2.below bN)
       have hDc5 := hDc _ _ _ _ (HS4.out.below (on hb5 bN)) HLc.out.1
       replace k0 := keep bN k0
       replace k1 := keep bN k1
       replace k2 := keep bN k2
       replace k3 := keep bN k3
       replace k4 := keep bN k4
       replace k5 := keep bN k5
       replace j0 := keep bN j0
       replace j1 := keep bN j1
       replace j2 := keep bN j2
       replace j3 := keep bN j3
       replace j4 := keep bN j4
       replace j5 := keep bN j5
       replace j6 := keep bN j6
       replace j7 := keep bN j7
       replace j8 := keep bN j8
       clear hDc hb5)
    | (
       go_at_call 29; refine hDc5.mono ?_; rintro e w6 ⟨rfl, hb6⟩; clear hDc5
       have q0 := keep hb6 (b := w5.heap.size) (o := 0) (x := .int .i64 z0) (by first | assumption | go_simp)
       have q1 := keep hb6 (b := w5.heap.size) (o := 1) (x := .int .i64 z1) (by first | assumption | go_simp)
       have q2 := keep hb6 (b := w5.heap.size) (o := 2) (x := .int .i64 z2) (by first | assumption | go_simp)
       have q3 := keep hb6 (b := w5.heap.size) (o := 3) (x := .int .i64 z3) (by first | assumption | go_simp)
       have q4 := keep hb6 (b := w5.heap.size) (o := 4) (x := .int .i64 z4) (by first | assumption | go_simp)
       have q5 := keep hb6 (b := w5.heap.size) (o := 5) (x := .slice y yn yc) (by first | assumption | go_simp)
       replace k0 := keep hb6 k0
       replace k1 := keep hb6 k1
       replace k2 := keep hb6 k2
       replace k3 := keep hb6 k3
       replace k4 := keep hb6 k4
       replace k5 := keep hb6 k5
       replace j0 := keep hb6 j0
       replace j1 := keep hb6 j1
       replace j2 := keep hb6 j2
       replace j3 := keep hb6 j3
       replace j4 := keep hb6 j4
       replace j5 := keep hb6 j5
       replace j6 := keep hb6 j6
       replace j7 := keep hb6 j7
       replace j8 := keep hb6 j8
       have bD := al w6 (.cells #[.int .i64 u0, .int .i64 u1, .bool u2, .bool u3, .int .i64 u4, .int .i64 u5, .int .i64 u6, .int .i64 u7, .int .i64 u8] 30)
       have B6 := on (on B5 hb6) bD
       have HO6 := hid (HO5.out.below (on hb6 bD))
       replace k0 := keep bD k0
       replace k1 := keep bD k1
       replace k2 := keep bD k2
       replace k3 := keep bD k3
       replace k4 := keep bD k4
       replace k5 := keep bD k5
       replace j0 := keep bD j0
       replace j1 := keep bD j1
       replace j2 := keep bD j2
       replace j3 := keep bD j3
       replace j4 := keep bD j4
       replace j5 := keep bD j5
       replace j6 := keep bD j6
       replace j7 := keep bD j7
       replace j8 := keep bD j8
       replace q0 := keep bD q0
       replace q1 := keep bD q1
       replace q2 := keep bD q2
       replace q3 := keep bD q3
       replace q4 := keep bD q4
       replace q5 := keep bD q5
       clear hb6)
    | (
       go_at_call 19; refine (hA _).mono ?_; rintro e w9 ⟨rfl, hb9⟩; clear hA))
  go_ret
  exact ⟨rfl, on B6 hb9⟩

end Go.Proofs.Ytnddhlkdemibgaa.At

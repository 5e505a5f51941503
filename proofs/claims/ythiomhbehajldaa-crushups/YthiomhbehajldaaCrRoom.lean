/-
  Package crush: how much room there is; the document's.
  Conditions: the list lies in memory, and is one of a map that may be.
-/
import Derived.Test.YthiomhbehajldaaCrComp
import Derived.Lib.AppendZeros
namespace Go.Proofs.Ythiomhbehajldaa.Cr
open Go.RowKit Go.Shelf By Fl At
open Sr (Wd Ws enW)
set_option linter.unusedVariables false
set_option linter.unusedSimpArgs false
set_option maxRecDepth 100000

def hasW (o : Osd) : Bool := decide (0 < wO o)
def nms (d : Nat) (L : List Osd) : List Int := (L.filter hasW).map (kO d)

theorem nms_yes {d : Nat} {L : List Osd} {k : Nat} {o : Osd} (h : L[k]? = some o) (hw : 0 < wO o) : nms d (L.take (k + 1)) = nms d (L.take k) ++ [kO d o] := by
  unfold nms
  rw [List.take_add_one, h, List.filter_append, List.map_append]
  simp [hasW, hw]
theorem nms_no {d : Nat} {L : List Osd} {k : Nat} {o : Osd} (h : L[k]? = some o) (hw : ¬ 0 < wO o) : nms d (L.take (k + 1)) = nms d (L.take k) := by
  unfold nms
  rw [List.take_add_one, h, List.filter_append, List.map_append]
  simp [hasW, hw]
theorem nms_len (d : Nat) (L : List Osd) : (nms d L).length ≤ L.length := by
  unfold nms
  rw [List.length_map]
  exact List.length_filter_le _ _

theorem nms_rm {d : Nat} {L : List Osd} (h : NN L) {s : List Int} (hp : s.Perm (nms d L)) (hs : s.Pairwise (fun a b => a ≤ b)) : (Lib.compact s).length = rm d L := by
  obtain ⟨h1, h2⟩ := comp_all hp hs
  unfold rm
  rw [inc_ext h1 (pos_inc d L) (fun k => ?_)]
  rw [h2, mem_pos h]
  unfold nms
  simp only [List.mem_map, List.mem_filter, hasW, decide_eq_true_eq]
  constructor
  · rintro ⟨o, ⟨h3, h4⟩, e⟩
    exact ⟨o, h3, e, by omega⟩
  · rintro ⟨o, h3, e, h4⟩
    exact ⟨o, ⟨h3, by omega⟩, e⟩

def Ri (w wr : World) (d : Nat) (L : List Osd) (k : Nat) (xo : Option Addr) (no co : Nat) : Prop := Below w.heap.size w wr ∧ Own wr w.heap.size 3 1 enI (.slice xo no co) (nms d (L.take k))

set_option maxHeartbeats 3200000 in
theorem room_any {w : World} {x : Option Addr} {n c : Nat} {L : List Osd} (h : At.Os w x n c L) (hn : n ≤ 64) (hB : WB L) (z : Int) :
    Calls Try.prog 23 #[.slice x n c, .int .i64 z] w fun e w' => e = .returned (.int .i64 (rm (z + 1).toNat L : Nat)) ∧ Below w.heap.size w w' := by
  obtain ⟨d, hd⟩ : ∃ d, d = (z + 1).toNat := ⟨_, rfl⟩
  have cN := fun o V => number_any o z V
  rw [← hd] at cN ⊢
  have CN := hid cN
  have HO := hid h
  have HL := hid h.len
  have HW := hid hB
  clear h hB cN hd
  go_enter Try.func23, Try.ntmps23
  go_wp2_with fail
  go_loopw [10, 5] (fun i s wr => ∃ (k : Nat) (xo : Option Addr) (no co : Nat), k ≤ n ∧ i = .int .i64 k ∧ s = .slice xo no co ∧ no ≤ k ∧ Hid (Ri w wr d L k xo no co)) (fun i _ _ => n - (intOf i).toNat)
  case atStart => exact ⟨0, none, 0, 0, by omega, rfl, rfl, by omega, Below.refl _ _, Own.nil _ _ _ _ _⟩
  case round =>
    obtain ⟨k, xo, no, co, hk, rfl, rfl, hno, HR⟩ := hrel
    by_cases hlt : k < n
    · have hkn : (k : Int) < (n : Int) := by omega
      obtain ⟨m, hLm⟩ : ∃ m, L[k]? = some m := ⟨L[k]'(by have := HL.out; omega), List.getElem?_eq_getElem (by have := HL.out; omega)⟩
      have ho := HO.out.below HR.out.1
      rcases ho.row with h0 | ⟨b, o, rfl, hbl, hcell⟩
      · omega
      obtain ⟨k0, k1, k2, k3, k4, k5, k6, k7⟩ := At.Os.at (n := n) (c := c) hcell hLm
      have c1 := fun V => weight_any m V
      have c2 := fun V => CN.out m V
      have hlen := form_slice HR.out.2
      by_cases hw : 0 < wO m
      · have e1 := nms_yes (d := d) hLm hw
        have HE := hid (And.intro e1 hlen)
        have HR2 := hid (And.intro HR.out.1 HR.out.2)
        clear e1 HR ho hcell hLm hlen
        generalize kO d m = KY at *
        generalize wO m = wv at *
        obtain ⟨m0, m1, m2, m3, m4, m5, m6, m7⟩ := m
        unfold vO at c1 c2
        dsimp only at k0 k1 k2 k3 k4 k5 k6 k7 c1 c2
        obtain ⟨wA, hwA⟩ : ∃ wA, wA = wr.alloc (.cells #[.int .i64 m0, .bool m1, .bool m2, .int .i64 m3, .int .i64 m4, .int .i64 m5, .int .i64 m6, .int .i64 m7] 44) := ⟨_, rfl⟩
        have bA : Below wr.heap.size wr wA := by rw [hwA]; exact al _ _
        have q0 : wA.cell? ⟨wr.heap.size, 0, none⟩ = some (.int .i64 m0) := by rw [hwA]; go_simp
        have q1 : wA.cell? ⟨wr.heap.size, 1, none⟩ = some (.bool m1) := by rw [hwA]; go_simp
        have q2 : wA.cell? ⟨wr.heap.size, 2, none⟩ = some (.bool m2) := by rw [hwA]; go_simp
        have q3 : wA.cell? ⟨wr.heap.size, 3, none⟩ = some (.int .i64 m3) := by rw [hwA]; go_simp
        have q4 : wA.cell? ⟨wr.heap.size, 4, none⟩ = some (.int .i64 m4) := by rw [hwA]; go_simp
        have q5 : wA.cell? ⟨wr.heap.size, 5, none⟩ = some (.int .i64 m5) := by rw [hwA]; go_simp
        have q6 : wA.cell? ⟨wr.heap.size, 6, none⟩ = some (.int .i64 m6) := by rw [hwA]; go_simp
        have q7 : wA.cell? ⟨wr.heap.size, 7, none⟩ = some (.int .i64 m7) := by rw [hwA]; go_simp
        have HA := hid hwA
        clear hwA
        go_wp2_with (first
          | (go_at_call 46; rw [← HA.out]; refine (c1 _).mono ?_; rintro e w1 ⟨rfl, hb1⟩; clear c1
             have p0 := keep hb1 q0
             have p1 := keep hb1 q1
             have p2 := keep hb1 q2
             have p3 := keep hb1 q3
             have p4 := keep hb1 q4
             have p5 := keep hb1 q5
             have p6 := keep hb1 q6
             have p7 := keep hb1 q7)
          | (go_at_call 47; refine (c2 _).mono ?_; rintro e w2 ⟨rfl, hb2⟩; clear c2
             obtain ⟨x3, c3, w3, hap, H3⟩ := push_z (HR2.out.2.below (on bA (on hb1 hb2))) KY (by have := HE.out.2; omega) (by have := (on HR2.out.1 (on bA (on hb1 hb2))).size; omega)
             rw [HE.out.2] at hap H3)
          | (at_builtin; refine Lib.wpList_append_run _ rfl _ _ _ _ rfl _ _ rfl rfl _ _ hap ?_))
        go_roundw
        case rel =>
          refine ⟨k + 1, _, no + 1, _, by omega, by go_num, rfl, by omega, ?_, ?_⟩
          · exact (on HR2.out.1 (on bA (on hb1 hb2))).trans (H3.out.2.1.below (fun j e => by have := (HR2.out.2.tb e).1; omega) (by have := (on HR2.out.1 (on bA (on hb1 hb2))).size; omega))
          · rw [HE.out.1]
            exact H3.out.1
        case measure => simp [intOf]; omega
      · have e1 := nms_no (d := d) hLm hw
        have HE := hid (And.intro e1 hlen)
        have HR2 := hid (And.intro HR.out.1 HR.out.2)
        clear e1 HR ho hcell hLm hlen c2
        generalize wO m = wv at *
        obtain ⟨m0, m1, m2, m3, m4, m5, m6, m7⟩ := m
        unfold vO at c1
        dsimp only at k0 k1 k2 k3 k4 k5 k6 k7 c1
        have bA := al wr (.cells #[.int .i64 m0, .bool m1, .bool m2, .int .i64 m3, .int .i64 m4, .int .i64 m5, .int .i64 m6, .int .i64 m7] 44)
        go_wp2_with (go_at_call 46; refine (c1 _).mono ?_; rintro e w1 ⟨rfl, hb1⟩; clear c1)
        go_roundw
        case rel =>
          refine ⟨k + 1, _, no, _, by omega, by go_num, rfl, by omega, on HR2.out.1 (on bA hb1), ?_⟩
          rw [HE.out.1]
          exact HR2.out.2.below (on bA hb1)
        case measure => simp [intOf]; omega
    · have hk2 : k = n := by omega
      subst hk2
      have cS := sortI_any (own_hs HR.out.2) (by omega)
      have hfull : Hid (L.take k = L) := by
        show L.take k = L
        rw [← HL.out, List.take_length]
      have HC : Hid (∀ (w1 : World) (s : List Int), Hs w1 w.heap.size xo no co s → Calls Try.prog 49 #[.slice xo no co] w1 fun e w' => ∃ (y : Option Addr) (q : Nat), e = .returned (.slice y q co) ∧ Hid (q = (Lib.compact s).length ∧ Turns (fun k => w.heap.size ≤ k) w1 w')) := fun w1 s hs => compI_any hs (by omega)
      go_wp2_with (first
        | (go_at_call 48; refine cS.mono ?_; rintro e w1 ⟨rfl, H1⟩; clear cS; obtain ⟨s, s1, s2, s3, s4⟩ := H1.out; have cC := HC.out w1 s s3; have HP := hid (And.intro s1 (And.intro s2 s4)); clear s1 s2 s3 s4 H1 HC)
        | (go_at_call 49; refine cC.mono ?_; rintro e w2 ⟨y, q, rfl, H2⟩; clear cC))
      go_ret
      have e9 := nms_rm HW.out.nn (d := d) (L := L) (by rw [← hfull.out]; exact HP.out.1) HP.out.2.1
      refine ⟨?_, ?_⟩
      · rw [← e9, ← H2.out.1]
        rfl
      · exact HR.out.1.trans ((HP.out.2.2.trans H2.out.2).below (fun j e => e) HR.out.1.size)

end Go.Proofs.Ythiomhbehajldaa.Cr

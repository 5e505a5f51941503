/-
  The document's Less.
  Conditions: the texts are at most 2^20 bytes long.
-/
import Derived.Test.YtjhbfcfipfmnbaaNaLess
namespace Go.Proofs.Ytjhbfcfipfmnbaa.Na
open Go.RowKit
set_option linter.unusedVariables false
set_option linter.unusedSimpArgs false

theorem drewN_more {w wr : World} {n : Nat} (h : ∃ m, wr = w.drewN m) : ∃ m, wr.drewN n = w.drewN m := by
  obtain ⟨m, rfl⟩ := h
  exact ⟨m + n, by rw [World.drewN_drewN]⟩

theorem below_draw {B : Nat} {a w : World} (h : Below B a w) (n : Nat) : Below B a (w.drewN n) := ⟨h.os, h.tape, h.output, h.size, h.block⟩

theorem below_two {w a b : World} (h1 : Below w.heap.size w a) (h2 : Below a.heap.size a b) : Below w.heap.size w b := h1.trans (h2.mono h1.size)

set_option maxHeartbeats 2000000 in
set_option maxRecDepth 100000 in
theorem rless_runes (a b : ByteArray) (L1 L2 : List Nat) (t : Bool) (w : World) (h1 : Txt (nat a) L1 []) (h2 : Txt (nat b) L2 []) (ha : a.size ≤ 1048576) (hb : b.size ≤ 1048576) (ht : lessN (nat a) (nat b) = t) :
    Calls Try.prog 21 #[.string a, .string b] w fun e w' => e = .returned (.bool t) ∧ Below w.heap.size w w' := by
  have HT : Hid (lessN L1 L2 = t) := by
    show _ = _
    rw [← flat_less L1 L2 h1.ok h2.ok, ← ht, h1.eq, h2.eq, List.append_nil, List.append_nil]
  have hl1 : L1.length ≤ 1048576 := by have := h1.len; have := pos_le L1 L1.length (Nat.le_refl _); rw [nat_length] at *; omega
  have hl2 : L2.length ≤ 1048576 := by have := h2.len; have := pos_le L2 L2.length (Nat.le_refl _); rw [nat_length] at *; omega
  have c1 := runes_nums a L1 w h1 ha
  have c2 : ∀ v, Calls Try.prog 9 #[.string b] v fun e w' => ∃ g c, e = .returned (.tuple #[.slice (some ⟨g, 0, none⟩) L2.length c, .bool true]) ∧ Below v.heap.size v w' ∧ Nums w' g L2 := fun v => runes_nums b L2 v h2 hb
  generalize hn1 : L1.length = n1 at c1 hl1
  generalize hn2 : L2.length = n2 at c2 hl2
  clear h1 h2 ht
  go_enter Try.func21, Try.ntmps21
  go_wp2_with (first
    | (go_at_call 9; refine c1.mono ?_; clear c1; rintro e w1 ⟨g1, c1', rfl, hb1, hN1⟩; have M1 : Hid (Below w.heap.size w w1 ∧ Nums w1 g1 L1) := ⟨hb1, hN1⟩; clear hb1 hN1)
    | (go_at_call 9; refine (c2 _).mono ?_; clear c2; rintro e W ⟨g2, c2', rfl, hb2, hN2⟩; have HB : Hid (Below w.heap.size w W) := below_two M1.out.1 hb2; have N1 : Hid (Nums W g1 L1) := M1.out.2.below hb2; have N2 : Hid (Nums W g2 L2) := hN2; clear hb2 hN2 M1))
  have e1 : Hid (L1.length = n1) := hn1
  have e2 : Hid (L2.length = n2) := hn2
  clear hn1 hn2
  go_loopw [11] (fun i wr => ∃ k : Nat, i = .int .i64 k ∧ k ≤ n1 ∧ k ≤ n2 ∧ Hid (∃ m, wr = W.drewN m) ∧ Hid (∀ j, j < k → L1.getD j 0 = L2.getD j 0)) (fun i _ => n1 - (intOf i).toNat)
  case atStart => exact ⟨0, rfl, Nat.zero_le _, Nat.zero_le _, ⟨0, rfl⟩, fun j hj => by omega⟩
  case round =>
    obtain ⟨k, rfl, hk1, hk2, HW, HE⟩ := hrel
    by_cases q1 : k < n1
    · have i1 : (k : Int) < (n1 : Int) := by omega
      by_cases q2 : k < n2
      · have i2 : (k : Int) < (n2 : Int) := by omega
        have k1 : wr.cell? ⟨g1, k, none⟩ = some (.int .i64 ((L1.getD k 0 : Nat) : Int)) := by obtain ⟨m, hm⟩ := HW.out; rw [hm]; exact N1.out k (by rw [e1.out]; exact q1)
        have k2 : wr.cell? ⟨g2, k, none⟩ = some (.int .i64 ((L2.getD k 0 : Nat) : Int)) := by obtain ⟨m, hm⟩ := HW.out; rw [hm]; exact N2.out k (by rw [e2.out]; exact q2)
        by_cases q3 : L1.getD k 0 = L2.getD k 0
        · have HE2 : Hid (∀ j, j < k + 1 → L1.getD j 0 = L2.getD j 0) := fun j hj => by
            by_cases e : j = k
            · subst e; exact q3
            · exact HE.out j (by omega)
          rw [← q3] at k2
          generalize L1.getD k 0 = x at k1 k2
          clear HE q3
          go_wp2_with fail
          go_quiet (fail)
          go_wp2_with fail
          go_roundw
          case rel => exact ⟨k + 1, rfl, by omega, by omega, drewN_more HW.out, HE2⟩
          case measure => simp [intOf]; omega
        · have HT2 : Hid (decide (L1.getD k 0 < L2.getD k 0) = t) := by
            show _ = _
            rw [← HT.out, less_at L1 L2 k (by rw [e1.out]; exact q1) (by rw [e2.out]; exact q2) HE.out q3]
          generalize L1.getD k 0 = x at k1 q3 HT2
          generalize L2.getD k 0 = y at k2 q3 HT2
          have q4 : ((x : Int) != (y : Int)) = true := by simp; omega
          clear HE q3
          go_wp2_with fail
          go_quiet (fail)
          obtain ⟨W2, hW2⟩ : ∃ W2, W2 = wr.drewN nq := ⟨_, rfl⟩
          have HW2 : Hid (∃ m, W2 = W.drewN m) := by show _; rw [hW2]; exact drewN_more HW.out
          rw [← hW2]
          have k3 : W2.cell? ⟨g1, k, none⟩ = some (.int .i64 (x : Int)) := by rw [hW2]; exact k1
          have k4 : W2.cell? ⟨g2, k, none⟩ = some (.int .i64 (y : Int)) := by rw [hW2]; exact k2
          clear hW2 k1 k2 HW
          go_wp2_with fail
          go_quiet (fail)
          go_wp2_with fail
          go_ret
          refine ⟨by rw [← HT2.out]; rfl, ?_⟩
          obtain ⟨m, hm⟩ := HW2.out
          rw [hm]
          exact below_draw (below_draw HB.out _) _
      · have i2 : ¬ (k : Int) < (n2 : Int) := by omega
        have HT2 : Hid (decide (n1 < n2) = t) := by
          show _ = _
          rw [← HT.out, less_end L1 L2 (fun j _ hj => HE.out j (by have := e2.out; omega)), e1.out, e2.out]
        clear HE
        go_wp2_with fail
        go_ret
        refine ⟨by rw [← HT2.out]; rfl, ?_⟩
        obtain ⟨m, hm⟩ := HW.out
        rw [hm]
        exact below_draw HB.out _
    · have i1 : ¬ (k : Int) < (n1 : Int) := by omega
      have HT2 : Hid (decide (n1 < n2) = t) := by
        show _ = _
        rw [← HT.out, less_end L1 L2 (fun j hj _ => HE.out j (by have := e1.out; omega)), e1.out, e2.out]
      clear HE
      go_wp2_with fail
      go_ret
      refine ⟨by rw [← HT2.out]; rfl, ?_⟩
      obtain ⟨m, hm⟩ := HW.out
      rw [hm]
      exact below_draw HB.out _

set_option maxHeartbeats 2000000 in
set_option maxRecDepth 100000 in
theorem rless_first (a b : ByteArray) (r1 t1 r2 t2 : List Nat) (t : Bool) (w : World) (h1 : Txt (nat a) r1 t1) (h2 : Txt (nat b) r2 t2) (ha : a.size ≤ 1048576) (hb : b.size ≤ 1048576) (ht1 : t1 ≠ []) (ht : lessN (nat a) (nat b) = t) :
    Calls Try.prog 21 #[.string a, .string b] w fun e w' => e = .returned (.bool t) ∧ Below w.heap.size w w' := by
  have HT0 : Hid (lessN (nat a) (nat b) = t) := ht
  have c1 := runes_some a r1 t1 false w h1 ha ⟨fun hh => absurd hh ht1, fun hh => by cases hh⟩
  obtain ⟨bb, hbb⟩ : ∃ bb : Bool, t2 = [] ↔ bb = true := ⟨decide (t2 = []), by simp⟩
  have c2 : ∀ v, Calls Try.prog 9 #[.string b] v fun e w' => ∃ V, e = .returned (.tuple #[V, .bool bb]) ∧ Below v.heap.size v w' := fun v => runes_some b r2 t2 bb v h2 hb hbb
  clear ht1 hbb
  clear h1 h2 ht
  go_enter Try.func21, Try.ntmps21
  go_wp2_with (first
    | (go_at_call 9; refine c1.mono ?_; clear c1; rintro e w1 ⟨X1, rfl, hb1⟩; have M1 : Hid (Below w.heap.size w w1) := hb1; clear hb1)
    | (go_at_call 9; refine (c2 _).mono ?_; clear c2; rintro e w2 ⟨X2, rfl, hb2⟩; have M2 : Hid (Below w.heap.size w w2) := below_two M1.out hb2; clear hb2 M1))
  have M3 : Hid (Below w.heap.size w ((w2.alloc (.cells #[] 3)).alloc (.cells #[] 3))) := (M2.out.alloc M2.out.size _).alloc (by have := M2.out.size; simp; omega) _
  generalize hG1 : w2.heap.size = G1
  generalize hG2 : (w2.alloc (.cells #[] 3)).heap.size = G2
  generalize (w2.alloc (.cells #[] 3)).alloc (.cells #[] 3) = W1 at M3
  clear hG1 hG2 M2
  go_loopw [5, 9] (fun V i wr => ∃ k : Nat, i = .int .i64 k ∧ k ≤ a.size ∧ Hid (OwnE wr W1.heap.size V ((nat a).take k) ∧ Below W1.heap.size W1 wr)) (fun _ i _ => a.size - (intOf i).toNat)
  case atStart => exact ⟨0, rfl, Nat.zero_le _, .inr ⟨rfl, _, rfl⟩, Below.refl _ _⟩
  case round =>
    obtain ⟨k, rfl, hk, HW⟩ := hrel
    by_cases hlt : k < a.size
    · have hx := nat_get a k hlt
      have hxl := getD_lt' (nat_lt a) k
      have hsn := take_snoc (rs := nat a) (k := k) (by rw [nat_length]; exact hlt)
      generalize (nat a).getD k 0 = x at hx hxl hsn
      obtain ⟨V', w3, hrun, hO, hB⟩ := push_intE wr W1 W1.heap.size u5 ((nat a).take k) x HW.out.1 (by rw [List.length_take, nat_length]; omega) HW.out.2.size HW.out.2
      have HN : Hid (OwnE w3 W1.heap.size V' ((nat a).take (k + 1)) ∧ Below W1.heap.size W1 w3) := ⟨by rw [hsn]; exact hO, hB⟩
      clear hO hB hsn HW
      go_wp2_with (at_builtin; refine wpList_append_run rfl _ _ 24 rfl _ _ rfl rfl hrun ?_; clear hrun)
      go_roundw
      case rel => exact ⟨k + 1, rfl, by omega, HN⟩
      case measure => simp [intOf]; omega
    · obtain rfl : k = a.size := by omega
      obtain ⟨V1, HO, HBV1⟩ : ∃ X, Hid (OwnE wr W1.heap.size X (nat a)) ∧ X = u5 := ⟨u5, by have := HW.out.1; rwa [List.take_of_length_le (by rw [nat_length]; exact Nat.le_refl _)] at this, rfl⟩
      have M4 : Hid (Below w.heap.size w wr) := below_two M3.out HW.out.2
      obtain ⟨g1, c1', hV1, hg1, hN1⟩ := HO.out.at
      rw [hV1] at HBV1
      subst HBV1
      have N0 : Hid (Nums wr g1 (nat a)) := hN1
      have hn1 := nat_length a
      rw [hn1]
      clear hV1 hN1 hg1 HO HW M3
      generalize wr = W3 at M4 N0 ⊢
      go_wp2_with fail
      go_loopw [7, 10] (fun V i wr => ∃ k : Nat, i = .int .i64 k ∧ k ≤ b.size ∧ Hid (OwnE wr W3.heap.size V ((nat b).take k) ∧ Below W3.heap.size W3 wr)) (fun _ i _ => b.size - (intOf i).toNat)
      case atStart => exact ⟨0, rfl, Nat.zero_le _, .inr ⟨rfl, _, rfl⟩, Below.refl _ _⟩
      case round =>
        obtain ⟨k, rfl, hk, HW⟩ := hrel
        by_cases hlt : k < b.size
        · have hx := nat_get b k hlt
          have hxl := getD_lt' (nat_lt b) k
          have hsn := take_snoc (rs := nat b) (k := k) (by rw [nat_length]; exact hlt)
          generalize (nat b).getD k 0 = x at hx hxl hsn
          obtain ⟨V', w3, hrun, hO, hB⟩ := push_intE wr W3 W3.heap.size u7 ((nat b).take k) x HW.out.1 (by rw [List.length_take, nat_length]; omega) HW.out.2.size HW.out.2
          have HN : Hid (OwnE w3 W3.heap.size V' ((nat b).take (k + 1)) ∧ Below W3.heap.size W3 w3) := ⟨by rw [hsn]; exact hO, hB⟩
          clear hO hB hsn HW
          go_wp2_with (at_builtin; refine wpList_append_run rfl _ _ 24 rfl _ _ rfl rfl hrun ?_; clear hrun)
          go_roundw
          case rel => exact ⟨k + 1, rfl, by omega, HN⟩
          case measure => simp [intOf]; omega
        · obtain rfl : k = b.size := by omega
          obtain ⟨V2, HO, HBV2⟩ : ∃ X, Hid (OwnE wr W3.heap.size X (nat b)) ∧ X = u7 := ⟨u7, by have := HW.out.1; rwa [List.take_of_length_le (by rw [nat_length]; exact Nat.le_refl _)] at this, rfl⟩
          have HB : Hid (Below w.heap.size w wr) := below_two M4.out HW.out.2
          have N1 : Hid (Nums wr g1 (nat a)) := N0.out.below HW.out.2
          obtain ⟨g2, c2', hV2, hg2, hN2⟩ := HO.out.at
          rw [hV2] at HBV2
          subst HBV2
          have N2 : Hid (Nums wr g2 (nat b)) := hN2
          have hn2 := nat_length b
          rw [hn2]
          have HT : Hid (lessN (nat a) (nat b) = t) := HT0
          clear hV2 hN2 hg2 HO HW M4 N0 HT0
          go_wp2_with fail
          generalize nat a = L1 at hn1 N1 HT
          generalize nat b = L2 at hn2 N2 HT
          generalize a.size = n1 at *
          generalize b.size = n2 at *
          generalize wr = W at HB N1 N2 ⊢
          have e1 : Hid (L1.length = n1) := hn1
          have e2 : Hid (L2.length = n2) := hn2
          clear hn1 hn2
          go_loopw [11] (fun i wr => ∃ k : Nat, i = .int .i64 k ∧ k ≤ n1 ∧ k ≤ n2 ∧ Hid (∃ m, wr = W.drewN m) ∧ Hid (∀ j, j < k → L1.getD j 0 = L2.getD j 0)) (fun i _ => n1 - (intOf i).toNat)
          case atStart => exact ⟨0, rfl, Nat.zero_le _, Nat.zero_le _, ⟨0, rfl⟩, fun j hj => by omega⟩
          case round =>
            obtain ⟨k, rfl, hk1, hk2, HW, HE⟩ := hrel
            by_cases q1 : k < n1
            · have i1 : (k : Int) < (n1 : Int) := by omega
              by_cases q2 : k < n2
              · have i2 : (k : Int) < (n2 : Int) := by omega
                have k1 : wr.cell? ⟨g1, k, none⟩ = some (.int .i64 ((L1.getD k 0 : Nat) : Int)) := by obtain ⟨m, hm⟩ := HW.out; rw [hm]; exact N1.out k (by rw [e1.out]; exact q1)
                have k2 : wr.cell? ⟨g2, k, none⟩ = some (.int .i64 ((L2.getD k 0 : Nat) : Int)) := by obtain ⟨m, hm⟩ := HW.out; rw [hm]; exact N2.out k (by rw [e2.out]; exact q2)
                by_cases q3 : L1.getD k 0 = L2.getD k 0
                · have HE2 : Hid (∀ j, j < k + 1 → L1.getD j 0 = L2.getD j 0) := fun j hj => by
                    by_cases e : j = k
                    · subst e; exact q3
                    · exact HE.out j (by omega)
                  rw [← q3] at k2
                  generalize L1.getD k 0 = x at k1 k2
                  clear HE q3
                  go_wp2_with fail
                  go_quiet (fail)
                  go_wp2_with fail
                  go_roundw
                  case rel => exact ⟨k + 1, rfl, by omega, by omega, drewN_more HW.out, HE2⟩
                  case measure => simp [intOf]; omega
                · have HT2 : Hid (decide (L1.getD k 0 < L2.getD k 0) = t) := by
                    show _ = _
                    rw [← HT.out, less_at L1 L2 k (by rw [e1.out]; exact q1) (by rw [e2.out]; exact q2) HE.out q3]
                  generalize L1.getD k 0 = x at k1 q3 HT2
                  generalize L2.getD k 0 = y at k2 q3 HT2
                  have q4 : ((x : Int) != (y : Int)) = true := by simp; omega
                  clear HE q3
                  go_wp2_with fail
                  go_quiet (fail)
                  obtain ⟨W2, hW2⟩ : ∃ W2, W2 = wr.drewN nq := ⟨_, rfl⟩
                  have HW2 : Hid (∃ m, W2 = W.drewN m) := by show _; rw [hW2]; exact drewN_more HW.out
                  rw [← hW2]
                  have k3 : W2.cell? ⟨g1, k, none⟩ = some (.int .i64 (x : Int)) := by rw [hW2]; exact k1
                  have k4 : W2.cell? ⟨g2, k, none⟩ = some (.int .i64 (y : Int)) := by rw [hW2]; exact k2
                  clear hW2 k1 k2 HW
                  go_wp2_with fail
                  go_quiet (fail)
                  go_wp2_with fail
                  go_ret
                  refine ⟨by rw [← HT2.out]; rfl, ?_⟩
                  obtain ⟨m, hm⟩ := HW2.out
                  rw [hm]
                  exact below_draw (below_draw HB.out _) _
              · have i2 : ¬ (k : Int) < (n2 : Int) := by omega
                have HT2 : Hid (decide (n1 < n2) = t) := by
                  show _ = _
                  rw [← HT.out, less_end L1 L2 (fun j _ hj => HE.out j (by have := e2.out; omega)), e1.out, e2.out]
                clear HE
                go_wp2_with fail
                go_ret
                refine ⟨by rw [← HT2.out]; rfl, ?_⟩
                obtain ⟨m, hm⟩ := HW.out
                rw [hm]
                exact below_draw HB.out _
            · have i1 : ¬ (k : Int) < (n1 : Int) := by omega
              have HT2 : Hid (decide (n1 < n2) = t) := by
                show _ = _
                rw [← HT.out, less_end L1 L2 (fun j hj _ => HE.out j (by have := e1.out; omega)), e1.out, e2.out]
              clear HE
              go_wp2_with fail
              go_ret
              refine ⟨by rw [← HT2.out]; rfl, ?_⟩
              obtain ⟨m, hm⟩ := HW.out
              rw [hm]
              exact below_draw HB.out _

set_option maxHeartbeats 2000000 in
set_option maxRecDepth 100000 in
theorem rless_second (a b : ByteArray) (r1 t1 r2 t2 : List Nat) (t : Bool) (w : World) (h1 : Txt (nat a) r1 t1) (h2 : Txt (nat b) r2 t2) (ha : a.size ≤ 1048576) (hb : b.size ≤ 1048576) (ht1 : t1 = []) (ht2 : t2 ≠ []) (ht : lessN (nat a) (nat b) = t) :
    Calls Try.prog 21 #[.string a, .string b] w fun e w' => e = .returned (.bool t) ∧ Below w.heap.size w w' := by
  have HT0 : Hid (lessN (nat a) (nat b) = t) := ht
  have c1 := runes_some a r1 t1 true w h1 ha ⟨fun _ => rfl, fun _ => ht1⟩
  have c2 : ∀ v, Calls Try.prog 9 #[.string b] v fun e w' => ∃ V, e = .returned (.tuple #[V, .bool false]) ∧ Below v.heap.size v w' := fun v => runes_some b r2 t2 false v h2 hb ⟨fun hh => absurd hh ht2, fun hh => by cases hh⟩
  clear ht1 ht2
  clear h1 h2 ht
  go_enter Try.func21, Try.ntmps21
  go_wp2_with (first
    | (go_at_call 9; refine c1.mono ?_; clear c1; rintro e w1 ⟨X1, rfl, hb1⟩; have M1 : Hid (Below w.heap.size w w1) := hb1; clear hb1)
    | (go_at_call 9; refine (c2 _).mono ?_; clear c2; rintro e w2 ⟨X2, rfl, hb2⟩; have M2 : Hid (Below w.heap.size w w2) := below_two M1.out hb2; clear hb2 M1))
  have M3 : Hid (Below w.heap.size w ((w2.alloc (.cells #[] 3)).alloc (.cells #[] 3))) := (M2.out.alloc M2.out.size _).alloc (by have := M2.out.size; simp; omega) _
  generalize hG1 : w2.heap.size = G1
  generalize hG2 : (w2.alloc (.cells #[] 3)).heap.size = G2
  generalize (w2.alloc (.cells #[] 3)).alloc (.cells #[] 3) = W1 at M3
  clear hG1 hG2 M2
  go_loopw [5, 9] (fun V i wr => ∃ k : Nat, i = .int .i64 k ∧ k ≤ a.size ∧ Hid (OwnE wr W1.heap.size V ((nat a).take k) ∧ Below W1.heap.size W1 wr)) (fun _ i _ => a.size - (intOf i).toNat)
  case atStart => exact ⟨0, rfl, Nat.zero_le _, .inr ⟨rfl, _, rfl⟩, Below.refl _ _⟩
  case round =>
    obtain ⟨k, rfl, hk, HW⟩ := hrel
    by_cases hlt : k < a.size
    · have hx := nat_get a k hlt
      have hxl := getD_lt' (nat_lt a) k
      have hsn := take_snoc (rs := nat a) (k := k) (by rw [nat_length]; exact hlt)
      generalize (nat a).getD k 0 = x at hx hxl hsn
      obtain ⟨V', w3, hrun, hO, hB⟩ := push_intE wr W1 W1.heap.size u5 ((nat a).take k) x HW.out.1 (by rw [List.length_take, nat_length]; omega) HW.out.2.size HW.out.2
      have HN : Hid (OwnE w3 W1.heap.size V' ((nat a).take (k + 1)) ∧ Below W1.heap.size W1 w3) := ⟨by rw [hsn]; exact hO, hB⟩
      clear hO hB hsn HW
      go_wp2_with (at_builtin; refine wpList_append_run rfl _ _ 24 rfl _ _ rfl rfl hrun ?_; clear hrun)
      go_roundw
      case rel => exact ⟨k + 1, rfl, by omega, HN⟩
      case measure => simp [intOf]; omega
    · obtain rfl : k = a.size := by omega
      obtain ⟨V1, HO, HBV1⟩ : ∃ X, Hid (OwnE wr W1.heap.size X (nat a)) ∧ X = u5 := ⟨u5, by have := HW.out.1; rwa [List.take_of_length_le (by rw [nat_length]; exact Nat.le_refl _)] at this, rfl⟩
      have M4 : Hid (Below w.heap.size w wr) := below_two M3.out HW.out.2
      obtain ⟨g1, c1', hV1, hg1, hN1⟩ := HO.out.at
      rw [hV1] at HBV1
      subst HBV1
      have N0 : Hid (Nums wr g1 (nat a)) := hN1
      have hn1 := nat_length a
      rw [hn1]
      clear hV1 hN1 hg1 HO HW M3
      generalize wr = W3 at M4 N0 ⊢
      go_wp2_with fail
      go_loopw [7, 10] (fun V i wr => ∃ k : Nat, i = .int .i64 k ∧ k ≤ b.size ∧ Hid (OwnE wr W3.heap.size V ((nat b).take k) ∧ Below W3.heap.size W3 wr)) (fun _ i _ => b.size - (intOf i).toNat)
      case atStart => exact ⟨0, rfl, Nat.zero_le _, .inr ⟨rfl, _, rfl⟩, Below.refl _ _⟩
      case round =>
        obtain ⟨k, rfl, hk, HW⟩ := hrel
        by_cases hlt : k < b.size
        · have hx := nat_get b k hlt
          have hxl := getD_lt' (nat_lt b) k
          have hsn := take_snoc (rs := nat b) (k := k) (by rw [nat_length]; exact hlt)
          generalize (nat b).getD k 0 = x at hx hxl hsn
          obtain ⟨V', w3, hrun, hO, hB⟩ := push_intE wr W3 W3.heap.size u7 ((nat b).take k) x HW.out.1 (by rw [List.length_take, nat_length]; omega) HW.out.2.size HW.out.2
          have HN : Hid (OwnE w3 W3.heap.size V' ((nat b).take (k + 1)) ∧ Below W3.heap.size W3 w3) := ⟨by rw [hsn]; exact hO, hB⟩
          clear hO hB hsn HW
          go_wp2_with (at_builtin; refine wpList_append_run rfl _ _ 24 rfl _ _ rfl rfl hrun ?_; clear hrun)
          go_roundw
          case rel => exact ⟨k + 1, rfl, by omega, HN⟩
          case measure => simp [intOf]; omega
        · obtain rfl : k = b.size := by omega
          obtain ⟨V2, HO, HBV2⟩ : ∃ X, Hid (OwnE wr W3.heap.size X (nat b)) ∧ X = u7 := ⟨u7, by have := HW.out.1; rwa [List.take_of_length_le (by rw [nat_length]; exact Nat.le_refl _)] at this, rfl⟩
          have HB : Hid (Below w.heap.size w wr) := below_two M4.out HW.out.2
          have N1 : Hid (Nums wr g1 (nat a)) := N0.out.below HW.out.2
          obtain ⟨g2, c2', hV2, hg2, hN2⟩ := HO.out.at
          rw [hV2] at HBV2
          subst HBV2
          have N2 : Hid (Nums wr g2 (nat b)) := hN2
          have hn2 := nat_length b
          rw [hn2]
          have HT : Hid (lessN (nat a) (nat b) = t) := HT0
          clear hV2 hN2 hg2 HO HW M4 N0 HT0
          go_wp2_with fail
          generalize nat a = L1 at hn1 N1 HT
          generalize nat b = L2 at hn2 N2 HT
          generalize a.size = n1 at *
          generalize b.size = n2 at *
          generalize wr = W at HB N1 N2 ⊢
          have e1 : Hid (L1.length = n1) := hn1
          have e2 : Hid (L2.length = n2) := hn2
          clear hn1 hn2
          go_loopw [11] (fun i wr => ∃ k : Nat, i = .int .i64 k ∧ k ≤ n1 ∧ k ≤ n2 ∧ Hid (∃ m, wr = W.drewN m) ∧ Hid (∀ j, j < k → L1.getD j 0 = L2.getD j 0)) (fun i _ => n1 - (intOf i).toNat)
          case atStart => exact ⟨0, rfl, Nat.zero_le _, Nat.zero_le _, ⟨0, rfl⟩, fun j hj => by omega⟩
          case round =>
            obtain ⟨k, rfl, hk1, hk2, HW, HE⟩ := hrel
            by_cases q1 : k < n1
            · have i1 : (k : Int) < (n1 : Int) := by omega
              by_cases q2 : k < n2
              · have i2 : (k : Int) < (n2 : Int) := by omega
                have k1 : wr.cell? ⟨g1, k, none⟩ = some (.int .i64 ((L1.getD k 0 : Nat) : Int)) := by obtain ⟨m, hm⟩ := HW.out; rw [hm]; exact N1.out k (by rw [e1.out]; exact q1)
                have k2 : wr.cell? ⟨g2, k, none⟩ = some (.int .i64 ((L2.getD k 0 : Nat) : Int)) := by obtain ⟨m, hm⟩ := HW.out; rw [hm]; exact N2.out k (by rw [e2.out]; exact q2)
                by_cases q3 : L1.getD k 0 = L2.getD k 0
                · have HE2 : Hid (∀ j, j < k + 1 → L1.getD j 0 = L2.getD j 0) := fun j hj => by
                    by_cases e : j = k
                    · subst e; exact q3
                    · exact HE.out j (by omega)
                  rw [← q3] at k2
                  generalize L1.getD k 0 = x at k1 k2
                  clear HE q3
                  go_wp2_with fail
                  go_quiet (fail)
                  go_wp2_with fail
                  go_roundw
                  case rel => exact ⟨k + 1, rfl, by omega, by omega, drewN_more HW.out, HE2⟩
                  case measure => simp [intOf]; omega
                · have HT2 : Hid (decide (L1.getD k 0 < L2.getD k 0) = t) := by
                    show _ = _
                    rw [← HT.out, less_at L1 L2 k (by rw [e1.out]; exact q1) (by rw [e2.out]; exact q2) HE.out q3]
                  generalize L1.getD k 0 = x at k1 q3 HT2
                  generalize L2.getD k 0 = y at k2 q3 HT2
                  have q4 : ((x : Int) != (y : Int)) = true := by simp; omega
                  clear HE q3
                  go_wp2_with fail
                  go_quiet (fail)
                  obtain ⟨W2, hW2⟩ : ∃ W2, W2 = wr.drewN nq := ⟨_, rfl⟩
                  have HW2 : Hid (∃ m, W2 = W.drewN m) := by show _; rw [hW2]; exact drewN_more HW.out
                  rw [← hW2]
                  have k3 : W2.cell? ⟨g1, k, none⟩ = some (.int .i64 (x : Int)) := by rw [hW2]; exact k1
                  have k4 : W2.cell? ⟨g2, k, none⟩ = some (.int .i64 (y : Int)) := by rw [hW2]; exact k2
                  clear hW2 k1 k2 HW
                  go_wp2_with fail
                  go_quiet (fail)
                  go_wp2_with fail
                  go_ret
                  refine ⟨by rw [← HT2.out]; rfl, ?_⟩
                  obtain ⟨m, hm⟩ := HW2.out
                  rw [hm]
                  exact below_draw (below_draw HB.out _) _
              · have i2 : ¬ (k : Int) < (n2 : Int) := by omega
                have HT2 : Hid (decide (n1 < n2) = t) := by
                  show _ = _
                  rw [← HT.out, less_end L1 L2 (fun j _ hj => HE.out j (by have := e2.out; omega)), e1.out, e2.out]
                clear HE
                go_wp2_with fail
                go_ret
                refine ⟨by rw [← HT2.out]; rfl, ?_⟩
                obtain ⟨m, hm⟩ := HW.out
                rw [hm]
                exact below_draw HB.out _
            · have i1 : ¬ (k : Int) < (n1 : Int) := by omega
              have HT2 : Hid (decide (n1 < n2) = t) := by
                show _ = _
                rw [← HT.out, less_end L1 L2 (fun j hj _ => HE.out j (by have := e1.out; omega)), e1.out, e2.out]
              clear HE
              go_wp2_with fail
              go_ret
              refine ⟨by rw [← HT2.out]; rfl, ?_⟩
              obtain ⟨m, hm⟩ := HW.out
              rw [hm]
              exact below_draw HB.out _

theorem rless_any (a b : ByteArray) (t : Bool) (w : World) (ha : a.size ≤ 1048576) (hb : b.size ≤ 1048576) (ht : lessN (nat a) (nat b) = t) :
    Calls Try.prog 21 #[.string a, .string b] w fun e w' => e = .returned (.bool t) ∧ Below w.heap.size w w' := by
  obtain ⟨r1, t1, h1⟩ := txt_any (nat a) (nat_lt a)
  obtain ⟨r2, t2, h2⟩ := txt_any (nat b) (nat_lt b)
  by_cases e1 : t1 = []
  · by_cases e2 : t2 = []
    · subst e1; subst e2
      exact rless_runes a b r1 r2 t w h1 h2 ha hb ht
    · exact rless_second a b r1 t1 r2 t2 t w h1 h2 ha hb e1 e2 ht
  · exact rless_first a b r1 t1 r2 t2 t w h1 h2 ha hb e1 ht

end Go.Proofs.Ytjhbfcfipfmnbaa.Na

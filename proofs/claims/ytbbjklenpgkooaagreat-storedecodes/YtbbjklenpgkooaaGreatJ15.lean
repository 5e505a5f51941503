/-
  4 texts of this proof, one behind the other: StRefEnc, WiRef, WiRefUv, WiRefTake.
-/
import Derived.Test.YtbbjklenpgkooaaGreatJ14
import Derived.Test.YtbbjklenpgkooaaGreatJ10
import Derived.Deep.QuietTactic
import Derived.BigQuiet
import Derived.Deep.RegionHeld3
/-
  The document's Encode of package store.
  Conditions: the acts lie in memory.
-/
namespace Go.Proofs.YtbbjklenpgkooaaGreat
open Go.RowKit By Dk Wi St
set_option linter.unusedVariables false
set_option linter.unusedSimpArgs false
set_option maxRecDepth 100000

def Out (w v : World) (x : Option Addr) (m c : Nat) (l : List Nat) : Prop := OwnL v w.heap.size (.slice x m c) l ∧ Below w.heap.size w v

theorem Out.below {w v v' : World} {x : Option Addr} {m c : Nat} {l : List Nat} (h : Out w v x m c l) (hb : Below v.heap.size v v') : Out w v' x m c l := ⟨h.1.below hb, h.2.trans (hb.mono h.2.size)⟩

theorem Out.push {w v v' : World} {x : Option Addr} {m c : Nat} {l : List Nat} (h : Out w v x m c l) (hl : ∀ u ∈ l, u < 256) (hb : Below v.heap.size v v') {y : Option Addr} {n d : Nat} {k : List Nat} (hk : Sl v' y n d k) (hs : l.length + n ≤ 140737488355328) :
    ∃ x3 m3 c3 w3, (Builtin.append_ #[22, 22] 22 #[.slice x m c, .slice y n d]).run Tryz.prog v' = .ok (.slice x3 m3 c3) w3 ∧ Out w w3 x3 m3 c3 (l ++ k) := by
  have h' := h.below hb
  obtain ⟨R', w3, p1, p2, p3⟩ := push_list v' w w.heap.size (.slice x m c) l h'.1 h'.2.size h'.2 y n d k hk hs
  obtain ⟨x3, c3, rfl, _⟩ := p2.sl (fun u hu => by
    rcases List.mem_append.1 hu with hu | hu
    · exact hl u hu
    · exact hk.lt u hu)
  exact ⟨x3, _, c3, w3, p1, p2, p3⟩

theorem Out.one {w v : World} {x : Option Addr} {m c : Nat} {l : List Nat} (h : Out w v x m c l) (hl : ∀ u ∈ l, u < 256) (b : Nat) (hb : b < 256) (hs : l.length ≤ 2000000) :
    ∃ x3 m3 c3 w3, (Builtin.append_ #[22, 22] 22 #[.slice x m c, .slice (some ⟨v.heap.size, 0, none⟩) 1 1]).run Tryz.prog (v.alloc (.cells #[.int .u8 (b : Int)] 5)) = .ok (.slice x3 m3 c3) w3 ∧ Out w w3 x3 m3 c3 (l ++ [b]) := by
  refine h.push hl ((Below.refl _ _).alloc (Nat.le_refl _) _) ⟨rfl, Nat.le_refl _, (fun e => by cases e), .inr ⟨v.heap.size, 0, rfl, by simp, fun i hi => ?_⟩, fun u hu => by simp at hu; omega⟩ (by omega)
  obtain rfl : i = 0 := by omega
  simp [gl]

theorem Out.key {w v : World} {x : Option Addr} {m c : Nat} {l : List Nat} (h : Out w v x m c l) (hl : ∀ u ∈ l, u < 256) (k : ByteArray) (hk : k.size ≤ 64) (hs : l.length ≤ 2000000) :
    ∃ cc W1, (convert 9 22 (.string k)).run Tryz.prog v = .ok (.slice (some ⟨v.heap.size, 0, none⟩) k.size cc) W1 ∧
      Calls Tryz.prog 40 #[.slice (some ⟨v.heap.size, 0, none⟩) k.size cc] W1 fun e w2 => ∃ y m2 c2, e = .returned (.slice y m2 c2) ∧ ∃ x3 m3 c3 w3, (Builtin.append_ #[22, 22] 22 #[.slice x m c, .slice y m2 c2]).run Tryz.prog w2 = .ok (.slice x3 m3 c3) w3 ∧ Hid (Out w w3 x3 m3 c3 (l ++ (uv k.size ++ nat k))) := by
  obtain ⟨cc, W1, h1, H1⟩ := conv_text k v
  refine ⟨cc, W1, h1, (rbytes_any _ k.size cc (nat k) W1 H1.out.2 (by omega)).mono fun e w2 ⟨R, q1, q2, q3⟩ => ?_⟩
  have u10 := uv_ten (n := k.size) (by omega)
  obtain ⟨y, c2, rfl, h4, _⟩ := q2.sl (fun u hu => by
    rcases List.mem_append.1 hu with hu | hu
    · exact uv_lt _ u hu
    · exact nat_lt k u hu)
  obtain ⟨x3, m3, c3, w3, p1, p2⟩ := h.push hl (H1.out.1.trans (q3.mono H1.out.1.size)) h4 (by rw [List.length_append, nat_length]; omega)
  exact ⟨y, _, c2, q1, x3, m3, c3, w3, p1, p2⟩

theorem Out.data {w v : World} {x : Option Addr} {m c : Nat} {l : List Nat} (h : Out w v x m c l) (hl : ∀ u ∈ l, u < 256) (y : Option Addr) (n d : Nat) (k : List Nat) (hk : Sl v y n d k) (hn : n ≤ 4096) (hs : l.length ≤ 2000000) :
    Calls Tryz.prog 40 #[.slice y n d] v fun e w2 => ∃ z m2 c2, e = .returned (.slice z m2 c2) ∧ Hid (Below v.heap.size v w2) ∧ ∃ x3 m3 c3 w3, (Builtin.append_ #[22, 22] 22 #[.slice x m c, .slice z m2 c2]).run Tryz.prog w2 = .ok (.slice x3 m3 c3) w3 ∧ Hid (Out w w3 x3 m3 c3 (l ++ (uv n ++ k))) := by
  refine (rbytes_any y n d k v hk (by omega)).mono fun e w2 ⟨R, q1, q2, q3⟩ => ?_
  have u10 := uv_ten (n := n) (by omega)
  obtain ⟨z, c2, rfl, h4, _⟩ := q2.sl (fun u hu => by
    rcases List.mem_append.1 hu with hu | hu
    · exact uv_lt _ u hu
    · exact hk.lt u hu)
  obtain ⟨x3, m3, c3, w3, p1, p2⟩ := h.push hl q3 h4 (by rw [List.length_append, hk.len]; omega)
  exact ⟨z, _, c2, q1, q3, x3, m3, c3, w3, p1, p2⟩

theorem cat_lt {l k : List Nat} (hl : ∀ u ∈ l, u < 256) (hk : ∀ u ∈ k, u < 256) : ∀ u ∈ l ++ k, u < 256 := fun u hu => by
  rcases List.mem_append.1 hu with hu | hu
  · exact hl u hu
  · exact hk u hu

theorem encL_lt {w : World} {a : Option Addr} {len : Nat} {V : Nat → AV} (h : ActsAt w a len V) {k : Nat} (hk : k ≤ len) : ∀ v ∈ uv len ++ encL (pas V k), v < 256 := fun v hv => by
  rcases List.mem_append.1 hv with hv | hv
  · exact uv_lt _ v hv
  · unfold encL at hv
    obtain ⟨p, hp, hv⟩ := List.mem_flatMap.1 hv
    obtain ⟨i, hi, rfl⟩ := pas_mem hp
    exact encA_lt (nat_lt _) (h.act i (by omega)).sl.lt v hv

set_option maxHeartbeats 1000000 in
theorem rencode_yes (a : Option Addr) (len cap : Nat) (V : Nat → AV) (w : World) (h : ActsAt w a len V) (h256 : len ≤ 256) (hokl : okL (pas V len)) (c : Nat) (o : List Nat) (hS : EncSays (pas V len) c o) :
    Calls Tryz.prog 14 #[.slice a len cap] w fun e w' => ∃ x m cx, e = .returned (.tuple #[.slice x m cx, .int .i64 (c : Int)]) ∧ EncTold w w' x m cx o := by
  have q0 : ¬ (256 : Int) < (len : Int) := by omega
  have hlt := enc_lt (pas_lt h)
  have u10 := uv_ten (n := len) (by omega)
  have hU : ∀ w1, Below w.heap.size w w1 → Calls Tryz.prog 39 #[.int .u64 (len : Int)] w1 fun e w' => ∃ x m cx, e = .returned (.slice x m cx) ∧ Hid (Out w w' x m cx (uv len ++ encL (pas V 0))) := fun w1 hb1 =>
    (ruvarint_any len w1 (by omega)).mono fun e w' ⟨R, h1, h2, h3⟩ => by
      obtain ⟨x, cx, rfl, _⟩ := h2.sl (uv_lt _)
      exact ⟨x, _, cx, h1, by simpa [pas, encL] using h2.mono hb1.size, hb1.trans (h3.mono hb1.size)⟩
  have HL := hid h
  have HO := hid hokl
  have HS := hid hS
  have HLT := hid hlt
  have HU := hid hU
  have hconv : ((len : Nat) : Int) % 18446744073709551616 = (len : Int) := by omega
  clear h hokl hS hlt hU
  go_enter Tryz.func14, Tryz.ntmps14
  go_wp2_with fail
  go_loopw [4] (fun i wr => ∃ k : Nat, k ≤ len ∧ i = .int .i64 k ∧ Hid (Below w.heap.size w wr)) (fun i _ => len - (intOf i).toNat)
  case atStart => exact ⟨0, by omega, rfl, Below.refl _ _⟩
  case round =>
    obtain ⟨k, hk, rfl, HR⟩ := hrel
    by_cases hkl : k < len
    · have hlt' : (k : Int) < (len : Int) := by omega
      rcases HL.out.row with h0 | ⟨b, o, rfl, hbl, hc⟩
      · omega
      obtain ⟨f0, f1, f2⟩ := hc k hkl
      have k0 := (HR.out.cell (p := ⟨b, o + k * 3, none⟩) hbl).trans f0
      have k1 := (HR.out.cell (p := ⟨b, o + k * 3 + 1, none⟩) hbl).trans f1
      have k2 := (HR.out.cell (p := ⟨b, o + k * 3 + 2, none⟩) hbl).trans f2
      have ho := HL.out.act k hkl
      have hd := okA_pa ho
      have HB1 : Hid (∀ w', Below wr.heap.size wr w' → Below w.heap.size w w') := fun w' hw => HR.out.trans (hw.mono HR.out.size)
      have hA := may_any (V k).key (V k).set (V k).x (V k).n (V k).c wr true (by rw [← hd]; simp [okL_lt HO.out hkl]) ho.ks ho.sm
      clear hc f0 f1 f2 ho hd HR
      generalize (V k).key = Kk at *
      generalize (V k).set = Ks at *
      generalize (V k).x = Kx at *
      generalize (V k).n = Kn at *
      generalize (V k).c = Kc at *
      go_wp2_with (go_at_call 38; refine hA.mono ?_; rintro e w1 ⟨rfl, hb1⟩; clear hA; (have HB2 := hid (HB1.out w1 hb1)); clear hb1 HB1)
      go_roundw
      case rel => exact ⟨k + 1, by omega, by go_num, HB2.out⟩
      case measure => simp [intOf]; omega
    · obtain rfl : k = len := by omega
      obtain ⟨w5, hw5⟩ : ∃ w5, w5 = wr := ⟨_, rfl⟩
      subst hw5
      have hU1 := HU.out w5 HR.out
      clear HU
      go_wp2_with (go_at_call 39; refine hU1.mono ?_; rintro e w2 ⟨x0, m0, c0, rfl, HR0⟩; clear hU1)
      go_loopw [5, 6] (fun out i wr => ∃ (j : Nat) (x : Option Addr) (m cx : Nat), j ≤ k ∧ out = .slice x m cx ∧ i = .int .i64 j ∧ Hid (Out w wr x m cx (uv k ++ encL (pas V j)))) (fun _ i _ => k - (intOf i).toNat)
      case atStart => exact ⟨0, x0, m0, c0, by omega, rfl, rfl, HR0.out⟩
      case round =>
        clear HR0 HR
        obtain ⟨j, x, m, cx, hj, rfl, rfl, HQ⟩ := hrel
        by_cases hjl : j < k
        · have hjl' : (j : Int) < (k : Int) := by omega
          rcases HL.out.row with h0 | ⟨b, o', rfl, hbl, hc⟩
          · omega
          obtain ⟨f0, f1, f2⟩ := hc j hjl
          have hbw := HQ.out.2
          have k0 := (hbw.cell (p := ⟨b, o' + j * 3, none⟩) hbl).trans f0
          have ho := HL.out.act j hjl
          have hoka := (okA_pa ho).1 (okL_lt HO.out hjl)
          have hn4 : (V j).n ≤ 4096 := by have := hoka.2; split at this <;> omega
          have hl0 := encL_lt HL.out hj
          have hle := encL_le V hj HO.out
          have hls : (uv k ++ encL (pas V j)).length ≤ 1100000 := by rw [List.length_append]; omega
          obtain ⟨cc, W1, hcv, hKB⟩ := HQ.out.key hl0 (V j).key hoka.1.2 (by omega)
          have hl1 := cat_lt hl0 (cat_lt (uv_lt (V j).key.size) (nat_lt (V j).key))
          have u1 := uv_ten (n := (V j).key.size) (by have := hoka.1.2; omega)
          have hls1 : (uv k ++ encL (pas V j) ++ (uv (V j).key.size ++ nat (V j).key)).length ≤ 1200000 := by
            have := hoka.1.2
            have h9 := hls
            simp only [List.length_append] at h9
            simp only [List.length_append, nat_length]
            omega
          have hfin : ∀ (s : List Nat), encA (pa (V j)) = uv (V j).key.size ++ nat (V j).key ++ s → uv k ++ encL (pas V j) ++ (uv (V j).key.size ++ nat (V j).key) ++ s = uv k ++ encL (pas V (j + 1)) := fun s hs => by
            rw [pas_succ, encL_snoc, hs]
            simp
          by_cases hset : (V j).set = true
          · -- set
            have HD : Hid (∀ w3 x3 m3 c3, Out w w3 x3 m3 c3 (uv k ++ encL (pas V j) ++ (uv (V j).key.size ++ nat (V j).key)) → w3.cell? ⟨b, o' + j * 3 + 1, none⟩ = some (.bool (V j).set) ∧ w3.cell? ⟨b, o' + j * 3 + 2, none⟩ = some (.slice (V j).x (V j).n (V j).c) ∧
                ∃ x4 m4 c4 w4, (Builtin.append_ #[22, 22] 22 #[.slice x3 m3 c3, .slice (some ⟨w3.heap.size, 0, none⟩) 1 1]).run Tryz.prog (w3.drew.alloc (.cells #[.int .u8 1] 5)) = .ok (.slice x4 m4 c4) w4 ∧ w4.cell? ⟨b, o' + j * 3 + 2, none⟩ = some (.slice (V j).x (V j).n (V j).c) ∧
                  Calls Tryz.prog 40 #[.slice (V j).x (V j).n (V j).c] w4 fun e w5 => ∃ y5 m5 c5, e = .returned (.slice y5 m5 c5) ∧ w5.cell? ⟨b, o' + j * 3 + 2, none⟩ = some (.slice (V j).x (V j).n (V j).c) ∧
                    ∃ x6 m6 c6 w6, (Builtin.append_ #[22, 22] 22 #[.slice x4 m4 c4, .slice y5 m5 c5]).run Tryz.prog w5 = .ok (.slice x6 m6 c6) w6 ∧ w6.cell? ⟨b, o' + j * 3 + 2, none⟩ = some (.slice (V j).x (V j).n (V j).c) ∧ Hid (Out w w6 x6 m6 c6 (uv k ++ encL (pas V (j + 1))))) := fun w3 x3 m3 c3 h3 => by
              have g1 := (h3.2.cell (p := ⟨b, o' + j * 3 + 1, none⟩) hbl).trans f1
              have g2 : ∀ {v y m c l}, Out w v y m c l → v.cell? ⟨b, o' + j * 3 + 2, none⟩ = some (.slice (V j).x (V j).n (V j).c) := fun hv => (hv.2.cell (p := ⟨b, o' + j * 3 + 2, none⟩) hbl).trans f2
              have hd3 : Out w w3.drew x3 m3 c3 _ := h3.below ((Below.refl _ _).drew)
              obtain ⟨x4, m4, c4, w4, p1, p2⟩ := hd3.one hl1 1 (by omega) (by omega)
              refine ⟨g1, g2 h3, x4, m4, c4, w4, p1, g2 p2, ?_⟩
              have hl4 := cat_lt hl1 (show ∀ u ∈ [1], u < 256 from fun u hu => by simp at hu; omega)
              refine (p2.data hl4 (V j).x (V j).n (V j).c (V j).d (ho.sl.below p2.2) hn4 (by rw [List.length_append]; simp only [List.length_cons, List.length_nil]; omega)).mono fun e w5 ⟨z, m2, c2, r1, r2, x6, m6, c6, w6, r3, r4⟩ => ⟨z, m2, c2, r1, g2 (p2.below r2.out), x6, m6, c6, w6, r3, g2 r4.out, ?_⟩
              have := r4.out
              rw [List.append_assoc _ [1], hfin ([1] ++ (uv (V j).n ++ (V j).d)) (by unfold encA pa; dsimp only; rw [if_pos hset, nat_length, ho.sl.len]; rfl)] at this
              exact this
            clear hc f0 f1 f2 hbw ho hoka hn4 hl0 hle hls hl1 u1 hls1 hfin HQ
            rw [hset] at HD
            generalize (V j).key = Kk at *
            generalize (V j).x = Kx at *
            generalize (V j).n = Kn at *
            generalize (V j).c = Kc at *
            generalize (V j).d = Kd at *
            go_wp2_with (first
              | (go_at_call 40; refine hKB.mono ?_; rintro e w3 ⟨y3, my3, cy3, rfl, x3, m3, c3, w4, hap, HN⟩; clear hKB
                 obtain ⟨s1, s2, x4, m4, c4, w5, hap2, s3, hB2⟩ := HD.out w4 x3 m3 c3 HN.out
                 clear HD HN)
              | (at_builtin; refine wpList_append_run rfl _ _ 22 rfl _ _ rfl rfl hap ?_; clear hap))
            refine wp_region_held_drew (S := fun v => v.cell? ⟨b, o' + j * 3 + 2, none⟩ = some (.slice Kx Kn Kc)) (by kernel_rfl) s2 (fun hHeld => ?_)
            refine wpAnyH_take (i := 0) (v := ?_) rfl (by kernel_rfl) (by kernel_rfl) (by kernel_rfl) (fun _ _ _ h => h) (Or.inl ⟨by rfl, ?_⟩) (by assumption) ?_
            case refine_2 => (intro w hSw; (try dsimp only at hSw); go_simp; (try with_reducible rfl))
            (try simp only [Act.put, List.getElem_toArray, List.getElem_cons_succ, List.getElem_cons_zero, List.setIfInBounds_toArray, List.set_cons_zero, List.set_cons_succ])
            refine wpAnyH_take (i := 3) (v := ?_) rfl (by kernel_rfl) (by kernel_rfl) (by kernel_rfl) (fun _ _ _ h => h) (Or.inl ⟨by rfl, ?_⟩) (by assumption) ?_
            case refine_2 => (intro w hSw; (try dsimp only at hSw); go_simp; (try with_reducible rfl))
            (try simp only [Act.put, List.getElem_toArray, List.getElem_cons_succ, List.getElem_cons_zero, List.setIfInBounds_toArray, List.set_cons_zero, List.set_cons_succ])
            refine wpAnyH_take (i := 4) (v := ?_) rfl (by kernel_rfl) (by kernel_rfl) (by kernel_rfl) (fun _ _ _ h => h) (Or.inl ⟨by rfl, ?_⟩) (by assumption) ?_
            case refine_2 => (intro w hSw; (try dsimp only at hSw); go_simp; (try with_reducible rfl))
            (try simp only [Act.put, List.getElem_toArray, List.getElem_cons_succ, List.getElem_cons_zero, List.setIfInBounds_toArray, List.set_cons_zero, List.set_cons_succ])
            refine wpAnyH_take (i := 5) (v := ?_) rfl (by kernel_rfl) (by kernel_rfl) (by kernel_rfl) (fun _ _ _ h => h) (Or.inl ⟨by rfl, ?_⟩) (by assumption) ?_
            case refine_2 => (intro w hSw; (try dsimp only at hSw); go_simp; (try with_reducible rfl))
            (try simp only [Act.put, List.getElem_toArray, List.getElem_cons_succ, List.getElem_cons_zero, List.setIfInBounds_toArray, List.set_cons_zero, List.set_cons_succ])
            refine wpAnyH_take (i := 6) (v := ?_) rfl (by kernel_rfl) (by kernel_rfl) (by kernel_rfl) (fun _ _ _ h => h) (Or.inl ⟨by rfl, ?_⟩) (by assumption) ?_
            case refine_2 => (intro w hSw; (try dsimp only at hSw); go_simp; (try with_reducible rfl))
            (try simp only [Act.put, List.getElem_toArray, List.getElem_cons_succ, List.getElem_cons_zero, List.setIfInBounds_toArray, List.set_cons_zero, List.set_cons_succ])
            refine wpAnyH_take (i := 7) (v := ?_) rfl (by kernel_rfl) (by kernel_rfl) (by kernel_rfl) (fun _ _ _ h => h) (Or.inl ⟨by rfl, ?_⟩) (by assumption) ?_
            case refine_2 => (intro w hSw; (try dsimp only at hSw); go_simp; (try with_reducible rfl))
            (try simp only [Act.put, List.getElem_toArray, List.getElem_cons_succ, List.getElem_cons_zero, List.setIfInBounds_toArray, List.set_cons_zero, List.set_cons_succ])
            refine wpAnyH_ready (rs := [1]) (by kernel_rfl) (by simp) ?_
            refine AllReadyH.cons rfl (fun K hK => ?_) AllReadyH.nil
            go_simp
            refine hK.out _ _ ((((Below.refl w4.heap.size w4.drew).alloc (Nat.le_refl _) _).cell (p := ⟨b, o' + j * 3 + 2, none⟩) (cell_lt' s2)).trans s2) (fun hHeld => ?_)
            clear hK K
            refine wpAnyH_ready (rs := [2]) (by kernel_rfl) (by simp) ?_
            refine AllReadyH.cons rfl (fun K hK => ?_) AllReadyH.nil
            refine st_append rfl _ _ 22 rfl _ _ rfl rfl hap2 ?_
            (try simp only [Act.put, List.getElem_toArray, List.getElem_cons_succ, List.getElem_cons_zero, List.setIfInBounds_toArray, List.set_cons_zero, List.set_cons_succ])
            refine hK.out _ _ s3 (fun hHeld => ?_)
            clear hK K
            refine wpAnyH_ready (rs := [8]) (by kernel_rfl) (by simp) ?_
            refine AllReadyH.cons rfl (fun K hK => ?_) AllReadyH.nil
            go_simp
            refine hB2.mono ?_
            rintro e w6 ⟨y5, m5, c5, rfl, s4, x6, m6, c6, w7, hap3, s5, HN⟩
            clear hB2
            refine hK.out _ _ s4 (fun hHeld => ?_)
            clear hK K
            refine wpAnyH_ready (rs := [9]) (by kernel_rfl) (by simp) ?_
            refine AllReadyH.cons rfl (fun K hK => ?_) AllReadyH.nil
            refine st_append rfl _ _ 22 rfl _ _ rfl rfl hap3 ?_
            (try simp only [Act.put, List.getElem_toArray, List.getElem_cons_succ, List.getElem_cons_zero, List.setIfInBounds_toArray, List.set_cons_zero, List.set_cons_succ])
            refine hK.out _ _ s5 (fun hHeld => ?_)
            clear hK K
            refine wpAnyH_take (i := 10) (v := ?_) rfl (by kernel_rfl) (by kernel_rfl) (by kernel_rfl) (fun _ _ _ h => h) (Or.inl ⟨by rfl, ?_⟩) (by assumption) ?_
            case refine_2 => (intro w hSw; (try dsimp only at hSw); go_simp; (try with_reducible rfl))
            (try simp only [Act.put, List.getElem_toArray, List.getElem_cons_succ, List.getElem_cons_zero, List.setIfInBounds_toArray, List.set_cons_zero, List.set_cons_succ])
            refine wpAnyH_done (by kernel_rfl) ?_ _
            go_wp2_with fail
            go_roundw
            case rel => exact ⟨j + 1, x6, m6, c6, by omega, rfl, by go_num, HN.out⟩
            case measure => simp [intOf]; omega
          · have hset' : (V j).set = false := by simpa using hset
            have HD : Hid (∀ w3 x3 m3 c3, Out w w3 x3 m3 c3 (uv k ++ encL (pas V j) ++ (uv (V j).key.size ++ nat (V j).key)) → w3.cell? ⟨b, o' + j * 3 + 1, none⟩ = some (.bool (V j).set) ∧
                ∃ x4 m4 c4 w4, (Builtin.append_ #[22, 22] 22 #[.slice x3 m3 c3, .slice (some ⟨w3.heap.size, 0, none⟩) 1 1]).run Tryz.prog (w3.alloc (.cells #[.int .u8 0] 5)) = .ok (.slice x4 m4 c4) w4 ∧ Hid (Out w w4 x4 m4 c4 (uv k ++ encL (pas V (j + 1))))) := fun w3 x3 m3 c3 h3 => by
              have g1 := (h3.2.cell (p := ⟨b, o' + j * 3 + 1, none⟩) hbl).trans f1
              obtain ⟨x4, m4, c4, w4, p1, p2⟩ := h3.one hl1 0 (by omega) (by omega)
              refine ⟨g1, x4, m4, c4, w4, p1, ?_⟩
              rw [hfin [0] (by unfold encA pa; dsimp only; rw [if_neg (by simp [hset']), nat_length])] at p2
              exact p2
            clear hc f0 f1 f2 hbw ho hoka hn4 hl0 hle hls hl1 u1 hls1 hfin HQ hset
            rw [hset'] at HD
            generalize (V j).key = Kk at *
            go_wp2_with (first
              | (go_at_call 40; refine hKB.mono ?_; rintro e w3 ⟨y3, my3, cy3, rfl, x3, m3, c3, w4, hap, HN⟩; clear hKB
                 obtain ⟨s1, x4, m4, c4, w5, hap2, HN2⟩ := HD.out w4 x3 m3 c3 HN.out
                 clear HD HN)
              | (at_builtin; refine wpList_append_run rfl _ _ 22 rfl _ _ rfl rfl hap ?_; clear hap)
              | (at_builtin; refine wpList_append_run rfl _ _ 22 rfl _ _ rfl rfl hap2 ?_; clear hap2))
            go_roundw
            case rel => exact ⟨j + 1, x4, m4, c4, by omega, rfl, by go_num, HN2.out⟩
            case measure => simp [intOf]; omega
        · obtain rfl : j = k := by omega
          have hfin := HQ.out
          have henc : uv j ++ encL (pas V j) = enc (pas V j) := by unfold enc; rw [pas_len]
          rw [henc] at hfin
          obtain ⟨x', c', he, hsl, hblk⟩ := hfin.1.sl HLT.out
          injection he with e1 e2 e3
          subst e1
          subst e2
          subst e3
          have HF := hid (And.intro hsl (And.intro hblk hfin.2))
          have hS := HS.out
          have hnn : (pas V j).length ≤ 256 ∧ okL (pas V j) := ⟨by rw [pas_len]; exact h256, HO.out⟩
          clear HQ hfin hsl hblk HL HO
          rcases hS with ⟨hno, _⟩ | ⟨_, hlong, rfl, rfl⟩ | ⟨_, hlong, rfl, rfl⟩
          · exact absurd hnn hno
          · have q0 : (13005 : Int) < ((enc (pas V j)).length : Int) := by omega
            clear HS henc hlong hnn
            generalize (enc (pas V j)).length = M at *
            go_wp2_with fail
            go_ret2
            exact ⟨none, 0, 0, rfl, Sl.empty _, (fun a ha => by cases ha), HF.out.2.2⟩
          · have q0 : ¬ (13005 : Int) < ((enc (pas V j)).length : Int) := by omega
            clear HS henc hlong hnn
            generalize hM : (enc (pas V j)).length = M at *
            have HM := hid hM
            clear hM
            go_wp2_with fail
            go_ret2
            exact ⟨_, _, _, rfl, HF.out.1, HF.out.2.1, HF.out.2.2⟩

theorem rencode_any (a : Option Addr) (len cap : Nat) (V : Nat → AV) (w : World) (h : ActsAt w a len V) (hl : len ≤ 140737488351232) (c : Nat) (o : List Nat) (hS : EncSays (pas V len) c o) :
    Calls Tryz.prog 14 #[.slice a len cap] w fun e w' => ∃ x m cx, e = .returned (.tuple #[.slice x m cx, .int .i64 (c : Int)]) ∧ EncTold w w' x m cx o := by
  by_cases hok : len ≤ 256 ∧ okL (pas V len)
  · exact rencode_yes a len cap V w h hok.1 hok.2 c o hS
  · have hc : c = 1 ∧ o = [] := by
      rcases hS with ⟨_, h1⟩ | ⟨h1, _⟩ | ⟨h1, _⟩
      · exact h1
      · rw [pas_len] at h1; exact absurd h1 hok
      · rw [pas_len] at h1; exact absurd h1 hok
    obtain ⟨rfl, rfl⟩ := hc
    exact (rencode_no a len cap V w h hl hok).mono fun e w' ⟨h1, h2⟩ => ⟨none, 0, 0, h1, Sl.empty _, (fun a ha => by cases ha), h2⟩

end Go.Proofs.YtbbjklenpgkooaaGreat

/-
  What the document's reader does: next, wrong, ReadUvarint, ReadVarint, Done: contracts over plain lists ('WiPlain').
  Conditions: bytes that are looked at lie in memory.
-/
namespace Go.Proofs.YtbbjklenpgkooaaGreat
open Go.RowKit Wi By
set_option linter.unusedVariables false
set_option linter.unusedSimpArgs false
set_option maxRecDepth 100000

def RGo (w w' : World) (q : Nat) (x : Option Addr) (n c : Nat) (L l' : List Nat) (e' : Nat) : Prop := Turn q w w' ∧ ∃ t', RRd w' q x n c L t' e' ∧ L.drop t' = l'

theorem RRd.drewN {w : World} {q : Nat} {x : Option Addr} {n c : Nat} {L : List Nat} {t e : Nat} (h : RRd w q x n c L t e) (m : Nat) : RRd (w.drewN m) q x n c L t e :=
  ⟨h.bytes, h.place, h.bad, h.fr, h.sl.heap rfl, h.ap, h.le, h.small⟩

/- next(r). -/
theorem next_no (q n c t e : Nat) (x : Option Addr) (L : List Nat) (w : World) (h : RRd w q x n c L t e) (hd : e ≠ 0 ∨ n ≤ t) :
    Calls Tryz.prog 78 #[.pointer (some ⟨q, 0, none⟩)] w fun ed w' => ed = .returned (.tuple #[.int .u8 0, .bool false]) ∧ Turn q w w' ∧ RRd w' q x n c L t e := by
  have h0 := h.bytes
  have h1 := h.place
  have h2 := h.bad
  have H : Hid (RRd w q x n c L t e) := h
  clear h
  by_cases he : e = 0
  · subst he
    have hg : (((0 : Nat) : Int) != 0) = false := rfl
    have hg2 : n ≤ t := by omega
    clear hd
    go_enter Tryz.func78, Tryz.ntmps78
    go_wp2_with fail
    go_quiet (fail)
    go_wp2_with fail
    go_ret2
    exact ⟨rfl, (Turn.refl q w).drewN _, H.out.drewN _⟩
  · have hg : ((e : Int) != 0) = true := by simp; omega
    clear hd he
    go_enter Tryz.func78, Tryz.ntmps78
    go_wp2_with fail
    go_quiet (fail)
    go_wp2_with fail
    go_ret2
    exact ⟨rfl, (Turn.refl q w).drewN _, H.out.drewN _⟩

theorem next_yes (q n c t : Nat) (x : Option Addr) (L : List Nat) (w : World) (h : RRd w q x n c L t 0) (ht : t < n) :
    Calls Tryz.prog 78 #[.pointer (some ⟨q, 0, none⟩)] w fun ed w' => ed = .returned (.tuple #[.int .u8 (gl L t : Int), .bool true]) ∧ Turn q w w' ∧ RRd w' q x n c L (t + 1) 0 := by
  rcases h.sl.row with h0 | ⟨b, o, rfl, hb, hcell⟩
  · omega
  have h0 := h.bytes
  have h1 := h.place
  have h2 := h.bad
  have hsm := h.small
  have H : Hid (RRd w q (some ⟨b, o, none⟩) n c L t 0) := h
  have hf1 := h.fr 1
  obtain ⟨t1, ht1⟩ : ∃ t1, t1 = t + 1 := ⟨_, rfl⟩
  have ht1i : (t : Int) + 1 = (t1 : Int) := by omega
  have ht1s : (t1 : Int) - 1 = (t : Int) := by omega
  have Ht1 : Hid (t1 = t + 1) := ht1
  have hg : (((0 : Nat) : Int) != 0) = false := rfl
  have hg2 : decide ((n : Int) ≤ (t : Int)) = false := by simp; omega
  clear h hcell ht1
  go_enter Tryz.func78, Tryz.ntmps78
  go_wp2_with fail
  go_quiet (fail)
  go_wp2_with fail
  have hw2 : RRd ((w.drewN nq).setCell ⟨q, 1, none⟩ (.int .i64 (t1 : Int))) q (some ⟨b, o, none⟩) n c L t1 0 := (H.out.drewN nq).setPlace t1 (by have := Ht1.out; omega)
  have tw2 : Turn q w ((w.drewN nq).setCell ⟨q, 1, none⟩ (.int .i64 (t1 : Int))) := ((Turn.refl q w).drewN nq).setCell rfl _
  clear h0 h1 h2 H hf1 hb
  generalize (w.drewN nq).setCell ⟨q, 1, none⟩ (.int .i64 (t1 : Int)) = w2 at *
  have g0 := hw2.bytes
  have g1 := hw2.place
  have g2 : w2.cell? ⟨b, o + t, none⟩ = some (.int .u8 (gl L t : Int)) := by
    rcases hw2.sl.row with h0 | ⟨b', o', ha, _, hc⟩
    · omega
    · cases ha
      exact hc t ht
  have H2 : Hid (RRd w2 q (some ⟨b, o, none⟩) n c L t1 0 ∧ Turn q w w2) := ⟨hw2, tw2⟩
  clear hw2 tw2
  go_quiet (fail)
  go_wp2_with fail
  go_ret2
  rw [← Ht1.out]
  exact ⟨rfl, H2.out.2.drewN _, H2.out.1.drewN _⟩

/- wrong(r, e, at). -/
theorem wrong_any (q n c t e e' t' : Nat) (x : Option Addr) (L : List Nat) (w : World) (h : RRd w q x n c L t e) (ht : t' ≤ n) :
    Calls Tryz.prog 57 #[.pointer (some ⟨q, 0, none⟩), .int .i64 (e' : Int), .int .i64 (t' : Int)] w fun ed w' => ed = .returned (.tuple #[]) ∧ Turn q w w' ∧ RRd w' q x n c L (if e = 0 then t' else t) (if e = 0 then e' else e) := by
  have h2 := h.bad
  by_cases he : e = 0
  · subst he
    have hf2 := h.fr 2
    have hs := h.setBad e'
    have h1 := hs.place
    have hf1 := hs.fr 1
    have HD : Hid (Turn q w ((w.setCell ⟨q, 2, none⟩ (.int .i64 (e' : Int))).setCell ⟨q, 1, none⟩ (.int .i64 (t' : Int))) ∧ RRd ((w.setCell ⟨q, 2, none⟩ (.int .i64 (e' : Int))).setCell ⟨q, 1, none⟩ (.int .i64 (t' : Int))) q x n c L t' e') :=
      ⟨((Turn.refl q w).setCell rfl _).setCell rfl _, hs.setPlace t' ht⟩
    clear h hs ht
    go_enter Tryz.func57, Tryz.ntmps57
    go_wp2_with fail
    go_end0
    exact ⟨rfl, HD.out.1, HD.out.2⟩
  · have hne : ((e : Int) == 0) = false := by simp; omega
    have HD : Hid (RRd w q x n c L t e) := h
    clear h ht
    go_enter Tryz.func57, Tryz.ntmps57
    go_wp2_with fail
    go_end0
    exact ⟨rfl, Turn.refl q w, HD.out⟩

end Go.Proofs.YtbbjklenpgkooaaGreat

/-
  What the document's ReadUvarint and ReadVarint do: contracts over plain lists ('WiPlain').
  Conditions: bytes that are looked at lie in memory.
-/
namespace Go.Proofs.YtbbjklenpgkooaaGreat
open Go.RowKit Wi By
set_option linter.unusedVariables false
set_option linter.unusedSimpArgs false
set_option maxRecDepth 100000

theorem lead_of_ld {l : List Nat} (hl : ∀ v ∈ l, v < 256) (h : ld l = (0, 0)) : lead l = none := by
  cases hq : lead l with
  | none => rfl
  | some p =>
    obtain ⟨n, k⟩ := p
    have := lead_pos hl hq
    rw [ld_some hq] at h
    injection h with _ h
    omega

theorem lead_of_ld_some {l : List Nat} {N k : Nat} (h : ld l = (N, k + 1)) : lead l = some (N, k + 1) := by
  cases hq : lead l with
  | none =>
    rw [ld_none hq] at h
    injection h with _ h
    omega
  | some p => rw [← h, ld_some hq]

theorem RRd.rest_lt {w : World} {q : Nat} {x : Option Addr} {n c : Nat} {L : List Nat} {t e : Nat} (h : RRd w q x n c L t e) : ∀ v ∈ L.drop t, v < 256 := fun v hv => h.sl.lt v (List.mem_of_mem_drop hv)

theorem ruv_bad (q n c t e : Nat) (x : Option Addr) (L : List Nat) (w : World) (h : RRd w q x n c L t e) (he : e ≠ 0) :
    Calls Tryz.prog 56 #[.pointer (some ⟨q, 0, none⟩)] w fun ed w' => ed = .returned (.int .u64 0) ∧ RGo w w' q x n c L (L.drop t) e := by
  have h1 := h.place
  have hnx := next_no q n c t e x L w h (.inl he)
  have hW : ∀ v, RRd v q x n c L t e → Turn q w v → Calls Tryz.prog 57 #[.pointer (some ⟨q, 0, none⟩), .int .i64 5, .int .i64 (t : Int)] v fun ed w' => ed = .returned (.tuple #[]) ∧ RGo w w' q x n c L (L.drop t) e := fun v hv tv =>
    (wrong_any q n c t e 5 t x L v hv h.le).mono fun ed w' ⟨a1, a2, a3⟩ => by
      rw [if_neg he, if_neg he] at a3
      exact ⟨a1, tv.trans a2, t, a3, rfl⟩
  clear h
  go_enter Tryz.func56, Tryz.ntmps56
  go_wp2_with fail
  refine wp_loop_rounds 1 ?_
  rw [rounds_succ]
  go_wp2_with (first
    | (go_at_call 78; refine hnx.mono ?_; rintro e w2 ⟨rfl, t2, hr2⟩; have hW2 := hW _ hr2 t2; clear hnx hW hr2 t2)
    | (go_at_call 57; refine hW2.mono ?_; rintro e w3 ⟨rfl, hg3⟩; clear hW2))
  go_ret
  exact ⟨rfl, hg3⟩

set_option maxHeartbeats 2000000 in
set_option maxRecDepth 100000 in
theorem ruv_go (q n c t : Nat) (x : Option Addr) (L : List Nat) (w : World) (h : RRd w q x n c L t 0) :
    Calls Tryz.prog 56 #[.pointer (some ⟨q, 0, none⟩)] w fun ed w' => ed = .returned (.int .u64 ((rUv (L.drop t) 0).1 : Int)) ∧ RGo w w' q x n c L (rUv (L.drop t) 0).2.1 (rUv (L.drop t) 0).2.2 := by
  have h1 := h.place
  have hsm := h.small
  have hle := h.le
  have hb := h.rest_lt
  have hlen : (L.drop t).length = n - t := by rw [List.length_drop, h.sl.len]
  have HL : Hid (∀ k, gl (L.drop t) k = gl L (t + k)) := fun k => gl_drop L t k
  obtain ⟨l, hl⟩ : ∃ l, l = L.drop t := ⟨_, rfl⟩
  have HLl : Hid (l = L.drop t) := hl
  rw [← hl] at hb hlen HL
  have H : Hid (RRd w q x n c L t 0) := h
  clear h hl
  go_enter Tryz.func56, Tryz.ntmps56
  go_wp2_with fail
  go_loopw [4, 5] (fun a i wr => ∃ k N : Nat, k ≤ 10 ∧ N < 18446744073709551616 ∧ a = .int .u64 N ∧ i = .int .i64 k ∧ Hid (Lead l k N ∧ RRd wr q x n c L (t + k) 0 ∧ Turn q w wr)) (fun _ i _ => 10 - (intOf i).toNat)
  case atStart => exact ⟨0, 0, by omega, by omega, rfl, rfl, .inl ⟨by omega, rfl, by simp⟩, H.out, Turn.refl q w⟩
  case round =>
    obtain ⟨k, N, hk, hN, rfl, rfl, HR⟩ := hrel
    clear H
    obtain ⟨hLd, hRR, hTT⟩ := HR.out
    have hW : ∀ v s, RRd v q x n c L s 0 → Turn q wr v → Calls Tryz.prog 57 #[.pointer (some ⟨q, 0, none⟩), .int .i64 5, .int .i64 (t : Int)] v fun ed w' => ed = .returned (.tuple #[]) ∧ RGo w w' q x n c L l 5 := fun v s hv tv =>
      (wrong_any q n c s 0 5 t x L v hv hle).mono fun ed w' ⟨a1, a2, a3⟩ => ⟨a1, hTT.trans (tv.trans a2), t, a3, HLl.out.symm⟩
    clear HR
    by_cases hlt : k < 10
    · by_cases hmore : t + k < n
      · have hkl : k < l.length := by omega
        have hnx := next_yes q n c (t + k) x L wr hRR hmore
        rw [← HL.out k] at hnx
        have hv := gl_lt hb k
        obtain ⟨s, hs⟩ : ∃ s : Nat, s = 7 * k := ⟨_, rfl⟩
        have hs7 : (7 : Int) * (k : Int) = (s : Int) := by omega
        have hs64 : s < 64 := by omega
        have HT : Hid (Turn q w wr) := hTT
        obtain ⟨k1, hk1⟩ : ∃ k1 : Nat, k1 = t + k + 1 := ⟨_, rfl⟩
        rw [← hk1] at hnx
        have Hk1 : Hid (k1 = t + k + 1) := hk1
        clear hRR hTT hk1
        by_cases h128 : 128 ≤ gl l k
        · obtain ⟨u, hu⟩ : ∃ u : Nat, u = gl l k - 128 := ⟨_, rfl⟩
          have hu1 : (gl l k : Int) % 128 = (u : Int) := by omega
          have hu2 : u < 128 := by omega
          by_cases hover : k = 9 ∧ 1 < u
          · have HD : Hid (rUv l 0 = (0, l, 5)) := by
              refine rUv_no ?_
              rcases lead_more hLd hkl (by omega) h128 hv (N2 := N + (gl l k - 128) * 2 ^ (7 * k)) (fun _ _ => rfl) with ⟨a, _⟩ | ⟨_, b⟩
              · omega
              · exact b
            obtain ⟨hk9, hu3⟩ := hover
            have hz9 : ((k : Int) == 9) = true := by simp; omega
            clear hLd hs hu hkl hb hlen hk9 HL
            generalize gl l k = v at *
            go_wp2_with (first
              | (go_at_call 78; refine hnx.mono ?_; rintro e w2 ⟨rfl, t2, hr2⟩; have hW2 := hW _ _ hr2 t2; clear hnx hW hr2 t2)
              | (go_at_call 57; refine hW2.mono ?_; rintro e w3 ⟨rfl, hg3⟩; clear hW2))
            go_ret
            rw [← HLl.out, HD.out]
            exact ⟨rfl, hg3⟩
          · obtain ⟨N2, hor, hN2, he⟩ := digit_or N u s hN
            have HS : Hid (Lead l (k + 1) N2) := lead_more hLd hkl (by omega) h128 hv (by rw [← hs, ← hu]; exact he)
            clear he hLd hs hu hkl hb hlen hW HL
            generalize gl l k = v at *
            by_cases hk9 : k = 9
            · have hz9 : ((k : Int) == 9) = true := by simp; omega
              have hu4 : u < 2 := by omega
              have hu5 : decide ((1 : Int) < (u : Int)) = false := by simp; omega
              clear hover hk9
              go_wp2_with (go_at_call 78; refine hnx.mono ?_; rintro e w2 ⟨rfl, t2, hr2⟩; have HR2 : Hid (RRd w2 q x n c L k1 0 ∧ Turn q wr w2) := ⟨hr2, t2⟩; clear hnx hr2 t2)
              go_roundw
              case rel => exact ⟨k + 1, N2, by omega, hN2, rfl, by go_num, HS.out, by rw [← Nat.add_assoc, ← Hk1.out]; exact HR2.out.1, HT.out.trans HR2.out.2⟩
              case measure => simp [intOf]; omega
            · have hz9 : ((k : Int) == 9) = false := by simp; omega
              clear hover hk9
              go_wp2_with (go_at_call 78; refine hnx.mono ?_; rintro e w2 ⟨rfl, t2, hr2⟩; have HR2 : Hid (RRd w2 q x n c L k1 0 ∧ Turn q wr w2) := ⟨hr2, t2⟩; clear hnx hr2 t2)
              go_roundw
              case rel => exact ⟨k + 1, N2, by omega, hN2, rfl, by go_num, HS.out, by rw [← Nat.add_assoc, ← Hk1.out]; exact HR2.out.1, HT.out.trans HR2.out.2⟩
              case measure => simp [intOf]; omega
        · have hu1 : (gl l k : Int) % 128 = (gl l k : Int) := by omega
          by_cases hbad : (0 < k ∧ gl l k = 0) ∨ (k = 9 ∧ 1 < gl l k)
          · have HD : Hid (rUv l 0 = (0, l, 5)) := rUv_no (lead_of_ld hb (lead_bad hLd hkl (by omega) (by omega) hbad))
            obtain ⟨N2, hor, hN2, _⟩ := digit_or N (gl l k) s hN
            clear hLd hs hkl hb hlen HL
            generalize gl l k = v at *
            by_cases hk9 : k = 9 ∧ 1 < v
            · obtain ⟨hk9, hv1⟩ := hk9
              have hz9 : ((k : Int) == 9) = true := by simp; omega
              clear hbad hk9
              go_wp2_with (first
                | (go_at_call 78; refine hnx.mono ?_; rintro e w2 ⟨rfl, t2, hr2⟩; have hW2 := hW _ _ hr2 t2; clear hnx hW hr2 t2)
                | (go_at_call 57; refine hW2.mono ?_; rintro e w3 ⟨rfl, hg3⟩; clear hW2))
              go_ret
              rw [← HLl.out, HD.out]
              exact ⟨rfl, hg3⟩
            · have hk0 : 0 < k := by omega
              have hv0 : v = 0 := by omega
              subst hv0
              by_cases hk9 : k = 9
              · have hz9 : ((k : Int) == 9) = true := by simp; omega
                clear hbad hk9
                go_wp2_with (first
                  | (go_at_call 78; refine hnx.mono ?_; rintro e w2 ⟨rfl, t2, hr2⟩; have hW2 := hW _ _ hr2 t2; clear hnx hW hr2 t2)
                  | (go_at_call 57; refine hW2.mono ?_; rintro e w3 ⟨rfl, hg3⟩; clear hW2))
                go_ret
                rw [← HLl.out, HD.out]
                exact ⟨rfl, hg3⟩
              · have hz9 : ((k : Int) == 9) = false := by simp; omega
                clear hbad hk9
                go_wp2_with (first
                  | (go_at_call 78; refine hnx.mono ?_; rintro e w2 ⟨rfl, t2, hr2⟩; have hW2 := hW _ _ hr2 t2; clear hnx hW hr2 t2)
                  | (go_at_call 57; refine hW2.mono ?_; rintro e w3 ⟨rfl, hg3⟩; clear hW2))
                go_ret
                rw [← HLl.out, HD.out]
                exact ⟨rfl, hg3⟩
          · obtain ⟨N2, hor, hN2, he⟩ := digit_or N (gl l k) s hN
            have HD : Hid (rUv l 0 = (N2, l.drop (k + 1), 0)) := rUv_yes (lead_of_ld_some (lead_good hLd hkl (by omega) (by omega) hbad (N2 := N2) (by rw [← hs]; exact he)))
            clear he hLd hs hkl hb hlen hW HL
            generalize gl l k = v at *
            by_cases hk0 : k = 0
            · have hz : (k : Int) < 1 := by omega
              have hz9 : ((k : Int) == 9) = false := by simp; omega
              clear hbad hk0
              by_cases hv0 : v = 0
              · have hvb : ((v : Int) == 0) = true := by simp; omega
                clear hv0
                go_wp2_with (go_at_call 78; refine hnx.mono ?_; rintro e w2 ⟨rfl, t2, hr2⟩; have HR2 : Hid (RRd w2 q x n c L k1 0 ∧ Turn q wr w2) := ⟨hr2, t2⟩; clear hnx hr2 t2)
                go_ret
                rw [← HLl.out, HD.out]
                exact ⟨rfl, HT.out.trans HR2.out.2, k1, HR2.out.1, by rw [Hk1.out, HLl.out, List.drop_drop, Nat.add_assoc]⟩
              · have hvb : ((v : Int) == 0) = false := by simp; omega
                clear hv0
                go_wp2_with (go_at_call 78; refine hnx.mono ?_; rintro e w2 ⟨rfl, t2, hr2⟩; have HR2 : Hid (RRd w2 q x n c L k1 0 ∧ Turn q wr w2) := ⟨hr2, t2⟩; clear hnx hr2 t2)
                go_ret
                rw [← HLl.out, HD.out]
                exact ⟨rfl, HT.out.trans HR2.out.2, k1, HR2.out.1, by rw [Hk1.out, HLl.out, List.drop_drop, Nat.add_assoc]⟩
            · have hv0 : 0 < v := by omega
              have hvb : ((v : Int) == 0) = false := by simp; omega
              have hk0' : 0 < k := by omega
              by_cases hk9 : k = 9
              · have hv1 : v < 2 := by omega
                have hvc : decide ((1 : Int) < (v : Int)) = false := by simp; omega
                have hz9 : ((k : Int) == 9) = true := by simp; omega
                clear hbad hk0 hk9
                go_wp2_with (go_at_call 78; refine hnx.mono ?_; rintro e w2 ⟨rfl, t2, hr2⟩; have HR2 : Hid (RRd w2 q x n c L k1 0 ∧ Turn q wr w2) := ⟨hr2, t2⟩; clear hnx hr2 t2)
                go_ret
                rw [← HLl.out, HD.out]
                exact ⟨rfl, HT.out.trans HR2.out.2, k1, HR2.out.1, by rw [Hk1.out, HLl.out, List.drop_drop, Nat.add_assoc]⟩
              · have hz9 : ((k : Int) == 9) = false := by simp; omega
                clear hbad hk0 hk9
                go_wp2_with (go_at_call 78; refine hnx.mono ?_; rintro e w2 ⟨rfl, t2, hr2⟩; have HR2 : Hid (RRd w2 q x n c L k1 0 ∧ Turn q wr w2) := ⟨hr2, t2⟩; clear hnx hr2 t2)
                go_ret
                rw [← HLl.out, HD.out]
                exact ⟨rfl, HT.out.trans HR2.out.2, k1, HR2.out.1, by rw [Hk1.out, HLl.out, List.drop_drop, Nat.add_assoc]⟩
      · have hnx := next_no q n c (t + k) 0 x L wr hRR (.inr (by omega))
        have HD : Hid (rUv l 0 = (0, l, 5)) := rUv_no (lead_of_ld hb (lead_over hLd (.inl (by omega))))
        clear hLd hRR hTT hb hlen HL hmore
        go_wp2_with (first
          | (go_at_call 78; refine hnx.mono ?_; rintro e w2 ⟨rfl, t2, hr2⟩; have hW2 := hW _ _ hr2 t2; clear hnx hW hr2 t2)
          | (go_at_call 57; refine hW2.mono ?_; rintro e w3 ⟨rfl, hg3⟩; clear hW2))
        go_ret
        rw [← HLl.out, HD.out]
        exact ⟨rfl, hg3⟩
    · have hk2 : k = 10 := by omega
      have HD : Hid (rUv l 0 = (0, l, 5)) := rUv_no (lead_of_ld hb (lead_over hLd (.inr hk2)))
      have hW2 := hW wr _ hRR (Turn.refl q wr)
      subst hk2
      clear hLd hRR hTT hb hlen HL hW
      go_wp2_with (go_at_call 57; refine hW2.mono ?_; rintro e w3 ⟨rfl, hg3⟩; clear hW2)
      go_ret
      rw [← HLl.out, HD.out]
      exact ⟨rfl, hg3⟩

theorem ruv_any (q n c t e : Nat) (x : Option Addr) (L : List Nat) (w : World) (h : RRd w q x n c L t e) :
    Calls Tryz.prog 56 #[.pointer (some ⟨q, 0, none⟩)] w fun ed w' => ed = .returned (.int .u64 ((rUv (L.drop t) e).1 : Int)) ∧ RGo w w' q x n c L (rUv (L.drop t) e).2.1 (rUv (L.drop t) e).2.2 := by
  by_cases he : e = 0
  · subst he
    exact ruv_go q n c t x L w h
  · rw [rUv_bad he]
    exact ruv_bad q n c t e x L w h he

end Go.Proofs.YtbbjklenpgkooaaGreat

/-
  What the document's ReadFixed, ReadNumber and ReadBytes do: contracts over plain lists ('WiPlain').
  Conditions: bytes that are looked at lie in memory.
-/
namespace Go.Proofs.YtbbjklenpgkooaaGreat
open Go.RowKit Wi By
set_option linter.unusedVariables false
set_option linter.unusedSimpArgs false
set_option maxRecDepth 100000

/- ReadNumber(r, most). -/
theorem rnum_any (q n c t e : Nat) (b : Int) (x : Option Addr) (L : List Nat) (w : World) (h : RRd w q x n c L t e) (hb1 : -9223372036854775808 ≤ b) (hb2 : b ≤ 9223372036854775807) :
    Calls Tryz.prog 28 #[.pointer (some ⟨q, 0, none⟩), .int .i64 b] w fun ed w' => ed = .returned (.int .i64 ((rNum b (L.drop t) e).1 : Int)) ∧ RGo w w' q x n c L (rNum b (L.drop t) e).2.1 (rNum b (L.drop t) e).2.2 := by
  have h1 := h.place
  have hu : Calls Tryz.prog 56 #[.pointer (some ⟨q, 0, none⟩)] w fun ed w' => ed = .returned (.int .u64 ((rUv (L.drop t) e).1 : Int)) ∧ w'.cell? ⟨q, 2, none⟩ = some (.int .i64 ((rUv (L.drop t) e).2.2 : Int)) ∧ RGo w w' q x n c L (rUv (L.drop t) e).2.1 (rUv (L.drop t) e).2.2 :=
    (ruv_any q n c t e x L w h).mono fun ed w' ⟨a1, a2⟩ => ⟨a1, by obtain ⟨_, t', a3, _⟩ := a2; exact a3.bad, a2⟩
  have hN := rUv_lt (L.drop t) e h.rest_lt
  by_cases he2 : (rUv (L.drop t) e).2.2 = 0
  · have he : e = 0 := by
      by_cases he : e = 0
      · exact he
      · rw [rUv_bad he] at he2
        exact he2
    subst he
    by_cases hlong : b < 0 ∨ b < ((rUv (L.drop t) 0).1 : Int)
    · have HD : Hid (rNum b (L.drop t) 0 = (0, L.drop t, 3)) := rNum_long he2 hlong
      have hr : ∀ v, RGo w v q x n c L (rUv (L.drop t) 0).2.1 0 → Calls Tryz.prog 57 #[.pointer (some ⟨q, 0, none⟩), .int .i64 3, .int .i64 (t : Int)] v fun ed w' => ed = .returned (.tuple #[]) ∧ RGo w w' q x n c L (L.drop t) 3 := fun v hv => by
        obtain ⟨t1, t', h3, _⟩ := hv
        exact (wrong_any q n c t' 0 3 t x L v h3 h.le).mono fun ed w' ⟨a1, a2, a3⟩ => ⟨a1, t1.trans a2, t, a3, rfl⟩
      rw [he2] at hu
      generalize (rUv (L.drop t) 0).1 = N at *
      generalize (rUv (L.drop t) 0).2.1 = l2 at *
      clear h he2
      by_cases hneg : b < 0
      · clear hlong
        go_enter Tryz.func28, Tryz.ntmps28
        go_wp2_with (first
          | (go_at_call 56; refine hu.mono ?_; rintro e w2 ⟨rfl, hc2, hg⟩; have hr2 := hr _ hg; clear hu hr hg)
          | (go_at_call 57; refine hr2.mono ?_; rintro e w3 ⟨rfl, hg3⟩; clear hr2))
        go_ret
        rw [HD.out]
        exact ⟨rfl, hg3⟩
      · have hl2 : b < (N : Int) := by omega
        have hneg' : (0 : Int) ≤ b := by omega
        clear hlong hneg
        go_enter Tryz.func28, Tryz.ntmps28
        go_wp2_with (first
          | (go_at_call 56; refine hu.mono ?_; rintro e w2 ⟨rfl, hc2, hg⟩; have hr2 := hr _ hg; clear hu hr hg)
          | (go_at_call 57; refine hr2.mono ?_; rintro e w3 ⟨rfl, hg3⟩; clear hr2))
        go_ret
        rw [HD.out]
        exact ⟨rfl, hg3⟩
    · have HD : Hid (rNum b (L.drop t) 0 = ((rUv (L.drop t) 0).1, (rUv (L.drop t) 0).2.1, 0)) := by
        show rNum b (L.drop t) 0 = _
        rw [rNum_yes he2 hlong]
        exact Prod.ext rfl (Prod.ext rfl he2)
      rw [he2] at hu
      generalize (rUv (L.drop t) 0).1 = N at *
      generalize (rUv (L.drop t) 0).2.1 = l2 at *
      have hl2 : (N : Int) ≤ b := by omega
      have hneg' : (0 : Int) ≤ b := by omega
      clear h hlong he2
      go_enter Tryz.func28, Tryz.ntmps28
      go_wp2_with (go_at_call 56; refine hu.mono ?_; rintro e w2 ⟨rfl, hc2, hg⟩; clear hu)
      go_ret
      rw [HD.out]
      exact ⟨rfl, hg⟩
  · have HD : Hid (rNum b (L.drop t) e = (0, (rUv (L.drop t) e).2.1, (rUv (L.drop t) e).2.2)) := by
      show rNum b (L.drop t) e = _
      by_cases he : e = 0
      · subst he; exact rNum_no he2
      · rw [rNum_bad he, rUv_bad he]
    generalize (rUv (L.drop t) e).1 = N at *
    generalize (rUv (L.drop t) e).2.1 = l2 at *
    generalize (rUv (L.drop t) e).2.2 = e2 at *
    have hne : ((e2 : Int) != 0) = true := by simp; omega
    clear h
    go_enter Tryz.func28, Tryz.ntmps28
    go_wp2_with (go_at_call 56; refine hu.mono ?_; rintro e w2 ⟨rfl, hc2, hg⟩; clear hu)
    go_ret
    rw [HD.out]
    exact ⟨rfl, hg⟩

end Go.Proofs.YtbbjklenpgkooaaGreat

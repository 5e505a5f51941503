/-
  2 texts of this proof, one behind the other: StRefEnc, StSame.
-/
import Derived.Test.YtbbjklenpgkooaaJ14
import Derived.Test.YtbbjklenpgkooaaJ12
/-
  The document's Encode of package store.
  Conditions: the acts lie in memory.
-/
namespace Go.Proofs.Ytbbjklenpgkooaa
open Go.RowKit By Dk Wi St
set_option linter.unusedVariables false
set_option linter.unusedSimpArgs false
set_option maxRecDepth 100000

def Out (w v : World) (x : Option Addr) (m c : Nat) (l : List Nat) : Prop := OwnL v w.heap.size (.slice x m c) l ∧ Below w.heap.size w v

theorem Out.below {w v v' : World} {x : Option Addr} {m c : Nat} {l : List Nat} (h : Out w v x m c l) (hb : Below v.heap.size v v') : Out w v' x m c l := ⟨h.1.below hb, h.2.trans (hb.mono h.2.size)⟩

theorem Out.push {w v v' : World} {x : Option Addr} {m c : Nat} {l : List Nat} (h : Out w v x m c l) (hl : ∀ u ∈ l, u < 256) (hb : Below v.heap.size v v') {y : Option Addr} {n d : Nat} {k : List Nat} (hk : Sl v' y n d k) (hs : l.length + n ≤ 140737488355328) :
    ∃ x3 m3 c3 w3, (Builtin.append_ #[23, 23] 23 #[.slice x m c, .slice y n d]).run Try.prog v' = .ok (.slice x3 m3 c3) w3 ∧ Out w w3 x3 m3 c3 (l ++ k) := by
  have h' := h.below hb
  obtain ⟨R', w3, p1, p2, p3⟩ := push_list v' w w.heap.size (.slice x m c) l h'.1 h'.2.size h'.2 y n d k hk hs
  obtain ⟨x3, c3, rfl, _⟩ := p2.sl (fun u hu => by
    rcases List.mem_append.1 hu with hu | hu
    · exact hl u hu
    · exact hk.lt u hu)
  exact ⟨x3, _, c3, w3, p1, p2, p3⟩

theorem Out.one {w v : World} {x : Option Addr} {m c : Nat} {l : List Nat} (h : Out w v x m c l) (hl : ∀ u ∈ l, u < 256) (b : Nat) (hb : b < 256) (hs : l.length ≤ 2000000) :
    ∃ x3 m3 c3 w3, (Builtin.append_ #[23, 23] 23 #[.slice x m c, .slice (some ⟨v.heap.size, 0, none⟩) 1 1]).run Try.prog (v.alloc (.cells #[.int .u8 (b : Int)] 5)) = .ok (.slice x3 m3 c3) w3 ∧ Out w w3 x3 m3 c3 (l ++ [b]) := by
  refine h.push hl ((Below.refl _ _).alloc (Nat.le_refl _) _) ⟨rfl, Nat.le_refl _, (fun e => by cases e), .inr ⟨v.heap.size, 0, rfl, by simp, fun i hi => ?_⟩, fun u hu => by simp at hu; omega⟩ (by omega)
  obtain rfl : i = 0 := by omega
  simp [gl]

theorem Out.key {w v : World} {x : Option Addr} {m c : Nat} {l : List Nat} (h : Out w v x m c l) (hl : ∀ u ∈ l, u < 256) (k : ByteArray) (hk : k.size ≤ 64) (hs : l.length ≤ 2000000) :
    ∃ cc W1, (convert 9 23 (.string k)).run Try.prog v = .ok (.slice (some ⟨v.heap.size, 0, none⟩) k.size cc) W1 ∧
      Calls Try.prog 21 #[.slice (some ⟨v.heap.size, 0, none⟩) k.size cc] W1 fun e w2 => ∃ y m2 c2, e = .returned (.slice y m2 c2) ∧ ∃ x3 m3 c3 w3, (Builtin.append_ #[23, 23] 23 #[.slice x m c, .slice y m2 c2]).run Try.prog w2 = .ok (.slice x3 m3 c3) w3 ∧ Hid (Out w w3 x3 m3 c3 (l ++ (uv k.size ++ nat k))) := by
  obtain ⟨cc, W1, h1, H1⟩ := conv_text k v
  refine ⟨cc, W1, h1, (rbytes_any _ k.size cc (nat k) W1 H1.out.2 (by omega)).mono fun e w2 ⟨R, q1, q2, q3⟩ => ?_⟩
  have u10 := uv_ten (n := k.size) (by omega)
  obtain ⟨y, c2, rfl, h4, _⟩ := q2.sl (fun u hu => by
    rcases List.mem_append.1 hu with hu | hu
    · exact uv_lt _ u hu
    · exact nat_lt k u hu)
  obtain ⟨x3, m3, c3, w3, p1, p2⟩ := h.push hl (H1.out.1.trans (q3.mono H1.out.1.size)) h4 (by rw [List.length_append, nat_length]; omega)
  exact ⟨y, _, c2, q1, x3, m3, c3, w3, p1, p2⟩

theorem Out.data {w v : World} {x : Option Addr} {m c : Nat} {l : List Nat} (h : Out w v x m c l) (hl : ∀ u ∈ l, u < 256) (y : Option Addr) (n d : Nat) (k : List Nat) (hk : Sl v y n d k) (hn : n ≤ 4096) (hs : l.length ≤ 2000000) :
    Calls Try.prog 21 #[.slice y n d] v fun e w2 => ∃ z m2 c2, e = .returned (.slice z m2 c2) ∧ Hid (Below v.heap.size v w2) ∧ ∃ x3 m3 c3 w3, (Builtin.append_ #[23, 23] 23 #[.slice x m c, .slice z m2 c2]).run Try.prog w2 = .ok (.slice x3 m3 c3) w3 ∧ Hid (Out w w3 x3 m3 c3 (l ++ (uv n ++ k))) := by
  refine (rbytes_any y n d k v hk (by omega)).mono fun e w2 ⟨R, q1, q2, q3⟩ => ?_
  have u10 := uv_ten (n := n) (by omega)
  obtain ⟨z, c2, rfl, h4, _⟩ := q2.sl (fun u hu => by
    rcases List.mem_append.1 hu with hu | hu
    · exact uv_lt _ u hu
    · exact hk.lt u hu)
  obtain ⟨x3, m3, c3, w3, p1, p2⟩ := h.push hl q3 h4 (by rw [List.length_append, hk.len]; omega)
  exact ⟨z, _, c2, q1, q3, x3, m3, c3, w3, p1, p2⟩

theorem cat_lt {l k : List Nat} (hl : ∀ u ∈ l, u < 256) (hk : ∀ u ∈ k, u < 256) : ∀ u ∈ l ++ k, u < 256 := fun u hu => by
  rcases List.mem_append.1 hu with hu | hu
  · exact hl u hu
  · exact hk u hu

theorem encL_lt {w : World} {a : Option Addr} {len : Nat} {V : Nat → AV} (h : ActsAt w a len V) {k : Nat} (hk : k ≤ len) : ∀ v ∈ uv len ++ encL (pas V k), v < 256 := fun v hv => by
  rcases List.mem_append.1 hv with hv | hv
  · exact uv_lt _ v hv
  · unfold encL at hv
    obtain ⟨p, hp, hv⟩ := List.mem_flatMap.1 hv
    obtain ⟨i, hi, rfl⟩ := pas_mem hp
    exact encA_lt (nat_lt _) (h.act i (by omega)).sl.lt v hv

set_option maxHeartbeats 1000000 in
theorem rencode_yes (a : Option Addr) (len cap : Nat) (V : Nat → AV) (w : World) (h : ActsAt w a len V) (h256 : len ≤ 256) (hokl : okL (pas V len)) (c : Nat) (o : List Nat) (hS : EncSays (pas V len) c o) :
    Calls Try.prog 6 #[.slice a len cap] w fun e w' => ∃ x m cx, e = .returned (.tuple #[.slice x m cx, .int .i64 (c : Int)]) ∧ EncTold w w' x m cx o := by
  have q0 : ¬ (256 : Int) < (len : Int) := by omega
  have hlt := enc_lt (pas_lt h)
  have u10 := uv_ten (n := len) (by omega)
  have hU : ∀ w1, Below w.heap.size w w1 → Calls Try.prog 20 #[.int .u64 (len : Int)] w1 fun e w' => ∃ x m cx, e = .returned (.slice x m cx) ∧ Hid (Out w w' x m cx (uv len ++ encL (pas V 0))) := fun w1 hb1 =>
    (ruvarint_any len w1 (by omega)).mono fun e w' ⟨R, h1, h2, h3⟩ => by
      obtain ⟨x, cx, rfl, _⟩ := h2.sl (uv_lt _)
      exact ⟨x, _, cx, h1, by simpa [pas, encL] using h2.mono hb1.size, hb1.trans (h3.mono hb1.size)⟩
  have HL := hid h
  have HO := hid hokl
  have HS := hid hS
  have HLT := hid hlt
  have HU := hid hU
  have hconv : ((len : Nat) : Int) % 18446744073709551616 = (len : Int) := by omega
  clear h hokl hS hlt hU
  go_enter Try.func6, Try.ntmps6
  go_wp2_with fail
  go_loopw [4] (fun i wr => ∃ k : Nat, k ≤ len ∧ i = .int .i64 k ∧ Hid (Below w.heap.size w wr)) (fun i _ => len - (intOf i).toNat)
  case atStart => exact ⟨0, by omega, rfl, Below.refl _ _⟩
  case round =>
    obtain ⟨k, hk, rfl, HR⟩ := hrel
    by_cases hkl : k < len
    · have hlt' : (k : Int) < (len : Int) := by omega
      rcases HL.out.row with h0 | ⟨b, o, rfl, hbl, hc⟩
      · omega
      obtain ⟨f0, f1, f2⟩ := hc k hkl
      have k0 := (HR.out.cell (p := ⟨b, o + k * 3, none⟩) hbl).trans f0
      have k1 := (HR.out.cell (p := ⟨b, o + k * 3 + 1, none⟩) hbl).trans f1
      have k2 := (HR.out.cell (p := ⟨b, o + k * 3 + 2, none⟩) hbl).trans f2
      have ho := HL.out.act k hkl
      have hd := okA_pa ho
      have HB1 : Hid (∀ w', Below wr.heap.size wr w' → Below w.heap.size w w') := fun w' hw => HR.out.trans (hw.mono HR.out.size)
      have hA := may_any (V k).key (V k).set (V k).x (V k).n (V k).c wr true (by rw [← hd]; simp [okL_lt HO.out hkl]) ho.ks ho.sm
      clear hc f0 f1 f2 ho hd HR
      generalize (V k).key = Kk at *
      generalize (V k).set = Ks at *
      generalize (V k).x = Kx at *
      generalize (V k).n = Kn at *
      generalize (V k).c = Kc at *
      go_wp2_with (go_at_call 19; refine hA.mono ?_; rintro e w1 ⟨rfl, hb1⟩; clear hA; (have HB2 := hid (HB1.out w1 hb1)); clear hb1 HB1)
      go_roundw
      case rel => exact ⟨k + 1, by omega, by go_num, HB2.out⟩
      case measure => simp [intOf]; omega
    · obtain rfl : k = len := by omega
      obtain ⟨w5, hw5⟩ : ∃ w5, w5 = wr := ⟨_, rfl⟩
      subst hw5
      have hU1 := HU.out w5 HR.out
      clear HU
      go_wp2_with (go_at_call 20; refine hU1.mono ?_; rintro e w2 ⟨x0, m0, c0, rfl, HR0⟩; clear hU1)
      go_loopw [5, 6] (fun out i wr => ∃ (j : Nat) (x : Option Addr) (m cx : Nat), j ≤ k ∧ out = .slice x m cx ∧ i = .int .i64 j ∧ Hid (Out w wr x m cx (uv k ++ encL (pas V j)))) (fun _ i _ => k - (intOf i).toNat)
      case atStart => exact ⟨0, x0, m0, c0, by omega, rfl, rfl, HR0.out⟩
      case round =>
        clear HR0 HR
        obtain ⟨j, x, m, cx, hj, rfl, rfl, HQ⟩ := hrel
        by_cases hjl : j < k
        · have hjl' : (j : Int) < (k : Int) := by omega
          rcases HL.out.row with h0 | ⟨b, o', rfl, hbl, hc⟩
          · omega
          obtain ⟨f0, f1, f2⟩ := hc j hjl
          have hbw := HQ.out.2
          have k0 := (hbw.cell (p := ⟨b, o' + j * 3, none⟩) hbl).trans f0
          have ho := HL.out.act j hjl
          have hoka := (okA_pa ho).1 (okL_lt HO.out hjl)
          have hn4 : (V j).n ≤ 4096 := by have := hoka.2; split at this <;> omega
          have hl0 := encL_lt HL.out hj
          have hle := encL_le V hj HO.out
          have hls : (uv k ++ encL (pas V j)).length ≤ 1100000 := by rw [List.length_append]; omega
          obtain ⟨cc, W1, hcv, hKB⟩ := HQ.out.key hl0 (V j).key hoka.1.2 (by omega)
          have hl1 := cat_lt hl0 (cat_lt (uv_lt (V j).key.size) (nat_lt (V j).key))
          have u1 := uv_ten (n := (V j).key.size) (by have := hoka.1.2; omega)
          have hls1 : (uv k ++ encL (pas V j) ++ (uv (V j).key.size ++ nat (V j).key)).length ≤ 1200000 := by
            have := hoka.1.2
            have h9 := hls
            simp only [List.length_append] at h9
            simp only [List.length_append, nat_length]
            omega
          have hfin : ∀ (s : List Nat), encA (pa (V j)) = uv (V j).key.size ++ nat (V j).key ++ s → uv k ++ encL (pas V j) ++ (uv (V j).key.size ++ nat (V j).key) ++ s = uv k ++ encL (pas V (j + 1)) := fun s hs => by
            rw [pas_succ, encL_snoc, hs]
            simp
          by_cases hset : (V j).set = true
          · -- set
            have HD : Hid (∀ w3 x3 m3 c3, Out w w3 x3 m3 c3 (uv k ++ encL (pas V j) ++ (uv (V j).key.size ++ nat (V j).key)) → w3.cell? ⟨b, o' + j * 3 + 1, none⟩ = some (.bool (V j).set) ∧ w3.cell? ⟨b, o' + j * 3 + 2, none⟩ = some (.slice (V j).x (V j).n (V j).c) ∧
                ∃ x4 m4 c4 w4, (Builtin.append_ #[23, 23] 23 #[.slice x3 m3 c3, .slice (some ⟨w3.heap.size, 0, none⟩) 1 1]).run Try.prog (w3.drew.alloc (.cells #[.int .u8 1] 5)) = .ok (.slice x4 m4 c4) w4 ∧ w4.cell? ⟨b, o' + j * 3 + 2, none⟩ = some (.slice (V j).x (V j).n (V j).c) ∧
                  Calls Try.prog 21 #[.slice (V j).x (V j).n (V j).c] w4 fun e w5 => ∃ y5 m5 c5, e = .returned (.slice y5 m5 c5) ∧ w5.cell? ⟨b, o' + j * 3 + 2, none⟩ = some (.slice (V j).x (V j).n (V j).c) ∧
                    ∃ x6 m6 c6 w6, (Builtin.append_ #[23, 23] 23 #[.slice x4 m4 c4, .slice y5 m5 c5]).run Try.prog w5 = .ok (.slice x6 m6 c6) w6 ∧ w6.cell? ⟨b, o' + j * 3 + 2, none⟩ = some (.slice (V j).x (V j).n (V j).c) ∧ Hid (Out w w6 x6 m6 c6 (uv k ++ encL (pas V (j + 1))))) := fun w3 x3 m3 c3 h3 => by
              have g1 := (h3.2.cell (p := ⟨b, o' + j * 3 + 1, none⟩) hbl).trans f1
              have g2 : ∀ {v y m c l}, Out w v y m c l → v.cell? ⟨b, o' + j * 3 + 2, none⟩ = some (.slice (V j).x (V j).n (V j).c) := fun hv => (hv.2.cell (p := ⟨b, o' + j * 3 + 2, none⟩) hbl).trans f2
              have hd3 : Out w w3.drew x3 m3 c3 _ := h3.below ((Below.refl _ _).drew)
              obtain ⟨x4, m4, c4, w4, p1, p2⟩ := hd3.one hl1 1 (by omega) (by omega)
              refine ⟨g1, g2 h3, x4, m4, c4, w4, p1, g2 p2, ?_⟩
              have hl4 := cat_lt hl1 (show ∀ u ∈ [1], u < 256 from fun u hu => by simp at hu; omega)
              refine (p2.data hl4 (V j).x (V j).n (V j).c (V j).d (ho.sl.below p2.2) hn4 (by rw [List.length_append]; simp only [List.length_cons, List.length_nil]; omega)).mono fun e w5 ⟨z, m2, c2, r1, r2, x6, m6, c6, w6, r3, r4⟩ => ⟨z, m2, c2, r1, g2 (p2.below r2.out), x6, m6, c6, w6, r3, g2 r4.out, ?_⟩
              have := r4.out
              rw [List.append_assoc _ [1], hfin ([1] ++ (uv (V j).n ++ (V j).d)) (by unfold encA pa; dsimp only; rw [if_pos hset, nat_length, ho.sl.len]; rfl)] at this
              exact this
            clear hc f0 f1 f2 hbw ho hoka hn4 hl0 hle hls hl1 u1 hls1 hfin HQ
            rw [hset] at HD
            generalize (V j).key = Kk at *
            generalize (V j).x = Kx at *
            generalize (V j).n = Kn at *
            generalize (V j).c = Kc at *
            generalize (V j).d = Kd at *
            go_wp2_with (first
              | (go_at_call 21; refine hKB.mono ?_; rintro e w3 ⟨y3, my3, cy3, rfl, x3, m3, c3, w4, hap, HN⟩; clear hKB
                 obtain ⟨s1, s2, x4, m4, c4, w5, hap2, s3, hB2⟩ := HD.out w4 x3 m3 c3 HN.out
                 clear HD HN)
              | (at_builtin; refine wpList_append_run rfl _ _ 23 rfl _ _ rfl rfl hap ?_; clear hap))
            refine wp_region_held_drew (S := fun v => v.cell? ⟨b, o' + j * 3 + 2, none⟩ = some (.slice Kx Kn Kc)) (by kernel_rfl) s2 (fun hHeld => ?_)
            refine wpAnyH_take (i := 0) (v := ?_) rfl (by kernel_rfl) (by kernel_rfl) (by kernel_rfl) (fun _ _ _ h => h) (Or.inl ⟨by rfl, ?_⟩) (by assumption) ?_
            case refine_2 => (intro w hSw; (try dsimp only at hSw); go_simp; (try with_reducible rfl))
            (try simp only [Act.put, List.getElem_toArray, List.getElem_cons_succ, List.getElem_cons_zero, List.setIfInBounds_toArray, List.set_cons_zero, List.set_cons_succ])
            refine wpAnyH_take (i := 3) (v := ?_) rfl (by kernel_rfl) (by kernel_rfl) (by kernel_rfl) (fun _ _ _ h => h) (Or.inl ⟨by rfl, ?_⟩) (by assumption) ?_
            case refine_2 => (intro w hSw; (try dsimp only at hSw); go_simp; (try with_reducible rfl))
            (try simp only [Act.put, List.getElem_toArray, List.getElem_cons_succ, List.getElem_cons_zero, List.setIfInBounds_toArray, List.set_cons_zero, List.set_cons_succ])
            refine wpAnyH_take (i := 4) (v := ?_) rfl (by kernel_rfl) (by kernel_rfl) (by kernel_rfl) (fun _ _ _ h => h) (Or.inl ⟨by rfl, ?_⟩) (by assumption) ?_
            case refine_2 => (intro w hSw; (try dsimp only at hSw); go_simp; (try with_reducible rfl))
            (try simp only [Act.put, List.getElem_toArray, List.getElem_cons_succ, List.getElem_cons_zero, List.setIfInBounds_toArray, List.set_cons_zero, List.set_cons_succ])
            refine wpAnyH_take (i := 5) (v := ?_) rfl (by kernel_rfl) (by kernel_rfl) (by kernel_rfl) (fun _ _ _ h => h) (Or.inl ⟨by rfl, ?_⟩) (by assumption) ?_
            case refine_2 => (intro w hSw; (try dsimp only at hSw); go_simp; (try with_reducible rfl))
            (try simp only [Act.put, List.getElem_toArray, List.getElem_cons_succ, List.getElem_cons_zero, List.setIfInBounds_toArray, List.set_cons_zero, List.set_cons_succ])
            refine wpAnyH_take (i := 6) (v := ?_) rfl (by kernel_rfl) (by kernel_rfl) (by kernel_rfl) (fun _ _ _ h => h) (Or.inl ⟨by rfl, ?_⟩) (by assumption) ?_
            case refine_2 => (intro w hSw; (try dsimp only at hSw); go_simp; (try with_reducible rfl))
            (try simp only [Act.put, List.getElem_toArray, List.getElem_cons_succ, List.getElem_cons_zero, List.setIfInBounds_toArray, List.set_cons_zero, List.set_cons_succ])
            refine wpAnyH_take (i := 7) (v := ?_) rfl (by kernel_rfl) (by kernel_rfl) (by kernel_rfl) (fun _ _ _ h => h) (Or.inl ⟨by rfl, ?_⟩) (by assumption) ?_
            case refine_2 => (intro w hSw; (try dsimp only at hSw); go_simp; (try with_reducible rfl))
            (try simp only [Act.put, List.getElem_toArray, List.getElem_cons_succ, List.getElem_cons_zero, List.setIfInBounds_toArray, List.set_cons_zero, List.set_cons_succ])
            refine wpAnyH_ready (rs := [1]) (by kernel_rfl) (by simp) ?_
            refine AllReadyH.cons rfl (fun K hK => ?_) AllReadyH.nil
            go_simp
            refine hK.out _ _ ((((Below.refl w4.heap.size w4.drew).alloc (Nat.le_refl _) _).cell (p := ⟨b, o' + j * 3 + 2, none⟩) (cell_lt' s2)).trans s2) (fun hHeld => ?_)
            clear hK K
            refine wpAnyH_ready (rs := [2]) (by kernel_rfl) (by simp) ?_
            refine AllReadyH.cons rfl (fun K hK => ?_) AllReadyH.nil
            refine st_append rfl _ _ 23 rfl _ _ rfl rfl hap2 ?_
            (try simp only [Act.put, List.getElem_toArray, List.getElem_cons_succ, List.getElem_cons_zero, List.setIfInBounds_toArray, List.set_cons_zero, List.set_cons_succ])
            refine hK.out _ _ s3 (fun hHeld => ?_)
            clear hK K
            refine wpAnyH_ready (rs := [8]) (by kernel_rfl) (by simp) ?_
            refine AllReadyH.cons rfl (fun K hK => ?_) AllReadyH.nil
            go_simp
            refine hB2.mono ?_
            rintro e w6 ⟨y5, m5, c5, rfl, s4, x6, m6, c6, w7, hap3, s5, HN⟩
            clear hB2
            refine hK.out _ _ s4 (fun hHeld => ?_)
            clear hK K
            refine wpAnyH_ready (rs := [9]) (by kernel_rfl) (by simp) ?_
            refine AllReadyH.cons rfl (fun K hK => ?_) AllReadyH.nil
            refine st_append rfl _ _ 23 rfl _ _ rfl rfl hap3 ?_
            (try simp only [Act.put, List.getElem_toArray, List.getElem_cons_succ, List.getElem_cons_zero, List.setIfInBounds_toArray, List.set_cons_zero, List.set_cons_succ])
            refine hK.out _ _ s5 (fun hHeld => ?_)
            clear hK K
            refine wpAnyH_take (i := 10) (v := ?_) rfl (by kernel_rfl) (by kernel_rfl) (by kernel_rfl) (fun _ _ _ h => h) (Or.inl ⟨by rfl, ?_⟩) (by assumption) ?_
            case refine_2 => (intro w hSw; (try dsimp only at hSw); go_simp; (try with_reducible rfl))
            (try simp only [Act.put, List.getElem_toArray, List.getElem_cons_succ, List.getElem_cons_zero, List.setIfInBounds_toArray, List.set_cons_zero, List.set_cons_succ])
            refine wpAnyH_done (by kernel_rfl) ?_ _
            go_wp2_with fail
            go_roundw
            case rel => exact ⟨j + 1, x6, m6, c6, by omega, rfl, by go_num, HN.out⟩
            case measure => simp [intOf]; omega
          · have hset' : (V j).set = false := by simpa using hset
            have HD : Hid (∀ w3 x3 m3 c3, Out w w3 x3 m3 c3 (uv k ++ encL (pas V j) ++ (uv (V j).key.size ++ nat (V j).key)) → w3.cell? ⟨b, o' + j * 3 + 1, none⟩ = some (.bool (V j).set) ∧
                ∃ x4 m4 c4 w4, (Builtin.append_ #[23, 23] 23 #[.slice x3 m3 c3, .slice (some ⟨w3.heap.size, 0, none⟩) 1 1]).run Try.prog (w3.alloc (.cells #[.int .u8 0] 5)) = .ok (.slice x4 m4 c4) w4 ∧ Hid (Out w w4 x4 m4 c4 (uv k ++ encL (pas V (j + 1))))) := fun w3 x3 m3 c3 h3 => by
              have g1 := (h3.2.cell (p := ⟨b, o' + j * 3 + 1, none⟩) hbl).trans f1
              obtain ⟨x4, m4, c4, w4, p1, p2⟩ := h3.one hl1 0 (by omega) (by omega)
              refine ⟨g1, x4, m4, c4, w4, p1, ?_⟩
              rw [hfin [0] (by unfold encA pa; dsimp only; rw [if_neg (by simp [hset']), nat_length])] at p2
              exact p2
            clear hc f0 f1 f2 hbw ho hoka hn4 hl0 hle hls hl1 u1 hls1 hfin HQ hset
            rw [hset'] at HD
            generalize (V j).key = Kk at *
            go_wp2_with (first
              | (go_at_call 21; refine hKB.mono ?_; rintro e w3 ⟨y3, my3, cy3, rfl, x3, m3, c3, w4, hap, HN⟩; clear hKB
                 obtain ⟨s1, x4, m4, c4, w5, hap2, HN2⟩ := HD.out w4 x3 m3 c3 HN.out
                 clear HD HN)
              | (at_builtin; refine wpList_append_run rfl _ _ 23 rfl _ _ rfl rfl hap ?_; clear hap)
              | (at_builtin; refine wpList_append_run rfl _ _ 23 rfl _ _ rfl rfl hap2 ?_; clear hap2))
            go_roundw
            case rel => exact ⟨j + 1, x4, m4, c4, by omega, rfl, by go_num, HN2.out⟩
            case measure => simp [intOf]; omega
        · obtain rfl : j = k := by omega
          have hfin := HQ.out
          have henc : uv j ++ encL (pas V j) = enc (pas V j) := by unfold enc; rw [pas_len]
          rw [henc] at hfin
          obtain ⟨x', c', he, hsl, hblk⟩ := hfin.1.sl HLT.out
          injection he with e1 e2 e3
          subst e1
          subst e2
          subst e3
          have HF := hid (And.intro hsl (And.intro hblk hfin.2))
          have hS := HS.out
          have hnn : (pas V j).length ≤ 256 ∧ okL (pas V j) := ⟨by rw [pas_len]; exact h256, HO.out⟩
          clear HQ hfin hsl hblk HL HO
          rcases hS with ⟨hno, _⟩ | ⟨_, hlong, rfl, rfl⟩ | ⟨_, hlong, rfl, rfl⟩
          · exact absurd hnn hno
          · have q0 : (13005 : Int) < ((enc (pas V j)).length : Int) := by omega
            clear HS henc hlong hnn
            generalize (enc (pas V j)).length = M at *
            go_wp2_with fail
            go_ret2
            exact ⟨none, 0, 0, rfl, Sl.empty _, (fun a ha => by cases ha), HF.out.2.2⟩
          · have q0 : ¬ (13005 : Int) < ((enc (pas V j)).length : Int) := by omega
            clear HS henc hlong hnn
            generalize hM : (enc (pas V j)).length = M at *
            have HM := hid hM
            clear hM
            go_wp2_with fail
            go_ret2
            exact ⟨_, _, _, rfl, HF.out.1, HF.out.2.1, HF.out.2.2⟩

theorem rencode_any (a : Option Addr) (len cap : Nat) (V : Nat → AV) (w : World) (h : ActsAt w a len V) (hl : len ≤ 140737488351232) (c : Nat) (o : List Nat) (hS : EncSays (pas V len) c o) :
    Calls Try.prog 6 #[.slice a len cap] w fun e w' => ∃ x m cx, e = .returned (.tuple #[.slice x m cx, .int .i64 (c : Int)]) ∧ EncTold w w' x m cx o := by
  by_cases hok : len ≤ 256 ∧ okL (pas V len)
  · exact rencode_yes a len cap V w h hok.1 hok.2 c o hS
  · have hc : c = 1 ∧ o = [] := by
      rcases hS with ⟨_, h1⟩ | ⟨h1, _⟩ | ⟨h1, _⟩
      · exact h1
      · rw [pas_len] at h1; exact absurd h1 hok
      · rw [pas_len] at h1; exact absurd h1 hok
    obtain ⟨rfl, rfl⟩ := hc
    exact (rencode_no a len cap V w h hl hok).mono fun e w' ⟨h1, h2⟩ => ⟨none, 0, 0, h1, Sl.empty _, (fun a ha => by cases ha), h2⟩

end Go.Proofs.Ytbbjklenpgkooaa

/-
  The document's Same of package store: lists that are alike.
  Conditions: the acts lie in memory.
-/
namespace Go.Proofs.Ytbbjklenpgkooaa
open Go.RowKit By Dk Wi St
set_option linter.unusedVariables false
set_option linter.unusedSimpArgs false
set_option maxRecDepth 100000

theorem ActsAt.drewN {w : World} {a : Option Addr} {len : Nat} {V : Nat → AV} (h : ActsAt w a len V) (m : Nat) : ActsAt (w.drewN m) a len V := h.below ⟨rfl, rfl, rfl, Nat.le_refl _, fun _ _ => rfl⟩

theorem pa_parts {v u : AV} (h : pa v = pa u) : v.key = u.key ∧ v.set = u.set ∧ v.d = u.d := by
  unfold pa at h
  injection h with h1 h2 h3
  exact ⟨nat_inj h1, h2, h3⟩

theorem pas_at {V U : Nat → AV} {n i : Nat} (h : pas V n = pas U n) (hi : i < n) : pa (V i) = pa (U i) := by
  have := congrArg (fun l => l[i]?) h
  simpa [pas, hi] using this

set_option maxHeartbeats 1000000 in
theorem rsame_yes (a b : Option Addr) (n ca cb : Nat) (V U : Nat → AV) (w : World) (h1 : ActsAt w a n V) (h2 : ActsAt w b n U) (he : pas V n = pas U n) (hn : n ≤ 140737488351232) :
    Calls Try.prog 9 #[.slice a n ca, .slice b n cb] w fun e w' => e = .returned (.bool true) ∧ Below w.heap.size w w' := by
  have H1 := hid h1
  have H2 := hid h2
  have HE := hid he
  clear h1 h2 he
  go_enter Try.func9, Try.ntmps9
  go_wp2_with fail
  go_loopw [5] (fun i wr => ∃ k m : Nat, k ≤ n ∧ i = .int .i64 k ∧ Hid (wr = w.drewN m)) (fun i _ => n - (intOf i).toNat)
  case atStart => exact ⟨0, 0, by omega, rfl, rfl⟩
  case round =>
    obtain ⟨k, m, hk, rfl, HW⟩ := hrel
    by_cases hkl : k < n
    · have hkl' : (k : Int) < (n : Int) := by omega
      rcases H1.out.row with h0 | ⟨ba, oa, rfl, hba, hca⟩
      · omega
      rcases H2.out.row with h0 | ⟨bb, ob, rfl, hbb, hcb⟩
      · omega
      obtain ⟨e1, e2, e3⟩ := pa_parts (pas_at HE.out hkl)
      obtain ⟨f0, f1, f2⟩ := hca k hkl
      obtain ⟨g0, g1, g2⟩ := hcb k hkl
      have hw := HW.out
      have k0 : wr.cell? ⟨ba, oa + k * 3, none⟩ = some (.string (V k).key) := by rw [hw]; exact f0
      have k1 : wr.cell? ⟨ba, oa + k * 3 + 1, none⟩ = some (.bool (V k).set) := by rw [hw]; exact f1
      have k2 : wr.cell? ⟨ba, oa + k * 3 + 2, none⟩ = some (.slice (V k).x (V k).n (V k).c) := by rw [hw]; exact f2
      have l0 : wr.cell? ⟨bb, ob + k * 3, none⟩ = some (.string (V k).key) := by rw [hw, e1]; exact g0
      have l1 : wr.cell? ⟨bb, ob + k * 3 + 1, none⟩ = some (.bool (V k).set) := by rw [hw, e2]; exact g1
      have l2 : wr.cell? ⟨bb, ob + k * 3 + 2, none⟩ = some (.slice (U k).x (U k).n (U k).c) := by rw [hw]; exact g2
      have c1 : ∀ q, (convert 23 9 (.slice (V k).x (V k).n (V k).c)).run Try.prog (wr.drewN q) = .ok (.string (str (V k).d)) (wr.drewN q) := fun q => by
        rw [hw, World.drewN_drewN]; exact conv_sl (((H1.out.drewN _).act k hkl).sl)
      have c2 : ∀ q, (convert 23 9 (.slice (U k).x (U k).n (U k).c)).run Try.prog (wr.drewN q) = .ok (.string (str (V k).d)) (wr.drewN q) := fun q => by
        rw [hw, World.drewN_drewN, e3]; exact conv_sl (((H2.out.drewN _).act k hkl).sl)
      clear hca hcb f0 f1 f2 g0 g1 g2 e1 e2 e3 hw
      generalize (V k).key = Kk at *
      generalize (V k).set = Ks at *
      generalize (V k).x = Kx at *
      generalize (V k).n = Kn at *
      generalize (V k).c = Kc at *
      generalize (U k).x = Ux at *
      generalize (U k).n = Un at *
      generalize (U k).c = Uc at *
      generalize str (V k).d = Kd at *
      go_wp2_with fail
      go_quiet (fail)
      go_wp2_with fail
      go_roundw
      case rel => exact ⟨k + 1, m + nq, by omega, by go_num, by rw [HW.out, World.drewN_drewN]; exact hid rfl⟩
      case measure => simp [intOf]; omega
    · obtain rfl : k = n := by omega
      go_wp2_with fail
      go_ret
      exact ⟨rfl, by rw [HW.out]; exact below_drewN' (Below.refl _ _) m⟩

end Go.Proofs.Ytbbjklenpgkooaa

/-
  5 texts of this proof, one behind the other: StSmall, StEnc, StEncode, StDec, StDecode.
-/
import Derived.Test.YtbbjklenpgkooaaGreatJ11
import Derived.Deep.RegionHeld3
import Derived.Test.YtbbjklenpgkooaaGreatJ10
import Derived.Laws.ResultCell
import Derived.Laws.MakeOwn
/-
  Package store's isAct, isBatch and actBytes.
  Conditions: the acts lie in memory.
-/
namespace Go.Proofs.YtbbjklenpgkooaaGreat
open Go.RowKit By Dk Wi St
set_option linter.unusedVariables false
set_option linter.unusedSimpArgs false
set_option maxRecDepth 100000

theorem isact_any (k : ByteArray) (s : Bool) (x : Option Addr) (n c : Nat) (w : World) (t : Bool) (ht : t = true ↔ (1 ≤ k.size ∧ k.size ≤ 64) ∧ n ≤ (if s = true then 4096 else 0)) (hk : k.size ≤ 140737488351232) (hn : n ≤ 140737488351232) :
    Calls Tryz.prog 55 #[.agg #[.string k, .bool s, .slice x n c]] w fun e w' => e = .returned (.bool t) ∧ Below w.heap.size w w' := by
  have hb : Below w.heap.size w (w.alloc (.cells #[.string k, .bool s, .slice x n c] 54)) := (Below.refl _ _).alloc (Nat.le_refl _) _
  have HB := hid hb
  clear hb
  cases s with
  | true =>
    rw [if_pos rfl] at ht
    by_cases h1 : 1 ≤ k.size
    · by_cases h2 : k.size ≤ 64
      · by_cases h3 : n ≤ 4096
        · obtain rfl : t = true := ht.2 ⟨⟨h1, h2⟩, h3⟩
          have q1 : (1 : Int) ≤ (k.size : Int) := by omega
          have q2 : (k.size : Int) ≤ 64 := by omega
          have q3 : (n : Int) ≤ 4096 := by omega
          clear ht h1 h2 h3
          go_enter Tryz.func55, Tryz.ntmps55
          go_wp2_with fail
          go_ret
          exact ⟨by first | (simp [*]; done) | (simp [*]; omega), HB.out⟩
        · obtain rfl : t = false := by cases t; rfl; exact absurd (ht.1 rfl).2 h3
          have q1 : (1 : Int) ≤ (k.size : Int) := by omega
          have q2 : (k.size : Int) ≤ 64 := by omega
          have q3 : ¬ (n : Int) ≤ 4096 := by omega
          clear ht h1 h2 h3
          go_enter Tryz.func55, Tryz.ntmps55
          go_wp2_with fail
          go_ret
          exact ⟨by first | (simp [*]; done) | (simp [*]; omega), HB.out⟩
      · obtain rfl : t = false := by cases t; rfl; exact absurd (ht.1 rfl).1.2 h2
        have q1 : (1 : Int) ≤ (k.size : Int) := by omega
        have q2 : ¬ (k.size : Int) ≤ 64 := by omega
        clear ht h1 h2
        go_enter Tryz.func55, Tryz.ntmps55
        go_wp2_with fail
        go_ret
        exact ⟨by simp [*], HB.out⟩
    · obtain rfl : t = false := by cases t; rfl; exact absurd (ht.1 rfl).1.1 h1
      have q1 : ¬ (1 : Int) ≤ (k.size : Int) := by omega
      clear ht h1
      go_enter Tryz.func55, Tryz.ntmps55
      go_wp2_with fail
      go_ret
      exact ⟨by simp [*], HB.out⟩
  | false =>
    rw [if_neg (show ¬ (false = true) by simp)] at ht
    by_cases h1 : 1 ≤ k.size
    · by_cases h2 : k.size ≤ 64
      · by_cases h3 : n ≤ 0
        · obtain rfl : t = true := ht.2 ⟨⟨h1, h2⟩, h3⟩
          have q1 : (1 : Int) ≤ (k.size : Int) := by omega
          have q2 : (k.size : Int) ≤ 64 := by omega
          have q3 : (n : Int) ≤ 0 := by omega
          clear ht h1 h2 h3
          go_enter Tryz.func55, Tryz.ntmps55
          go_wp2_with fail
          go_ret
          exact ⟨by first | (simp [*]; done) | (simp [*]; omega), HB.out⟩
        · obtain rfl : t = false := by cases t; rfl; exact absurd (ht.1 rfl).2 h3
          have q1 : (1 : Int) ≤ (k.size : Int) := by omega
          have q2 : (k.size : Int) ≤ 64 := by omega
          have q3 : ¬ (n : Int) ≤ 0 := by omega
          clear ht h1 h2 h3
          go_enter Tryz.func55, Tryz.ntmps55
          go_wp2_with fail
          go_ret
          exact ⟨by first | (simp [*]; done) | (simp [*]; omega), HB.out⟩
      · obtain rfl : t = false := by cases t; rfl; exact absurd (ht.1 rfl).1.2 h2
        have q1 : (1 : Int) ≤ (k.size : Int) := by omega
        have q2 : ¬ (k.size : Int) ≤ 64 := by omega
        clear ht h1 h2
        go_enter Tryz.func55, Tryz.ntmps55
        go_wp2_with fail
        go_ret
        exact ⟨by simp [*], HB.out⟩
    · obtain rfl : t = false := by cases t; rfl; exact absurd (ht.1 rfl).1.1 h1
      have q1 : ¬ (1 : Int) ≤ (k.size : Int) := by omega
      clear ht h1
      go_enter Tryz.func55, Tryz.ntmps55
      go_wp2_with fail
      go_ret
      exact ⟨by simp [*], HB.out⟩

theorem okA_pa {v : AV} {w : World} (h : ActOk w v) : okA (pa v) ↔ (1 ≤ v.key.size ∧ v.key.size ≤ 64) ∧ v.n ≤ (if v.set = true then 4096 else 0) := by
  unfold okA pa
  dsimp only
  rw [nat_length, h.sl.len]

theorem okL_lt {V : Nat → AV} {n k : Nat} (h : okL (pas V n)) (hk : k < n) : okA (pa (V k)) := h _ (mem_pas V hk)

theorem okL_succ {V : Nat → AV} {k : Nat} (h : okL (pas V k)) (h2 : okA (pa (V k))) : okL (pas V (k + 1)) := by
  rw [pas_succ]
  intro a ha
  rcases List.mem_append.1 ha with ha | ha
  · exact h a ha
  · simp at ha; subst ha; exact h2

theorem isbatch_any (a : Option Addr) (len cap : Nat) (V : Nat → AV) (w : World) (t : Bool) (h : ActsAt w a len V) (hl : len ≤ 140737488351232) (ht : t = true ↔ len ≤ 256 ∧ okL (pas V len)) :
    Calls Tryz.prog 27 #[.slice a len cap] w fun e w' => e = .returned (.bool t) ∧ Below w.heap.size w w' := by
  by_cases h256 : len ≤ 256
  · have q0 : ¬ (256 : Int) < (len : Int) := by omega
    have HL := hid h
    have HT := hid ht
    clear h ht
    go_enter Tryz.func27, Tryz.ntmps27
    go_wp2_with fail
    go_loopw [10] (fun i wr => ∃ k : Nat, k ≤ len ∧ i = .int .i64 k ∧ Hid (okL (pas V k) ∧ Below w.heap.size w wr)) (fun i _ => len - (intOf i).toNat)
    case atStart => exact ⟨0, by omega, rfl, ⟨(fun a ha => by cases ha), Below.refl _ _⟩⟩
    case round =>
      obtain ⟨k, hk, rfl, HR⟩ := hrel
      by_cases hlt : k < len
      · have hlt' : (k : Int) < (len : Int) := by omega
        rcases HL.out.row with h0 | ⟨b, o, rfl, hbl, hc⟩
        · omega
        obtain ⟨f0, f1, f2⟩ := hc k hlt
        have k0 := (HR.out.2.cell (p := ⟨b, o + k * 3, none⟩) hbl).trans f0
        have k1 := (HR.out.2.cell (p := ⟨b, o + k * 3 + 1, none⟩) hbl).trans f1
        have k2 := (HR.out.2.cell (p := ⟨b, o + k * 3 + 2, none⟩) hbl).trans f2
        have ho := HL.out.act k hlt
        have hd := okA_pa ho
        have hks := ho.ks
        have hsm := ho.sm
        have HB1 : Hid (∀ w', Below (wr.heap.size + 1) (wr.alloc (.cells #[.string (V k).key, .bool (V k).set, .slice (V k).x (V k).n (V k).c] 54)) w' → Below w.heap.size w w') := fun w' hw => HR.out.2.trans (((Below.refl _ _).alloc HR.out.2.size _).trans (hw.mono (by have := HR.out.2.size; omega)))
        by_cases hok : okA (pa (V k))
        · have hA := isact_any (V k).key (V k).set (V k).x (V k).n (V k).c (wr.alloc (.cells #[.string (V k).key, .bool (V k).set, .slice (V k).x (V k).n (V k).c] 54)) true (by rw [← hd]; simp [hok]) hks hsm
          have HO := hid (okL_succ HR.out.1 hok)
          clear hc f0 f1 f2 ho hd hok HR hks hsm
          generalize (V k).key = Kk at *
          generalize (V k).set = Ks at *
          generalize (V k).x = Kx at *
          generalize (V k).n = Kn at *
          generalize (V k).c = Kc at *
          go_wp2_with (go_at_call 55; refine hA.mono ?_; rintro e w1 ⟨rfl, hb1⟩; clear hA; (have HB2 := hid (HB1.out w1 (by simpa using hb1))); clear hb1 HB1)
          go_roundw
          case rel => exact ⟨k + 1, by omega, by go_num, ⟨HO.out, HB2.out⟩⟩
          case measure => simp [intOf]; omega
        · have hA := isact_any (V k).key (V k).set (V k).x (V k).n (V k).c (wr.alloc (.cells #[.string (V k).key, .bool (V k).set, .slice (V k).x (V k).n (V k).c] 54)) false (by rw [← hd]; simp [hok]) hks hsm
          have htf : t = false := by
            cases t
            · rfl
            · exact absurd (okL_lt (HT.out.1 rfl).2 hlt) hok
          clear hc f0 f1 f2 ho hd hok HR hks hsm HT
          subst htf
          generalize (V k).key = Kk at *
          generalize (V k).set = Ks at *
          generalize (V k).x = Kx at *
          generalize (V k).n = Kn at *
          generalize (V k).c = Kc at *
          go_wp2_with (go_at_call 55; refine hA.mono ?_; rintro e w1 ⟨rfl, hb1⟩; clear hA; (have HB2 := hid (HB1.out w1 (by simpa using hb1))); clear hb1 HB1)
          go_ret
          exact ⟨rfl, HB2.out⟩
      · obtain rfl : k = len := by omega
        have htt : t = true := HT.out.2 ⟨h256, HR.out.1⟩
        subst htt
        go_wp2_with fail
        go_ret
        exact ⟨rfl, HR.out.2⟩
  · have q0 : (256 : Int) < (len : Int) := by omega
    have htf : t = false := by
      cases t
      · rfl
      · exact absurd (ht.1 rfl).1 h256
    subst htf
    clear h ht
    go_enter Tryz.func27, Tryz.ntmps27
    go_wp2_with fail
    go_ret
    exact ⟨rfl, Below.refl _ _⟩

end Go.Proofs.YtbbjklenpgkooaaGreat

/-
  Package store's actBytes and Encode.
  Conditions: the acts lie in memory.
-/
namespace Go.Proofs.YtbbjklenpgkooaaGreat
open Go.RowKit By Dk Wi St
set_option linter.unusedVariables false
set_option linter.unusedSimpArgs false
set_option maxRecDepth 100000

theorem OwnL.sl' {w : World} {base : Nat} {v : Value} {l : List Nat} {m : Nat} (h : OwnL w base v l) (hl : ∀ u ∈ l, u < 256) (hm : l.length = m) :
    ∃ x c, v = .slice x m c ∧ Sl w x m c l ∧ ∀ a, x = some a → base ≤ a.block ∧ a.block < w.heap.size := by
  subst hm
  exact h.sl hl

theorem actbytes_any (k : ByteArray) (s : Bool) (x : Option Addr) (n c : Nat) (d : List Nat) (w : World) (hd : Sl w x n c d) (hk : k.size ≤ 64) (hn : n ≤ 4096) :
    Calls Tryz.prog 68 #[.agg #[.string k, .bool s, .slice x n c]] w fun e w' => ∃ R, e = .returned R ∧ OwnL w' w.heap.size R (encA ⟨nat k, s, d⟩) ∧ Below w.heap.size w w' := by
  have hb0 : Below w.heap.size w (w.alloc (.cells #[.string k, .bool s, .slice x n c] 54)) := (Below.refl _ _).alloc (Nat.le_refl _) _
  obtain ⟨cc, W1, hcv, HC⟩ := conv_text k (w.alloc (.cells #[.string k, .bool s, .slice x n c] 54))
  obtain ⟨hb1, hs1⟩ := HC.out
  have hsz : (w.alloc (.cells #[.string k, .bool s, .slice x n c] 54)).heap.size = w.heap.size + 1 := by simp
  have hd1 := hd.below (hb0.trans (hb1.mono hb0.size))
  have hkl : (nat k).length = k.size := nat_length k
  have u1 := uv_ten (n := k.size) (by omega)
  have hlk : ∀ v ∈ uv k.size ++ nat k, v < 256 := fun v hv => by
    rcases List.mem_append.1 hv with h | h
    · exact uv_lt _ v h
    · exact nat_lt k v h
  have hB1 : Calls Tryz.prog 85 #[.slice none 0 0, .slice (some ⟨w.heap.size + 1, 0, none⟩) k.size cc] W1 fun e w' => ∃ y m cy, e = .returned (.slice y m cy) ∧ Hid (m = (uv k.size ++ nat k).length ∧ Sl w' y m cy (uv k.size ++ nat k) ∧ Below w.heap.size w w' ∧ Sl w' x n c d) ∧ w'.cell? ⟨w.heap.size, 1, none⟩ = some (.bool s) ∧ w'.cell? ⟨w.heap.size, 2, none⟩ = some (.slice x n c) := by
    rw [hsz] at hs1
    refine (bytes_any none 0 0 [] _ k.size cc (nat k) W1 (Sl.empty W1) hs1 (by omega)).mono fun e w' ⟨R, h1, h2, h3⟩ => ?_
    rw [List.nil_append] at h2
    obtain ⟨y, cy, h4, h5, _⟩ := OwnL.sl' h2 hlk rfl
    have hsz1 : w.heap.size + 1 ≤ W1.heap.size := by have := hb1.size; rw [hsz] at this; exact this
    have hbb := hb0.trans (hb1.mono hb0.size)
    have hc1 : W1.cell? ⟨w.heap.size, 1, none⟩ = some (.bool s) := (hb1.cell (p := ⟨w.heap.size, 1, none⟩) (by rw [hsz]; exact Nat.lt_succ_self _)).trans (by simp)
    have hc2 : W1.cell? ⟨w.heap.size, 2, none⟩ = some (.slice x n c) := (hb1.cell (p := ⟨w.heap.size, 2, none⟩) (by rw [hsz]; exact Nat.lt_succ_self _)).trans (by simp)
    refine ⟨y, _, cy, by rw [h1, h4], ⟨rfl, h5, hbb.trans (h3.mono (by omega)), hd1.below h3⟩, (h3.cell (p := ⟨w.heap.size, 1, none⟩) (by show w.heap.size < W1.heap.size; omega)).trans hc1, (h3.cell (p := ⟨w.heap.size, 2, none⟩) (by show w.heap.size < W1.heap.size; omega)).trans hc2⟩
  rw [hsz] at hcv
  clear hb0 HC hb1 hs1 hd1 hd
  cases s with
  | false =>
    go_enter Tryz.func68, Tryz.ntmps68
    go_wp2_with (first
      | (go_at_call 85; refine hB1.mono ?_; rintro e w2 ⟨y, m, cy, rfl, HQ, hc1, hc2⟩; clear hB1
         have hU : Calls Tryz.prog 67 #[.slice y m cy, .int .u64 0] w2 fun e w' => ∃ R, e = .returned R ∧ Hid (OwnL w' w.heap.size R (uv k.size ++ nat k ++ [0]) ∧ Below w.heap.size w w') := by
           obtain ⟨q1, q2, q3, q4⟩ := HQ.out
           refine (uvarint_any y m cy _ 0 w2 q2 (by omega) (by rw [q1, List.length_append]; omega)).mono fun e w' ⟨R, h1, h2, h3⟩ => ⟨R, h1, ?_, q3.trans (h3.mono q3.size)⟩
           rw [uv_small (show 0 < 128 by omega)] at h2
           exact h2.mono q3.size)
      | (go_at_call 67; refine hU.mono ?_; rintro e w3 ⟨R, rfl, HR⟩; clear hU))
    go_ret
    refine ⟨_, rfl, ?_, HR.out.2⟩
    have := HR.out.1
    unfold encA
    rw [if_neg (show ¬ (false = true) by simp), hkl]
    exact this
  | true =>
    go_enter Tryz.func68, Tryz.ntmps68
    go_wp2_with (first
      | (go_at_call 85; refine hB1.mono ?_; rintro e w2 ⟨y, m, cy, rfl, HQ, hc1, hc2⟩; clear hB1))
    have hU : Calls Tryz.prog 67 #[.slice y m cy, .int .u64 1] w2.drew fun e w' => ∃ y' m' cy', e = .returned (.slice y' m' cy') ∧ Hid (m' = (uv k.size ++ nat k ++ [1]).length ∧ Sl w' y' m' cy' (uv k.size ++ nat k ++ [1]) ∧ Below w.heap.size w w' ∧ Sl w' x n c d) ∧ w'.cell? ⟨w.heap.size, 2, none⟩ = some (.slice x n c) := by
      obtain ⟨q1, q2, q3, q4⟩ := HQ.out
      have hbd : Below w2.heap.size w2 w2.drew := (Below.refl _ _).drew
      refine (uvarint_any y m cy _ 1 w2.drew (q2.below hbd) (by omega) (by rw [q1, List.length_append]; omega)).mono fun e w' ⟨R, h1, h2, h3⟩ => ?_
      rw [uv_small (show 1 < 128 by omega)] at h2
      obtain ⟨y', cy', h4, h5, _⟩ := OwnL.sl' h2 (fun v hv => by
        rcases List.mem_append.1 hv with h | h
        · exact hlk v h
        · simp at h; omega) rfl
      have hlt : w.heap.size < w2.heap.size := cell_lt' hc2
      exact ⟨y', _, cy', by rw [h1, h4], ⟨rfl, h5, (q3.trans (hbd.mono q3.size)).trans (h3.mono q3.size), (q4.below hbd).below h3⟩, (h3.cell (p := ⟨w.heap.size, 2, none⟩) hlt).trans hc2⟩
    have hB : ∀ v y' m' cy', m' = (uv k.size ++ nat k ++ [1]).length ∧ Sl v y' m' cy' (uv k.size ++ nat k ++ [1]) ∧ Below w.heap.size w v ∧ Sl v x n c d → v.cell? ⟨w.heap.size, 2, none⟩ = some (.slice x n c) → Calls Tryz.prog 85 #[.slice y' m' cy', .slice x n c] v fun e w' => ∃ R, e = .returned R ∧ Hid (OwnL w' w.heap.size R (encA ⟨nat k, true, d⟩) ∧ Below w.heap.size w w') ∧ w'.cell? ⟨w.heap.size, 2, none⟩ = some (.slice x n c) := fun v y' m' cy' ⟨q1, q2, q3, q4⟩ hcell => by
      refine (bytes_any y' m' cy' _ x n c d v q2 q4 (by rw [q1]; simp only [List.length_append, List.length_cons, List.length_nil]; omega)).mono fun e w' ⟨R, h1, h2, h3⟩ => ⟨R, h1, ⟨?_, q3.trans (h3.mono q3.size)⟩, (h3.cell (p := ⟨w.heap.size, 2, none⟩) (cell_lt' hcell)).trans hcell⟩
      unfold encA
      rw [if_pos rfl, hkl, q4.len]
      have e : uv k.size ++ nat k ++ [1] ++ (uv n ++ d) = uv k.size ++ nat k ++ 1 :: (uv n ++ d) := by simp
      rw [e] at h2
      exact h2.mono q3.size
    have HBB := hid hB
    clear hB HQ
    refine wp_region_held_drew (S := fun v => v.cell? ⟨w.heap.size, 2, none⟩ = some (.slice x n c)) (by kernel_rfl) hc2 (fun hHeld => ?_)
    refine wpAnyH_take (i := 0) (v := ?_) rfl (by kernel_rfl) (by kernel_rfl) (by kernel_rfl) (fun _ _ _ h => h) (Or.inl ⟨by rfl, ?_⟩) (by assumption) ?_
    case refine_2 => (intro w hSw; (try dsimp only at hSw); go_simp; (try with_reducible rfl))
    (try simp only [Act.put, List.getElem_toArray, List.getElem_cons_succ, List.getElem_cons_zero, List.setIfInBounds_toArray, List.set_cons_zero, List.set_cons_succ])
    refine wpAnyH_take (i := 2) (v := ?_) rfl (by kernel_rfl) (by kernel_rfl) (by kernel_rfl) (fun _ _ _ h => h) (Or.inl ⟨by rfl, ?_⟩) (by assumption) ?_
    case refine_2 => (intro w hSw; (try dsimp only at hSw); go_simp; (try with_reducible rfl))
    (try simp only [Act.put, List.getElem_toArray, List.getElem_cons_succ, List.getElem_cons_zero, List.setIfInBounds_toArray, List.set_cons_zero, List.set_cons_succ])
    refine wpAnyH_take (i := 3) (v := ?_) rfl (by kernel_rfl) (by kernel_rfl) (by kernel_rfl) (fun _ _ _ h => h) (Or.inl ⟨by rfl, ?_⟩) (by assumption) ?_
    case refine_2 => (intro w hSw; (try dsimp only at hSw); go_simp; (try with_reducible rfl))
    (try simp only [Act.put, List.getElem_toArray, List.getElem_cons_succ, List.getElem_cons_zero, List.setIfInBounds_toArray, List.set_cons_zero, List.set_cons_succ])
    refine wpAnyH_ready (rs := [1]) (by kernel_rfl) (by simp) ?_
    refine AllReadyH.cons rfl (fun K hK => ?_) AllReadyH.nil
    go_simp
    refine hU.mono ?_
    rintro e w3 ⟨y', m', cy', rfl, HQ3, hc3⟩
    have hB3 := HBB.out w3 y' m' cy' HQ3.out hc3
    clear hU HBB HQ3
    refine hK.out _ _ hc3 (fun hHeld => ?_)
    clear hK K
    refine wpAnyH_ready (rs := [4]) (by kernel_rfl) (by simp) ?_
    refine AllReadyH.cons rfl (fun K hK => ?_) AllReadyH.nil
    go_simp
    refine hB3.mono ?_
    rintro e w4 ⟨R, rfl, HR, hc4⟩
    clear hB3
    refine hK.out _ _ hc4 (fun hHeld => ?_)
    clear hK K
    refine wpAnyH_take (i := 5) (v := ?_) rfl (by kernel_rfl) (by kernel_rfl) (by kernel_rfl) (fun _ _ _ h => h) (Or.inl ⟨by rfl, ?_⟩) (by assumption) ?_
    case refine_2 => (intro w hSw; (try dsimp only at hSw); go_simp; (try with_reducible rfl))
    (try simp only [Act.put, List.getElem_toArray, List.getElem_cons_succ, List.getElem_cons_zero, List.setIfInBounds_toArray, List.set_cons_zero, List.set_cons_succ])
    refine wpAnyH_done (by kernel_rfl) ?_ _
    go_wp2_with fail
    go_ret
    exact ⟨_, rfl, HR.out.1, HR.out.2⟩

end Go.Proofs.YtbbjklenpgkooaaGreat

/-
  Package store's Encode.
  Conditions: the acts lie in memory.
-/
namespace Go.Proofs.YtbbjklenpgkooaaGreat
open Go.RowKit By Dk Wi St
set_option linter.unusedVariables false
set_option linter.unusedSimpArgs false
set_option maxRecDepth 100000

theorem pas_lt {w : World} {a : Option Addr} {len : Nat} {V : Nat → AV} (h : ActsAt w a len V) : ∀ p ∈ pas V len, (∀ v ∈ p.key, v < 256) ∧ ∀ v ∈ p.data, v < 256 := fun p hp => by
  obtain ⟨i, hi, rfl⟩ := pas_mem hp
  exact ⟨nat_lt _, (h.act i hi).sl.lt⟩

theorem encL_le (V : Nat → AV) {k len : Nat} (hk : k ≤ len) (h : okL (pas V len)) : (encL (pas V k)).length ≤ 4182 * k := by
  have := encL_len (pas V k) (fun a ha => by
    obtain ⟨i, hi, rfl⟩ := pas_mem ha
    exact okL_lt h (by omega))
  rwa [pas_len] at this

def EncTold (w w' : World) (x : Option Addr) (m cx : Nat) (o : List Nat) : Prop := Sl w' x m cx o ∧ (∀ a, x = some a → w.heap.size ≤ a.block ∧ a.block < w'.heap.size) ∧ Below w.heap.size w w'

theorem encode_any (a : Option Addr) (len cap : Nat) (V : Nat → AV) (w : World) (h : ActsAt w a len V) (hl : len ≤ 140737488351232) (c : Nat) (o : List Nat) (hS : EncSays (pas V len) c o) :
    Calls Tryz.prog 43 #[.slice a len cap] w fun e w' => ∃ x m cx, e = .returned (.tuple #[.slice x m cx, .int .i64 (c : Int)]) ∧ EncTold w w' x m cx o := by
  rcases hS with ⟨hno, rfl, rfl⟩ | hyes
  · rw [pas_len] at hno
    have hI := isbatch_any a len cap V w false h hl (by simp [hno])
    clear h hno
    go_enter Tryz.func43, Tryz.ntmps43
    go_wp2_with (go_at_call 27; refine hI.mono ?_; rintro e w1 ⟨rfl, hb1⟩; clear hI)
    go_ret2
    exact ⟨none, 0, 0, rfl, Sl.empty _, (fun a ha => by cases ha), hb1⟩
  · have hok : (pas V len).length ≤ 256 ∧ okL (pas V len) := by
      rcases hyes with h | h
      · exact h.1
      · exact h.1
    rw [pas_len] at hok
    obtain ⟨h256, hokl⟩ := hok
    have hI := isbatch_any a len cap V w true h hl (by simp [h256, hokl])
    have hlt := enc_lt (pas_lt h)
    have hel := encL_le V (Nat.le_refl len) hokl
    have u10 := uv_ten (n := len) (by omega)
    have hU : ∀ w1, Below w.heap.size w w1 → Calls Tryz.prog 67 #[.slice none 0 0, .int .u64 (len : Int)] w1 fun e w' => ∃ R, e = .returned R ∧ Hid (OwnL w' w.heap.size R (uv len ++ encL (pas V 0)) ∧ Below w.heap.size w w') := fun w1 hb1 =>
      (uvarint_any none 0 0 [] len w1 (Sl.empty _) (by omega) (by omega)).mono fun e w' ⟨R, h1, h2, h3⟩ => ⟨R, h1, by
        rw [List.nil_append] at h2
        simpa [pas, encL] using h2.mono hb1.size, hb1.trans (h3.mono hb1.size)⟩
    have HL := hid h
    have HO := hid hokl
    have HS := hid hyes
    have HLT := hid hlt
    have HU := hid hU
    have hconv : ((len : Nat) : Int) % 18446744073709551616 = (len : Int) := by omega
    clear h hokl hyes hlt hU
    go_enter Tryz.func43, Tryz.ntmps43
    go_wp2_with (first
      | (go_at_call 27; refine hI.mono ?_; rintro e w1 ⟨rfl, hb1⟩; clear hI; have hU1 := HU.out w1 hb1; clear HU hb1)
      | (go_at_call 67; refine hU1.mono ?_; rintro e w2 ⟨R, rfl, HR⟩; clear hU1))
    go_loopw [4, 16] (fun out i wr => ∃ (k : Nat) (x : Option Addr) (m cx : Nat), k ≤ len ∧ out = .slice x m cx ∧ i = .int .i64 k ∧ Hid (OwnL wr w.heap.size (.slice x m cx) (uv len ++ encL (pas V k)) ∧ Below w.heap.size w wr)) (fun _ i _ => len - (intOf i).toNat)
    case atStart =>
      have hR := HR.out
      obtain ⟨x, cx, rfl, _⟩ := hR.1.sl (fun v hv => by
        rcases List.mem_append.1 hv with hv | hv
        · exact uv_lt _ v hv
        · cases hv)
      exact ⟨0, x, _, cx, by omega, rfl, rfl, hR⟩
    case round =>
      clear HR
      obtain ⟨k, x, m, cx, hk, rfl, rfl, HQ⟩ := hrel
      by_cases hkl : k < len
      · have hkl' : (k : Int) < (len : Int) := by omega
        rcases HL.out.row with h0 | ⟨b, o', rfl, hbl, hc⟩
        · omega
        obtain ⟨f0, f1, f2⟩ := hc k hkl
        have hbw := HQ.out.2
        have k0 := (hbw.cell (p := ⟨b, o' + k * 3, none⟩) hbl).trans f0
        have k1 := (hbw.cell (p := ⟨b, o' + k * 3 + 1, none⟩) hbl).trans f1
        have k2 := (hbw.cell (p := ⟨b, o' + k * 3 + 2, none⟩) hbl).trans f2
        have ho := HL.out.act k hkl
        have hoka := (okA_pa ho).1 (okL_lt HO.out hkl)
        have hn4 : (V k).n ≤ 4096 := by have := hoka.2; split at this <;> omega
        have hbo : Below wr.heap.size wr (wr.alloc (.cells #[.string (V k).key, .bool (V k).set, .slice (V k).x (V k).n (V k).c] 54)) := (Below.refl _ _).alloc (Nat.le_refl _) _
        have hsl := (ho.sl.below hbw).below hbo
        have hA : Calls Tryz.prog 68 #[.agg #[.string (V k).key, .bool (V k).set, .slice (V k).x (V k).n (V k).c]] (wr.alloc (.cells #[.string (V k).key, .bool (V k).set, .slice (V k).x (V k).n (V k).c] 54)) fun e w' => ∃ y m' cy, e = .returned (.slice y m' cy) ∧ ∃ x3 m3 c3 w3, (Builtin.append_ #[22, 22] 22 #[.slice x m cx, .slice y m' cy]).run Tryz.prog w' = .ok (.slice x3 m3 c3) w3 ∧ Hid (OwnL w3 w.heap.size (.slice x3 m3 c3) (uv len ++ encL (pas V (k + 1))) ∧ Below w.heap.size w w3) := by
          refine (actbytes_any (V k).key (V k).set (V k).x (V k).n (V k).c (V k).d _ hsl hoka.1.2 hn4).mono fun e w' ⟨R, h1, h2, h3⟩ => ?_
          obtain ⟨y, cy, h4, h5, _⟩ := h2.sl (encA_lt (nat_lt _) ho.sl.lt)
          have hb3 : Below w.heap.size w w' := hbw.trans ((hbo.mono hbw.size).trans (h3.mono (by have := hbw.size; simp; omega)))
          have how : OwnL w' w.heap.size (.slice x m cx) (uv len ++ encL (pas V k)) := ((HQ.out.1.below hbo).below h3)
          have hle := encL_le V (Nat.le_of_lt hkl) HO.out
          have hela := encA_len (okL_lt HO.out hkl)
          obtain ⟨R', w3, p1, p2, p3⟩ := push_list w' w w.heap.size (.slice x m cx) _ how hb3.size hb3 y _ cy _ h5 (by
            have e1 : (encA ⟨nat (V k).key, (V k).set, (V k).d⟩) = encA (pa (V k)) := rfl
            rw [List.length_append, e1]; omega)
          rw [List.append_assoc, show encL (pas V k) ++ encA ⟨nat (V k).key, (V k).set, (V k).d⟩ = encL (pas V (k + 1)) by rw [pas_succ, encL_snoc]; rfl] at p2
          have hl3 : ∀ v ∈ uv len ++ encL (pas V (k + 1)), v < 256 := fun v hv => by
            rcases List.mem_append.1 hv with hv | hv
            · exact uv_lt _ v hv
            · unfold encL at hv
              obtain ⟨p, hp, hv⟩ := List.mem_flatMap.1 hv
              obtain ⟨i, hi, rfl⟩ := pas_mem hp
              exact encA_lt (nat_lt _) (HL.out.act i (by omega)).sl.lt v hv
          obtain ⟨x3, c3, rfl, _⟩ := p2.sl hl3
          exact ⟨y, _, cy, by rw [h1, h4], x3, _, c3, w3, p1, p2, p3⟩
        clear hc f0 f1 f2 hbw ho hoka hn4 hbo hsl HQ
        generalize (V k).key = Kk at *
        generalize (V k).set = Ks at *
        generalize (V k).x = Kx at *
        generalize (V k).n = Kn at *
        generalize (V k).c = Kc at *
        go_wp2_with (first
          | (go_at_call 68; refine hA.mono ?_; rintro e w4 ⟨y, m', cy, rfl, x3, m3, c3, w3, hap, HN⟩; clear hA)
          | (at_builtin; refine wpList_append_run rfl _ _ 22 rfl _ _ rfl rfl hap ?_; clear hap))
        go_roundw
        case rel => exact ⟨k + 1, x3, m3, c3, by omega, rfl, by go_num, HN.out⟩
        case measure => simp [intOf]; omega
      · obtain rfl : k = len := by omega
        have hfin := HQ.out
        have henc : uv k ++ encL (pas V k) = enc (pas V k) := by unfold enc; rw [pas_len]
        rw [henc] at hfin
        obtain ⟨x', c', he, hsl, hblk⟩ := hfin.1.sl HLT.out
        injection he with e1 e2 e3
        subst e1
        subst e2
        subst e3
        have HF := hid (And.intro hsl (And.intro hblk hfin.2))
        clear HQ hfin hsl hblk HL HO
        rcases HS.out with ⟨_, hlong, rfl, rfl⟩ | ⟨_, hlong, rfl, rfl⟩
        · have q0 : (13005 : Int) < ((enc (pas V k)).length : Int) := by omega
          clear HS henc hlong
          generalize (enc (pas V k)).length = M at *
          go_wp2_with fail
          go_ret2
          exact ⟨none, 0, 0, rfl, Sl.empty _, (fun a ha => by cases ha), HF.out.2.2⟩
        · have q0 : ¬ (13005 : Int) < ((enc (pas V k)).length : Int) := by omega
          clear HS henc hlong
          generalize hM : (enc (pas V k)).length = M at *
          have HM := hid hM
          clear hM
          go_wp2_with fail
          go_ret2
          exact ⟨_, _, _, rfl, HF.out.1, HF.out.2.1, HF.out.2.2⟩

end Go.Proofs.YtbbjklenpgkooaaGreat

/-
  Package store's readAct and Decode.
  Conditions: the bytes lie in memory.
-/
namespace Go.Proofs.YtbbjklenpgkooaaGreat
open Go.RowKit By Dk Wi St
set_option linter.unusedVariables false
set_option linter.unusedSimpArgs false
set_option maxRecDepth 100000

/- Three cells, side by side, of a block. -/
structure Three (w : World) (p : Nat) (a b c : Value) : Prop where
  c0 : w.cell? ⟨p, 0, none⟩ = some a
  c1 : w.cell? ⟨p, 1, none⟩ = some b
  c2 : w.cell? ⟨p, 2, none⟩ = some c
  f0 : w.frozen? ⟨p, 0, none⟩ = false
  f1 : w.frozen? ⟨p, 1, none⟩ = false
  f2 : w.frozen? ⟨p, 2, none⟩ = false

theorem Three.new (w : World) (a b c : Value) (t : TypeId) : Three (w.alloc (.cells #[a, b, c] t)) w.heap.size a b c := by
  constructor <;> simp only [World.cell?, World.frozen?, heap_alloc_new] <;> rfl

theorem Three.lt {w : World} {p : Nat} {a b c : Value} (h : Three w p a b c) : p < w.heap.size := cell_lt' h.c0

theorem Three.turn {w w' : World} {p g : Nat} {a b c : Value} (h : Three w p a b c) (t : Turn g w w') (hp : p ≠ g) : Three w' p a b c :=
  ⟨(t.cell (p := ⟨p, 0, none⟩) hp h.lt).trans h.c0, (t.cell (p := ⟨p, 1, none⟩) hp h.lt).trans h.c1, (t.cell (p := ⟨p, 2, none⟩) hp h.lt).trans h.c2,
    (t.frozen (p := ⟨p, 0, none⟩) hp h.lt).trans h.f0, (t.frozen (p := ⟨p, 1, none⟩) hp h.lt).trans h.f1, (t.frozen (p := ⟨p, 2, none⟩) hp h.lt).trans h.f2⟩

theorem Three.other {w : World} {p q : Nat} {a b c : Value} (h : Three w p a b c) (hq : q ≠ p) (j : Nat) (u : Value) : Three (w.setCell ⟨q, j, none⟩ u) p a b c :=
  h.turn ((Turn.refl q w).setCell rfl u) (Ne.symm hq)

theorem Three.set0 {w : World} {p : Nat} {a b c : Value} (h : Three w p a b c) (u : Value) : Three (w.setCell ⟨p, 0, none⟩ u) p u b c :=
  ⟨World.cell?_setCell_same _ _ _ h.c0, (World.cell?_setCell_other _ _ _ _ (fun h => by injection h with _ h2 _; cases h2)).trans h.c1, (World.cell?_setCell_other _ _ _ _ (fun h => by injection h with _ h2 _; cases h2)).trans h.c2, by simpa using h.f0, by simpa using h.f1, by simpa using h.f2⟩

theorem Three.set1 {w : World} {p : Nat} {a b c : Value} (h : Three w p a b c) (u : Value) : Three (w.setCell ⟨p, 1, none⟩ u) p a u c :=
  ⟨(World.cell?_setCell_other _ _ _ _ (fun h => by injection h with _ h2 _; cases h2)).trans h.c0, World.cell?_setCell_same _ _ _ h.c1, (World.cell?_setCell_other _ _ _ _ (fun h => by injection h with _ h2 _; cases h2)).trans h.c2, by simpa using h.f0, by simpa using h.f1, by simpa using h.f2⟩

theorem Three.set2 {w : World} {p : Nat} {a b c : Value} (h : Three w p a b c) (u : Value) : Three (w.setCell ⟨p, 2, none⟩ u) p a b u :=
  ⟨(World.cell?_setCell_other _ _ _ _ (fun h => by injection h with _ h2 _; cases h2)).trans h.c0, (World.cell?_setCell_other _ _ _ _ (fun h => by injection h with _ h2 _; cases h2)).trans h.c1, World.cell?_setCell_same _ _ _ h.c2, by simpa using h.f0, by simpa using h.f1, by simpa using h.f2⟩

theorem results_cell {fn : Func} {p : Tmp} {ty : TypeId} (h : fn.results = #[.cell p ty]) (tmps : Array Value) (P : Program) (w : World) :
    (results fn tmps).run P w = ((asAddr (tmps.getD p undef)).run P w).andThen fun a w₁ => (loadVar ty a).run P w₁ := by
  simp only [results, h]
  simp [Sem.run_bind, Result.andThen]

theorem Turn.high {g : Nat} {a w : World} (h : Turn g a w) {q : Addr} (hq : a.heap.size ≤ q.block) (u : Value) : Turn g a (w.setCell q u) :=
  ⟨h.os, h.tape, h.output, by simpa [World.setCell] using h.size, fun k hk hg => (Below.heap_setCell _ _ _ _ (fun e => by omega)).trans (h.block k hk hg)⟩

theorem turn_one (P : Nat) (v : World) (j : Nat) (u : Value) : Turn P v (v.setCell ⟨P, j, none⟩ u) := Turn.setCell (p := ⟨P, j, none⟩) (Turn.refl P v) rfl u

theorem turn_three (P : Nat) (v : World) (u0 u1 u2 : Value) : Turn P v (((v.setCell ⟨P, 0, none⟩ u0).setCell ⟨P, 1, none⟩ u1).setCell ⟨P, 2, none⟩ u2) :=
  ((turn_one P v 0 u0).trans (turn_one P _ 1 u1)).trans (turn_one P _ 2 u2)

/- A reader, the answer's place P and the act that is made at Q. -/
structure RA (w v : World) (p : Nat) (x : Option Addr) (l : List Nat) (e : Nat) (P Q : Nat) (B0 B1 B2 : Value) : Prop where
  rd : ∃ x' n' c', PRd v p x' n' c' l e ∧ From x x'
  tn : Turn p w v
  tp : Three v P (.string ByteArray.empty) (.bool false) (.slice none 0 0)
  tq : Three v Q B0 B1 B2
  hP : w.heap.size ≤ P
  hQ : w.heap.size ≤ Q
  ne : P ≠ Q
  hp : p < w.heap.size
  hx : ∀ a, x = some a → a.block < w.heap.size

section
variable {w v v' : World} {p : Nat} {x : Option Addr} {l : List Nat} {e : Nat} {P Q : Nat} {B0 B1 B2 : Value}

theorem RA.go (h : RA w v p x l e P Q B0 B1 B2) {x' : Option Addr} (hf : From x x') {l' : List Nat} {e' : Nat} (g : PGo v v' p x' l' e') : RA w v' p x l' e' P Q B0 B1 B2 := by
  obtain ⟨t, x2, n2, c2, h1, h2⟩ := g
  have := h.hp
  have h3 := h.hP
  have h4 := h.hQ
  exact ⟨⟨x2, n2, c2, h1, hf.trans h2⟩, h.tn.trans t, h.tp.turn t (by omega), h.tq.turn t (by omega), h.hP, h.hQ, h.ne, h.hp, h.hx⟩

theorem RA.rdq (h : RA w v p x l e P Q B0 B1 B2) {g : Nat} (hg : w.heap.size ≤ g) (t : Turn g v v') : ∃ x' n' c', PRd v' p x' n' c' l e ∧ From x x' := by
  obtain ⟨x', n', c', h1, h2⟩ := h.rd
  have := h.hp
  exact ⟨x', n', c', h1.turn t (by omega) (fun a ha => by
    obtain ⟨b, hb, e1⟩ := h2 a ha
    have := h.hx b hb
    omega), h2⟩

theorem RA.set0 (h : RA w v p x l e P Q B0 B1 B2) (u : Value) : RA w (v.setCell ⟨Q, 0, none⟩ u) p x l e P Q u B1 B2 :=
  ⟨h.rdq h.hQ ((Turn.refl Q v).setCell rfl u), h.tn.high h.hQ u, h.tp.other (Ne.symm h.ne) 0 u, h.tq.set0 u, h.hP, h.hQ, h.ne, h.hp, h.hx⟩
theorem RA.set1 (h : RA w v p x l e P Q B0 B1 B2) (u : Value) : RA w (v.setCell ⟨Q, 1, none⟩ u) p x l e P Q B0 u B2 :=
  ⟨h.rdq h.hQ ((Turn.refl Q v).setCell rfl u), h.tn.high h.hQ u, h.tp.other (Ne.symm h.ne) 1 u, h.tq.set1 u, h.hP, h.hQ, h.ne, h.hp, h.hx⟩
theorem RA.set2 (h : RA w v p x l e P Q B0 B1 B2) (u : Value) : RA w (v.setCell ⟨Q, 2, none⟩ u) p x l e P Q B0 B1 u :=
  ⟨h.rdq h.hQ ((Turn.refl Q v).setCell rfl u), h.tn.high h.hQ u, h.tp.other (Ne.symm h.ne) 2 u, h.tq.set2 u, h.hP, h.hQ, h.ne, h.hp, h.hx⟩

theorem RA.end_ (h : RA w v p x l e P Q B0 B1 B2) (u0 u1 u2 : Value) : PGo w (((v.setCell ⟨P, 0, none⟩ u0).setCell ⟨P, 1, none⟩ u1).setCell ⟨P, 2, none⟩ u2) p x l e :=
  ⟨((h.tn.high h.hP u0).high h.hP u1).high h.hP u2, h.rdq h.hP ((((Turn.refl P v).setCell rfl u0).setCell rfl u1).setCell rfl u2)⟩

theorem RA.new {n c : Nat} (h : PRd w p x n c l e) (hx : ∀ a, x = some a → a.block < w.heap.size) :
    RA w ((w.alloc (.cells #[.string ByteArray.empty, .bool false, .slice none 0 0] 54)).alloc (.cells #[.string ByteArray.empty, .bool false, .slice none 0 0] 54)) p x l e w.heap.size (w.heap.size + 1) (.string ByteArray.empty) (.bool false) (.slice none 0 0) := by
  have b1 : Below w.heap.size w (w.alloc (.cells #[.string ByteArray.empty, .bool false, .slice none 0 0] 54)) := (Below.refl _ _).alloc (Nat.le_refl _) _
  have hsz : (w.alloc (.cells #[.string ByteArray.empty, .bool false, .slice none 0 0] 54)).heap.size = w.heap.size + 1 := by simp
  have b2 := (Below.refl _ (w.alloc (.cells #[.string ByteArray.empty, .bool false, .slice none 0 0] 54))).alloc (Nat.le_refl _) (.cells #[.string ByteArray.empty, .bool false, .slice none 0 0] 54)
  have t1 := Three.new w (.string ByteArray.empty) (.bool false) (.slice none 0 0) 54
  have t2 := Three.new (w.alloc (.cells #[.string ByteArray.empty, .bool false, .slice none 0 0] 54)) (.string ByteArray.empty) (.bool false) (.slice none 0 0) 54
  rw [hsz] at t2
  refine ⟨⟨x, n, c, (h.below b1).below b2, From.refl x⟩, (Turn.of_below b1).trans (Turn.of_below b2), t1.turn (g := w.heap.size + 1) (Turn.of_below b2) (by omega), t2, Nat.le_refl _, by omega, by omega, h.lt, hx⟩

end

def ReadTold (w w' : World) (p : Nat) (x : Option Addr) (l : List Nat) (e : Nat) (v : AV) : Prop :=
  PGo w w' p x (rAct l e).2.1 (rAct l e).2.2 ∧ pa v = (rAct l e).1 ∧ ActOk w' v ∧ ∀ a, v.x = some a → w.heap.size ≤ a.block

theorem readact_any (p n c e : Nat) (x : Option Addr) (l : List Nat) (w : World) (h : PRd w p x n c l e) (hx : ∀ a, x = some a → a.block < w.heap.size) :
    Calls Tryz.prog 25 #[.pointer (some ⟨p, 0, none⟩)] w fun ed w' => ∃ v : AV, ed = .returned (.agg #[.string v.key, .bool v.set, .slice v.x v.n v.c]) ∧ ReadTold w w' p x l e v := by
  have h0 := RA.new h hx
  have hll := h.sl.lt
  have hk64 := rBy_most 64 l e (by omega)
  have hkl := rBy_lt 64 l e hll
  -- the key
  have hB : Calls Tryz.prog 53 #[.pointer (some ⟨p, 0, none⟩), .int .i64 64] ((w.alloc (.cells #[.string ByteArray.empty, .bool false, .slice none 0 0] 54)).alloc (.cells #[.string ByteArray.empty, .bool false, .slice none 0 0] 54)) fun ed w' => ∃ y m cy, ed = .returned (.slice y m cy) ∧ (convert 22 9 (.slice y m cy)).run Tryz.prog w' = .ok (.string (str (rBy 64 l e).1)) w' ∧ w'.cell? ⟨w.heap.size + 1, 0, none⟩ = some (.string ByteArray.empty) ∧ w'.frozen? ⟨w.heap.size + 1, 0, none⟩ = false ∧ Hid (RA w w' p x (rBy 64 l e).2.1 (rBy 64 l e).2.2 w.heap.size (w.heap.size + 1) (.string ByteArray.empty) (.bool false) (.slice none 0 0)) := by
    obtain ⟨x1, n1, c1, r1, r2⟩ := h0.rd
    refine (pbytes_any p n1 c1 e 64 x1 l _ r1 (by omega) (by omega)).mono fun ed w' ⟨v, h1, h2, y, cy, h3, h4, h5⟩ => ?_
    have h6 := h0.go r2 h2
    exact ⟨y, _, cy, by rw [h1, h3], conv_sl h4, h6.tq.c0, h6.tq.f0, h6⟩
  generalize hK : rBy 64 l e = K at hB hk64 hkl
  obtain ⟨k, l1, e1⟩ := K
  dsimp only at hB hk64 hkl
  have hN : ∀ v, RA w v p x l1 e1 w.heap.size (w.heap.size + 1) (.string (str k)) (.bool false) (.slice none 0 0) → Calls Tryz.prog 24 #[.pointer (some ⟨p, 0, none⟩), .int .i64 1] v fun ed w' => ed = .returned (.int .i64 ((rNum 1 l1 e1).1 : Int)) ∧ w'.cell? ⟨w.heap.size + 1, 1, none⟩ = some (.bool false) ∧ w'.frozen? ⟨w.heap.size + 1, 1, none⟩ = false ∧ Hid (RA w w' p x (rNum 1 l1 e1).2.1 (rNum 1 l1 e1).2.2 w.heap.size (w.heap.size + 1) (.string (str k)) (.bool false) (.slice none 0 0)) := fun v hv => by
    obtain ⟨x1, n1, c1, r1, r2⟩ := hv.rd
    refine (pnum_any p n1 c1 e1 1 x1 l1 v r1 (by omega) (by omega)).mono fun ed w' ⟨h1, h2⟩ => ?_
    have h6 := hv.go r2 h2
    exact ⟨h1, h6.tq.c1, h6.tq.f1, h6⟩
  have hm1 := rNum_most 1 l1 e1 (by omega)
  generalize hM : rNum 1 l1 e1 = M at hN hm1
  obtain ⟨m, l2, e2⟩ := M
  dsimp only at hN hm1
  have HD : Hid (rAct l e = if m = 1 then (⟨k, true, (rBy 4096 l2 e2).1⟩, (rBy 4096 l2 e2).2.1, (rBy 4096 l2 e2).2.2) else (⟨k, false, []⟩, l2, e2)) := by
    show rAct l e = _
    unfold rAct
    rw [hK]
    dsimp only
    rw [hM]
  have HN := hid hN
  have HK := hid (And.intro hk64 hkl)
  clear hN h h0 hk64 hkl hK hM
  have hkey : nat (str k) = k := nat_str HK.out.2
  have HKEY := hid hkey
  clear hkey
  by_cases hm : m = 1
  · subst hm
    have hd0 := HD.out
    rw [if_pos rfl] at hd0
    have HD0 := hid hd0
    clear hd0 HD
    have hd4 := rBy_most 4096 l2 e2 (by omega)
    have hB2 : ∀ v, RA w v p x l2 e2 w.heap.size (w.heap.size + 1) (.string (str k)) (.bool true) (.slice none 0 0) → Calls Tryz.prog 53 #[.pointer (some ⟨p, 0, none⟩), .int .i64 4096] v fun ed w' => ∃ y m cy, ed = .returned (.slice y m cy) ∧ w'.cell? ⟨w.heap.size + 1, 2, none⟩ = some (.slice none 0 0) ∧ w'.frozen? ⟨w.heap.size + 1, 2, none⟩ = false ∧ w'.cell? ⟨w.heap.size + 1, 0, none⟩ = some (.string (str k)) ∧ w'.cell? ⟨w.heap.size + 1, 1, none⟩ = some (.bool true) ∧
        (∃ a, w'.cell? ⟨w.heap.size, 0, none⟩ = some a) ∧ (∃ a, w'.cell? ⟨w.heap.size, 1, none⟩ = some a) ∧ (∃ a, w'.cell? ⟨w.heap.size, 2, none⟩ = some a) ∧ w'.frozen? ⟨w.heap.size, 0, none⟩ = false ∧ w'.frozen? ⟨w.heap.size, 1, none⟩ = false ∧ w'.frozen? ⟨w.heap.size, 2, none⟩ = false ∧
        Hid (RA w w' p x (rBy 4096 l2 e2).2.1 (rBy 4096 l2 e2).2.2 w.heap.size (w.heap.size + 1) (.string (str k)) (.bool true) (.slice none 0 0) ∧ m = (rBy 4096 l2 e2).1.length ∧ Sl w' y m cy (rBy 4096 l2 e2).1 ∧ ∀ a, y = some a → w.heap.size + 1 < a.block) := fun v hv => by
      obtain ⟨x1, n1, c1, r1, r2⟩ := hv.rd
      refine (pbytes_any p n1 c1 e2 4096 x1 l2 v r1 (by omega) (by omega)).mono fun ed w' ⟨u, h1, h2, y, cy, h3, h4, h5⟩ => ?_
      have h6 := hv.go r2 h2
      have hlt := hv.tq.lt
      exact ⟨y, _, cy, by rw [h1, h3], h6.tq.c2, h6.tq.f2, h6.tq.c0, h6.tq.c1, ⟨_, h6.tp.c0⟩, ⟨_, h6.tp.c1⟩, ⟨_, h6.tp.c2⟩, h6.tp.f0, h6.tp.f1, h6.tp.f2, h6, rfl, h4, fun a ha => Nat.lt_of_lt_of_le hlt (h5 a ha)⟩
    have HB2 := hid hB2
    clear hB2
    go_enter Tryz.func25, Tryz.ntmps25
    go_wp2_with (first
      | (go_at_call 53; refine hB.mono ?_; rintro e w1 ⟨y, my, cy, rfl, hcv, q0, q1, HR⟩; clear hB
         have hN1 := HN.out _ (HR.out.set0 (.string (str k)))
         clear HN HR)
      | (go_at_call 24; refine hN1.mono ?_; rintro e w2 ⟨rfl, q2, q3, HR2⟩; clear hN1
         have hB2 := HB2.out _ (HR2.out.set1 (.bool true))
         clear HB2)
      | (go_at_call 53; refine hB2.mono ?_; rintro e w3 ⟨y3, m3, c3, rfl, q4, q5, q6, q7, ⟨a0, q8⟩, ⟨a1, q9⟩, ⟨a2, q10⟩, q11, q12, q13, HR3⟩; clear hB2))
    have ht := HR3.out.1.set2 (.slice y3 m3 c3)
    refine bodyPost_ret (v := .agg #[.string (str k), .bool true, .slice y3 m3 c3]) ?_ rfl ?_
    · rw [results_cell rfl]; go_simp
    · obtain ⟨r1, r2, r3, r4⟩ := HR3.out
      refine ⟨⟨str k, true, y3, m3, c3, (rBy 4096 l2 e2).1⟩, rfl, ?_⟩
      have e0 := HD0.out
      refine ⟨by rw [e0]; exact ht.end_ _ _ _, by rw [e0]; unfold pa; dsimp only; rw [HKEY.out], ⟨?_, by show m3 ≤ _; omega, by show (str k).size ≤ _; rw [str_size]; have := HK.out.1; omega⟩, fun a ha => by have := r4 a ha; omega⟩
      have s1 : Sl (w3.setCell ⟨w.heap.size + 1, 2, none⟩ (.slice y3 m3 c3)) y3 m3 c3 (rBy 4096 l2 e2).1 := r3.turn (turn_one (w.heap.size + 1) w3 2 _) (fun a ha => by have := r4 a ha; omega)
      exact s1.turn (turn_three w.heap.size _ _ _ _) (fun a ha => by have := r4 a ha; omega)
  · obtain rfl : m = 0 := by omega
    have hd0 := HD.out
    rw [if_neg (by omega)] at hd0
    have HD0 := hid hd0
    clear hd0 HD
    have HE : Hid (∀ v, RA w v p x l2 e2 w.heap.size (w.heap.size + 1) (.string (str k)) (.bool false) (.slice none 0 0) → v.cell? ⟨w.heap.size + 1, 0, none⟩ = some (.string (str k)) ∧ v.cell? ⟨w.heap.size + 1, 1, none⟩ = some (.bool false) ∧ v.cell? ⟨w.heap.size + 1, 2, none⟩ = some (.slice none 0 0) ∧
        (∃ a, v.cell? ⟨w.heap.size, 0, none⟩ = some a) ∧ (∃ a, v.cell? ⟨w.heap.size, 1, none⟩ = some a) ∧ (∃ a, v.cell? ⟨w.heap.size, 2, none⟩ = some a) ∧ v.frozen? ⟨w.heap.size, 0, none⟩ = false ∧ v.frozen? ⟨w.heap.size, 1, none⟩ = false ∧ v.frozen? ⟨w.heap.size, 2, none⟩ = false) :=
      fun v h6 => ⟨h6.tq.c0, h6.tq.c1, h6.tq.c2, ⟨_, h6.tp.c0⟩, ⟨_, h6.tp.c1⟩, ⟨_, h6.tp.c2⟩, h6.tp.f0, h6.tp.f1, h6.tp.f2⟩
    go_enter Tryz.func25, Tryz.ntmps25
    go_wp2_with (first
      | (go_at_call 53; refine hB.mono ?_; rintro e w1 ⟨y, my, cy, rfl, hcv, q0, q1, HR⟩; clear hB
         have hN1 := HN.out _ (HR.out.set0 (.string (str k)))
         clear HN HR)
      | (go_at_call 24; refine hN1.mono ?_; rintro e w2 ⟨rfl, q2, q3, HR2⟩; clear hN1
         obtain ⟨q6, q7, q4, ⟨a0, q8⟩, ⟨a1, q9⟩, ⟨a2, q10⟩, q11, q12, q13⟩ := HE.out _ HR2.out
         clear HE))
    have ht := HR2.out.set1 (.bool false)
    refine bodyPost_ret (v := .agg #[.string (str k), .bool false, .slice none 0 0]) ?_ rfl ?_
    · rw [results_cell rfl]; go_simp
    · refine ⟨⟨str k, false, none, 0, 0, []⟩, rfl, ?_⟩
      have e0 := HD0.out
      exact ⟨by rw [e0]; exact ht.end_ _ _ _, by rw [e0]; unfold pa; dsimp only; rw [HKEY.out], ⟨Sl.empty _, Nat.zero_le _, by show (str k).size ≤ _; rw [str_size]; have := HK.out.1; omega⟩, fun a ha => by cases ha⟩

end Go.Proofs.YtbbjklenpgkooaaGreat

/-
  Package store's Decode.
  Conditions: the bytes lie in memory.
-/
namespace Go.Proofs.YtbbjklenpgkooaaGreat
open Go.RowKit By Dk Wi St
set_option linter.unusedVariables false
set_option linter.unusedSimpArgs false
set_option maxRecDepth 100000

def noAV : AV := ⟨ByteArray.empty, false, none, 0, 0, []⟩

def avV (V : Nat → AV) : Nat → Value := fun j => if j % 3 = 0 then .string (V (j / 3)).key else if j % 3 = 1 then .bool (V (j / 3)).set else .slice (V (j / 3)).x (V (j / 3)).n (V (j / 3)).c

theorem avV_0 (V : Nat → AV) (k : Nat) : avV V (k * 3) = .string (V k).key := by
  unfold avV
  rw [if_pos (by omega), show k * 3 / 3 = k by omega]
theorem avV_1 (V : Nat → AV) (k : Nat) : avV V (k * 3 + 1) = .bool (V k).set := by
  unfold avV
  rw [if_neg (by omega), if_pos (by omega), show (k * 3 + 1) / 3 = k by omega]
theorem avV_2 (V : Nat → AV) (k : Nat) : avV V (k * 3 + 2) = .slice (V k).x (V k).n (V k).c := by
  unfold avV
  rw [if_neg (by omega), if_neg (by omega), show (k * 3 + 2) / 3 = k by omega]

def updA (V : Nat → AV) (k : Nat) (v : AV) : Nat → AV := fun i => if i = k then v else V i

theorem updA_same (V : Nat → AV) (k : Nat) (v : AV) : updA V k v k = v := by simp [updA]
theorem updA_other (V : Nat → AV) {k i : Nat} (v : AV) (h : i ≠ k) : updA V k v i = V i := by simp [updA, h]

theorem avV_upd (V : Nat → AV) (k : Nat) (v : AV) (j : Nat) : upd (upd (upd (avV V) (k * 3) (.string v.key)) (k * 3 + 1) (.bool v.set)) (k * 3 + 2) (.slice v.x v.n v.c) j = avV (updA V k v) j := by
  by_cases h2 : j = k * 3 + 2
  · subst h2; rw [avV_2, updA_same]; simp [upd]
  · by_cases h1 : j = k * 3 + 1
    · subst h1; rw [avV_1, updA_same]; simp [upd]
    · by_cases h0 : j = k * 3
      · subst h0; rw [avV_0, updA_same]; simp [upd]
      · have hk : j / 3 ≠ k := by omega
        simp only [upd, h2, h1, h0, if_false]
        unfold avV
        rw [updA_other V v hk]

theorem info_act : (Tryz.prog.info? 54).map (fun i => (i.zero, i.size, i.bytes)) = some (some (.agg #[.string ByteArray.empty, .bool false, .slice none 0 0]), 3, 48) := by kernel_rfl

theorem made_acts (n : Nat) : madeCells #[.string ByteArray.empty, .bool false, .slice none 0 0] (n * 3) = (rowOf (avV fun _ => noAV) (n * 3)).toArray := by
  apply Array.ext'
  apply List.ext_getElem?
  intro i
  by_cases hi : i < n * 3
  · rw [List.toList_toArray, rowOf_get _ _ _ hi]
    have h3 : i % 3 = 0 ∨ i % 3 = 1 ∨ i % 3 = 2 := by omega
    simp only [madeCells, Array.toList_map, List.getElem?_map, Array.toList_range, List.getElem?_range hi, Option.map_some, List.size_toArray, List.length_cons, List.length_nil, Nat.zero_add, Nat.reduceAdd]
    unfold avV noAV
    rcases h3 with h | h | h <;> rw [h] <;> simp
  · rw [List.getElem?_eq_none (by simp [madeCells]; omega), List.getElem?_eq_none (by simp [rowOf_len]; omega)]

theorem make_acts (w : World) (n : Nat) (hn : n ≤ 256) : ∃ w1 : World,
    (Instr.makeSlice 24 (.int .i64 (n : Int)) (.int .i64 (n : Int))).run Tryz.prog w = .ok (.slice (some ⟨w.heap.size, 0, none⟩) n n) w1 ∧ Hid (Blk w1 w.heap.size 54 (n * 3) (avV fun _ => noAV) ∧ Below w.heap.size w w1) := by
  obtain ⟨i0, hi, hz0, hz1, hz2⟩ := info_parts info_act
  have hr := run_make (P := Tryz.prog) w 24 54 i0 _ Tryz.underlying24 hi hz0 .i64 .i64 (n : Int) (n : Int) (by omega) (Int.le_refl _) (by rw [hz2]; omega) (by omega)
  rw [hz1] at hr
  refine ⟨_, hr, ?_, (Below.refl _ _).alloc (Nat.le_refl _) _⟩
  exact Blk.new _ _ _ _ _ (by rw [Int.toNat_natCast]; exact made_acts n)

/- A row of acts, of a block of one's own. -/
theorem Blk.acts {w : World} {g n : Nat} {V : Nat → AV} (h : Blk w g 54 (n * 3) (avV V)) (ho : ∀ i, i < n → ActOk w (V i)) : ActsAt w (some ⟨g, 0, none⟩) n V := by
  refine ⟨.inr ⟨g, 0, rfl, h.lt, fun i hi => ?_⟩, ho⟩
  have c0 := h.cell (k := i * 3) (by omega)
  have c1 := h.cell (k := i * 3 + 1) (by omega)
  have c2 := h.cell (k := i * 3 + 2) (by omega)
  rw [avV_0] at c0
  rw [avV_1] at c1
  rw [avV_2] at c2
  exact ⟨by rw [Nat.zero_add]; exact c0, by rw [Nat.zero_add]; exact c1, by rw [Nat.zero_add]; exact c2⟩

theorem Blk.set3 {w : World} {g n : Nat} {V : Nat → AV} (h : Blk w g 54 (n * 3) (avV V)) (k : Nat) (v : AV) : Blk (((w.setCell ⟨g, k * 3, none⟩ (.string v.key)).setCell ⟨g, k * 3 + 1, none⟩ (.bool v.set)).setCell ⟨g, k * 3 + 2, none⟩ (.slice v.x v.n v.c)) g 54 (n * 3) (avV (updA V k v)) :=
  (((h.set _ _).set _ _).set _ _).congr fun j _ => avV_upd V k v j

theorem turns_three (g : Nat) (w : World) (j0 j1 j2 : Nat) (u0 u1 u2 : Value) : Turns (fun k => k = g) w (((w.setCell ⟨g, j0, none⟩ u0).setCell ⟨g, j1, none⟩ u1).setCell ⟨g, j2, none⟩ u2) :=
  (((Turns.refl (fun k => k = g) w).setCell (p := ⟨g, j0, none⟩) (.inl rfl) u0).setCell (p := ⟨g, j1, none⟩) (.inl rfl) u1).setCell (p := ⟨g, j2, none⟩) (.inl rfl) u2

theorem turn_three' (g : Nat) (w : World) (j0 j1 j2 : Nat) (u0 u1 u2 : Value) : Turn g w (((w.setCell ⟨g, j0, none⟩ u0).setCell ⟨g, j1, none⟩ u1).setCell ⟨g, j2, none⟩ u2) :=
  ((turn_one g w j0 u0).trans (turn_one g _ j1 u1)).trans (turn_one g _ j2 u2)

/- Decode, behind k acts: the reader at p, the list at g. -/
structure DR (w wr : World) (p : Nat) (y : Option Addr) (g n : Nat) (l : List Nat) (e k : Nat) (V : Nat → AV) : Prop where
  rd : ∃ x' n' c', PRd wr p x' n' c' (rActs k l e).2.1 (rActs k l e).2.2 ∧ From y x'
  blk : Blk wr g 54 (n * 3) (avV V)
  ok : ∀ i, i < k → ActOk wr (V i)
  ap : ∀ i, i < k → ∀ a, (V i).x = some a → w.heap.size ≤ a.block ∧ a.block ≠ g ∧ a.block ≠ p
  eq : pas V k = (rActs k l e).1
  bel : Below w.heap.size w wr
  hp : w.heap.size ≤ p
  hg : w.heap.size ≤ g
  ne : p ≠ g
  hy : ∀ a, y = some a → a.block < wr.heap.size ∧ a.block ≠ g ∧ w.heap.size ≤ a.block

theorem DR.plt {w wr : World} {p : Nat} {y : Option Addr} {g n : Nat} {l : List Nat} {e k : Nat} {V : Nat → AV} (h : DR w wr p y g n l e k V) : p < wr.heap.size := by
  obtain ⟨x', n', c', h1, _⟩ := h.rd
  exact h1.lt

theorem DR.step {w wr w1 : World} {p : Nat} {y : Option Addr} {g n : Nat} {l : List Nat} {e k : Nat} {V : Nat → AV} (h : DR w wr p y g n l e k V) {x' : Option Addr} {v : AV} (hf : From y x')
    (t : ReadTold wr w1 p x' (rActs k l e).2.1 (rActs k l e).2.2 v) :
    DR w (((w1.setCell ⟨g, k * 3, none⟩ (.string v.key)).setCell ⟨g, k * 3 + 1, none⟩ (.bool v.set)).setCell ⟨g, k * 3 + 2, none⟩ (.slice v.x v.n v.c)) p y g n l e (k + 1) (updA V k v) := by
  obtain ⟨⟨tn, x2, n2, c2, r1, r2⟩, tp, tok, tx⟩ := t
  have hplt := h.plt
  have hglt := h.blk.lt
  have hb1 : Blk w1 g 54 (n * 3) (avV V) := h.blk.of_heap (tn.block g hglt (Ne.symm h.ne))
  have T3 := turns_three g w1 (k * 3) (k * 3 + 1) (k * 3 + 2) (.string v.key) (.bool v.set) (.slice v.x v.n v.c)
  have Tn3 := turn_three' g w1 (k * 3) (k * 3 + 1) (k * 3 + 2) (.string v.key) (.bool v.set) (.slice v.x v.n v.c)
  have hsz := h.bel.size
  have hsz1 := tn.size
  have hbel1 : Below w.heap.size w w1 := h.bel.trans (tn.below h.hp hsz)
  refine ⟨⟨x2, n2, c2, ?_, hf.trans r2⟩, hb1.set3 k v, fun i hi => ?_, fun i hi a ha => ?_, ?_, hbel1.trans (Tn3.below h.hg hbel1.size), h.hp, h.hg, h.ne, fun a ha => ?_⟩
  · exact r1.turn Tn3 h.ne (fun a ha => by
      obtain ⟨b, hb, eb⟩ := (hf.trans r2) a ha
      have := (h.hy b hb).2.1
      omega)
  · by_cases ei : i = k
    · subst ei
      rw [updA_same]
      exact tok.turns T3 (fun _ a ha e1 => by have := tx a ha; omega)
    · rw [updA_other V v ei]
      have hap := h.ap i (by omega)
      have h1 : ActOk w1 (V i) := ⟨(h.ok i (by omega)).sl.turn tn (fun a ha => (hap a ha).2.2), (h.ok i (by omega)).sm, (h.ok i (by omega)).ks⟩
      exact h1.turns T3 (fun _ a ha e1 => (hap a ha).2.1 e1)
  · by_cases ei : i = k
    · subst ei
      rw [updA_same] at ha
      have := tx a ha
      omega
    · rw [updA_other V v ei] at ha
      exact h.ap i (by omega) a ha
  · rw [pas_succ, updA_same]
    have : pas (updA V k v) k = pas V k := pas_congr fun i hi => by rw [updA_other V v (by omega)]
    rw [this, h.eq, tp]
    rfl
  · have := h.hy a ha
    have h3 := Tn3.size
    exact ⟨by omega, this.2⟩

def DecTold (w w' : World) (a : Option Addr) (m : Nat) (V : Nat → AV) : Prop :=
  ActsAt w' a m V ∧ (∀ ad, a = some ad → w.heap.size ≤ ad.block) ∧ (∀ i, i < m → ∀ ad, (V i).x = some ad → w.heap.size ≤ ad.block) ∧ Below w.heap.size w w'

theorem decode_any (x : Option Addr) (n cp : Nat) (b : List Nat) (w : World) (h : Sl w x n cp b) (hn : n ≤ 140737488351232) (c : Nat) (acts : List PA) (hS : DecSays b c acts) :
    Calls Tryz.prog 7 #[.slice x n cp] w fun e w' => ∃ a m cm V, e = .returned (.tuple #[.slice a m cm, .int .i64 (c : Int)]) ∧ m ≤ 256 ∧ pas V m = acts ∧ m ≤ cm ∧ DecTold w w' a m V := by
  by_cases hlong : 13005 < n
  · have q0 : (13005 : Int) < (n : Int) := by omega
    have hc : c = 5 ∧ acts = [] := by
      rcases hS with ⟨⟨h1, _⟩, _⟩ | ⟨_, h1⟩
      · rw [h.len] at h1; omega
      · exact h1
    obtain ⟨rfl, rfl⟩ := hc
    clear hS h hlong
    go_enter Tryz.func7, Tryz.ntmps7
    go_wp2_with fail
    go_ret2
    exact ⟨none, 0, 0, fun _ => noAV, rfl, by omega, rfl, Nat.le_refl _, ⟨.inl rfl, fun i hi => by omega⟩, (fun ad ha => by cases ha), (fun i hi => by omega), Below.refl _ _⟩
  · have q0 : ¬ (13005 : Int) < (n : Int) := by omega
    have hR := read_any x n cp b w h (by omega)
    have hbl := h.lt
    have hlen := h.len
    have hrd : rd b = rActs (rNum 256 b 0).1 (rNum 256 b 0).2.1 (rNum 256 b 0).2.2 := rfl
    have hmost := rNum_most 256 b 0 (by omega)
    have hN : ∀ v p y cy, PRd v p y n cy b 0 → Calls Tryz.prog 24 #[.pointer (some ⟨p, 0, none⟩), .int .i64 256] v fun ed w' => ed = .returned (.int .i64 ((rNum 256 b 0).1 : Int)) ∧ PGo v w' p y (rNum 256 b 0).2.1 (rNum 256 b 0).2.2 := fun v p y cy hp => pnum_any p n cy 0 256 y b v hp (by omega) (by omega)
    generalize rNum 256 b 0 = M at hrd hmost hN
    obtain ⟨N, l, e0⟩ := M
    dsimp only at hrd hmost hN
    have hN256 : N ≤ 256 := by omega
    have HN := hid hN
    have HS := hid hS
    have HRD := hid (And.intro hrd hlen)
    have HMK := hid (fun v => make_acts v N hN256)
    clear h hS hlong hbl hrd hmost hN hlen
    go_enter Tryz.func7, Tryz.ntmps7
    go_wp2_with (first
      | (go_at_call 23; refine hR.mono ?_; rintro e w1 ⟨p, y, cy, rfl, hp, hb1, r1, hy⟩; clear hR
         have hN1 := HN.out w1 p y cy r1
         have H1 := hid (And.intro hp (And.intro hb1 (And.intro r1 hy)))
         clear HN hp hb1 r1 hy)
      | (go_at_call 24; refine hN1.mono ?_; rintro e w2 ⟨rfl, hg2⟩; clear hN1
         obtain ⟨w3, hm3, HM3⟩ := HMK.out w2
         have H2 : Hid (DR w w3 p y w2.heap.size N l e0 0 (fun _ => noAV)) := by
           obtain ⟨z1, z2, z3, z4⟩ := H1.out
           obtain ⟨t2, x', n', c', r3, r4⟩ := hg2
           have hsz := z2.size
           have hsz2 := t2.size
           have hlt := z3.lt
           have hb2 : Below w.heap.size w w2 := z2.trans (t2.below z1 hsz)
           exact ⟨⟨x', n', c', r3.below HM3.out.2, r4⟩, HM3.out.1, (fun i hi => by omega), (fun i hi => by omega), rfl, hb2.trans (HM3.out.2.mono hb2.size), z1, by omega, by omega, fun a ha => by have := z4 a ha; have := HM3.out.2.size; exact ⟨by omega, by omega, by omega⟩⟩
         clear H1 hg2 HMK HM3))
    go_loopw [17] (fun i wr => ∃ (k : Nat) (V : Nat → AV), k ≤ N ∧ i = .int .i64 k ∧ Hid (DR w wr p y w2.heap.size N l e0 k V)) (fun i _ => N - (intOf i).toNat)
    case atStart => exact ⟨0, _, by omega, rfl, H2.out⟩
    case round =>
      clear H2
      obtain ⟨k, V, hk, rfl, HD⟩ := hrel
      by_cases hkl : k < N
      · have hkl' : (k : Int) < (N : Int) := by omega
        have hA : Calls Tryz.prog 25 #[.pointer (some ⟨p, 0, none⟩)] wr fun ed w' => ∃ v : AV, ed = .returned (.agg #[.string v.key, .bool v.set, .slice v.x v.n v.c]) ∧ (∃ u, w'.cell? ⟨w2.heap.size, k * 3, none⟩ = some u) ∧ (∃ u, w'.cell? ⟨w2.heap.size, k * 3 + 1, none⟩ = some u) ∧ (∃ u, w'.cell? ⟨w2.heap.size, k * 3 + 2, none⟩ = some u) ∧ (∀ j, w'.frozen? ⟨w2.heap.size, j, none⟩ = false) ∧
            Hid (DR w (((w'.setCell ⟨w2.heap.size, k * 3, none⟩ (.string v.key)).setCell ⟨w2.heap.size, k * 3 + 1, none⟩ (.bool v.set)).setCell ⟨w2.heap.size, k * 3 + 2, none⟩ (.slice v.x v.n v.c)) p y w2.heap.size N l e0 (k + 1) (updA V k v)) := by
          obtain ⟨x', n', c', r1, r2⟩ := HD.out.rd
          refine (readact_any p n' c' _ x' _ wr r1 (fun a ha => by
            obtain ⟨a', ha', ea⟩ := r2 a ha
            have := (HD.out.hy a' ha').1
            omega)).mono fun ed w' ⟨v, h1, h2⟩ => ?_
          have hb1 : Blk w' w2.heap.size 54 (N * 3) (avV V) := HD.out.blk.of_heap (h2.1.1.block _ HD.out.blk.lt (Ne.symm HD.out.ne))
          exact ⟨v, h1, ⟨_, hb1.cell (by omega)⟩, ⟨_, hb1.cell (by omega)⟩, ⟨_, hb1.cell (by omega)⟩, hb1.frozen, HD.out.step r2 h2⟩
        clear HD
        go_wp2_with (go_at_call 25; refine hA.mono ?_; rintro e w4 ⟨v, rfl, ⟨u0, q1⟩, ⟨u1, q2⟩, ⟨u2, q3⟩, qf, HD2⟩; clear hA
                     have qf0 := qf (k * 3)
                     have qf1 := qf (k * 3 + 1)
                     have qf2 := qf (k * 3 + 2)
                     clear qf)
        go_roundw
        case rel => exact ⟨k + 1, _, by omega, by go_num, HD2.out⟩
        case measure => simp [intOf]; omega
      · obtain rfl : k = N := by omega
        have hd := HD.out
        have hD1 : Calls Tryz.prog 26 #[.pointer (some ⟨p, 0, none⟩)] wr fun ed w' => ed = .returned (.int .i64 (rDone (rActs k l e0).2.1 (rActs k l e0).2.2 : Int)) ∧ w' = wr := by
          obtain ⟨x', n', c', r1, r2⟩ := hd.rd
          exact pdone_any p n' c' _ x' _ wr r1
        have hrd := HRD.out.1
        rw [← hrd] at hD1
        have hpas : pas V k = (rd b).1 := by rw [hrd]; exact hd.eq
        have hacts := hd.blk.acts hd.ok
        have HF : Hid (∀ w', Below wr.heap.size wr w' → DecTold w w' (some ⟨w2.heap.size, 0, none⟩) k V) := fun w' hb => ⟨hacts.below hb, (fun ad ha => by cases ha; exact hd.hg), (fun i hi ad ha => (hd.ap i hi ad ha).1), hd.bel.trans (hb.mono hd.bel.size)⟩
        by_cases hdone : rDone (rd b).2.1 (rd b).2.2 = 0
        · rw [hdone] at hD1
          by_cases hok : okL (pas V k)
          · have hI := isbatch_any (some ⟨w2.heap.size, 0, none⟩) k k V wr true hacts (by omega) (by simp [hN256, hok])
            have hc : c = 0 ∧ acts = pas V k := by
              rcases HS.out with ⟨_, h1, h2⟩ | ⟨h1, _⟩
              · exact ⟨h1, h2.trans hpas.symm⟩
              · exact absurd ⟨by have := HRD.out.2; omega, by rw [← hpas]; exact hok, hdone⟩ h1
            obtain ⟨rfl, rfl⟩ := hc
            clear hdone hok hacts hd HD HS HRD hpas hrd
            go_wp2_with (first
              | (go_at_call 26; refine hD1.mono ?_; rintro e w' ⟨rfl, hw⟩; subst w'; clear hD1)
              | (go_at_call 27; refine hI.mono ?_; rintro e w5 ⟨rfl, hb5⟩; clear hI))
            go_ret2
            exact ⟨_, _, _, V, rfl, hN256, rfl, Nat.le_refl _, HF.out w5 hb5⟩
          · have hI := isbatch_any (some ⟨w2.heap.size, 0, none⟩) k k V wr false hacts (by omega) (by simp [hok])
            have hc : c = 5 ∧ acts = [] := by
              rcases HS.out with ⟨⟨_, h1, _⟩, _⟩ | ⟨_, h1⟩
              · exact absurd (by rw [hpas]; exact h1) hok
              · exact h1
            obtain ⟨rfl, rfl⟩ := hc
            clear hdone hok hacts hd HD HS HRD hpas hrd
            go_wp2_with (first
              | (go_at_call 26; refine hD1.mono ?_; rintro e w' ⟨rfl, hw⟩; subst w'; clear hD1)
              | (go_at_call 27; refine hI.mono ?_; rintro e w5 ⟨rfl, hb5⟩; clear hI))
            go_ret2
            exact ⟨none, 0, 0, fun _ => noAV, rfl, by omega, rfl, Nat.le_refl _, ⟨.inl rfl, fun i hi => by omega⟩, (fun ad ha => by cases ha), (fun i hi => by omega), (HF.out w5 hb5).2.2.2⟩
        · have hc : c = 5 ∧ acts = [] := by
            rcases HS.out with ⟨⟨_, _, h1⟩, _⟩ | ⟨_, h1⟩
            · exact absurd h1 hdone
            · exact h1
          obtain ⟨rfl, rfl⟩ := hc
          generalize rDone (rd b).2.1 (rd b).2.2 = DN at hD1 hdone
          have hne : ((DN : Int) != 0) = true := by simp; omega
          clear hacts hd HD HS HRD hpas hrd hdone
          go_wp2_with (first
            | (go_at_call 26; refine hD1.mono ?_; rintro e w' ⟨rfl, hw⟩; subst w'; clear hD1))
          go_ret2
          exact ⟨none, 0, 0, fun _ => noAV, rfl, by omega, rfl, Nat.le_refl _, ⟨.inl rfl, fun i hi => by omega⟩, (fun ad ha => by cases ha), (fun i hi => by omega), (HF.out _ (Below.refl _ _)).2.2.2⟩

end Go.Proofs.YtbbjklenpgkooaaGreat

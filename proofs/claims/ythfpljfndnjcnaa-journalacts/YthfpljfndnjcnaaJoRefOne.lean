/-
  What the document's one does: contracts over plain numbers ('JoPlain').
  Conditions: the sectors lie in memory.
-/
import Derived.Test.YthfpljfndnjcnaaJoRefPart
import Derived.OwnWalk
namespace Go.Proofs.Ythfpljfndnjcnaa
open Go.RowKit By Dk Su Jo
set_option linter.unusedVariables false
set_option linter.unusedSimpArgs false

/- Sectors as a list of lists. -/
structure SecL (w : World) (gl n : Nat) (V : Nat → Nat → Nat) : Prop where
  row : ∀ i, i < n → ∃ b o c, w.cell? ⟨gl, i, none⟩ = some (.slice (some ⟨b, o, none⟩) 64 c) ∧ 64 ≤ c ∧ RowAt w (some ⟨b, o, none⟩) 64 (V i)
  lt : ∀ i j, V i j < 256
  gt : gl < w.heap.size

theorem SecL.below {w w' : World} {gl n : Nat} {V : Nat → Nat → Nat} (h : SecL w gl n V) (hb : Below w.heap.size w w') : SecL w' gl n V :=
  ⟨fun i hi => by
    obtain ⟨b, o, c, h1, h2, h3⟩ := h.row i hi
    exact ⟨b, o, c, (hb.cell (p := ⟨gl, i, none⟩) h.gt).trans h1, h2, h3.below hb⟩, h.lt, Nat.lt_of_lt_of_le h.gt hb.size⟩

theorem OwnG.secL {w : World} {B g n c : Nat} {A : Nat → Option Addr} {C : Nat → Nat} {V : Nat → Nat → Nat} (h : OwnG w B (.slice (some ⟨g, 0, Option.none⟩) n c) n A (fun _ => 64) C V) (hV : ∀ i j, V i j < 256) : SecL w g n V := by
  refine ⟨fun i hi => ?_, hV, h.olt g rfl⟩
  obtain ⟨x, c', e, _, _, h4⟩ := h.form
  injection e with e1 _ _
  subst e1
  obtain ⟨g', e2, hc⟩ := h4 i hi
  injection e2 with e2
  injection e2 with e2 _ _
  subst e2
  have he := h.elt i hi
  rcases he.row with e | ⟨b, o, e3, _, _⟩
  · omega
  · rw [e3] at hc
    exact ⟨b, o, C i, hc, he.le, by rw [← e3]; exact he.row⟩

structure OneS (w wr : World) (V : Nat → Nat → Nat) (a r bf k : Nat) (R : Value) : Prop where
  bel : Below w.heap.size w wr
  own : wr.ownsRow 0 5 1 R (51 * k) (bytesOf (rbyte V a) (51 * k))
  ob : ∀ q, R.ownBlock = some q → w.heap.size ≤ q
  fit : ∀ j, j < k → OkR (V (a + j)) ∧ num (V (a + j)) = r ∧ V (a + j) 7 = j ∧ genS (V (a + j)) = genS (V a) ∧ lst (V (a + j)) = false
  bf_ : k ≠ 0 → bf ≤ genS (V a)

theorem OneS.no {w wr : World} {V : Nat → Nat → Nat} {a r bf k n : Nat} {R : Value} (h : OneS w wr V a r bf k R) (hb : ¬ (a + k < n ∧ OkR (V (a + k)) ∧ num (V (a + k)) = r ∧ V (a + k) 7 = k ∧ genS (V (a + k)) = genS (V a) ∧ bf ≤ genS (V a))) : ∀ c, Rec OkR V n a r c → genS (V a) < bf := fun c hc => by
  by_cases e : c ≤ k
  · have h1 := (h.fit (c - 1) (by have := hc.pos; omega)).2.2.2.2
    rw [hc.last] at h1
    cases h1
  · have := mt (fun hle => (⟨by have := hc.fits; omega, hc.ok k (by omega), hc.num k (by omega), hc.plc k (by omega), hc.gen k (by omega), hle⟩ : a + k < n ∧ OkR (V (a + k)) ∧ num (V (a + k)) = r ∧ V (a + k) 7 = k ∧ genS (V (a + k)) = genS (V a) ∧ bf ≤ genS (V a))) hb
    omega

theorem OneS.yes {w wr : World} {V : Nat → Nat → Nat} {a r bf k n : Nat} {R : Value} (h : OneS w wr V a r bf k R) (hk : a + k < n) (ho : OkR (V (a + k))) (h1 : num (V (a + k)) = r) (h2 : V (a + k) 7 = k) (h3 : genS (V (a + k)) = genS (V a)) (hl : lst (V (a + k)) = true) : Rec OkR V n a r (k + 1) :=
  ⟨by omega, by omega, fun j hj => by
      by_cases e : j = k
      · subst e; exact ho
      · exact (h.fit j (by omega)).1, fun j hj => by
      by_cases e : j = k
      · subst e; exact h1
      · exact (h.fit j (by omega)).2.1, fun j hj => by
      by_cases e : j = k
      · subst e; exact h2
      · exact (h.fit j (by omega)).2.2.1, fun j hj => by
      by_cases e : j = k
      · subst e; exact h3
      · exact (h.fit j (by omega)).2.2.2.1, fun j hj => (h.fit j (by omega)).2.2.2.2, hl⟩

/- One part more. -/
theorem OneS.go {w wr w1 : World} {V : Nat → Nat → Nat} {a r bf k y M cy : Nat} {R : Value} (ob : Obj) (h : OneS w wr V a r bf k R) (b1 : Below wr.heap.size wr w1) (hrow : RowAt w1 (some ⟨y, 0, none⟩) M (fun i => V (a + k) (9 + i))) (hM : M ≤ 51) (hk : k ≤ 4096) :
    ∃ x' c' v3 LN, Hid (LN = 51 * k + M) ∧ (Builtin.append_ #[31, 31] 31 #[R, .slice (some ⟨y, 0, none⟩) M cy]).run Try.prog (w1.alloc ob) = .ok (.slice x' LN c') v3 ∧
      (∀ u j, (w1.alloc ob).cell? ⟨w1.heap.size, j, none⟩ = some u → v3.cell? ⟨w1.heap.size, j, none⟩ = some u) ∧
      Hid (Below w.heap.size w v3 ∧ v3.ownsRow 0 5 1 (.slice x' LN c') LN (bytesOf (rbyte V a) LN) ∧ (∀ q, (Value.slice x' LN c').ownBlock = some q → w.heap.size ≤ q)) := by
  have hbo : Below wr.heap.size wr (w1.alloc ob) := b1.alloc b1.size _
  have hRlt : ∀ q, R.ownBlock = some q → q < wr.heap.size := fun q hq => (h.own.lt q hq).2
  have hsz := b1.size
  have hown2 : (w1.alloc ob).ownsRow 0 5 1 R (51 * k) (bytesOf (rbyte V a) (51 * k)) := ownsRow_same h.own fun q hq => hbo.block q (hRlt q hq)
  obtain ⟨R', v3, hr, ho, hgr, hR'⟩ := push_bytes (w1.alloc ob) R (51 * k) _ hown2 (some ⟨y, 0, none⟩) M cy _ (fun e => by cases e) (hrow.below ((Below.refl _ _).alloc (Nat.le_refl _) ob)) (by omega)
  obtain ⟨x', c', hRe, _⟩ := ownsRow_form ho
  subst hRe
  have T3 : Turns (fun q => R.ownBlock = some q) (w1.alloc ob) v3 := (Turns.refl _ _).grown hgr (fun q hq => .inl hq)
  have hb2 : Below w.heap.size w (w1.alloc ob) := h.bel.trans (hbo.mono h.bel.size)
  refine ⟨x', c', v3, 51 * k + M, rfl, hr, fun u j hu => ?_, hb2.trans (T3.below h.ob hb2.size), ?_, fun q hq => ?_⟩
  · rw [World.cell?_of_block (a := ⟨w1.heap.size, j, none⟩) (T3.block w1.heap.size (by simp) (fun e => by have := hRlt _ e; omega))]
    exact hu
  · rw [bytesOf_congr (fun i hi => (cat_rbyte V a k M hM i hi).symm)]
    exact ho
  · rcases hR' q hq with e | e
    · exact h.ob q e
    · have := h.bel.size
      simp at e
      omega

theorem OneS.next {w wr v : World} {V : Nat → Nat → Nat} {a r bf k k1 M LN : Nat} {R R' : Value} (h : OneS w wr V a r bf k R) (hk1 : k1 = k + 1) (hM : M = 51) (hLN : LN = 51 * k + M) (hbf : bf ≤ genS (V a))
    (z : Below w.heap.size w v ∧ v.ownsRow 0 5 1 R' LN (bytesOf (rbyte V a) LN) ∧ (∀ q, R'.ownBlock = some q → w.heap.size ≤ q))
    (hf : ∀ j, j < k + 1 → OkR (V (a + j)) ∧ num (V (a + j)) = r ∧ V (a + j) 7 = j ∧ genS (V (a + j)) = genS (V a) ∧ lst (V (a + j)) = false) : OneS w v V a r bf k1 R' := by
  obtain ⟨z1, z4, z5⟩ := z
  subst hk1 hM
  have e : LN = 51 * (k + 1) := by omega
  subst e
  exact ⟨z1, z4, z5, hf, fun _ => hbf⟩

theorem okr_cnt {s : Nat → Nat} (h : OkR s) : cnt s ≤ 51 ∧ (lst s = false → cnt s = 51) := ⟨h.can.1, fun e => by
  rcases h.can.2 with h1 | h1
  · exact h1
  · rw [e] at h1; cases h1⟩

set_option maxHeartbeats 3000000 in
set_option maxRecDepth 100000 in
theorem rone_any (gl n cl a r bf : Nat) (V : Nat → Nat → Nat) (w : World) (hl : SecL w gl n V) (hn : n ≤ 300) (ha : a ≤ n) (hr : r ≤ 1000) (hbf : bf < 65536) :
    Calls Try.prog 38 #[.slice (some ⟨gl, 0, none⟩) n cl, .int .i64 (a : Int), .int .i64 (r : Int), .int .i64 (bf : Int)] w fun e w' => Below w.heap.size w w' ∧
      ((∃ cc y cy, Rec OkR V n a r cc ∧ bf ≤ genS (V a) ∧ e = .returned (.tuple #[.slice y (rlen V a cc) cy, .int .i64 (cc : Int), .int .i64 (genS (V a) : Int)]) ∧ Elt w' y (rlen V a cc) cy (rbyte V a) ∧ ∀ ad, y = some ad → w.heap.size ≤ ad.block) ∨
       ((∀ cc, Rec OkR V n a r cc → genS (V a) < bf) ∧ e = .returned (.tuple #[.slice none 0 0, .int .i64 0, .int .i64 0]))) := by
  have HL := hid hl
  have H0 : Hid (OneS w (w.alloc (.cells #[] 5)) V a r bf 0 (.slice (some ⟨w.heap.size, 0, none⟩) 0 0)) := ⟨(Below.refl _ _).alloc (Nat.le_refl _) _, ⟨rfl, .inr ⟨w.heap.size, 0, #[], rfl, Nat.zero_le _, heap_alloc_new _ _, Nat.le_refl _, Nat.zero_le _, rfl, rfl⟩⟩, (fun q hq => by simp [Value.ownBlock] at hq; omega), (fun j hj => by omega), (fun h => absurd rfl h)⟩
  clear hl
  go_enter Try.func38, Try.ntmps38
  go_wp2_with fail
  go_loopw [11, 12, 13] (fun b g i wr => ∃ (k G : Nat) (x : Option Addr) (l c : Nat), a + k ≤ n ∧ G < 65536 ∧ b = .slice x l c ∧ g = .int .i64 G ∧ i = .int .i64 k ∧ Hid (G = gAt V a k ∧ OneS w wr V a r bf k (.slice x l c))) (fun _ _ i _ => n - (intOf i).toNat)
  case atStart => exact ⟨0, 0, _, _, _, by omega, by omega, rfl, rfl, rfl, rfl, H0.out⟩
  case round =>
    clear H0
    obtain ⟨k, G, x, l, c, hk, hG9, rfl, rfl, rfl, HR⟩ := hrel
    obtain ⟨hG, hst⟩ := HR.out
    have HS := hid hst
    obtain ⟨ak, hak⟩ : ∃ ak, ak = a + k := ⟨_, rfl⟩
    have haki : (a : Int) + (k : Int) = (ak : Int) := by omega
    by_cases hlt : a + k < n
    · have hlt' : (ak : Int) < (n : Int) := by omega
      have hlv := HL.out.below hst.bel
      obtain ⟨b', o', c', t1, t2, t3⟩ := hlv.row (a + k) hlt
      rw [← hak] at t1
      have HAK := hid hak
      by_cases hok : OkR (V (a + k))
      · have hp := rread_yes b' o' c' (V (a + k)) wr (hlv.lt _) t2 t3 hok
        have hgl := gen_lt (hlv.lt (a + k))
        have hPl := hlv.lt (a + k) 7
        by_cases hfit : num (V (a + k)) = r ∧ V (a + k) 7 = k ∧ genS (V (a + k)) = genS (V a) ∧ bf ≤ genS (V a)
        · obtain ⟨e1, e2, e3, e4⟩ := hfit
          have hcn := okr_cnt hok
          have hM5 : cnt (V (a + k)) ≤ 51 := hcn.1
          have HYES : lst (V (a + k)) = true → Hid (Rec OkR V n a r (k + 1)) := fun e => hst.yes hlt hok e1 e2 e3 e
          have HFIT : lst (V (a + k)) = false → Hid (∀ j, j < k + 1 → OkR (V (a + j)) ∧ num (V (a + j)) = r ∧ V (a + j) 7 = j ∧ genS (V (a + j)) = genS (V a) ∧ lst (V (a + j)) = false) := fun e j hj => by
            by_cases ej : j = k
            · subst ej; exact ⟨hok, e1, e2, e3, e⟩
            · exact hst.fit j (by omega)
          have HM : Hid (rlen V a (k + 1) = 51 * k + cnt (V (a + k))) := rfl
          have HM2 := hid hcn.2
          have HF2 := hid hlv.lt
          rw [e1, e2, e3] at hp
          rw [e3] at hgl
          have HE4 := hid e4
          obtain ⟨k1, hk1⟩ : ∃ k1, k1 = k + 1 := ⟨_, rfl⟩
          have HK1 := hid hk1
          have hk1' : (k : Int) + 1 = (k1 : Int) := by omega
          have hk4 : k ≤ 4096 := by omega
          obtain ⟨g, hg⟩ : ∃ g, g = genS (V a) := ⟨_, rfl⟩
          have HG := hid hg
          rw [← hg] at hp hgl e4
          have e4' : ¬ (g : Int) < (bf : Int) := by omega
          have hGg : k ≠ 0 → G = g := fun h0 => by rw [hG, hg]; unfold gAt; rw [if_neg h0]
          clear hg hlv hcn HR hst hk1 e1 e2 e3 e4 hak hok t3
          cases hL : lst (V (a + k)) with
          | true =>
            rw [hL] at hp
            have HREC := HYES hL
            clear HYES HFIT hL
            by_cases hk0 : k = 0
            · subst hk0
              have hka : a = ak := by omega
              subst hka
              clear haki
              have hk11 : k1 = 1 := by have := HK1.out; omega
              subst hk11
              have hprep := fun (w1 : World) (y cy : Nat) (ob : Obj) b1 hr => HS.out.go (w1 := w1) (y := y) (M := cnt (V (a + 0))) (cy := cy) ob b1 hr hM5 (by omega)
              clear hGg hG
              generalize cnt (V (a + 0)) = M at *
              go_wp2_with (first
                | (go_at_call 36; refine hp.mono ?_; rintro e w1 ⟨y, cy, rfl, hb1, hr1, _⟩; clear hp
                   obtain ⟨xA, cA, v3, LN, HLN, hap, hL3, HV⟩ := hprep w1 y cy (.cells #[.int .i64 (g : Int), .int .i64 (r : Int), .int .i64 0, .bool true, .slice (some ⟨y, 0, none⟩) M cy] 67) hb1 hr1
                   have hl3 := hL3 (.bool true) 3 (by simp)
                   clear hprep hb1 hr1 hL3)
                | (at_builtin; refine wpList_append_run rfl _ _ 31 rfl _ _ rfl rfl hap ?_; clear hap))
              go_ret3
              have hlen : rlen V a 1 = LN := HM.out.trans HLN.out.symm
              have d2 := own_elt HV.out.2.1 (fun i => HF2.out _ _) (by have := HLN.out; omega)
              refine ⟨HV.out.1, .inl ⟨1, xA, cA, HREC.out, HE4.out, by rw [hlen, ← HG.out]; rfl, by rw [hlen]; exact d2, fun ad e => HV.out.2.2 _ (by rw [e]; rfl)⟩⟩
            · have hk0' : ((k : Int) == 0) = false := by rw [beq_eq_false_iff_ne]; omega
              obtain rfl := hGg hk0
              have hprep := fun (w1 : World) (y cy : Nat) (ob : Obj) b1 hr => HS.out.go (w1 := w1) (y := y) (M := cnt (V (a + k))) (cy := cy) ob b1 hr hM5 (by omega)
              clear hGg hG
              generalize cnt (V (a + k)) = M at *
              go_wp2_with (first
                | (go_at_call 36; refine hp.mono ?_; rintro e w1 ⟨y, cy, rfl, hb1, hr1, _⟩; clear hp
                   obtain ⟨xA, cA, v3, LN, HLN, hap, hL3, HV⟩ := hprep w1 y cy (.cells #[.int .i64 (G : Int), .int .i64 (r : Int), .int .i64 (k : Int), .bool true, .slice (some ⟨y, 0, none⟩) M cy] 67) hb1 hr1
                   have hl3 := hL3 (.bool true) 3 (by simp)
                   clear hprep hb1 hr1 hL3)
                | (at_builtin; refine wpList_append_run rfl _ _ 31 rfl _ _ rfl rfl hap ?_; clear hap))
              go_ret3
              have hlen : rlen V a k1 = LN := by rw [HK1.out, HM.out, HLN.out]
              have d2 := own_elt HV.out.2.1 (fun i => HF2.out _ _) (by have := HLN.out; omega)
              refine ⟨HV.out.1, .inl ⟨k1, xA, cA, by rw [HK1.out]; exact HREC.out, HE4.out, by rw [hlen, ← HG.out]; rfl, by rw [hlen]; exact d2, fun ad e => HV.out.2.2 _ (by rw [e]; rfl)⟩⟩
          | false =>
            rw [hL] at hp
            have HFI := HFIT hL
            have HM3 := hid (HM2.out hL)
            clear HYES HFIT hL
            by_cases hk0 : k = 0
            · subst hk0
              have hka : a = ak := by omega
              subst hka
              clear haki
              have hk11 : k1 = 1 := by have := HK1.out; omega
              subst hk11
              have hprep := fun (w1 : World) (y cy : Nat) (ob : Obj) b1 hr => HS.out.go (w1 := w1) (y := y) (M := cnt (V (a + 0))) (cy := cy) ob b1 hr hM5 (by omega)
              clear hGg hG
              generalize cnt (V (a + 0)) = M at *
              go_wp2_with (first
                | (go_at_call 36; refine hp.mono ?_; rintro e w1 ⟨y, cy, rfl, hb1, hr1, _⟩; clear hp
                   obtain ⟨xA, cA, v3, LN, HLN, hap, hL3, HV⟩ := hprep w1 y cy (.cells #[.int .i64 (g : Int), .int .i64 (r : Int), .int .i64 0, .bool false, .slice (some ⟨y, 0, none⟩) M cy] 67) hb1 hr1
                   have hl3 := hL3 (.bool false) 3 (by simp)
                   clear hprep hb1 hr1 hL3)
                | (at_builtin; refine wpList_append_run rfl _ _ 31 rfl _ _ rfl rfl hap ?_; clear hap))
              have HRS := HS.out.next rfl HM3.out HLN.out HE4.out HV.out HFI.out
              have HGA : g = gAt V a 1 := by unfold gAt; rw [if_neg (by omega)]; exact HG.out
              first
                | exact ⟨⟨1, g, xA, LN, cA, by omega, by omega, rfl, rfl, rfl, HGA, HRS⟩, by simp [intOf]; omega⟩
                | (go_roundw
                   case rel => exact ⟨1, g, xA, LN, cA, by omega, by omega, rfl, rfl, rfl, HGA, HRS⟩
                   case measure => simp [intOf]; omega)
            · have hk0' : ((k : Int) == 0) = false := by rw [beq_eq_false_iff_ne]; omega
              obtain rfl := hGg hk0
              have hprep := fun (w1 : World) (y cy : Nat) (ob : Obj) b1 hr => HS.out.go (w1 := w1) (y := y) (M := cnt (V (a + k))) (cy := cy) ob b1 hr hM5 (by omega)
              clear hGg hG
              generalize cnt (V (a + k)) = M at *
              go_wp2_with (first
                | (go_at_call 36; refine hp.mono ?_; rintro e w1 ⟨y, cy, rfl, hb1, hr1, _⟩; clear hp
                   obtain ⟨xA, cA, v3, LN, HLN, hap, hL3, HV⟩ := hprep w1 y cy (.cells #[.int .i64 (G : Int), .int .i64 (r : Int), .int .i64 (k : Int), .bool false, .slice (some ⟨y, 0, none⟩) M cy] 67) hb1 hr1
                   have hl3 := hL3 (.bool false) 3 (by simp)
                   clear hprep hb1 hr1 hL3)
                | (at_builtin; refine wpList_append_run rfl _ _ 31 rfl _ _ rfl rfl hap ?_; clear hap))
              have HRS := HS.out.next HK1.out HM3.out HLN.out HE4.out HV.out HFI.out
              have HGA : G = gAt V a k1 := by unfold gAt; rw [if_neg (by have := HK1.out; omega)]; exact HG.out
              first
                | exact ⟨⟨k1, G, xA, LN, cA, by have := HK1.out; omega, by omega, rfl, rfl, rfl, HGA, HRS⟩, by have := HK1.out; simp [intOf]; omega⟩
                | (go_roundw
                   case rel => exact ⟨k1, G, xA, LN, cA, by have := HK1.out; omega, by omega, rfl, rfl, rfl, HGA, HRS⟩
                   case measure => have := HK1.out; simp [intOf]; omega)
        · have hno := hst.no (n := n) (fun h => hfit h.2.2)
          have HNO := hid hno
          have HB0 := hid hst.bel
          have hGg : k ≠ 0 → G = genS (V a) := fun h0 => by rw [hG]; unfold gAt; rw [if_neg h0]
          have hbfk : k ≠ 0 → bf ≤ genS (V a) := hst.bf_
          clear HR hst hno hlv hak hok t3 HS hG
          by_cases e1 : num (V (a + k)) = r
          · rw [e1] at hp
            by_cases e2 : V (a + k) 7 = k
            · rw [e2] at hp
              by_cases e3 : genS (V (a + k)) = genS (V a)
              · have e4 : genS (V a) < bf := by
                  rcases Nat.lt_or_ge (genS (V a)) bf with h | h
                  · exact h
                  · exact absurd ⟨e1, e2, e3, h⟩ hfit
                have hk0 : k = 0 := by
                  rcases Nat.eq_zero_or_pos k with h | h
                  · exact h
                  · have := hbfk (by omega); omega
                subst hk0
                have hka : a = ak := by omega
                subst hka
                clear haki
                rw [e3] at hp
                obtain ⟨g, hg⟩ : ∃ g, g = genS (V a) := ⟨_, rfl⟩
                rw [← hg] at hp
                have e4' : (g : Int) < (bf : Int) := by omega
                clear hGg hbfk hfit e1 e2 e3 e4 hg
                generalize lst (V (a + 0)) = L at *
                generalize cnt (V (a + 0)) = M at *
                go_wp2_with (first
                  | (go_at_call 36; refine hp.mono ?_; rintro e w1 ⟨y, cy, rfl, hb1, _⟩; clear hp
                     have HB1 : Hid (Below w.heap.size w w1) := HB0.out.trans (hb1.mono HB0.out.size)
                     clear hb1))
                go_ret3
                exact ⟨HB1.out.alloc HB1.out.size _, .inr ⟨HNO.out, rfl⟩⟩
              · have hk0 : k ≠ 0 := fun e => e3 (by rw [e]; rfl)
                have hk0' : ((k : Int) == 0) = false := by rw [beq_eq_false_iff_ne]; omega
                have e3' : ((genS (V (a + k)) : Int) != (G : Int)) = true := by have := hGg hk0; rw [bne_iff_ne]; omega
                clear hGg hbfk hfit e1 e2 e3
                generalize genS (V (a + k)) = g at *
                generalize lst (V (a + k)) = L at *
                generalize cnt (V (a + k)) = M at *
                go_wp2_with (first
                  | (go_at_call 36; refine hp.mono ?_; rintro e w1 ⟨y, cy, rfl, hb1, _⟩; clear hp
                     have HB1 : Hid (Below w.heap.size w w1) := HB0.out.trans (hb1.mono HB0.out.size)
                     clear hb1))
                go_ret3
                exact ⟨HB1.out.alloc HB1.out.size _, .inr ⟨HNO.out, rfl⟩⟩
            · have e2' : ((V (a + k) 7 : Int) != (k : Int)) = true := by rw [bne_iff_ne]; omega
              clear hGg hbfk hfit e1 e2
              generalize genS (V (a + k)) = g at *
              generalize V (a + k) 7 = P at *
              generalize lst (V (a + k)) = L at *
              generalize cnt (V (a + k)) = M at *
              by_cases hk0 : k = 0
              · subst hk0
                have hka : a = ak := by omega
                subst hka
                clear haki
                have e2'' : ((P : Int) != 0) = true := e2'
                go_wp2_with (first
                  | (go_at_call 36; refine hp.mono ?_; rintro e w1 ⟨y, cy, rfl, hb1, _⟩; clear hp
                     have HB1 : Hid (Below w.heap.size w w1) := HB0.out.trans (hb1.mono HB0.out.size)
                     clear hb1))
                go_ret3
                exact ⟨HB1.out.alloc HB1.out.size _, .inr ⟨HNO.out, rfl⟩⟩
              · have hk0' : ((k : Int) == 0) = false := by rw [beq_eq_false_iff_ne]; omega
                go_wp2_with (first
                  | (go_at_call 36; refine hp.mono ?_; rintro e w1 ⟨y, cy, rfl, hb1, _⟩; clear hp
                     have HB1 : Hid (Below w.heap.size w w1) := HB0.out.trans (hb1.mono HB0.out.size)
                     clear hb1))
                go_ret3
                exact ⟨HB1.out.alloc HB1.out.size _, .inr ⟨HNO.out, rfl⟩⟩
          · have e1' : ((num (V (a + k)) : Int) != (r : Int)) = true := by rw [bne_iff_ne]; omega
            clear hGg hbfk hfit e1
            generalize genS (V (a + k)) = g at *
            generalize num (V (a + k)) = N at *
            generalize V (a + k) 7 = P at *
            generalize lst (V (a + k)) = L at *
            generalize cnt (V (a + k)) = M at *
            by_cases hk0 : k = 0
            · subst hk0
              have hka : a = ak := by omega
              subst hka
              clear haki
              go_wp2_with (first
                | (go_at_call 36; refine hp.mono ?_; rintro e w1 ⟨y, cy, rfl, hb1, _⟩; clear hp
                   have HB1 : Hid (Below w.heap.size w w1) := HB0.out.trans (hb1.mono HB0.out.size)
                   clear hb1))
              go_ret3
              exact ⟨HB1.out.alloc HB1.out.size _, .inr ⟨HNO.out, rfl⟩⟩
            · have hk0' : ((k : Int) == 0) = false := by rw [beq_eq_false_iff_ne]; omega
              go_wp2_with (first
                | (go_at_call 36; refine hp.mono ?_; rintro e w1 ⟨y, cy, rfl, hb1, _⟩; clear hp
                   have HB1 : Hid (Below w.heap.size w w1) := HB0.out.trans (hb1.mono HB0.out.size)
                   clear hb1))
              go_ret3
              exact ⟨HB1.out.alloc HB1.out.size _, .inr ⟨HNO.out, rfl⟩⟩
      · have hno := hst.no (n := n) (fun h => hok h.2.1)
        have hp := rread_no b' o' c' (V (a + k)) wr (hlv.lt _) t2 t3 hok
        have HNO := hid hno
        have HB0 := hid hst.bel
        clear hst HR hno hok hlv t3 HS hG hak
        unfold noPartR at hp
        by_cases hk0 : k = 0
        · subst hk0
          have hka : a = ak := by omega
          subst hka
          clear haki
          go_wp2_with (first
            | (go_at_call 36; refine hp.mono ?_; rintro e w1 ⟨rfl, hb1⟩; clear hp
               have HB1 : Hid (Below w.heap.size w w1) := HB0.out.trans (hb1.mono HB0.out.size)
               clear hb1))
          go_ret3
          exact ⟨HB1.out.alloc HB1.out.size _, .inr ⟨HNO.out, rfl⟩⟩
        · have hk0' : ((k : Int) == 0) = false := by rw [beq_eq_false_iff_ne]; omega
          go_wp2_with (first
            | (go_at_call 36; refine hp.mono ?_; rintro e w1 ⟨rfl, hb1⟩; clear hp
               have HB1 : Hid (Below w.heap.size w w1) := HB0.out.trans (hb1.mono HB0.out.size)
               clear hb1))
          go_ret3
          exact ⟨HB1.out.alloc HB1.out.size _, .inr ⟨HNO.out, rfl⟩⟩
    · have hno := hst.no (n := n) (fun h => hlt h.1)
      have hge : (n : Int) ≤ (ak : Int) := by omega
      have HNO := hid hno
      have HB0 := hid hst.bel
      clear hst HR hno HS hG hak
      go_wp2_with fail
      go_ret3
      exact ⟨HB0.out, .inr ⟨HNO.out, rfl⟩⟩

theorem rone_yes (gl n cl a r bf cc : Nat) (V : Nat → Nat → Nat) (w : World) (hl : SecL w gl n V) (hn : n ≤ 300) (ha : a ≤ n) (hr : r ≤ 1000) (hbf : bf < 65536) (hcc : Rec OkR V n a r cc) (hge : bf ≤ genS (V a)) :
    Calls Try.prog 38 #[.slice (some ⟨gl, 0, none⟩) n cl, .int .i64 (a : Int), .int .i64 (r : Int), .int .i64 (bf : Int)] w fun e w' => ∃ y cy, e = .returned (.tuple #[.slice y (rlen V a cc) cy, .int .i64 (cc : Int), .int .i64 (genS (V a) : Int)]) ∧ Below w.heap.size w w' ∧ Elt w' y (rlen V a cc) cy (rbyte V a) ∧ ∀ ad, y = some ad → w.heap.size ≤ ad.block :=
  (rone_any gl n cl a r bf V w hl hn ha hr hbf).mono fun e w' ⟨h1, h2⟩ => by
    rcases h2 with ⟨c', y, cy, k1, _, k2, k3, k4⟩ | ⟨k1, _⟩
    · obtain rfl := hcc.uniq k1
      exact ⟨y, cy, k2, h1, k3, k4⟩
    · have := k1 cc hcc; omega

theorem rone_no (gl n cl a r bf : Nat) (V : Nat → Nat → Nat) (w : World) (hl : SecL w gl n V) (hn : n ≤ 300) (ha : a ≤ n) (hr : r ≤ 1000) (hbf : bf < 65536) (hcc : ∀ cc, Rec OkR V n a r cc → genS (V a) < bf) :
    Calls Try.prog 38 #[.slice (some ⟨gl, 0, none⟩) n cl, .int .i64 (a : Int), .int .i64 (r : Int), .int .i64 (bf : Int)] w fun e w' => e = .returned (.tuple #[.slice none 0 0, .int .i64 0, .int .i64 0]) ∧ Below w.heap.size w w' :=
  (rone_any gl n cl a r bf V w hl hn ha hr hbf).mono fun e w' ⟨h1, h2⟩ => by
    rcases h2 with ⟨c', y, cy, k1, k2, _⟩ | ⟨_, k2⟩
    · have := hcc c' k1; omega
    · exact ⟨k2, h1⟩

end Go.Proofs.Ythfpljfndnjcnaa

/-
  One record of the law on Open: its sectors, its batch, the keys behind it; what Open gives of all of them.
  Conditions: none.
-/
import Derived.Test.YtbbjklenpgkooaaGreatJ11
import Derived.Test.YtbbjklenpgkooaaGreatJ15
import Derived.Test.YtbbjklenpgkooaaGreatJ17
import Derived.Test.YtbbjklenpgkooaaGreatJ19
namespace Go.Proofs.YtbbjklenpgkooaaGreat
open Go.RowKit By Dk Su Jo Wi St
variable [Inhabited PR] [∀ pre s : ByteArray, Decidable (Beg pre s)]
set_option linter.unusedSectionVars false
set_option linter.unusedVariables false
set_option linter.unusedSimpArgs false
set_option maxRecDepth 100000

def byt (X : Nat → LV) (i : Nat) : List Nat := (List.range (X i).n).map (X i).f

structure OI (w wr : World) (X : Nat → LV) (i : Nat) (fine : Bool) (kg km kc : Nat) (K : Nat → AV) (R : Value) (T : Nat) : Prop where
  cells : CellsA wr kg 0 km K
  kl : kg < wr.heap.size
  act : ∀ j, j < km → ActOk wr (K j)
  far : ∀ j, j < km → (K j).n ≠ 0 → ∀ a, (K j).x = some a → R.ownBlock ≠ some a.block
  kfar : R.ownBlock ≠ some kg
  rise : Rise K km
  km_ : ∃ M, KM K km M ∧ (fine = true → After (byt X) i M)
  no : fine = false → ∀ M, ¬ After (byt X) i M
  few : km ≤ 256 * i
  dump : ∃ A C S st, OwnG wr w.heap.size R T A (fun _ => 64) C S ∧ Made S i (fun j => (X j).n) (fun j => (X j).f) st ∧ T = st i
  bel : Below w.heap.size w wr

theorem OI.start (w : World) (X : Nat → LV) : OI w ((w.alloc (.cells #[] 54)).alloc (.cells #[] 22)) X 0 true w.heap.size 0 0 (fun _ => noAV) (.slice (some ⟨w.heap.size + 1, 0, none⟩) 0 0) 0 := by
  have b1 : Below w.heap.size w (w.alloc (.cells #[] 54)) := (Below.refl _ _).alloc (Nat.le_refl _) _
  have hg := OwnG.empty (w.alloc (.cells #[] 54)) w.heap.size b1.size (fun _ => none) (fun _ => 64) (fun _ => 0) (fun _ _ => 0)
  simp only [World.size_alloc] at hg
  refine ⟨fun i hi => by omega, by simp; omega, (fun j hj => by omega), (fun j hj => by omega), by simp [Value.ownBlock], (fun a b h1 h2 => by omega), ⟨fun _ => none, ⟨(fun j hj => by omega), (fun s hs => by cases hs), (fun a b h1 h2 => by omega)⟩, fun _ => rfl⟩, (fun h => by cases h), by omega, ⟨_, _, _, fun _ => 0, hg, ⟨rfl, (fun j hj => by omega), (fun j hj => by omega), (fun j hj => by omega)⟩, rfl⟩, b1.alloc b1.size _⟩

theorem After.no_more {r : Nat → List Nat} {k : Nat} (h : ∀ M, ¬ After r k M) : ∀ M, ¬ After r (k + 1) M := fun M ⟨M0, l, h1, _⟩ => h M0 h1

set_option maxHeartbeats 1000000 in
theorem OI.next {w wr : World} {X : Nat → LV} {i : Nat} {fine : Bool} {kg km kc : Nat} {K : Nat → AV} {xR : Option Addr} {cR T : Nat} (h : OI w wr X i fine kg km kc K (.slice xR T cR) T) (hb : BytesIn w (X i).x (X i).n (X i).c (X i).f) (h2 : (X i).n ≤ 2000) (hi : i < 40) (hT : T ≤ 2000) :
    Calls Tryz.prog 16 #[.int .i64 1, .int .i64 ((i : Int) + 1), .slice (X i).x (X i).n (X i).c] wr fun e w1 => ∃ y cy, e = .returned (.slice y (pcs (X i).n) cy) ∧ ∃ x' c' w2, (Builtin.append_ #[46, 46] 46 #[.slice xR T cR, .slice y (pcs (X i).n) cy]).run Tryz.prog w1 = .ok (.slice x' (T + pcs (X i).n) c') w2 ∧ Below w.heap.size w w2 ∧
      ∃ cc : Nat, (cc = 0 ∨ cc = 5) ∧ Calls Tryz.prog 8 #[.slice (X i).x (X i).n (X i).c] w2 fun e w3 => ∃ a m cm, e = .returned (.tuple #[.slice a m cm, .int .i64 (cc : Int)]) ∧
        Calls Tryz.prog 15 #[.slice (some ⟨kg, 0, none⟩) km kc, .slice a m cm] w3 fun e w4 => ∃ kg' km' kc' ok, e = .returned (.tuple #[.slice (some ⟨kg', 0, none⟩) km' kc', .bool ok]) ∧ Hid (∃ K', OI w w4 X (i + 1) (fine && (decide (cc = 0) && ok)) kg' km' kc' K' (.slice x' (T + pcs (X i).n) c') (T + pcs (X i).n)) := by
  have hbr := h.bel
  have he : EltW wr (X i).x (X i).n (X i).c (X i).f := ⟨hb.row.below hbr, hb.nil, hb.le, by omega, hb.lt⟩
  have hmk := make_any 1 (i + 1) (X i).n (X i).c (X i).x (X i).f wr he (by omega) (by omega)
  rw [show ((i + 1 : Nat) : Int) = (i : Int) + 1 by omega] at hmk
  refine hmk.mono fun e w1 ⟨y, cy, Aa, C2, e1, e2, e3, e4⟩ => ⟨y, cy, e1, ?_⟩
  obtain ⟨A, C, S, st, d1, d2, d3⟩ := h.dump
  have hp := pcs_pos (X i).n
  have hp40 : pcs (X i).n ≤ 40 := by unfold pcs; split <;> omega
  have hR1 : ∀ g, (Value.slice xR T cR).ownBlock = some g → g < wr.heap.size := d1.olt
  have d1' := d1.below e2
  have hz1 := e2.size
  have hbw1 : Below w.heap.size w w1 := hbr.trans (e2.mono hbr.size)
  obtain ⟨x', c', w2, a1, a2, a3, a4⟩ := d1'.cat hbw1.size e3 hp (fun j hj ad ha hg => by have := e4 j hj ad ha; have := hR1 _ hg; omega) (by omega)
  have hz2 := a3.size
  have hob : ∀ g, (Value.slice xR T cR).ownBlock = some g → w.heap.size ≤ g := d1.ob
  have hbw2 : Below w.heap.size w w2 := hbw1.trans (a3.below hob hbw1.size)
  refine ⟨x', c', w2, a1, hbw2, ?_⟩
  have hsl : Sl w2 (X i).x (X i).n (X i).c (byt X i) := (Sl.of_in hb).below hbw2
  obtain ⟨cc, acts, hS⟩ := dec_says (byt X i)
  have hcc : cc = 0 ∨ cc = 5 := by
    rcases hS with ⟨_, h, _⟩ | ⟨_, h, _⟩
    · exact .inl h
    · exact .inr h
  refine ⟨cc, hcc, (rdecode_any (X i).x (X i).n (X i).c (byt X i) w2 hsl (by omega) cc acts hS).mono fun e w3 ⟨a, m, cm, L, f1, f2, f3, _, f4, f5, f6, f7⟩ => ⟨a, m, cm, f1, ?_⟩⟩
  have hz3 := f7.size
  have hbw3 : Below w.heap.size w w3 := hbw2.trans (f7.mono hbw2.size)
  have T2 : Turns (fun k => (Value.slice xR T cR).ownBlock = some k) wr w3 := ((Turns.of_below e2).trans a3).trans (Turns.of_below f7)
  have hcK : CellsA w3 kg 0 km K := h.cells.turns T2 h.kl h.kfar
  have hkl3 : kg < w3.heap.size := by have := h.kl; omega
  have hokK : ∀ j, j < km → ActOk w3 (K j) := fun j hj => (h.act j hj).turns T2 (h.far j hj)
  have hfarK : ∀ j, j < km → (K j).n ≠ 0 → ∀ ad, (K j).x = some ad → (Value.slice x' (T + pcs (X i).n) c').ownBlock ≠ some ad.block := fun j hj hn ad ha hg => by
    rcases a4 _ hg with e | e
    · exact h.far j hj hn ad ha e
    · have := (h.act j hj).sl.lt_block hn ha
      omega
  have holt2 := a2.olt
  have hfarL : ∀ j, j < m → (L j).n ≠ 0 → ∀ ad, (L j).x = some ad → (Value.slice x' (T + pcs (X i).n) c').ownBlock ≠ some ad.block := fun j hj hn ad ha hg => by
    have := f6 j hj ad ha
    have := holt2 _ hg
    omega
  have hkfar3 : (Value.slice x' (T + pcs (X i).n) c').ownBlock ≠ some kg := fun hg => by
    rcases a4 _ hg with e | e
    · exact h.kfar e
    · have := h.kl
      omega
  have a2' := a2.below f7
  obtain ⟨M, hKM, hfA⟩ := h.km_
  have hfew := h.few
  have hmade : ∃ A C S st, OwnG w3 w.heap.size (.slice x' (T + pcs (X i).n) c') (T + pcs (X i).n) A (fun _ => 64) C S ∧ Made S (i + 1) (fun j => (X j).n) (fun j => (X j).f) st ∧ T + pcs (X i).n = st (i + 1) := by
    refine ⟨_, _, _, fun j => if j ≤ i then st j else st i + pcs (X i).n, a2'.congr (fun j hj => ⟨rfl, ?_, rfl, fun _ _ => rfl, fun j1 => (a2'.elt j hj).lt j1⟩), ⟨?_, fun j hj => ?_, fun j hj k hk => ?_, fun j hj => ?_⟩, ?_⟩
    · unfold catF; split <;> rfl
    · rw [if_pos (by omega)]; exact d2.zero
    · by_cases e : j < i
      · rw [if_pos (by omega), if_pos (by omega)]; exact d2.step j e
      · obtain rfl : j = i := by omega
        rw [if_neg (by omega), if_pos (Nat.le_refl _)]
    · by_cases e : j < i
      · have h5 := d2.step j e
        have h6 := d2.mono (i := j + 1) i (by omega) (Nat.le_refl _)
        rw [if_pos (by omega), catF_old _ _ (by omega)]
        exact d2.sec j e k hk
      · obtain rfl : j = i := by omega
        rw [if_pos (Nat.le_refl _), ← d3, catF_new]
    · by_cases e : j < i
      · exact d2.le j e
      · obtain rfl : j = i := by omega
        show (X j).n ≤ 13005
        omega
    · dsimp only
      rw [if_neg (by omega), d3]
  refine (rdones_any kg 0 km kc K w3 (fun v => ActOk w3 v ∧ (v.n ≠ 0 → ∀ ad, v.x = some ad → (Value.slice x' (T + pcs (X i).n) c').ownBlock ≠ some ad.block)) M hcK hkl3 (fun j hj => ⟨hokK j hj, hfarK j hj⟩) h.rise hKM a m cm L f4 (fun j hj => ⟨f4.act j hj, hfarL j hj⟩) (by omega)).mono fun e w4 hD => ?_
  have mk : ∀ {w4 : World}, Below w3.heap.size w3 w4 → ∃ A C S st, OwnG w4 w.heap.size (.slice x' (T + pcs (X i).n) c') (T + pcs (X i).n) A (fun _ => 64) C S ∧ Made S (i + 1) (fun j => (X j).n) (fun j => (X j).f) st ∧ T + pcs (X i).n = st (i + 1) := fun hb4 => by
    obtain ⟨A, C, S, st, q1, q2, q3⟩ := hmade
    exact ⟨A, C, S, st, q1.below hb4, q2, q3⟩
  rw [f3] at hD
  rcases hD with ⟨hcan, g1, g2⟩ | ⟨hcan, g, n, c, O, g1, g2, G⟩
  · refine ⟨kg, km, kc, false, g1, K, hcK.turns (Turns.of_below (F := fun _ => False) g2) hkl3 (fun h => h), by have := g2.size; omega, fun j hj => (hokK j hj).below g2, hfarK, hkfar3, h.rise, ⟨M, hKM, fun hf => ?_⟩, fun _ => ?_, by omega, mk g2, hbw3.trans (g2.mono hbw3.size)⟩
    · simp at hf
    · cases fine with
      | false => exact After.no_more (h.no rfl)
      | true =>
        rintro M2 ⟨M0, l, k1, ⟨k2, k3⟩, k4⟩
        have : M0 = M := After.unique _ _ k1 (hfA rfl)
        subst this
        rcases hS with ⟨s1, s2, s3⟩ | ⟨s1, s2, s3⟩
        · have : l = acts := by
            rcases k2 with ⟨_, _, q⟩ | ⟨_, q, _⟩
            · rw [q, s3]
            · cases q
          rw [this] at k3
          exact hcan k3
        · rcases k2 with ⟨q, _⟩ | ⟨_, q, _⟩
          · exact s1 q
          · cases q
  · obtain ⟨q1, q2, q3, q4, q5, q6, q7, q8⟩ := G.out
    refine ⟨g, n, c, true, g1, O, q1, q2, fun j hj => (q5 j hj).1.below q8, fun j hj => (q5 j hj).2, fun hg => ?_, q6, ⟨_, q7, fun hf => ?_⟩, fun hf => ?_, by omega, mk q8, hbw3.trans (q8.mono hbw3.size)⟩
    · have := holt2 _ hg
      omega
    · simp at hf
      obtain ⟨hf1, hf2⟩ := hf
      subst hf2
      exact ⟨M, acts, hfA hf1, ⟨hS, hcan⟩, rfl⟩
    · cases fine with
      | false => exact After.no_more (h.no rfl)
      | true =>
        simp at hf
        rintro M2 ⟨M0, l, k1, ⟨k2, k3⟩, k4⟩
        rcases hS with ⟨s1, s2, s3⟩ | ⟨s1, s2, s3⟩
        · exact hf s2
        · rcases k2 with ⟨q, _⟩ | ⟨_, q, _⟩
          · exact s1 q
          · cases q

theorem cut_mk (g r l : Nat) (b : Nat → Nat) (k : Nat) : cut (mkS g r l b k) = mkS g r l b k := by
  funext j
  unfold cut mkS
  by_cases h : j < 64
  · rw [if_pos h]
  · rw [if_neg h, if_neg (by omega), if_neg h]

/- Open, of a disk that just the records of Made were written to. -/
theorem opens_any {B p : Nat} {w0 w : World} {F : Nat → Prop} {A : Nat → Nat} {D S : Nat → Nat → Nat} {c : Nat} {st : Nat → Nat} {X : Nat → LV} (hd : Dsk B w0 w F p (st c + 1) (st c) (fun _ => 0) A D) (hA : ∀ i, i < st c → A i = i) (hD : ∀ i, i < st c → D i = S i) (hm : Made S c (fun j => (X j).n) (fun j => (X j).f) st) (hc : c ≤ 40) :
    Calls Tryz.prog 11 #[.pointer (some ⟨p, 0, none⟩)] w fun e w' => Below w.heap.size w w' ∧
      ((∃ sp jp mb nb Dm M U, e = .returned (.tuple #[.pointer (some ⟨sp, 0, none⟩), .int .i64 0]) ∧ After (byt X) c M ∧ nb ≤ 10240 ∧ StAt w' sp jp mb nb Dm M U) ∨ ((∀ M, ¬ After (byt X) c M) ∧ e = .returned (.tuple #[.pointer none, .int .i64 5]))) := by
  have hA0 : ∀ i, i < st c → A i = 0 + i := fun i hi => by rw [Nat.zero_add]; exact hA i hi
  have hV : ∀ i, i < st c → vw (fun _ => 0) A D (st c) i = S i := fun i hi => by
    have h1 := vw_new (f := fun _ => 0) (D := D) hA0 hi
    rw [Nat.zero_add] at h1
    rw [h1, hD i hi]
    obtain ⟨j, hj, h2, h3⟩ := hm.inn c (Nat.le_refl _) i hi
    have h4 := hm.sec j hj (i - st j) (by omega)
    rw [show st j + (i - st j) = i by omega] at h4
    rw [h4, cut_mk]
  have hz : ¬ OkP (vw (fun _ => 0) A D (st c) (st c)) := fun h => by
    rw [vw_old (f := fun _ => 0) (D := D) hA0 (.inr (by omega))] at h
    exact zero_no (st c) h.r
  obtain ⟨r1, r2, r3⟩ := hm.recs (by omega) hV hz
  have hJ := open_yes p (st c + 1) (st c) F (fun _ => 0) A D w hd.pd (fun G hG => by have := r3 G hG; omega)
  refine (store_open w p (fun w1 jp g u R m Aa ln C ft => m = c ∧ ∀ i, i < c → recL ln ft i = byt X i) (hJ.mono fun e w1 ⟨jp, G, k, st', R, Aa, C, e1, e2, e3, e4, e5⟩ => ?_)).mono fun e w' ⟨w1, jp, g, u, R, m, Aa, ln, C, ft, q1, q2, ⟨hmc, q3⟩, q4, q5⟩ => ⟨q1.trans (q4.mono q1.size), ?_⟩
  · obtain ⟨rfl, hst⟩ := r1.uniq e4
    refine ⟨jp, G + 1, _, R, c, Aa, _, C, _, e1, e2, e5, by omega, rfl, fun i hi => ?_⟩
    obtain ⟨s1, s2⟩ := r2 i hi
    unfold recL byt
    have h1 : lnOf (vw (fun _ => 0) A D (st c)) st' i = (X i).n := by
      rw [← s1]
      unfold lnOf
      rw [hst i (by omega), hst (i + 1) (by omega)]
    rw [h1]
    refine List.map_congr_left fun j hj => ?_
    rw [← s2 j (List.mem_range.1 hj)]
    unfold ftOf
    rw [hst i (by omega)]
  · subst hmc
    rcases q5 with ⟨sp, mb, nb, Dm, M, h1, h2, h3, h4, h5, h6⟩ | ⟨h1, h2⟩
    · exact .inl ⟨sp, jp, mb, nb, Dm, M, _, h1, h2.congr q3, by omega, h6⟩
    · exact .inr ⟨fun M hM => h1 M (hM.congr (fun i hi => (q3 i hi).symm)), h2⟩

end Go.Proofs.YtbbjklenpgkooaaGreat

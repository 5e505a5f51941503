/-
  4 texts of this proof, one behind the other: AtRd, AtRdOsd, AtFacts, AtMay.
-/
import Derived.Test.YtnddhlkdemibgaaJ08
import Derived.Test.YtnddhlkdemibgaaJ03
import Derived.Test.YtnddhlkdemibgaaJ04
import Derived.Test.YtnddhlkdemibgaaJ06
import Derived.Test.YtnddhlkdemibgaaJ07
/-
  Package atlas: numbers that are read: read.
  Conditions: the reader's own bytes lie in memory, apart from the list of what is asked.
-/
namespace Go.Proofs.Ytnddhlkdemibgaa.At
open Go.RowKit By Fl Wi
set_option linter.unusedVariables false
set_option linter.unusedSimpArgs false
set_option maxRecDepth 100000

theorem keept {G : Nat → Prop} {w v : World} {b o : Nat} {x : Value} (t : Turns G w v) (hb : ¬ G b) (h : w.cell? ⟨b, o, none⟩ = some x) : v.cell? ⟨b, o, none⟩ = some x :=
  (World.cell?_of_block (a := ⟨b, o, none⟩) (t.block b (cell_lt' h) hb)).trans h

theorem keeptf {G : Nat → Prop} {w v : World} {b o : Nat} (t : Turns G w v) (hb : ¬ G b) (hlt : b < w.heap.size) (h : w.frozen? ⟨b, o, none⟩ = false) : v.frozen? ⟨b, o, none⟩ = false := by
  unfold World.frozen? at *
  rw [t.block b hlt hb]
  exact h

def atP (g : Nat) : Nat → Prop := fun k => k = g

def Rdr (w : World) (p N : Nat) (l : List Nat) (e : Nat) : Prop := ∃ x n c, PRd w p x n c l e ∧ ∀ a, x = some a → a.block < N

theorem Rdr.lt {w : World} {p N : Nat} {l : List Nat} {e : Nat} (h : Rdr w p N l e) : p < w.heap.size := by
  obtain ⟨x, n, c, h1, _⟩ := h
  exact h1.lt

theorem Rdr.turns {G : Nat → Prop} {w w' : World} {p N : Nat} {l : List Nat} {e : Nat} (h : Rdr w p N l e) (t : Turns G w w') (hp : ¬ G p) (hN : ∀ k, G k → N ≤ k) : Rdr w' p N l e := by
  obtain ⟨x, n, c, h1, h2⟩ := h
  refine ⟨x, n, c, ⟨keept t hp h1.rest, keept t hp h1.wrong, fun j => keeptf t hp h1.lt (h1.fr j), ⟨h1.sl.len, h1.sl.le, h1.sl.nil, ?_, h1.sl.lt⟩, h1.ap, h1.small⟩, h2⟩
  by_cases h0 : n = 0
  · exact .inl h0
  · exact t.row h1.sl.row (fun a ha hg => by
      have := h2 a ha
      have := hN _ hg
      omega)

theorem Rdr.below {w w' : World} {p N : Nat} {l : List Nat} {e : Nat} (h : Rdr w p N l e) (b : Below w.heap.size w w') : Rdr w' p N l e :=
  h.turns (Turns.of_below (F := fun _ => False) b) (fun h => h) (fun _ h => h.elim)

theorem turn_turns {g : Nat} {w w' : World} (t : Turn g w w') : Turns (atP g) w w' := ⟨t.os, t.tape, t.output, t.size, fun k hk hn => t.block k hk hn⟩

theorem PGo.rdr {w w' : World} {p N : Nat} {x : Option Addr} {l' : List Nat} {e' : Nat} (h : PGo w w' p x l' e') (hx : ∀ a, x = some a → a.block < N) : Turns (atP p) w w' ∧ Rdr w' p N l' e' := by
  obtain ⟨h1, x', n', c', h2, h3⟩ := h
  exact ⟨turn_turns h1, x', n', c', h2, fun a ha => by obtain ⟨b, hb, e⟩ := h3 a ha; rw [← e]; exact hx b hb⟩

theorem numR {p N : Nat} {l : List Nat} {e : Nat} {w : World} (t : Int) (h : Rdr w p N l e) (ht1 : -9223372036854775808 ≤ t) (ht2 : t ≤ 9223372036854775807) :
    Calls Try.prog 72 #[.pointer (some ⟨p, 0, none⟩), .int .i64 t] w fun ed w' => ed = .returned (.int .i64 ((rNum t l e).1 : Int)) ∧ Hid (Turns (atP p) w w' ∧ Rdr w' p N (rNum t l e).2.1 (rNum t l e).2.2) := by
  obtain ⟨x, n, c, h1, h2⟩ := h
  exact (pnum_any p n c e t x l w h1 ht1 ht2).mono fun ed w' ⟨h3, h4⟩ => ⟨h3, PGo.rdr h4 h2⟩

theorem readR (x : Option Addr) (n c : Nat) (l : List Nat) (w : World) (hl : Go.Proofs.Ytnddhlkdemibgaa.Sl w x n c l) (hn : n ≤ 140737488355328) :
    Calls Try.prog 47 #[.slice x n c] w fun e w' => ∃ p, e = .returned (.pointer (some ⟨p, 0, none⟩)) ∧ Hid (w.heap.size ≤ p ∧ Below w.heap.size w w' ∧ Rdr w' p w'.heap.size l 0) :=
  (read_any x n c l w hl hn).mono fun e w' ⟨p, y, cy, h1, h2, h3, h4, h5⟩ => ⟨p, h1, h2, h3, y, n, cy, h4, fun a ha => (h5 a ha).2⟩

theorem doneR {p N : Nat} {l : List Nat} {e : Nat} {w : World} (h : Rdr w p N l e) : Calls Try.prog 50 #[.pointer (some ⟨p, 0, none⟩)] w fun ed w' => ed = .returned (.int .i64 (rDone l e : Int)) ∧ w' = w := by
  obtain ⟨x, n, c, h1, h2⟩ := h
  exact pdone_any p n c e x l w h1

/- Numbers, one behind the other, each at most as great as is said. -/
def numsR : List Int → List Nat → Nat → List Int × List Nat × Nat
  | [], l, e => ([], l, e)
  | t :: ts, l, e => (((rNum t l e).1 : Int) :: (numsR ts (rNum t l e).2.1 (rNum t l e).2.2).1, (numsR ts (rNum t l e).2.1 (rNum t l e).2.2).2)

theorem numsR_app : ∀ (a b : List Int) (l : List Nat) (e : Nat), numsR (a ++ b) l e = ((numsR a l e).1 ++ (numsR b (numsR a l e).2.1 (numsR a l e).2.2).1, (numsR b (numsR a l e).2.1 (numsR a l e).2.2).2)
  | [], b, l, e => by simp [numsR]
  | t :: a, b, l, e => by simp [numsR, numsR_app a b]

theorem numsR_len : ∀ (a : List Int) (l : List Nat) (e : Nat), (numsR a l e).1.length = a.length
  | [], l, e => rfl
  | t :: a, l, e => by simp [numsR, numsR_len a]

theorem numsR_take {ts : List Int} {q : Nat} {t : Int} (l : List Nat) (e : Nat) (h : ts[q]? = some t) :
    numsR (ts.take (q + 1)) l e = ((numsR (ts.take q) l e).1 ++ [((rNum t (numsR (ts.take q) l e).2.1 (numsR (ts.take q) l e).2.2).1 : Int)], (rNum t (numsR (ts.take q) l e).2.1 (numsR (ts.take q) l e).2.2).2) := by
  rw [List.take_add_one, h, numsR_app]
  simp [numsR]

structure ReadAt (w wr : World) (p N g n q : Nat) (ts : List Int) (l : List Nat) (e : Nat) : Prop where
  rd : Rdr wr p N (numsR (ts.take q) l e).2.1 (numsR (ts.take q) l e).2.2
  turns : Turns (atP p) w wr
  ns : Ns wr g 3 ((numsR (ts.take q) l e).1 ++ List.replicate (n - q) 0)

theorem ReadAt.step {w wr w1 : World} {p N g n q : Nat} {ts : List Int} {l : List Nat} {e : Nat} {t : Int} (h : ReadAt w wr p N g n q ts l e) (hq : ts[q]? = some t) (hl : ts.length = n) (hg : w.heap.size ≤ g) (hpw : p < w.heap.size) (hN : N ≤ w.heap.size)
    (t1 : Turns (atP p) wr w1) (r1 : Rdr w1 p N (rNum t (numsR (ts.take q) l e).2.1 (numsR (ts.take q) l e).2.2).2.1 (rNum t (numsR (ts.take q) l e).2.1 (numsR (ts.take q) l e).2.2).2.2) :
    ReadAt w (w1.setCell ⟨g, q, none⟩ (.int .i64 ((rNum t (numsR (ts.take q) l e).2.1 (numsR (ts.take q) l e).2.2).1 : Int))) p N g n (q + 1) ts l e := by
  have hqn : q < n := by rw [← hl]; exact (List.getElem?_eq_some_iff.1 hq).1
  have e1 := numsR_take l e hq
  refine ⟨?_, ?_, ?_⟩
  · rw [e1]
    exact r1.turns (turns_put (Turns.refl _ _) _ _) (fun e2 => by have e3 : p = g := e2; omega) (fun k hk => by have e3 : k = g := hk; omega)
  · exact (h.turns.trans t1).setCell (p := ⟨g, q, none⟩) (.inr hg) _
  · rw [e1]
    have := (h.ns.turns t1 (fun e2 => by have e3 : g = p := e2; omega)).set q ((rNum t (numsR (ts.take q) l e).2.1 (numsR (ts.take q) l e).2.2).1 : Int)
    rw [rep_set (by rw [numsR_len, List.length_take]; omega) hqn] at this
    exact this

set_option maxHeartbeats 1600000 in
theorem readL_any {w : World} {p N : Nat} {x : Option Addr} {n c : Nat} {ts : List Int} {l : List Nat} {e : Nat} (hr : Rdr w p N l e) (hN : N ≤ w.heap.size) (h : Is w x n c ts) (hx : ∀ a, x = some a → a.block ≠ p) (ht : ∀ t ∈ ts, 0 ≤ t ∧ t ≤ 9223372036854775807) (hn : n ≤ 1000) :
    Calls Try.prog 48 #[.pointer (some ⟨p, 0, none⟩), .slice x n c] w fun ed w' => ∃ g, ed = .returned (.slice (some ⟨g, 0, none⟩) n n) ∧ Hid (Turns (atP p) w w' ∧ Rdr w' p N (numsR ts l e).2.1 (numsR ts l e).2.2 ∧ Ns w' g 3 (numsR ts l e).1 ∧ w.heap.size ≤ g) := by
  have HI := hid h
  have HL := hid h.len
  have HT := hid ht
  have HX := hid hx
  have HRd := hid hr
  have hpl := hr.lt
  have hmk := fun W => run_make_ns W 76 3 (by kernel_rfl) (by kernel_rfl) n hn
  obtain ⟨rz, hrz⟩ : ∃ r : Array Value, r = ((List.replicate n (0 : Int)).map fun v => Value.int .i64 v).toArray := ⟨_, rfl⟩
  rw [← hrz] at hmk
  have HRZ := hid hrz
  clear h ht hx hr hrz
  go_enter Try.func48, Try.ntmps48
  go_wp2_with fail
  obtain ⟨W0, hW0⟩ : ∃ W0, W0 = w.alloc (.cells rz 3) := ⟨_, rfl⟩
  have b0 : Below w.heap.size w W0 := by rw [hW0]; exact al _ _
  have H0 : Hid (ReadAt w W0 p N w.heap.size n 0 ts l e) := by
    refine ⟨HRd.out.below b0, Turns.of_below b0, ?_⟩
    show Ns W0 _ _ (List.replicate (n - 0) 0)
    rw [Nat.sub_zero, hW0, HRZ.out]
    exact Ns.new w 3 (List.replicate n 0)
  rw [← hW0]
  clear hW0 b0 hmk
  go_loopw [13, 6, 7] (fun i _ _ wr => ∃ q : Nat, q ≤ n ∧ i = .int .i64 q ∧ Hid (ReadAt w wr p N w.heap.size n q ts l e)) (fun i _ _ _ => n - (intOf i).toNat)
  case atStart => exact ⟨0, by omega, rfl, H0.out⟩
  case round =>
    obtain ⟨q, hq, rfl, HR⟩ := hrel
    by_cases hlt : q < n
    · have hqn : (q : Int) < (n : Int) := by omega
      obtain ⟨t, htq⟩ : ∃ a, ts[q]? = some a := ⟨ts[q]'(by have := HL.out; omega), List.getElem?_eq_getElem (by have := HL.out; omega)⟩
      obtain ⟨t0, t1⟩ := HT.out t (List.mem_of_getElem? htq)
      rcases (HI.out.turns HR.out.turns (fun a ha e => HX.out a ha e)).row with h0 | ⟨b, o, rfl, hbl, hcell⟩
      · omega
      have c0 := hcell q t htq
      have HTQ := hid htq
      have hNm := numR t HR.out.rd (by omega) t1
      obtain ⟨v, hv⟩ : ∃ v : Int, v = ((rNum t (numsR (ts.take q) l e).2.1 (numsR (ts.take q) l e).2.2).1 : Int) := ⟨_, rfl⟩
      rw [← hv] at hNm
      have HV := hid hv
      have HPL := hid hpl
      clear hcell htq hv t0 t1 hpl
      go_wp2_with (
           go_at_call 72; refine hNm.mono ?_; rintro ed w3 ⟨rfl, H3⟩; clear hNm
           have hT := HR.out.ns.turns H3.out.1 (fun e2 => by have e3 : w.heap.size = p := e2; have := HPL.out; omega)
           obtain ⟨y0, hy0⟩ : ∃ v, ((numsR (ts.take q) l e).1 ++ List.replicate (n - q) 0)[q]? = some v := ⟨_, List.getElem?_eq_getElem (by rw [List.length_append, numsR_len, List.length_take, List.length_replicate]; have := HL.out; omega)⟩
           have u0 := hT.cell hy0
           have f0 := hT.fr q
           clear hT hy0)
      go_roundw
      case rel =>
        refine ⟨q + 1, by omega, by go_num, ?_⟩
        have := HR.out.step HTQ.out HL.out (Nat.le_refl _) HPL.out hN H3.out.1 H3.out.2
        rw [← HV.out] at this
        exact this
      case measure => simp [intOf]; omega
    · obtain rfl : q = n := by omega
      have htk : ts.take q = ts := by rw [← HL.out]; exact List.take_length
      have hR := HR.out
      have h1 := hR.rd
      have h2 := hR.ns
      rw [htk] at h1 h2
      rw [Nat.sub_self, List.replicate_zero, List.append_nil] at h2
      have HF := hid (And.intro hR.turns (And.intro h1 h2))
      clear h1 h2 hR
      go_wp2_with fail
      go_ret
      exact ⟨_, rfl, HF.out.1, HF.out.2.1, HF.out.2.2, Nat.le_refl _⟩

end Go.Proofs.Ytnddhlkdemibgaa.At

/-
  Package atlas: readOsd.
  Conditions: the reader lies in memory.
-/
namespace Go.Proofs.Ytnddhlkdemibgaa.At
open Go.RowKit By Fl Wi
set_option linter.unusedVariables false
set_option linter.unusedSimpArgs false
set_option maxRecDepth 100000

def osdT : List Int := [999, 1, 1, 16777216, 2147483647, 2147483647, 999, 999]
def osdN (T : List Int) : Osd := ⟨T.getD 0 0, T.getD 1 0 == 1, T.getD 2 0 == 1, T.getD 3 0, T.getD 4 0, T.getD 5 0, T.getD 6 0, T.getD 7 0⟩

theorem osdT_ok : ∀ t ∈ osdT, 0 ≤ t ∧ t ≤ 9223372036854775807 := by
  intro t ht
  simp only [osdT, List.mem_cons, List.not_mem_nil, or_false] at ht
  omega

set_option maxHeartbeats 3200000 in
theorem readOsd_any {w : World} {p N : Nat} {l : List Nat} {e : Nat} (hr : Rdr w p N l e) (hN : N ≤ w.heap.size) :
    Calls Try.prog 49 #[.pointer (some ⟨p, 0, none⟩)] w fun ed w' => ed = .returned (vO (osdN (numsR osdT l e).1)) ∧ Hid (Turns (atP p) w w' ∧ Rdr w' p N (numsR osdT l e).2.1 (numsR osdT l e).2.2) := by
  have hpl := hr.lt
  obtain ⟨wB, hwB⟩ : ∃ wB, wB = w.alloc (.cells #[.int .i64 0, .bool false, .bool false, .int .i64 0, .int .i64 0, .int .i64 0, .int .i64 0, .int .i64 0] 28) := ⟨_, rfl⟩
  have b1 : Below w.heap.size w wB := by rw [hwB]; exact al _ _
  have hbx : wB.heap[w.heap.size]? = some (.cells #[.int .i64 0, .bool false, .bool false, .int .i64 0, .int .i64 0, .int .i64 0, .int .i64 0, .int .i64 0] 28 (0, 0)) := by rw [hwB]; exact heap_alloc_new _ _
  have hsB : wB.heap.size = w.heap.size + 1 := by rw [hwB]; simp
  obtain ⟨wI, hwI⟩ : ∃ wI, wI = wB.alloc (.cells #[.int .i64 999, .int .i64 1, .int .i64 1, .int .i64 16777216, .int .i64 2147483647, .int .i64 2147483647, .int .i64 999, .int .i64 999] 3) := ⟨_, rfl⟩
  have b2 : Below wB.heap.size wB wI := by rw [hwI]; exact al _ _
  have hIs : Is wI (some ⟨wB.heap.size, 0, none⟩) 8 8 osdT := by rw [hwI]; exact (Ns.new wB 3 osdT).is
  have hbx2 := (b2.block _ (Array.getElem?_eq_some_iff.1 hbx).1).trans hbx
  have hsI : wI.heap.size = wB.heap.size + 1 := by rw [hwI]; simp
  have hL := readL_any (hr.below (on b1 b2)) (by omega) hIs (fun a ha e => by injection ha with ha; subst ha; have e2 : wB.heap.size = p := e; omega) osdT_ok (by omega)
  have hlen := numsR_len osdT l e
  obtain ⟨T, hT⟩ : ∃ T, T = (numsR osdT l e).1 := ⟨_, rfl⟩
  obtain ⟨M, hM⟩ : ∃ M, M = (numsR osdT l e).2 := ⟨_, rfl⟩
  rw [← hT, ← hM] at hL
  rw [← hT, ← hM]
  rw [← hT] at hlen
  obtain ⟨t0, t1, t2, t3, t4, t5, t6, t7, rfl⟩ : ∃ t0 t1 t2 t3 t4 t5 t6 t7, T = [t0, t1, t2, t3, t4, t5, t6, t7] := by
    match T, hlen with
    | [t0, t1, t2, t3, t4, t5, t6, t7], _ => exact ⟨t0, t1, t2, t3, t4, t5, t6, t7, rfl⟩
  have HPL := hid hpl
  have HB := hid (on b1 b2)
  have HX := hid hbx2
  have HSz := hid (And.intro hsB hsI)
  rw [hsB] at hL
  clear hr hpl hbx hbx2 hIs b1 b2 hT hM hlen hsB hsI
  subst hwI hwB
  unfold vO osdN
  simp only [List.getD_cons_zero, List.getD_cons_succ]
  go_enter Try.func49, Try.ntmps49
  go_wp2_with (go_at_call 48; refine hL.mono ?_; rintro ed w2 ⟨g, rfl, H2⟩; clear hL)
  obtain ⟨wD, hwD⟩ : ∃ wD, wD = w2.drew := ⟨_, rfl⟩
  have hNs : Ns wD g 3 [t0, t1, t2, t3, t4, t5, t6, t7] := by rw [hwD]; exact H2.out.2.2.1
  have hbx : wD.heap[w.heap.size]? = some (.cells #[.int .i64 0, .bool false, .bool false, .int .i64 0, .int .i64 0, .int .i64 0, .int .i64 0, .int .i64 0] 28 (0, 0)) := by
    rw [hwD]
    exact (H2.out.1.block _ (Array.getElem?_eq_some_iff.1 HX.out).1 (fun e => by have e2 : w.heap.size = p := e; have := HPL.out; omega)).trans HX.out
  have c0 : wD.cell? ⟨g, 0, none⟩ = some (.int .i64 t0) := hNs.cell rfl
  have c1 : wD.cell? ⟨g, 1, none⟩ = some (.int .i64 t1) := hNs.cell rfl
  have c2 : wD.cell? ⟨g, 2, none⟩ = some (.int .i64 t2) := hNs.cell rfl
  have c3 : wD.cell? ⟨g, 3, none⟩ = some (.int .i64 t3) := hNs.cell rfl
  have c4 : wD.cell? ⟨g, 4, none⟩ = some (.int .i64 t4) := hNs.cell rfl
  have c5 : wD.cell? ⟨g, 5, none⟩ = some (.int .i64 t5) := hNs.cell rfl
  have c6 : wD.cell? ⟨g, 6, none⟩ = some (.int .i64 t6) := hNs.cell rfl
  have c7 : wD.cell? ⟨g, 7, none⟩ = some (.int .i64 t7) := hNs.cell rfl
  have d0 : wD.cell? ⟨w.heap.size, 0, none⟩ = some (.int .i64 0) := cell_heap hbx rfl
  have d1 : wD.cell? ⟨w.heap.size, 1, none⟩ = some (.bool false) := cell_heap hbx rfl
  have d2 : wD.cell? ⟨w.heap.size, 2, none⟩ = some (.bool false) := cell_heap hbx rfl
  have d3 : wD.cell? ⟨w.heap.size, 3, none⟩ = some (.int .i64 0) := cell_heap hbx rfl
  have d4 : wD.cell? ⟨w.heap.size, 4, none⟩ = some (.int .i64 0) := cell_heap hbx rfl
  have d5 : wD.cell? ⟨w.heap.size, 5, none⟩ = some (.int .i64 0) := cell_heap hbx rfl
  have d6 : wD.cell? ⟨w.heap.size, 6, none⟩ = some (.int .i64 0) := cell_heap hbx rfl
  have d7 : wD.cell? ⟨w.heap.size, 7, none⟩ = some (.int .i64 0) := cell_heap hbx rfl
  have f0 := fr_heap hbx 0
  have f1 := fr_heap hbx 1
  have f2 := fr_heap hbx 2
  have f3 := fr_heap hbx 3
  have f4 := fr_heap hbx 4
  have f5 := fr_heap hbx 5
  have f6 := fr_heap hbx 6
  have f7 := fr_heap hbx 7
  have HWD := hid hwD.symm
  clear hNs hbx hwD
  refine wp_region_last (fun v => v.cell? ⟨g, 0, none⟩ = some (.int .i64 t0) ∧ v.cell? ⟨g, 1, none⟩ = some (.int .i64 t1) ∧ v.cell? ⟨g, 2, none⟩ = some (.int .i64 t2) ∧ v.cell? ⟨g, 3, none⟩ = some (.int .i64 t3) ∧ v.cell? ⟨g, 4, none⟩ = some (.int .i64 t4) ∧ v.cell? ⟨g, 5, none⟩ = some (.int .i64 t5) ∧ v.cell? ⟨g, 6, none⟩ = some (.int .i64 t6) ∧ v.cell? ⟨g, 7, none⟩ = some (.int .i64 t7) ∧ v.cell? ⟨w.heap.size, 0, none⟩ = some (.int .i64 0) ∧ v.cell? ⟨w.heap.size, 1, none⟩ = some (.bool false) ∧ v.cell? ⟨w.heap.size, 2, none⟩ = some (.bool false) ∧ v.cell? ⟨w.heap.size, 3, none⟩ = some (.int .i64 0) ∧ v.cell? ⟨w.heap.size, 4, none⟩ = some (.int .i64 0) ∧ v.cell? ⟨w.heap.size, 5, none⟩ = some (.int .i64 0) ∧ v.cell? ⟨w.heap.size, 6, none⟩ = some (.int .i64 0) ∧ v.cell? ⟨w.heap.size, 7, none⟩ = some (.int .i64 0)) 27 (by kernel_rfl) (by rw [HWD.out]; exact ⟨c0, c1, c2, c3, c4, c5, c6, c7, d0, d1, d2, d3, d4, d5, d6, d7⟩) (fun hS => ?_)
  rw [HWD.out] at hS ⊢
  refine wpAnyL_take (i := 0) (v := ?_) rfl (by kernel_rfl) (by kernel_rfl) (by kernel_rfl) (by kernel_rfl) (fun _ _ _ h => h) hS (Or.inl ⟨by rfl, ?_⟩) ?_
  case refine_2 => (intro w hSw; (try dsimp only at hSw); go_simp; (try with_reducible rfl))
  (try simp only [Act.put, List.setIfInBounds_toArray, List.set_cons_zero, List.set_cons_succ])
  refine wpAnyL_take (i := 1) (v := ?_) rfl (by kernel_rfl) (by kernel_rfl) (by kernel_rfl) (by kernel_rfl) (fun _ _ _ h => h) hS (Or.inl ⟨by rfl, ?_⟩) ?_
  case refine_2 => (intro w hSw; (try dsimp only at hSw); go_simp; (try with_reducible rfl))
  (try simp only [Act.put, List.setIfInBounds_toArray, List.set_cons_zero, List.set_cons_succ])
  refine wpAnyL_take (i := 2) (v := ?_) rfl (by kernel_rfl) (by kernel_rfl) (by kernel_rfl) (by kernel_rfl) (fun _ _ _ h => h) hS (Or.inl ⟨by rfl, ?_⟩) ?_
  case refine_2 => (intro w hSw; (try dsimp only at hSw); go_simp; (try with_reducible rfl))
  (try simp only [Act.put, List.setIfInBounds_toArray, List.set_cons_zero, List.set_cons_succ])
  refine wpAnyL_take (i := 3) (v := ?_) rfl (by kernel_rfl) (by kernel_rfl) (by kernel_rfl) (by kernel_rfl) (fun _ _ _ h => h) hS (Or.inl ⟨by rfl, ?_⟩) ?_
  case refine_2 => (intro w hSw; (try dsimp only at hSw); go_simp; (try with_reducible rfl))
  (try simp only [Act.put, List.setIfInBounds_toArray, List.set_cons_zero, List.set_cons_succ])
  refine wpAnyL_take (i := 4) (v := ?_) rfl (by kernel_rfl) (by kernel_rfl) (by kernel_rfl) (by kernel_rfl) (fun _ _ _ h => h) hS (Or.inl ⟨by rfl, ?_⟩) ?_
  case refine_2 => (intro w hSw; (try dsimp only at hSw); go_simp; (try with_reducible rfl))
  (try simp only [Act.put, List.setIfInBounds_toArray, List.set_cons_zero, List.set_cons_succ])
  refine wpAnyL_take (i := 5) (v := ?_) rfl (by kernel_rfl) (by kernel_rfl) (by kernel_rfl) (by kernel_rfl) (fun _ _ _ h => h) hS (Or.inl ⟨by rfl, ?_⟩) ?_
  case refine_2 => (intro w hSw; (try dsimp only at hSw); go_simp; (try with_reducible rfl))
  (try simp only [Act.put, List.setIfInBounds_toArray, List.set_cons_zero, List.set_cons_succ])
  refine wpAnyL_take (i := 6) (v := ?_) rfl (by kernel_rfl) (by kernel_rfl) (by kernel_rfl) (by kernel_rfl) (fun _ _ _ h => h) hS (Or.inl ⟨by rfl, ?_⟩) ?_
  case refine_2 => (intro w hSw; (try dsimp only at hSw); go_simp; (try with_reducible rfl))
  (try simp only [Act.put, List.setIfInBounds_toArray, List.set_cons_zero, List.set_cons_succ])
  refine wpAnyL_take (i := 7) (v := ?_) rfl (by kernel_rfl) (by kernel_rfl) (by kernel_rfl) (by kernel_rfl) (fun _ _ _ h => h) hS (Or.inl ⟨by rfl, ?_⟩) ?_
  case refine_2 => (intro w hSw; (try dsimp only at hSw); go_simp; (try with_reducible rfl))
  (try simp only [Act.put, List.setIfInBounds_toArray, List.set_cons_zero, List.set_cons_succ])
  refine wpAnyL_take (i := 8) (v := ?_) rfl (by kernel_rfl) (by kernel_rfl) (by kernel_rfl) (by kernel_rfl) (fun _ _ _ h => h) hS (Or.inl ⟨by rfl, ?_⟩) ?_
  case refine_2 => (intro w hSw; (try dsimp only at hSw); go_simp; (try with_reducible rfl))
  (try simp only [Act.put, List.setIfInBounds_toArray, List.set_cons_zero, List.set_cons_succ])
  refine wpAnyL_take (i := 9) (v := ?_) rfl (by kernel_rfl) (by kernel_rfl) (by kernel_rfl) (by kernel_rfl) (fun _ _ _ h => h) hS (Or.inl ⟨by rfl, ?_⟩) ?_
  case refine_2 => (intro w hSw; (try dsimp only at hSw); go_simp; (try with_reducible rfl))
  (try simp only [Act.put, List.setIfInBounds_toArray, List.set_cons_zero, List.set_cons_succ])
  refine wpAnyL_take (i := 10) (v := ?_) rfl (by kernel_rfl) (by kernel_rfl) (by kernel_rfl) (by kernel_rfl) (fun _ _ _ h => h) hS (Or.inl ⟨by rfl, ?_⟩) ?_
  case refine_2 => (intro w hSw; (try dsimp only at hSw); go_simp; (try with_reducible rfl))
  (try simp only [Act.put, List.setIfInBounds_toArray, List.set_cons_zero, List.set_cons_succ])
  refine wpAnyL_take (i := 11) (v := ?_) rfl (by kernel_rfl) (by kernel_rfl) (by kernel_rfl) (by kernel_rfl) (fun _ _ _ h => h) hS (Or.inl ⟨by rfl, ?_⟩) ?_
  case refine_2 => (intro w hSw; (try dsimp only at hSw); go_simp; (try with_reducible rfl))
  (try simp only [Act.put, List.setIfInBounds_toArray, List.set_cons_zero, List.set_cons_succ])
  refine wpAnyL_take (i := 12) (v := ?_) rfl (by kernel_rfl) (by kernel_rfl) (by kernel_rfl) (by kernel_rfl) (fun _ _ _ h => h) hS (Or.inl ⟨by rfl, ?_⟩) ?_
  case refine_2 => (intro w hSw; (try dsimp only at hSw); go_simp; (try with_reducible rfl))
  (try simp only [Act.put, List.setIfInBounds_toArray, List.set_cons_zero, List.set_cons_succ])
  refine wpAnyL_take (i := 13) (v := ?_) rfl (by kernel_rfl) (by kernel_rfl) (by kernel_rfl) (by kernel_rfl) (fun _ _ _ h => h) hS (Or.inl ⟨by rfl, ?_⟩) ?_
  case refine_2 => (intro w hSw; (try dsimp only at hSw); go_simp; (try with_reducible rfl))
  (try simp only [Act.put, List.setIfInBounds_toArray, List.set_cons_zero, List.set_cons_succ])
  refine wpAnyL_take (i := 14) (v := ?_) rfl (by kernel_rfl) (by kernel_rfl) (by kernel_rfl) (by kernel_rfl) (fun _ _ _ h => h) hS (Or.inl ⟨by rfl, ?_⟩) ?_
  case refine_2 => (intro w hSw; (try dsimp only at hSw); go_simp; (try with_reducible rfl))
  (try simp only [Act.put, List.setIfInBounds_toArray, List.set_cons_zero, List.set_cons_succ])
  refine wpAnyL_take (i := 15) (v := ?_) rfl (by kernel_rfl) (by kernel_rfl) (by kernel_rfl) (by kernel_rfl) (fun _ _ _ h => h) hS (Or.inl ⟨by rfl, ?_⟩) ?_
  case refine_2 => (intro w hSw; (try dsimp only at hSw); go_simp; (try with_reducible rfl))
  (try simp only [Act.put, List.setIfInBounds_toArray, List.set_cons_zero, List.set_cons_succ])
  refine wpAnyL_take (i := 16) (v := ?_) rfl (by kernel_rfl) (by kernel_rfl) (by kernel_rfl) (by kernel_rfl) (fun _ _ _ h => h) hS (Or.inl ⟨by rfl, ?_⟩) ?_
  case refine_2 => (intro w hSw; (try dsimp only at hSw); go_simp; (try with_reducible rfl))
  (try simp only [Act.put, List.setIfInBounds_toArray, List.set_cons_zero, List.set_cons_succ])
  refine wpAnyL_take (i := 17) (v := ?_) rfl (by kernel_rfl) (by kernel_rfl) (by kernel_rfl) (by kernel_rfl) (fun _ _ _ h => h) hS (Or.inl ⟨by rfl, ?_⟩) ?_
  case refine_2 => (intro w hSw; (try dsimp only at hSw); go_simp; (try with_reducible rfl))
  (try simp only [Act.put, List.setIfInBounds_toArray, List.set_cons_zero, List.set_cons_succ])
  refine wpAnyL_take (i := 18) (v := ?_) rfl (by kernel_rfl) (by kernel_rfl) (by kernel_rfl) (by kernel_rfl) (fun _ _ _ h => h) hS (Or.inl ⟨by rfl, ?_⟩) ?_
  case refine_2 => (intro w hSw; (try dsimp only at hSw); go_simp; (try with_reducible rfl))
  (try simp only [Act.put, List.setIfInBounds_toArray, List.set_cons_zero, List.set_cons_succ])
  refine wpAnyL_take (i := 19) (v := ?_) rfl (by kernel_rfl) (by kernel_rfl) (by kernel_rfl) (by kernel_rfl) (fun _ _ _ h => h) hS (Or.inl ⟨by rfl, ?_⟩) ?_
  case refine_2 => (intro w hSw; (try dsimp only at hSw); go_simp; (try with_reducible rfl))
  (try simp only [Act.put, List.setIfInBounds_toArray, List.set_cons_zero, List.set_cons_succ])
  refine wpAnyL_take (i := 20) (v := ?_) rfl (by kernel_rfl) (by kernel_rfl) (by kernel_rfl) (by kernel_rfl) (fun _ _ _ h => h) hS (Or.inl ⟨by rfl, ?_⟩) ?_
  case refine_2 => (intro w hSw; (try dsimp only at hSw); go_simp; (try with_reducible rfl))
  (try simp only [Act.put, List.setIfInBounds_toArray, List.set_cons_zero, List.set_cons_succ])
  refine wpAnyL_take (i := 21) (v := ?_) rfl (by kernel_rfl) (by kernel_rfl) (by kernel_rfl) (by kernel_rfl) (fun _ _ _ h => h) hS (Or.inl ⟨by rfl, ?_⟩) ?_
  case refine_2 => (intro w hSw; (try dsimp only at hSw); go_simp; (try with_reducible rfl))
  (try simp only [Act.put, List.setIfInBounds_toArray, List.set_cons_zero, List.set_cons_succ])
  refine wpAnyL_take (i := 22) (v := ?_) rfl (by kernel_rfl) (by kernel_rfl) (by kernel_rfl) (by kernel_rfl) (fun _ _ _ h => h) hS (Or.inl ⟨by rfl, ?_⟩) ?_
  case refine_2 => (intro w hSw; (try dsimp only at hSw); go_simp; (try with_reducible rfl))
  (try simp only [Act.put, List.setIfInBounds_toArray, List.set_cons_zero, List.set_cons_succ])
  refine wpAnyL_take (i := 23) (v := ?_) rfl (by kernel_rfl) (by kernel_rfl) (by kernel_rfl) (by kernel_rfl) (fun _ _ _ h => h) hS (Or.inl ⟨by rfl, ?_⟩) ?_
  case refine_2 => (intro w hSw; (try dsimp only at hSw); go_simp; (try with_reducible rfl))
  (try simp only [Act.put, List.setIfInBounds_toArray, List.set_cons_zero, List.set_cons_succ])
  refine wpAnyL_take (i := 24) (v := ?_) rfl (by kernel_rfl) (by kernel_rfl) (by kernel_rfl) (by kernel_rfl) (fun _ _ _ h => h) hS (Or.inl ⟨by rfl, ?_⟩) ?_
  case refine_2 => (intro w hSw; (try dsimp only at hSw); go_simp; (try with_reducible rfl))
  (try simp only [Act.put, List.setIfInBounds_toArray, List.set_cons_zero, List.set_cons_succ])
  refine wpAnyL_take (i := 25) (v := ?_) rfl (by kernel_rfl) (by kernel_rfl) (by kernel_rfl) (by kernel_rfl) (fun _ _ _ h => h) hS (Or.inl ⟨by rfl, ?_⟩) ?_
  case refine_2 => (intro w hSw; (try dsimp only at hSw); go_simp; (try with_reducible rfl))
  (try simp only [Act.put, List.setIfInBounds_toArray, List.set_cons_zero, List.set_cons_succ])
  refine wpAnyL_take (i := 26) (v := ?_) rfl (by kernel_rfl) (by kernel_rfl) (by kernel_rfl) (by kernel_rfl) (fun _ _ _ h => h) hS (Or.inl ⟨by rfl, ?_⟩) ?_
  case refine_2 => (intro w hSw; (try dsimp only at hSw); go_simp; (try with_reducible rfl))
  (try simp only [Act.put, List.setIfInBounds_toArray, List.set_cons_zero, List.set_cons_succ])
  refine wpAnyL_one (i := 27) (by kernel_rfl) rfl (fun K hK => ?_)
  go_simp
  refine hK.out _ _ (fun h => absurd rfl h) ?_
  clear hK K
  refine wpAnyL_done (by kernel_rfl) ?_ _
  go_wp2_with fail
  have T1 : Turns (atP p) w wD := by rw [← HWD.out]; exact ((Turns.of_below HB.out).trans H2.out.1).drew
  have R1 : Rdr wD p N M.1 M.2 := by
    rw [← HWD.out]
    exact H2.out.2.1.turns (G := fun _ => False) ((Turns.refl _ w2).drew) (fun h => h) (fun _ h => h.elim)
  refine bodyPost_ret (v := .agg #[.int .i64 t0, .bool (t1 == 1), .bool (t2 == 1), .int .i64 t3, .int .i64 t4, .int .i64 t5, .int .i64 t6, .int .i64 t7]) ?_ rfl ?_
  · rw [results_cell1 rfl]
    go_simp
  · refine ⟨rfl, ?_, R1.turns (G := fun k => k = w.heap.size) ?_ (fun e2 => by have e3 : p = w.heap.size := e2; have := HPL.out; omega) (fun k hk => by have e3 : k = w.heap.size := hk; omega)⟩
    · exact T1.more (turns_put (turns_put (turns_put (turns_put (turns_put (turns_put (turns_put (turns_put (Turns.refl _ _) _ _) _ _) _ _) _ _) _ _) _ _) _ _) _ _) (fun i hi => .inr (by have e3 : i = w.heap.size := hi; omega))
    · exact turns_put (turns_put (turns_put (turns_put (turns_put (turns_put (turns_put (turns_put (Turns.refl _ _) _ _) _ _) _ _) _ _) _ _) _ _) _ _) _ _

end Go.Proofs.Ytnddhlkdemibgaa.At

/-
  A map that may be is followed by one that may be.
  Conditions: none.
-/
namespace Go.Proofs.Ytnddhlkdemibgaa.At
open Go.RowKit By Fl
set_option linter.unusedVariables false
set_option linter.unusedSimpArgs false
set_option maxRecDepth 100000

theorem good_pw (L : List Osd) : Good L ↔ (∀ a ∈ L, osdB a = true) ∧ L.Pairwise (fun b a => lowB a b = true) := by
  rw [List.pairwise_iff_getElem]
  constructor
  · intro h
    refine ⟨fun a ha => ?_, fun i j hi hj hij => ?_⟩
    · obtain ⟨k, hk⟩ := List.mem_iff_getElem?.1 ha
      exact (h k a hk).1
    · exact (h j L[j] (List.getElem?_eq_getElem hj)).2 i L[i] hij (List.getElem?_eq_getElem hi)
  · rintro ⟨h1, h2⟩ i a hi
    obtain ⟨hl, e⟩ := List.getElem?_eq_some_iff.1 hi
    refine ⟨h1 a (List.mem_of_getElem? hi), fun k b hk hb => ?_⟩
    obtain ⟨hl2, e2⟩ := List.getElem?_eq_some_iff.1 hb
    have := h2 k i hl2 hl hk
    rw [e, e2] at this
    exact this

theorem good_ins {L : List Osd} {o : Osd} (h : Good L) (ho : osdB o = true) (hno : L.findIdx? (isId o.id) = none) : goodB (ins o L) = !movedB L o := by
  have hne : ∀ a ∈ L, a.id ≠ o.id := fun a ha e => by
    obtain ⟨k, hk⟩ := List.mem_iff_getElem?.1 ha
    have := idx_none hno k a hk
    unfold isId at this
    simp [e] at this
  rw [ins_at]
  have hlow : ∀ a ∈ L.take (inAt o L), a.id < o.id := fun a ha => by
    obtain ⟨k, hk⟩ := List.mem_iff_getElem?.1 ha
    rw [List.getElem?_take] at hk
    split at hk
    · rename_i hki
      have hov : overId o.id a = false := by
        unfold inAt at hki
        cases hq : L.findIdx? (overId o.id) with
        | none => exact idx_none hq k a hk
        | some q =>
          rw [hq] at hki
          obtain ⟨_, _, _, h4⟩ := idx_some hq
          exact h4 k a hki hk
      unfold overId at hov
      simp at hov
      have := hne a (List.mem_of_getElem? hk)
      omega
    · cases hk
  have hhigh : ∀ b ∈ L.drop (inAt o L), o.id < b.id := fun b hb => by
    obtain ⟨k, hk⟩ := List.mem_iff_getElem?.1 hb
    rw [List.getElem?_drop] at hk
    unfold inAt at hk
    cases hq : L.findIdx? (overId o.id) with
    | none =>
      rw [hq] at hk
      have := (List.getElem?_eq_some_iff.1 hk).1
      simp only [] at this
      omega
    | some q =>
      rw [hq] at hk
      obtain ⟨a, ha, h3, _⟩ := idx_some hq
      unfold overId at h3
      simp at h3
      by_cases hk0 : k = 0
      · subst hk0
        have := Option.some.inj (ha.symm.trans hk)
        subst this
        exact h3
      · have := ((lowB_iff _ _).1 ((h (q + k) b hk).2 q a (by omega) ha)).1
        omega
  have hmem : ∀ a, a ∈ L.take (inAt o L) ∨ a ∈ L.drop (inAt o L) ↔ a ∈ L := fun a => by
    rw [← List.mem_append, List.take_append_drop]
  obtain ⟨h1, h2⟩ := (good_pw L).1 h
  cases hmv : movedB L o with
  | true =>
    obtain ⟨x, hx, e1, e2⟩ := (moved_iff L o).1 hmv
    show goodB _ = false
    cases hg : goodB (L.take (inAt o L) ++ o :: L.drop (inAt o L)) with
    | false => rfl
    | true =>
      obtain ⟨_, g2⟩ := (good_pw _).1 ((goodB_iff _).1 hg)
      rw [List.pairwise_append, List.pairwise_cons] at g2
      rcases (hmem x).2 hx with q | q
      · exact absurd (((lowB_iff _ _).1 (g2.2.2 x q o List.mem_cons_self)).2 e1) e2
      · exact absurd (((lowB_iff _ _).1 (g2.2.1.1 x q)).2 e1.symm) (fun e => e2 e.symm)
  | false =>
    have hm := (moved_no L o).1 hmv
    show goodB _ = true
    rw [goodB_iff, good_pw]
    have h2' := h2
    rw [← List.take_append_drop (inAt o L) L, List.pairwise_append] at h2'
    refine ⟨fun a ha => ?_, ?_⟩
    · rw [List.mem_append, List.mem_cons] at ha
      rcases ha with q | q | q
      · exact h1 a ((hmem a).1 (.inl q))
      · rw [q]; exact ho
      · exact h1 a ((hmem a).1 (.inr q))
    · rw [List.pairwise_append, List.pairwise_cons]
      refine ⟨h2'.1, ⟨fun b hb => (lowB_iff _ _).2 ⟨hhigh b hb, fun e => (hm b ((hmem b).1 (.inr hb)) e.symm).symm⟩, h2'.2.1⟩, fun a ha b hb => ?_⟩
      rw [List.mem_cons] at hb
      rcases hb with q | q
      · rw [q]
        exact (lowB_iff _ _).2 ⟨hlow a ha, hm a ((hmem a).1 (.inl ha))⟩
      · exact h2'.2.2 a ha b q

theorem good_set {L : List Osd} {k : Nat} {x y : Osd} (h : Good L) (hx : L[k]? = some x) (e1 : y.id = x.id) (e2 : y.host = x.host) (e3 : y.rack = x.rack) (ho : osdB y = true) : Good (L.set k y) := by
  have key : ∀ (i : Nat) (a : Osd), (L.set k y)[i]? = some a → ∃ a', L[i]? = some a' ∧ a.id = a'.id ∧ a.host = a'.host ∧ a.rack = a'.rack ∧ osdB a = true := fun i a ha => by
    rw [List.getElem?_set] at ha
    split at ha
    · rename_i e
      subst e
      split at ha
      · injection ha with ha
        subst ha
        exact ⟨x, hx, e1, e2, e3, ho⟩
      · cases ha
    · exact ⟨a, ha, rfl, rfl, rfl, (h i a ha).1⟩
  intro i a ha
  obtain ⟨a', h1, h2, h3, h4, h5⟩ := key i a ha
  refine ⟨h5, fun j b hj hb => ?_⟩
  obtain ⟨b', g1, g2, g3, g4, g5⟩ := key j b hb
  have := (lowB_iff _ _).1 ((h i a' h1).2 j b' hj g1)
  rw [lowB_iff, h2, h3, h4, g2, g3, g4]
  exact this

theorem osd_parts {o : Osd} (h : osdB o = true) : (0 ≤ o.id ∧ o.id ≤ 999) ∧ (0 ≤ o.host ∧ o.host ≤ 999) ∧ (0 ≤ o.rack ∧ o.rack ≤ 999) ∧ (0 ≤ o.wt ∧ o.wt ≤ 16777216) ∧ (least o.up ≤ o.life ∧ o.life ≤ 2147483647) ∧ (least o.up ≤ o.boot ∧ o.boot ≤ 2147483647) := by
  unfold osdB at h
  simp only [Bool.and_eq_true, wi_iff, and_assoc] at h
  simp only [and_assoc]
  exact h

theorem osd_mk {o : Osd} (h : (0 ≤ o.id ∧ o.id ≤ 999) ∧ (0 ≤ o.host ∧ o.host ≤ 999) ∧ (0 ≤ o.rack ∧ o.rack ≤ 999) ∧ (0 ≤ o.wt ∧ o.wt ≤ 16777216) ∧ (least o.up ≤ o.life ∧ o.life ≤ 2147483647) ∧ (least o.up ≤ o.boot ∧ o.boot ≤ 2147483647)) : osdB o = true := by
  unfold osdB
  simp only [Bool.and_eq_true, wi_iff, and_assoc]
  simp only [and_assoc] at h
  exact h

theorem byK_same (k : Int) (o x : Osd) : (byK k o x).id = x.id ∧ (byK k o x).host = x.host ∧ (byK k o x).rack = x.rack := by
  unfold byK
  repeat' split
  all_goals exact ⟨rfl, rfl, rfl⟩

theorem byK_may {k : Int} {o x : Osd} (h1 : k ≠ 1) (hm : mayK k o = true) (hx : osdB x = true) : osdB (byK k o x) = true := by
  obtain ⟨p1, p2, p3, p4, p5, p6⟩ := osd_parts hx
  have hl : least x.up ≤ 1 ∧ 0 ≤ least x.up := by unfold least; split <;> omega
  unfold mayK at hm
  rw [if_neg h1] at hm
  unfold byK
  by_cases e2 : k = 2
  · rw [if_pos e2] at hm ⊢
    unfold upB at hm
    simp only [Bool.and_eq_true, wi_iff] at hm
    refine osd_mk ⟨p1, p2, p3, p4, ?_, ?_⟩
    · exact hm.2.1.2
    · exact hm.2.2
  · rw [if_neg e2] at hm ⊢
    by_cases e3 : k = 3
    · rw [if_pos e3]
      refine osd_mk ⟨p1, p2, p3, p4, ?_, ?_⟩
      · show least false ≤ x.life ∧ x.life ≤ 2147483647
        have : least false = 0 := rfl
        rw [this]
        omega
      · show least false ≤ x.boot ∧ x.boot ≤ 2147483647
        have : least false = 0 := rfl
        rw [this]
        omega
    · rw [if_neg e3]
      by_cases e4 : k = 4
      · rw [if_pos e4]
        exact osd_mk ⟨p1, p2, p3, p4, p5, p6⟩
      · rw [if_neg e4]
        by_cases e5 : k = 5
        · rw [if_pos e5]
          exact osd_mk ⟨p1, p2, p3, p4, p5, p6⟩
        · rw [if_neg e5]
          by_cases e6 : k = 6
          · rw [if_pos e6] at hm
            unfold wtB at hm
            simp only [Bool.and_eq_true, wi_iff] at hm
            exact osd_mk ⟨p1, p2, p3, hm.2.2, p5, p6⟩
          · rw [if_neg e6] at hm
            unfold idB at hm
            simp only [Bool.and_eq_true, eqO_iff] at hm
            refine osd_mk ⟨p1, p2, p3, ?_, p5, p6⟩
            show 0 ≤ o.wt ∧ _
            rw [hm.1]
            show (0 : Int) ≤ 0 ∧ (0 : Int) ≤ 16777216
            omega

theorem may_parts {m : Mp} (h : mayM m = true) : (0 ≤ m.ep ∧ m.ep ≤ 1048576) ∧ poolB m.pool = true ∧ m.osds.length ≤ 64 ∧ Good m.osds := by
  unfold mayM osdsB at h
  simp only [Bool.and_eq_true, wi_iff, decide_eq_true_eq, goodB_iff] at h
  exact ⟨h.1.1, h.1.2, h.2.1, h.2.2⟩

theorem may_mk {m : Mp} (h : (0 ≤ m.ep ∧ m.ep ≤ 1048576) ∧ poolB m.pool = true ∧ m.osds.length ≤ 64 ∧ Good m.osds) : mayM m = true := by
  unfold mayM osdsB
  simp only [Bool.and_eq_true, wi_iff, decide_eq_true_eq, goodB_iff]
  exact ⟨⟨h.1, h.2.1⟩, h.2.2.1, h.2.2.2⟩

theorem adv_may {m : Mp} {c : Ch} (h : mayM m = true) (h0 : (advP m c).1 = 0) : mayM (advP m c).2 = true ∧ (advP m c).2.ep = m.ep + 1 := by
  obtain ⟨p1, p2, p3, p4⟩ := may_parts h
  unfold advP at h0 ⊢
  by_cases hno : mayC c = false ∨ m.ep = 1048576
  · rw [if_pos hno] at h0
    cases h0
  · rw [if_neg hno] at h0 ⊢
    have he : m.ep ≠ 1048576 := fun e => hno (.inr e)
    have hc : mayC c = true := by
      cases hq : mayC c with
      | true => rfl
      | false => exact absurd (.inl hq) hno
    by_cases hd : (doP c.kind m.osds c.osd).1 = 0
    · rw [if_pos hd]
      refine ⟨may_mk ⟨⟨by show 0 ≤ m.ep + 1; omega, by show m.ep + 1 ≤ 1048576; omega⟩, p2, ?_⟩, rfl⟩
      unfold mayC at hc
      simp only [Bool.and_eq_true] at hc
      unfold doP at hd ⊢
      by_cases hk : c.kind = 1
      · rw [if_pos hk] at hd ⊢
        have hm := hc.2
        rw [hk] at hm
        unfold mayK at hm
        rw [if_pos rfl] at hm
        unfold addP at hd ⊢
        cases hf : m.osds.findIdx? (isId c.osd.id) with
        | some q => simp [hf] at hd
        | none =>
          rw [hf] at hd
          by_cases h64 : 64 ≤ m.osds.length
          · simp [h64] at hd
          · cases hmv : movedB m.osds c.osd with
            | true => simp [h64, hmv] at hd
            | false =>
              simp only [Option.isSome_none, Bool.false_eq_true, if_false, h64]
              refine ⟨?_, ?_⟩
              · show (ins c.osd m.osds).length ≤ 64
                rw [ins_at]
                simp
                have := inAt_le c.osd m.osds
                omega
              · show Good (ins c.osd m.osds)
                have := good_ins p4 hm hf
                rw [hmv] at this
                exact (goodB_iff _).1 this
      · rw [if_neg hk] at hd ⊢
        rw [turnP_len]
        refine ⟨p3, ?_⟩
        unfold turnP at hd ⊢
        cases hf : m.osds.findIdx? (isId c.osd.id) with
        | none => simp [hf] at hd
        | some q =>
          obtain ⟨x, hx, _, _⟩ := idx_some hf
          rw [hf] at hd
          simp only [hx] at hd ⊢
          by_cases hq : eqO (byK c.kind c.osd x) x = true
          · simp [hq] at hd
          · simp only [hq]
            obtain ⟨s1, s2, s3⟩ := byK_same c.kind c.osd x
            exact good_set p4 hx s1 s2 s3 (byK_may hk hc.2 (p4 q x hx).1)
    · rw [if_neg hd] at h0
      exact absurd h0 hd

def applyP (m : Mp) (c : Ch) : Int × Mp := if mayM m = true then (if (advP m c).1 = 0 then advP m c else ((advP m c).1, noM)) else (1, noM)

end Go.Proofs.Ytnddhlkdemibgaa.At

/-
  Package atlas: which lists of OSDs and which maps may be.
  Conditions: the list lies in memory.
-/
namespace Go.Proofs.Ytnddhlkdemibgaa.At
open Go.RowKit By Fl
set_option linter.unusedVariables false
set_option linter.unusedSimpArgs false
set_option maxRecDepth 100000

/- All ahead of k are as they should be. -/
def GoodTo (L : List Osd) (k : Nat) : Prop := ∀ (i : Nat) (a : Osd), i < k → L[i]? = some a → osdB a = true ∧ ∀ (j : Nat) (b : Osd), j < i → L[j]? = some b → lowB a b = true

theorem GoodTo.all {L : List Osd} (h : GoodTo L L.length) : goodB L = true := (goodB_iff L).2 fun i a ha => h i a (List.getElem?_eq_some_iff.1 ha).1 ha

theorem GoodTo.step {L : List Osd} {k : Nat} {a : Osd} (h : GoodTo L k) (ha : L[k]? = some a) (h1 : osdB a = true) (h2 : ∀ b, 0 < k → L[k - 1]? = some b → b.id < a.id) (h3 : movedB (L.take k) a = false) : GoodTo L (k + 1) := fun i c hi hc => by
  by_cases e : i = k
  · subst e
    have := Option.some.inj (ha.symm.trans hc)
    subst this
    refine ⟨h1, fun j b hj hb => (lowB_iff _ _).2 ⟨?_, ?_⟩⟩
    · have hlt := (List.getElem?_eq_some_iff.1 ha).1
      have hl : L[i - 1]? = some (L[i - 1]'(by omega)) := List.getElem?_eq_getElem _
      have hx := h2 _ (by omega) hl
      by_cases ej : j = i - 1
      · subst ej
        rw [hl] at hb
        injection hb with hb
        rw [← hb]
        exact hx
      · have := ((lowB_iff _ _).1 ((h (i - 1) _ (by omega) hl).2 j b (by omega) hb)).1
        omega
    · exact (moved_no _ _).1 h3 b (by
        rw [List.mem_iff_getElem?]
        exact ⟨j, by rw [List.getElem?_take, if_pos hj]; exact hb⟩)
  · exact h i c (by omega) hc

theorem bad_low {L : List Osd} {k : Nat} {a b : Osd} (ha : L[k + 1]? = some a) (hb : L[k]? = some b) (h : a.id ≤ b.id) : goodB L = false :=
  goodB_false ha (.inr ⟨k, b, by omega, hb, by
    cases hl : lowB a b with
    | false => rfl
    | true => have := ((lowB_iff _ _).1 hl).1; omega⟩)

theorem bad_moved {L : List Osd} {k : Nat} {a : Osd} (ha : L[k]? = some a) (h : movedB (L.take k) a = true) : goodB L = false := by
  obtain ⟨x, hx, h1, h2⟩ := (moved_iff _ _).1 h
  obtain ⟨j, hj⟩ := List.mem_iff_getElem?.1 hx
  rw [List.getElem?_take] at hj
  split at hj
  · rename_i hjk
    exact goodB_false ha (.inr ⟨j, x, hjk, hj, by
      cases hl : lowB a x with
      | false => rfl
      | true => exact absurd (((lowB_iff _ _).1 hl).2 h1) h2⟩)
  · cases hj

set_option maxHeartbeats 1600000 in
theorem osdsMay_any {w : World} {x : Option Addr} {n c : Nat} {L : List Osd} (h : Os w x n c L) :
    Calls Try.prog 37 #[.slice x n c] w fun e w' => e = .returned (.bool (osdsB L)) ∧ Below w.heap.size w w' := by
  have hm := h.small
  have hlen := h.len
  unfold osdsB
  rw [hlen]
  by_cases h64 : 64 < n
  · have i64 : (64 : Int) < (n : Int) := by omega
    go_enter Try.func37, Try.ntmps37
    go_wp2_with fail
    go_ret
    exact ⟨by rw [decide_eq_false (by omega)]; rfl, Below.refl _ _⟩
  have i64 : (n : Int) ≤ 64 := by omega
  rw [decide_eq_true (by omega), Bool.true_and]
  have HO : Hid (Os w x n c L) := h
  have HL : Hid (L.length = n) := hlen
  clear h hlen hm h64
  go_enter Try.func37, Try.ntmps37
  go_wp2_with fail
  go_loopw [10, 3, 4] (fun i _ _ wr => ∃ k : Nat, k ≤ n ∧ i = .int .i64 k ∧ Hid (Below w.heap.size w wr ∧ GoodTo L k)) (fun i _ _ _ => n - (intOf i).toNat)
  case atStart => exact ⟨0, by omega, rfl, Below.refl _ _, fun i a hi => by omega⟩
  case round =>
    obtain ⟨k, hk, rfl, HR⟩ := hrel
    by_cases hlt : k < n
    · have hkn : (k : Int) < (n : Int) := by omega
      obtain ⟨m, hLm⟩ : ∃ m, L[k]? = some m := ⟨L[k]'(by have := HL.out; omega), List.getElem?_eq_getElem (by have := HL.out; omega)⟩
      have ho := HO.out.below HR.out.1
      have hO := osdMay_any m
      have hM := fun (p : After (wr.alloc (.cells #[.int .i64 m.id, .bool m.up, .bool m.inn, .int .i64 m.wt, .int .i64 m.life, .int .i64 m.boot, .int .i64 m.host, .int .i64 m.rack] 28))) => moved_any m ((ho.take hk).below (on (al _ _) p.h))
      obtain ⟨tm, htm⟩ : ∃ t, t = movedB (L.take k) m := ⟨_, rfl⟩
      obtain ⟨to, hto⟩ : ∃ t, t = osdB m := ⟨_, rfl⟩
      rw [← htm] at hM
      rw [← hto] at hO
      have HM : Hid (L[k]? = some m ∧ tm = movedB (L.take k) m ∧ to = osdB m) := ⟨hLm, htm, hto⟩
      rcases ho.row with h0 | ⟨b, o, rfl, hbl, hcell⟩
      · omega
      obtain ⟨k0, k1, k2, k3, k4, k5, k6, k7⟩ := Os.at (n := n) (c := c) hcell hLm
      have HC := hid hcell
      clear ho hLm hcell htm hto
      have HB : Hid (∀ b, 0 < k → L[k - 1]? = some b → True) := fun _ _ _ => trivial
      obtain ⟨id, up, inn, wt, life, boot, host, rack⟩ := m
      unfold vO at hO hM
      dsimp only at k0 k1 k2 k3 k4 k5 k6 k7 hO hM
      have b0 := al wr (.cells #[.int .i64 id, .bool up, .bool inn, .int .i64 wt, .int .i64 life, .int .i64 boot, .int .i64 host, .int .i64 rack] 28)
      obtain ⟨w0, hw0⟩ : ∃ w0, w0 = wr.alloc (.cells #[.int .i64 id, .bool up, .bool inn, .int .i64 wt, .int .i64 life, .int .i64 boot, .int .i64 host, .int .i64 rack] 28) := ⟨_, rfl⟩
      have c0 : w0.cell? ⟨wr.heap.size, 0, none⟩ = some (.int .i64 id) := by rw [hw0]; go_simp
      have c1 : w0.cell? ⟨wr.heap.size, 1, none⟩ = some (.bool up) := by rw [hw0]; go_simp
      have c2 : w0.cell? ⟨wr.heap.size, 2, none⟩ = some (.bool inn) := by rw [hw0]; go_simp
      have c3 : w0.cell? ⟨wr.heap.size, 3, none⟩ = some (.int .i64 wt) := by rw [hw0]; go_simp
      have c4 : w0.cell? ⟨wr.heap.size, 4, none⟩ = some (.int .i64 life) := by rw [hw0]; go_simp
      have c5 : w0.cell? ⟨wr.heap.size, 5, none⟩ = some (.int .i64 boot) := by rw [hw0]; go_simp
      have c6 : w0.cell? ⟨wr.heap.size, 6, none⟩ = some (.int .i64 host) := by rw [hw0]; go_simp
      have c7 : w0.cell? ⟨wr.heap.size, 7, none⟩ = some (.int .i64 rack) := by rw [hw0]; go_simp
      have HW := hid hw0
      rw [← hw0] at hM b0
      have B0 : Hid (Below w.heap.size w w0) := on HR.out.1 b0
      have q0 := After.cell c0
      have q1 := After.cell c1
      have q2 := After.cell c2
      have q3 := After.cell c3
      have q4 := After.cell c4
      have q5 := After.cell c5
      have q6 := After.cell c6
      have q7 := After.cell c7
      have HP : Hid (∀ (q : Nat) (a : Osd), L[q]? = some a → w0.cell? ⟨b, o + q * 8, none⟩ = some (.int .i64 a.id)) := fun q a ha => keep b0 (HC.out q a ha 0 _ rfl)
      clear hw0 c0 c1 c2 c3 c4 c5 c6 c7 b0 HC HB
      haveI := After.ne w0
      go_wp2_with fail
      rw [← HW.out]
      clear k0 k1 k2 k3 k4 k5 k6 k7
      cases to with
      | false =>
        clear hM
        refine wp_region_after (by kernel_rfl) (by kernel_rfl) ?_
        repeat (go_big_quiet_step ((first | (go_at_call 56; refine Calls.after_of (hO _)) | (go_at_call 57; refine Calls.after_of (hM _)))))
        refine wpQuiet_nil ?_
        rintro _ ⟨p, rfl⟩
        go_wp2_with fail
        go_ret
        exact ⟨by rw [goodB_false HM.out.1 (.inl HM.out.2.2.symm)]; rfl, on B0.out p.h⟩
      | true =>
        by_cases hk0 : k = 0
        · have hn0 : decide (0 < k) = false := by simp; omega
          have htm : tm = false := by rw [HM.out.2.1, hk0]; rfl
          subst htm
          have HK := hid hk0
          have hkc : (k : Int) ≤ (c : Int) := by have := HO.out.le; omega
          clear hk0
          refine wp_region_after (by kernel_rfl) (by kernel_rfl) ?_
          repeat (go_big_quiet_step ((first | (go_at_call 56; refine Calls.after_of (hO _)) | (go_at_call 57; refine Calls.after_of (hM _)))))
          refine wpQuiet_nil ?_
          rintro _ ⟨p, rfl⟩
          go_wp2_with fail
          go_roundw
          case rel =>
            exact ⟨k + 1, by omega, by go_num, on B0.out p.h, HR.out.2.step HM.out.1 HM.out.2.2.symm (fun b hb => by have := HK.out; omega) HM.out.2.1.symm⟩
          case measure => simp [intOf]; omega
        · obtain ⟨q, rfl⟩ : ∃ q, k = q + 1 := ⟨k - 1, by omega⟩
          obtain ⟨m2, hm2⟩ : ∃ m, L[q]? = some m := ⟨L[q]'(by have := HL.out; omega), List.getElem?_eq_getElem (by have := HL.out; omega)⟩
          have r0 := After.cell (HP.out q m2 hm2)
          have HM2 := hid hm2
          have hkc : ((q + 1 : Nat) : Int) ≤ (c : Int) := by have := HO.out.le; omega
          have sub1 : ((q + 1 : Nat) : Int) - 1 = (q : Int) := by omega
          have hq0 : (0 : Int) < ((q + 1 : Nat) : Int) := by omega
          have hqn : (q : Int) < (n : Int) := by omega
          obtain ⟨id2, hid2⟩ : ∃ i, i = m2.id := ⟨_, rfl⟩
          rw [← hid2] at r0
          have HI := hid hid2
          clear hid2 hm2 hk0
          by_cases hle : id ≤ id2
          · clear hM
            refine wp_region_after (by kernel_rfl) (by kernel_rfl) ?_
            repeat (go_big_quiet_step ((first | (go_at_call 56; refine Calls.after_of (hO _)) | (go_at_call 57; refine Calls.after_of (hM _)))))
            refine wpQuiet_nil ?_
            rintro _ ⟨p, rfl⟩
            go_wp2_with fail
            go_ret
            exact ⟨by rw [bad_low HM.out.1 HM2.out (by rw [← HI.out]; exact hle)]; rfl, on B0.out p.h⟩
          · cases tm with
            | true =>
              refine wp_region_after (by kernel_rfl) (by kernel_rfl) ?_
              repeat (go_big_quiet_step ((first | (go_at_call 56; refine Calls.after_of (hO _)) | (go_at_call 57; refine Calls.after_of (hM _)))))
              refine wpQuiet_nil ?_
              rintro _ ⟨p, rfl⟩
              go_wp2_with fail
              go_ret
              exact ⟨by rw [bad_moved HM.out.1 HM.out.2.1.symm]; rfl, on B0.out p.h⟩
            | false =>
              refine wp_region_after (by kernel_rfl) (by kernel_rfl) ?_
              repeat (go_big_quiet_step ((first | (go_at_call 56; refine Calls.after_of (hO _)) | (go_at_call 57; refine Calls.after_of (hM _)))))
              refine wpQuiet_nil ?_
              rintro _ ⟨p, rfl⟩
              go_wp2_with fail
              go_roundw
              case rel =>
                refine ⟨q + 1 + 1, by omega, by go_num, on B0.out p.h, HR.out.2.step HM.out.1 HM.out.2.2.symm (fun b hb hbb => ?_) HM.out.2.1.symm⟩
                have := Option.some.inj (HM2.out.symm.trans hbb)
                have h3 := HI.out
                rw [this] at h3
                show b.id < id
                omega
              case measure => simp [intOf]; omega
    · have hk2 : k = n := by omega
      subst hk2
      go_wp2_with fail
      go_ret
      exact ⟨by rw [GoodTo.all (by rw [HL.out]; exact HR.out.2)]; rfl, HR.out.1⟩

theorem check_any {w : World} {x : Option Addr} {n c : Nat} (m : Mp) (h : Os w x n c m.osds) (hk : m.pool.k ≤ 9223372036854775807) :
    Calls Try.prog 15 #[vM m.ep m.pool x n c] w fun e w' => e = .returned (.int .i64 (errB (mayM m))) ∧ Below w.heap.size w w' := by
  obtain ⟨ep, p, L⟩ := m
  have hW := fun n a b W => within_any n a b W
  have hP := fun W => poolMay_any p W hk
  have HO := hid h
  have hM := fun W (hb : Below w.heap.size w W) => osdsMay_any (HO.out.below hb)
  unfold mayM
  dsimp only at hM ⊢
  generalize poolB p = tp at *
  generalize osdsB L = tl at *
  clear h hk
  obtain ⟨k, m, g, d⟩ := p
  unfold vM
  unfold vP at hP
  dsimp only at hP ⊢
  have b0 := al w (.cells #[.int .i64 ep, .int .i64 k, .int .i64 m, .int .i64 g, .int .i64 d, .slice x n c] 26)
  have k5 : (w.alloc (.cells #[.int .i64 ep, .int .i64 k, .int .i64 m, .int .i64 g, .int .i64 d, .slice x n c] 26)).cell? ⟨w.heap.size, 5, none⟩ = some (.slice x n c) := by go_simp
  cases hwi : wi ep 0 1048576 with
  | false =>
    go_enter Try.func15, Try.ntmps15
    go_wp2_with (go_at_call 36; refine (hW _ _ _ _).mono ?_; rintro e w1 ⟨rfl, rfl⟩)
    go_ret
    exact ⟨by simp [errB], b0⟩
  | true =>
    cases tp with
    | false =>
      go_enter Try.func15, Try.ntmps15
      go_wp2_with (first
        | (go_at_call 36; refine (hW _ _ _ _).mono ?_; rintro e w1 ⟨rfl, rfl⟩)
        | (go_at_call 32; refine (hP _).mono ?_; rintro e w2 ⟨rfl, hb2⟩; clear hP))
      go_ret
      exact ⟨by simp [errB], on b0 hb2⟩
    | true =>
      cases tl with
      | false =>
        go_enter Try.func15, Try.ntmps15
        go_wp2_with (first
          | (go_at_call 36; refine (hW _ _ _ _).mono ?_; rintro e w1 ⟨rfl, rfl⟩)
          | (go_at_call 32; refine (hP _).mono ?_; rintro e w2 ⟨rfl, hb2⟩; clear hP; have q5 := keep hb2 k5; have hM2 := hM _ (on b0 hb2))
          | (go_at_call 37; refine hM2.mono ?_; rintro e w3 ⟨rfl, hb3⟩; clear hM2))
        go_ret
        exact ⟨by simp [errB], on (on b0 hb2) hb3⟩
      | true =>
        go_enter Try.func15, Try.ntmps15
        go_wp2_with (first
          | (go_at_call 36; refine (hW _ _ _ _).mono ?_; rintro e w1 ⟨rfl, rfl⟩)
          | (go_at_call 32; refine (hP _).mono ?_; rintro e w2 ⟨rfl, hb2⟩; clear hP; have q5 := keep hb2 k5; have hM2 := hM _ (on b0 hb2))
          | (go_at_call 37; refine hM2.mono ?_; rintro e w3 ⟨rfl, hb3⟩; clear hM2))
        go_ret
        exact ⟨by simp [errB], on (on b0 hb2) hb3⟩

end Go.Proofs.Ytnddhlkdemibgaa.At

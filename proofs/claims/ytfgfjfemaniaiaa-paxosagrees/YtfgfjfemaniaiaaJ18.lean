/-
  5 texts of this proof, one behind the other: PxProm, PxPickB, PxPick1, PxTell, PxGreet.
-/
import Derived.Test.YtfgfjfemaniaiaaJ01
import Derived.Test.YtfgfjfemaniaiaaJ16
import Derived.Test.YtfgfjfemaniaiaaJ05
import Derived.Test.YtfgfjfemaniaiaaJ09
import Derived.Test.YtfgfjfemaniaiaaJ11
import Derived.Test.YtfgfjfemaniaiaaJ17
/-
  Those that promised the bid's ballot: promised.
  Conditions: the monitor is one that New gave ('NdAt'), with a bid.
-/
namespace Go.Proofs.Ytfgfjfemaniaiaa.Px
open Go.RowKit Wi By Fl Ba
set_option linter.unusedVariables false
set_option linter.unusedSimpArgs false
set_option maxRecDepth 100000

def encA (v : AccV) : List Value := [.int .i64 v.p.1, .int .i64 v.p.2, .int .i64 v.a.1, .int .i64 v.a.2, .slice v.x v.n v.c]

theorem arow : Row 115 74 5 56 encA := by
  have hi : (Try.prog.info? 74).map (fun i => (i.zero, i.size, i.bytes)) = some (some (.agg #[.int .i64 0, .int .i64 0, .int .i64 0, .int .i64 0, .slice none 0 0]), 5, 56) := by kernel_rfl
  obtain ⟨i0, h1, h2, h3, h4⟩ := info_parts hi
  exact ⟨Try.underlying115, ⟨i0, _, h1, h2, h3, h4, rfl⟩, by decide, by decide, fun a => rfl, fun a v hv => by simp [encA] at hv; rcases hv with rfl | rfl | rfl | rfl | rfl <;> rfl⟩

theorem new_acc (v : World) (t : TypeId) (a : AccV) : ∀ j u, (flat encA [a])[j]? = some u → (v.alloc (.cells #[.int .i64 a.p.1, .int .i64 a.p.2, .int .i64 a.a.1, .int .i64 a.a.2, .slice a.x a.n a.c] t)).cell? ((⟨v.heap.size, 0, none⟩ : Addr).add j) = some u := fun j u hj => by
  rw [add_at, Nat.zero_add]
  rw [flat_one] at hj
  match j, hj with
  | 0, hj => simpa [encA] using hj
  | 1, hj => simpa [encA] using hj
  | 2, hj => simpa [encA] using hj
  | 3, hj => simpa [encA] using hj
  | 4, hj => simpa [encA] using hj
  | j + 5, hj => simp [encA] at hj

def firstOf (V : Nat → AccV) (bal : Bt) (k : Nat) : List AccV := ((List.range k).map V).filter fun v => eqb v.p bal

theorem firstOf_succ (V : Nat → AccV) (bal : Bt) (k : Nat) : firstOf V bal (k + 1) = firstOf V bal k ++ (if eqb (V k).p bal = true then [V k] else []) := by
  unfold firstOf
  rw [List.range_succ, List.map_append, List.filter_append]
  by_cases h : eqb (V k).p bal = true <;> simp [h]

theorem firstOf_len (V : Nat → AccV) (bal : Bt) (k : Nat) : (firstOf V bal k).length ≤ k := by
  unfold firstOf
  have := List.length_filter_le (fun v : AccV => eqb v.p bal) ((List.range k).map V)
  simpa using this

structure PrL (w1 wr : World) (V : Nat → AccV) (bal : Bt) (R : Value) (k : Nat) : Prop where
  bel : Below w1.heap.size w1 wr
  own : Own wr w1.heap.size 74 5 encA R (firstOf V bal k)

section
variable {w : World} {B : Nat} {g : Ln} {st : Nd}

set_option maxHeartbeats 3200000 in
theorem promised_any (h : NdAt w B g st) (b : Bd) (hb : st.bid = some b) (hn : st.n ≤ 7) (hid_ : st.id < st.n) (hnum : b.num < 4294967296) :
    Calls Try.prog 73 #[.pointer (some ⟨g.p, 0, none⟩)] w fun e w' => ∃ (x : Option Addr) (m c : Nat) (V : Nat → AccV), e = .returned (.slice x m c) ∧ Hid (Below w.heap.size w w' ∧ m = (firstOf V b.bal st.n).length ∧ Own w' w.heap.size 74 5 encA (.slice x m c) (firstOf V b.bal st.n) ∧ ∀ i, i < st.n → AvOk w' (V i) ∧ acOf (V i) = stA st b i) := by
  have hS := states_any h b hb hn hid_ hnum
  rcases h.bid with ⟨_, q⟩ | ⟨l, b', q1, q2, q3, q4⟩
  · rw [hb] at q
    cases q
  rw [hb] at q2
  injection q2 with q2
  subst q2
  have hpl := h.obj.lt
  have hbl := q3.obj.lt
  have c6 : w.cell? ⟨g.p, 6, none⟩ = some (.pointer (some ⟨l.bp, 0, none⟩)) := by rw [h.c6, q1]; rfl
  have d1 : w.cell? ⟨l.bp, 1, none⟩ = some (.int .i64 b.bal.1) := q3.obj.cell (k := 1) (by omega)
  have d2 : w.cell? ⟨l.bp, 2, none⟩ = some (.int .i64 b.bal.2) := q3.obj.cell (k := 2) (by omega)
  have Hn : Hid (st.n ≤ 7) := hn
  have nI : (st.n : Int) ≤ 7 := by omega
  clear h q1 q3 q4 hn hid_ hnum hb
  have HB : Hid (b.bal = (b.bal.1, b.bal.2)) := rfl
  generalize b.bal = bal at *
  generalize stA st b = SA at *
  generalize st.n = n at *
  go_enter Try.func73, Try.ntmps73
  go_wp2_with (first
    | (
       go_at_call 71; refine hS.mono ?_; rintro e w1 ⟨V, rfl, H1⟩; clear hS
       have p6 := keep H1.out.1 c6
       have e1 := keep H1.out.1 d1
       have e2 := keep H1.out.1 d2
       clear c6 d1 d2))
  go_loopw [3, 5, 9] (fun out _ i wr => ∃ (k : Nat) (x : Option Addr) (m c : Nat), k ≤ n ∧ i = .int .i64 k ∧ out = .slice x m c ∧ Hid (PrL w1 wr V bal (.slice x m c) k)) (fun _ _ i _ => n - (intOf i).toNat)
  case atStart => exact ⟨0, none, 0, 0, by omega, rfl, rfl, Below.refl _ _, Own.nil _ _ _ _ _⟩
  case round =>
    obtain ⟨k, x, m, c, hk, rfl, rfl, HR⟩ := hrel
    by_cases hlt : k < n
    · have hkn : (k : Int) < (n : Int) := by omega
      have hA := H1.out.2.1.below HR.out.bel
      obtain ⟨b0, o0, q, hb0, hc⟩ := hA.row.resolve_left (by omega)
      injection q with q
      injection q with q q' _
      subst q
      subst q'
      obtain ⟨c0, c1, c2, c3, c4⟩ := hc k hlt
      rw [Nat.zero_add] at c0 c1 c2 c3 c4
      have b6 := keep HR.out.bel p6
      have b1 := keep HR.out.bel e1
      have b2 := keep HR.out.bel e2
      have hE := fun W => eq_bt (V k).p.1 (V k).p.2 bal.1 bal.2 W
      have ht : (decide ((V k).p.1 = bal.1) && decide ((V k).p.2 = bal.2)) = eqb (V k).p bal := rfl
      rw [ht] at hE
      have HF := hid (firstOf_succ V bal k)
      have hml : m = (firstOf V bal k).length := by
        obtain ⟨x2, c2', e3, _⟩ := HR.out.own.form
        injection e3
      have hm7 : m ≤ 7 := by have := firstOf_len V bal k; have := Hn.out; omega
      have bW := al wr (.cells #[.int .i64 (V k).p.1, .int .i64 (V k).p.2, .int .i64 (V k).a.1, .int .i64 (V k).a.2, .slice (V k).x (V k).n (V k).c] 74)
      have bD : Below wr.heap.size wr (wr.alloc (.cells #[.int .i64 (V k).p.1, .int .i64 (V k).p.2, .int .i64 (V k).a.1, .int .i64 (V k).a.2, .slice (V k).x (V k).n (V k).c] 74)).drew := on bW (Below.refl _ _).drew
      have HAP : Hid (∃ x' c' w3, (Builtin.append_ #[115, 115] 115 #[.slice x m c, .slice (some ⟨(wr.alloc (.cells #[.int .i64 (V k).p.1, .int .i64 (V k).p.2, .int .i64 (V k).a.1, .int .i64 (V k).a.2, .slice (V k).x (V k).n (V k).c] 74)).drew.heap.size, 0, none⟩) 1 1]).run Try.prog ((wr.alloc (.cells #[.int .i64 (V k).p.1, .int .i64 (V k).p.2, .int .i64 (V k).a.1, .int .i64 (V k).a.2, .slice (V k).x (V k).n (V k).c] 74)).drew.alloc (.cells #[.int .i64 (V k).p.1, .int .i64 (V k).p.2, .int .i64 (V k).a.1, .int .i64 (V k).a.2, .slice (V k).x (V k).n (V k).c] 74)) = .ok (.slice x' (m + 1) c') w3 ∧ Hid (Below w1.heap.size w1 w3 ∧ Own w3 w1.heap.size 74 5 encA (.slice x' (m + 1) c') (firstOf V bal k ++ [V k]))) := by
        have ho := HR.out.own.below (on bD (al _ (.cells #[.int .i64 (V k).p.1, .int .i64 (V k).p.2, .int .i64 (V k).a.1, .int .i64 (V k).a.2, .slice (V k).x (V k).n (V k).c] 74)))
        obtain ⟨x', c', w3, hap, HP⟩ := ho.push arow (Nat.le_trans HR.out.bel.size (on bD (al _ _)).size) ⟨_, 0, none⟩ 1 1 [V k] rfl (new_acc _ _ (V k)) (by omega)
        rw [← hml] at hap HP
        refine ⟨x', c', w3, hap, ?_, HP.out.1⟩
        exact (on HR.out.bel (on bD (al _ _))).trans (HP.out.2.1.below (fun j hj => (ho.tb hj).1) (Nat.le_trans HR.out.bel.size (on bD (al _ _)).size))
      have hbox0 : (wr.alloc (.cells #[.int .i64 (V k).p.1, .int .i64 (V k).p.2, .int .i64 (V k).a.1, .int .i64 (V k).a.2, .slice (V k).x (V k).n (V k).c] 74)).drew.cell? ⟨wr.heap.size, 0, none⟩ = some (.int .i64 (V k).p.1) := by go_simp
      have hbox1 : (wr.alloc (.cells #[.int .i64 (V k).p.1, .int .i64 (V k).p.2, .int .i64 (V k).a.1, .int .i64 (V k).a.2, .slice (V k).x (V k).n (V k).c] 74)).drew.cell? ⟨wr.heap.size, 1, none⟩ = some (.int .i64 (V k).p.2) := by go_simp
      have hbox2 : (wr.alloc (.cells #[.int .i64 (V k).p.1, .int .i64 (V k).p.2, .int .i64 (V k).a.1, .int .i64 (V k).a.2, .slice (V k).x (V k).n (V k).c] 74)).drew.cell? ⟨wr.heap.size, 2, none⟩ = some (.int .i64 (V k).a.1) := by go_simp
      have hbox3 : (wr.alloc (.cells #[.int .i64 (V k).p.1, .int .i64 (V k).p.2, .int .i64 (V k).a.1, .int .i64 (V k).a.2, .slice (V k).x (V k).n (V k).c] 74)).drew.cell? ⟨wr.heap.size, 3, none⟩ = some (.int .i64 (V k).a.2) := by go_simp
      have hbox4 : (wr.alloc (.cells #[.int .i64 (V k).p.1, .int .i64 (V k).p.2, .int .i64 (V k).a.1, .int .i64 (V k).a.2, .slice (V k).x (V k).n (V k).c] 74)).drew.cell? ⟨wr.heap.size, 4, none⟩ = some (.slice (V k).x (V k).n (V k).c) := by go_simp
      have b6 := keep bD b6
      have b1 := keep bD b1
      have b2 := keep bD b2
      have HBD := hid (on HR.out.bel bD)
      have HOW := hid (HR.out.own.below bD)
      clear hA hc hb0 HR ht hml bW
      generalize hvk : V k = vk at *
      obtain ⟨⟨p1, p2⟩, ⟨a1, a2⟩, ax, an, acp, ad⟩ := vk
      dsimp only at *
      cases ht : eqb (p1, p2) bal with
      | true =>
        rw [ht] at hE HF
        rw [if_pos rfl] at HF
        clear ht HOW
        go_wp2_with fail
        refine wp_region_held_drew (S := fun v => v.cell? ⟨wr.heap.size, 0, none⟩ = some (.int .i64 p1) ∧ v.cell? ⟨wr.heap.size, 1, none⟩ = some (.int .i64 p2) ∧ v.cell? ⟨g.p, 6, none⟩ = some (.pointer (some ⟨l.bp, 0, none⟩)) ∧ v.cell? ⟨l.bp, 1, none⟩ = some (.int .i64 bal.1) ∧ v.cell? ⟨l.bp, 2, none⟩ = some (.int .i64 bal.2)) (by kernel_rfl) ⟨hbox0, hbox1, b6, b1, b2⟩ (fun hHeld => ?_)
        generalize (wr.alloc (.cells #[.int .i64 p1, .int .i64 p2, .int .i64 a1, .int .i64 a2, .slice ax an acp] 74)).drew = wD at *
        refine By.hk 0 ?_
        refine By.hk 1 ?_
        refine By.hk 2 ?_
        refine By.hk 3 ?_
        refine By.hk 4 ?_
        refine By.hk 5 ?_
        refine By.hk 6 ?_
        refine By.hk 7 ?_
        refine By.hk 8 ?_
        refine By.hk 9 ?_
        refine wpAnyH_done (by kernel_rfl) ?_ _
        obtain ⟨x', c', w3, hap, H3⟩ := HAP.out
        clear HAP hHeld
        go_wp2_with (first
          | (
             at_builtin; refine wpList_append_run rfl _ _ 115 rfl _ _ rfl rfl hap ?_; clear hap))
        go_roundw
        case rel => exact ⟨k + 1, x', m + 1, c', by omega, by go_num, rfl, H3.out.1, by rw [HF.out]; exact H3.out.2⟩
        case measure => simp [intOf]; omega
      | false =>
        rw [ht] at hE HF
        rw [if_neg (by simp), List.append_nil] at HF
        clear ht HAP
        go_wp2_with fail
        refine wp_region_held_drew (S := fun v => v.cell? ⟨wr.heap.size, 0, none⟩ = some (.int .i64 p1) ∧ v.cell? ⟨wr.heap.size, 1, none⟩ = some (.int .i64 p2) ∧ v.cell? ⟨g.p, 6, none⟩ = some (.pointer (some ⟨l.bp, 0, none⟩)) ∧ v.cell? ⟨l.bp, 1, none⟩ = some (.int .i64 bal.1) ∧ v.cell? ⟨l.bp, 2, none⟩ = some (.int .i64 bal.2)) (by kernel_rfl) ⟨hbox0, hbox1, b6, b1, b2⟩ (fun hHeld => ?_)
        generalize (wr.alloc (.cells #[.int .i64 p1, .int .i64 p2, .int .i64 a1, .int .i64 a2, .slice ax an acp] 74)).drew = wD at *
        refine By.hk 0 ?_
        refine By.hk 1 ?_
        refine By.hk 2 ?_
        refine By.hk 3 ?_
        refine By.hk 4 ?_
        refine By.hk 5 ?_
        refine By.hk 6 ?_
        refine By.hk 7 ?_
        refine By.hk 8 ?_
        refine By.hk 9 ?_
        refine wpAnyH_done (by kernel_rfl) ?_ _
        go_wp2_with fail
        go_roundw
        case rel => exact ⟨k + 1, x, m, c, by omega, by go_num, rfl, HBD.out, by rw [HF.out]; exact HOW.out⟩
        case measure => simp [intOf]; omega
    · obtain rfl : k = n := by omega
      go_wp2_with fail
      go_ret
      obtain ⟨x2, c2', e3, _⟩ := HR.out.own.form
      injection e3 with _ e4 _
      have ho := HR.out.own
      refine ⟨x, m, c, V, rfl, on H1.out.1 HR.out.bel, e4, ⟨ho.1, ?_⟩, fun i hi => ⟨(H1.out.2.2 i hi).1.turns (Turns.of_below (F := fun _ => False) HR.out.bel) (fun _ h => h.elim), (H1.out.2.2 i hi).2⟩⟩
      rcases ho.2 with h0 | ⟨gg, cc, cur, h1, h2, h3⟩
      · exact .inl h0
      · exact .inr ⟨gg, cc, cur, h1, Nat.le_trans H1.out.1.size h2, h3⟩

end

end Go.Proofs.Ytfgfjfemaniaiaa.Px

/-
  Which value must be asked for: Pick, its own one where none was accepted.
  Conditions: the list lies in memory.
-/
namespace Go.Proofs.Ytfgfjfemaniaiaa.Px
open Go.RowKit By Fl Ba
set_option linter.unusedVariables false
set_option linter.unusedSimpArgs false
set_option maxRecDepth 100000

def PkS (V : Nat → AccV) (n : Nat) (ol d : List Nat) : Prop := ((∀ i, i < n → (V i).a = z0) ∧ d = ol) ∨ ∃ i, i < n ∧ d = (V i).d ∧ Top V n i

set_option maxHeartbeats 4000000 in
theorem pickS (x : Option Addr) (n c : Nat) (V : Nat → AccV) (ox : Option Addr) (on_ oc : Nat) (ol : List Nat) (w : World) (h : Accs w x n V) (ho : Fl.Sl w ox on_ oc ol) (hon : on_ ≤ 140737488355328) :
    Calls Try.prog 91 #[.slice x n c, .slice ox on_ oc] w fun e w' => ∃ (y : Option Addr) (m cy : Nat) (d : List Nat), e = .returned (.slice y m cy) ∧ Hid (Vl w w' y m cy d ∧ m ≤ 140737488355328 ∧ PkS V n ol d) := by
  have HA : Hid (Accs w x n V) := h
  have HO : Hid (Fl.Sl w ox on_ oc ol ∧ on_ ≤ 140737488355328) := ⟨ho, hon⟩
  have hnz : (n : Int) ≤ 1000 := by have := h.small; omega
  clear h ho hon
  go_enter Try.func91, Try.ntmps91
  go_wp2_with fail
  go_loopw [5, 10, 6, 7] (fun hi i _ _ wr => ∃ k : Nat, k ≤ n ∧ i = .int .i64 k ∧ Hid (Below w.heap.size w wr) ∧ ((hi = .int .i64 (-1) ∧ Hid (∀ j, j < k → (V j).a = z0)) ∨ ∃ m : Nat, hi = .int .i64 m ∧ m < k ∧ Hid (Top V k m))) (fun _ i _ _ _ => n - (intOf i).toNat)
  case atStart => exact ⟨0, by omega, rfl, Below.refl _ _, .inl ⟨rfl, fun j hj => by omega⟩⟩
  case round =>
    obtain ⟨k, hk, rfl, HB, hhi⟩ := hrel
    by_cases hlt : k < n
    · have hkn : (k : Int) < (n : Int) := by omega
      have hA := HA.out.below HB.out
      obtain ⟨b, o, rfl, hb, hc⟩ := hA.row.resolve_left (by omega)
      obtain ⟨c0, c1, c2, c3, c4⟩ := hc k hlt
      have hN := fun W => none_any (V k).a W
      cases hz : zb (V k).a with
      | true =>
        rw [hz] at hN
        have HZ : Hid ((V k).a = z0) := (zb_iff _).1 hz
        clear hz hA hc hb HA HO
        dsimp only [bt] at hN
        generalize (V k).p.1 = p1 at *
        generalize (V k).p.2 = p2 at *
        generalize (V k).a.1 = a1 at *
        generalize (V k).a.2 = a2 at *
        generalize (V k).x = vx at *
        generalize (V k).n = vn at *
        generalize (V k).c = vc at *
        rcases hhi with ⟨rfl, HH⟩ | ⟨m, rfl, hm, HH⟩
        · go_wp2_with (first
            | (
               go_at_call 95; refine (hN _).mono ?_; rintro e w1 ⟨rfl, hb1⟩; clear hN
               have B1 := on (al _ _) hb1
               clear hb1))
          go_roundw
          case rel =>
            refine ⟨k + 1, by omega, by go_num, on HB.out B1, .inl ⟨rfl, fun j hj => ?_⟩⟩
            by_cases e : j = k
            · subst e
              exact HZ.out
            · exact HH.out j (by omega)
          case measure => simp [intOf]; omega
        · go_wp2_with (first
            | (
               go_at_call 95; refine (hN _).mono ?_; rintro e w1 ⟨rfl, hb1⟩; clear hN
               have B1 := on (al _ _) hb1
               clear hb1))
          go_roundw
          case rel => exact ⟨k + 1, by omega, by go_num, on HB.out B1, .inr ⟨m, rfl, by omega, HH.out.same (.inl HZ.out)⟩⟩
          case measure => simp [intOf]; omega
      | false =>
        rw [hz] at hN
        have HZ : Hid ((V k).a ≠ z0) := fun e => by rw [(zb_iff _).2 e] at hz; cases hz
        clear hz
        rcases hhi with ⟨rfl, HH⟩ | ⟨m, rfl, hm, HH⟩
        · clear hA hc hb HA HO
          dsimp only [bt] at hN
          generalize (V k).p.1 = p1 at *
          generalize (V k).p.2 = p2 at *
          generalize (V k).a.1 = a1 at *
          generalize (V k).a.2 = a2 at *
          generalize (V k).x = vx at *
          generalize (V k).n = vn at *
          generalize (V k).c = vc at *
          go_wp2_with (first
            | (
               go_at_call 95; refine (hN _).mono ?_; rintro e w1 ⟨rfl, hb1⟩; clear hN
               have B1 := on (al _ _) hb1
               clear hb1))
          refine wp_region_held_drew (S := fun v => True) (by kernel_rfl) trivial (fun hHeld => ?_)
          refine By.hk 0 ?_
          refine By.hk 1 ?_
          refine By.hk 2 ?_
          refine wpAnyH_take (i := 3) (v := undef) rfl (by kernel_rfl) (by kernel_rfl) (by kernel_rfl) (fun _ _ _ h => h) (Or.inr ⟨by rfl, rfl⟩) (by assumption) ?_
          (try simp only [Act.put, List.getElem_toArray, List.getElem_cons_succ, List.getElem_cons_zero, List.setIfInBounds_toArray, List.set_cons_zero, List.set_cons_succ])
          refine wpAnyH_take (i := 4) (v := undef) rfl (by kernel_rfl) (by kernel_rfl) (by kernel_rfl) (fun _ _ _ h => h) (Or.inr ⟨by rfl, rfl⟩) (by assumption) ?_
          (try simp only [Act.put, List.getElem_toArray, List.getElem_cons_succ, List.getElem_cons_zero, List.setIfInBounds_toArray, List.set_cons_zero, List.set_cons_succ])
          refine wpAnyH_take (i := 5) (v := undef) rfl (by kernel_rfl) (by kernel_rfl) (by kernel_rfl) (fun _ _ _ h => h) (Or.inr ⟨by rfl, rfl⟩) (by assumption) ?_
          (try simp only [Act.put, List.getElem_toArray, List.getElem_cons_succ, List.getElem_cons_zero, List.setIfInBounds_toArray, List.set_cons_zero, List.set_cons_succ])
          refine wpAnyH_take (i := 6) (v := undef) rfl (by kernel_rfl) (by kernel_rfl) (by kernel_rfl) (fun _ _ _ h => h) (Or.inr ⟨by rfl, rfl⟩) (by assumption) ?_
          (try simp only [Act.put, List.getElem_toArray, List.getElem_cons_succ, List.getElem_cons_zero, List.setIfInBounds_toArray, List.set_cons_zero, List.set_cons_succ])
          refine wpAnyH_take (i := 7) (v := undef) rfl (by kernel_rfl) (by kernel_rfl) (by kernel_rfl) (fun _ _ _ h => h) (Or.inr ⟨by rfl, rfl⟩) (by assumption) ?_
          (try simp only [Act.put, List.getElem_toArray, List.getElem_cons_succ, List.getElem_cons_zero, List.setIfInBounds_toArray, List.set_cons_zero, List.set_cons_succ])
          refine wpAnyH_take (i := 8) (v := undef) rfl (by kernel_rfl) (by kernel_rfl) (by kernel_rfl) (fun _ _ _ h => h) (Or.inr ⟨by rfl, rfl⟩) (by assumption) ?_
          (try simp only [Act.put, List.getElem_toArray, List.getElem_cons_succ, List.getElem_cons_zero, List.setIfInBounds_toArray, List.set_cons_zero, List.set_cons_succ])
          refine wpAnyH_take (i := 9) (v := undef) rfl (by kernel_rfl) (by kernel_rfl) (by kernel_rfl) (fun _ _ _ h => h) (Or.inr ⟨by rfl, rfl⟩) (by assumption) ?_
          (try simp only [Act.put, List.getElem_toArray, List.getElem_cons_succ, List.getElem_cons_zero, List.setIfInBounds_toArray, List.set_cons_zero, List.set_cons_succ])
          refine wpAnyH_take (i := 10) (v := undef) rfl (by kernel_rfl) (by kernel_rfl) (by kernel_rfl) (fun _ _ _ h => h) (Or.inr ⟨by rfl, rfl⟩) (by assumption) ?_
          (try simp only [Act.put, List.getElem_toArray, List.getElem_cons_succ, List.getElem_cons_zero, List.setIfInBounds_toArray, List.set_cons_zero, List.set_cons_succ])
          refine By.hk 11 ?_
          refine wpAnyH_done (by kernel_rfl) ?_ _
          go_wp2_with fail
          go_roundw
          case rel => exact ⟨k + 1, by omega, by go_num, on HB.out B1.drew, .inr ⟨k, rfl, by omega, Top.first HH.out HZ.out⟩⟩
          case measure => simp [intOf]; omega
        · have hmn : (m : Int) < (n : Int) := by omega
          have hm0 : ¬ (m : Int) < 0 := by omega
          obtain ⟨d0, d1, d2, d3, d4⟩ := hc m (by omega)
          have hL := fun W => less_any (V m).a (V k).a W
          have e0 : Hid (ltb (V m).a (V k).a = true ↔ lt (V m).a (V k).a) := ltb_iff _ _
          clear hA hc hb HA HO d0 d1 d4
          generalize ltb (V m).a (V k).a = t at *
          cases t with
          | true =>
            dsimp only [bt] at hN hL
            generalize (V k).p.1 = p1 at *
            generalize (V k).p.2 = p2 at *
            generalize (V m).a.1 = m1 at *
            generalize (V m).a.2 = m2 at *
            generalize (V k).a.1 = a1 at *
            generalize (V k).a.2 = a2 at *
            generalize (V k).x = vx at *
            generalize (V k).n = vn at *
            generalize (V k).c = vc at *
            go_wp2_with (first
              | (
                 go_at_call 95; refine (hN _).mono ?_; rintro e w1 ⟨rfl, hb1⟩; clear hN
                 have k0 := keep hb1 (b := wr.heap.size) (o := 0) (x := .int .i64 p1) (by first | assumption | go_simp)
                 have k1 := keep hb1 (b := wr.heap.size) (o := 1) (x := .int .i64 p2) (by first | assumption | go_simp)
                 have k2 := keep hb1 (b := wr.heap.size) (o := 2) (x := .int .i64 a1) (by first | assumption | go_simp)
                 have k3 := keep hb1 (b := wr.heap.size) (o := 3) (x := .int .i64 a2) (by first | assumption | go_simp)
                 have k4 := keep hb1 (b := wr.heap.size) (o := 4) (x := .slice vx vn vc) (by first | assumption | go_simp)
                 have B1 := on (al _ _) hb1
                 have q2 : w1.drew.cell? ⟨b, o + m * 5 + 2, none⟩ = some (.int .i64 m1) := keep B1.drew d2
                 have q3 : w1.drew.cell? ⟨b, o + m * 5 + 3, none⟩ = some (.int .i64 m2) := keep B1.drew d3
                 have j2 : w1.drew.cell? ⟨wr.heap.size, 2, none⟩ = some (.int .i64 a1) := k2
                 have j3 : w1.drew.cell? ⟨wr.heap.size, 3, none⟩ = some (.int .i64 a2) := k3
                 clear hb1 k0 k1 k2 k3 k4))
            clear c0 c1 c2 c3 c4 d2 d3
            refine wp_region_held_drew (S := fun v => v.cell? ⟨b, o + m * 5 + 2, none⟩ = some (.int .i64 m1) ∧ v.cell? ⟨b, o + m * 5 + 3, none⟩ = some (.int .i64 m2) ∧ v.cell? ⟨wr.heap.size, 2, none⟩ = some (.int .i64 a1) ∧ v.cell? ⟨wr.heap.size, 3, none⟩ = some (.int .i64 a2)) (by kernel_rfl) ⟨q2, q3, j2, j3⟩ (fun hHeld => ?_)
            have B2 : Below wr.heap.size wr w1.drew := B1.drew
            generalize w1.drew = wD at *
            refine By.hk 0 ?_
            refine By.hk 1 ?_
            refine By.hk 2 ?_
            refine By.hk 3 ?_
            refine By.hk 4 ?_
            refine By.hk 5 ?_
            refine By.hk 6 ?_
            refine By.hk 7 ?_
            refine By.hk 8 ?_
            refine By.hk 9 ?_
            refine wpAnyH_ready (rs := [10]) (by kernel_rfl) (by simp) ?_
            refine AllReadyH.cons rfl (fun K hK => ?_) AllReadyH.nil
            go_simp
            refine (hL _).mono ?_
            rintro e w2 ⟨rfl, hb2⟩
            have B3 := on B2 hb2
            refine hK.out _ _ ⟨keep hb2 q2, keep hb2 q3, keep hb2 j2, keep hb2 j3⟩ (fun hHeld => ?_)
            clear hK K
            refine By.hk 11 ?_
            refine wpAnyH_done (by kernel_rfl) ?_ _
            clear q2 q3 j2 j3 hb2
            go_wp2_with fail
            go_roundw
            case rel => exact ⟨k + 1, by omega, by go_num, on HB.out B3, .inr ⟨k, rfl, by omega, HH.out.more HZ.out (e0.out.1 (by simp))⟩⟩
            case measure => simp [intOf]; omega
          | false =>
            dsimp only [bt] at hN hL
            generalize (V k).p.1 = p1 at *
            generalize (V k).p.2 = p2 at *
            generalize (V m).a.1 = m1 at *
            generalize (V m).a.2 = m2 at *
            generalize (V k).a.1 = a1 at *
            generalize (V k).a.2 = a2 at *
            generalize (V k).x = vx at *
            generalize (V k).n = vn at *
            generalize (V k).c = vc at *
            go_wp2_with (first
              | (
                 go_at_call 95; refine (hN _).mono ?_; rintro e w1 ⟨rfl, hb1⟩; clear hN
                 have k0 := keep hb1 (b := wr.heap.size) (o := 0) (x := .int .i64 p1) (by first | assumption | go_simp)
                 have k1 := keep hb1 (b := wr.heap.size) (o := 1) (x := .int .i64 p2) (by first | assumption | go_simp)
                 have k2 := keep hb1 (b := wr.heap.size) (o := 2) (x := .int .i64 a1) (by first | assumption | go_simp)
                 have k3 := keep hb1 (b := wr.heap.size) (o := 3) (x := .int .i64 a2) (by first | assumption | go_simp)
                 have k4 := keep hb1 (b := wr.heap.size) (o := 4) (x := .slice vx vn vc) (by first | assumption | go_simp)
                 have B1 := on (al _ _) hb1
                 have q2 : w1.drew.cell? ⟨b, o + m * 5 + 2, none⟩ = some (.int .i64 m1) := keep B1.drew d2
                 have q3 : w1.drew.cell? ⟨b, o + m * 5 + 3, none⟩ = some (.int .i64 m2) := keep B1.drew d3
                 have j2 : w1.drew.cell? ⟨wr.heap.size, 2, none⟩ = some (.int .i64 a1) := k2
                 have j3 : w1.drew.cell? ⟨wr.heap.size, 3, none⟩ = some (.int .i64 a2) := k3
                 clear hb1 k0 k1 k2 k3 k4))
            clear c0 c1 c2 c3 c4 d2 d3
            refine wp_region_held_drew (S := fun v => v.cell? ⟨b, o + m * 5 + 2, none⟩ = some (.int .i64 m1) ∧ v.cell? ⟨b, o + m * 5 + 3, none⟩ = some (.int .i64 m2) ∧ v.cell? ⟨wr.heap.size, 2, none⟩ = some (.int .i64 a1) ∧ v.cell? ⟨wr.heap.size, 3, none⟩ = some (.int .i64 a2)) (by kernel_rfl) ⟨q2, q3, j2, j3⟩ (fun hHeld => ?_)
            have B2 : Below wr.heap.size wr w1.drew := B1.drew
            generalize w1.drew = wD at *
            refine By.hk 0 ?_
            refine By.hk 1 ?_
            refine By.hk 2 ?_
            refine By.hk 3 ?_
            refine By.hk 4 ?_
            refine By.hk 5 ?_
            refine By.hk 6 ?_
            refine By.hk 7 ?_
            refine By.hk 8 ?_
            refine By.hk 9 ?_
            refine wpAnyH_ready (rs := [10]) (by kernel_rfl) (by simp) ?_
            refine AllReadyH.cons rfl (fun K hK => ?_) AllReadyH.nil
            go_simp
            refine (hL _).mono ?_
            rintro e w2 ⟨rfl, hb2⟩
            have B3 := on B2 hb2
            refine hK.out _ _ ⟨keep hb2 q2, keep hb2 q3, keep hb2 j2, keep hb2 j3⟩ (fun hHeld => ?_)
            clear hK K
            refine By.hk 11 ?_
            refine wpAnyH_done (by kernel_rfl) ?_ _
            clear q2 q3 j2 j3 hb2
            go_wp2_with fail
            go_roundw
            case rel => exact ⟨k + 1, by omega, by go_num, on HB.out B3, .inr ⟨m, rfl, by omega, HH.out.same (.inr (fun hh => by have := e0.out.2 hh; cases this))⟩⟩
            case measure => simp [intOf]; omega
    · obtain rfl : k = n := by omega
      rcases hhi with ⟨rfl, HH⟩ | ⟨m, rfl, hm, HH⟩
      · have hC := clone_vl ox on_ oc ol wr (HO.out.1.below HB.out) HO.out.2
        go_wp2_with (first
          | (
             go_at_call 60; refine hC.mono ?_; rintro e w2 ⟨y, cy, rfl, H2⟩; clear hC))
        go_ret
        exact ⟨y, on_, cy, ol, rfl, ⟨on HB.out H2.out.1, H2.out.2.1, fun a ha => ⟨Nat.le_trans HB.out.size (H2.out.2.2 a ha).1, (H2.out.2.2 a ha).2⟩⟩, HO.out.2, .inl ⟨HH.out, rfl⟩⟩
      · have hmn : (m : Int) < (k : Int) := by omega
        have hm0 : ¬ (m : Int) < 0 := by omega
        have hA := HA.out.below HB.out
        obtain ⟨b, o, rfl, hb, hc⟩ := hA.row.resolve_left (by omega)
        have c4 := (hc m (by omega)).2.2.2.2
        have hC := clone_vl (V m).x (V m).n (V m).c (V m).d wr (hA.val m hm).1 (hA.val m hm).2
        have HS : Hid ((V m).n ≤ 140737488355328) := (hA.val m hm).2
        clear hA hc hb
        go_wp2_with (first
          | (
             go_at_call 60; refine hC.mono ?_; rintro e w2 ⟨y, cy, rfl, H2⟩; clear hC))
        go_ret
        exact ⟨y, (V m).n, cy, (V m).d, rfl, ⟨on HB.out H2.out.1, H2.out.2.1, fun a ha => ⟨Nat.le_trans HB.out.size (H2.out.2.2 a ha).1, (H2.out.2.2 a ha).2⟩⟩, HS.out, .inr ⟨m, hm, rfl, HH.out⟩⟩

end Go.Proofs.Ytfgfjfemaniaiaa.Px

/-
  A value is picked and accepted where a monitor is alone.
  Conditions: the monitor is one that New gave ('NdAt'), with a bid.
-/
namespace Go.Proofs.Ytfgfjfemaniaiaa.Px
open Go.RowKit Wi By Fl Ba
set_option linter.unusedVariables false
set_option linter.unusedSimpArgs false
set_option maxRecDepth 100000

section
variable {w : World} {B : Nat} {g : Ln} {st : Nd}

theorem NdAt.setVal (h : NdAt w B g st) (l : Lb) (b : Bd) (hl : g.b = some l) (hb : st.bid = some b) (y : Option Addr) (n c : Nat) (v : List Nat) (hv : Sv w y n c v) :
    NdAt (w.setCell ⟨l.bp, 3, none⟩ (.slice y n c)) B { g with b := some { l with x := y, n := n, c := c } } { st with bid := some { b with val := v } } ∧ Turns (atB l.bp) w (w.setCell ⟨l.bp, 3, none⟩ (.slice y n c)) := by
  have t : Turns (atB l.bp) w (w.setCell ⟨l.bp, 3, none⟩ (.slice y n c)) := turns_put (Turns.refl _ _) 3 _
  rcases h.bid with ⟨q, _⟩ | ⟨l', b', q1, q2, q3, q4⟩
  · rw [hl] at q
    cases q
  rw [hl] at q1
  injection q1 with q1
  subst q1
  rw [hb] at q2
  injection q2 with q2
  subst q2
  have hu : ∀ k, atB l.bp k → ¬ Tb w k 5 := fun k hk => by
    have e : k = l.bp := hk
    subst e
    exact (h.u8 _ (.inr (.inr (.inr (.inr ⟨l, hl, .inl rfl⟩))))).2
  have hpb : g.p ≠ l.bp := fun e => by
    have := q3.obj.tb.same (e ▸ h.obj.tb)
    revert this
    decide
  refine ⟨⟨?_, ?_, ?_, h.ne, ?_, .inr ⟨_, _, rfl, rfl, ⟨?_, hv.turns t hu, ?_, q3.wf⟩, q4⟩, fun k hk => h.low k ?_, h.dl, h.wl, h.dok, h.wok⟩, t⟩
  · have q := t.blk h.obj (fun e => hpb e)
    refine q.congr (fun j hj => ?_)
    rcases j with _ | _ | _ | _ | _ | _ | _ | _ | j <;> first | rfl | (unfold obj8; simp only [hl]; rfl) | omega
  · exact h.dec.turns t (fun q hq e => by
      have e' : q = l.bp := e
      subst e'
      have := (h.dec.tb hq).2.same q3.obj.tb
      revert this
      decide)
  · exact h.wait.turns t (fun q hq e => by
      have e' : q = l.bp := e
      subst e'
      have := (h.wait.tb hq).2.same q3.obj.tb
      revert this
      decide)
  · exact h.acc.turns t (fun e => by
      have e' : g.mb = l.bp := e
      exact q3.obj.tb.not_map (e' ▸ h.acc.isM)) hu
  · exact (q3.obj.set 3 _).congr (fun j hj => by rcases j with _ | _ | _ | _ | _ | j <;> first | rfl | omega)
  · exact q3.told.turns t (fun e => by
      have e' : l.tb = l.bp := e
      exact q3.obj.tb.not_map (e' ▸ q3.told.isM)) hu
  · rcases hk with q | q | q | q | ⟨l2, q, r⟩
    · exact .inl q
    · exact .inr (.inl q)
    · exact .inr (.inr (.inl q))
    · exact .inr (.inr (.inr (.inl q)))
    · injection q with q
      subst q
      exact .inr (.inr (.inr (.inr ⟨l, hl, r⟩)))

def picked (st : Nd) (b : Bd) (d : Dc) : Nd := { st with acc := upA st.acc b.num ⟨b.bal, b.bal, dbytes d⟩, bid := some { b with val := dbytes d } }

set_option maxHeartbeats 3200000 in
theorem pick_one (h : NdAt w B g st) (b : Bd) (hb : st.bid = some b) (hn1 : st.n = 1) (hid0 : st.id = 0) (d : Dc) (ws : List Dc) (hw : st.wait = d :: ws) (x : Option Addr) (m c : Nat) (V : Nat → AccV) (hA : Accs w x m V) (hz : ∀ i, i < m → (V i).a = z0)
    (hacc : st.acc b.num = ⟨b.bal, z0, []⟩) (hfr : freeb b.bal z0 0 b.bal = true) (hnum : b.num < 4294967296) (hgn : gnb g < 1000000000000000000) :
    Calls Try.prog 74 #[.pointer (some ⟨g.p, 0, none⟩), .slice x m c] w fun e w' => e = .returned (.slice none 0 0) ∧ Hid (Goes w w' B g (picked st b d) 1) := by
  rcases h.bid with ⟨_, q⟩ | ⟨l, b', q1, q2, q3, q4⟩
  · rw [hb] at q
    cases q
  rw [hb] at q2
  injection q2 with q2
  subst q2
  have hpl := h.obj.lt
  have hbl := q3.obj.lt
  have c5 := h.c5
  have c6 : w.cell? ⟨g.p, 6, none⟩ = some (.pointer (some ⟨l.bp, 0, none⟩)) := by rw [h.c6, q1]; rfl
  have hd : st.wait[0]? = some d := by rw [hw]; rfl
  obtain ⟨gw, cw, e, hnc, hcm, _, hgw⟩ := h.wait.there (by rw [hw]; simp)
  have ho := h.wait
  rw [e] at c5 ho
  have w0 := ho.cell drow.len hd (j := 0) (v := .int .i64 d.mon) rfl
  have w1 := ho.cell drow.len hd (j := 1) (v := .int .i64 d.ser) rfl
  have w2 := ho.cell drow.len hd (j := 2) (v := .string d.val) rfl
  rw [Nat.zero_mul, Nat.zero_add] at w0 w1 w2
  have hwl : (0 : Int) < (st.wait.length : Int) := by rw [hw]; simp
  have hwl2 : st.wait.length ≤ 80000 := h.wl
  have hdok : DOk d := h.wok d (by rw [hw]; simp)
  have hBy := fun W => dbytes_any d hdok W
  have HH : Hid (NdAt w B g st ∧ g.b = some l ∧ BdAt w l b ∧ Accs w x m V ∧ (∀ i, i < m → (V i).a = z0) ∧ st.n = 1 ∧ st.id = 0 ∧ st.acc b.num = ⟨b.bal, z0, []⟩ ∧ freeb b.bal z0 0 b.bal = true ∧ b.num < 4294967296 ∧ gnb g < 1000000000000000000 ∧ st.bid = some b) := ⟨h, q1, q3, hA, hz, hn1, hid0, hacc, hfr, hnum, hgn, hb⟩
  clear h q1 q3 q4 hA hz hn1 hid0 hacc hfr hnum hgn hb hw hd ho e hdok hnc hcm
  dsimp only [dv] at hBy
  generalize st.wait.length = wl at *
  go_enter Try.func74, Try.ntmps74
  go_wp2_with (first
    | (
       go_at_call 86; refine (hBy _).mono ?_; rintro e w3 ⟨y3, m3, c3, rfl, H3⟩; clear hBy
       have hPk := pickS x m c V y3 m3 c3 (dbytes d) w3 (HH.out.2.2.2.1.below H3.out.2.1) H3.out.2.2.1 (by have := H3.out.1; omega))
    | (
       go_at_call 91; refine hPk.mono ?_; rintro e w4 ⟨y4, m4, c4, dd, rfl, H4⟩; clear hPk
       have bE : Below w.heap.size w w4 := on H3.out.2.1 H4.out.1.1
       have k4 := HH.out.1.below bE
       have hdd : dd = dbytes d := by
         rcases H4.out.2.2 with ⟨_, q⟩ | ⟨i, hi, _, q⟩
         · exact q
         · exact absurd (HH.out.2.2.2.2.1 i hi) q.1
       have hm4 : m4 ≤ 5000 := by
         have a1 := H4.out.1.2.1.len
         have a2 := H3.out.2.2.1.len
         have a3 := H3.out.1
         rw [hdd] at a1
         omega
       have hSv : Sv w4 y4 m4 c4 (dbytes d) := vl_sv (hdd ▸ H4.out.1) hm4
       have o3 : w4.cell? ⟨l.bp, 3, none⟩ = some (.slice l.x l.n l.c) := keep bE (HH.out.2.2.1.obj.cell (k := 3) (by omega))
       have f3 : w4.frozen? ⟨l.bp, 3, none⟩ = false := keepf bE HH.out.2.2.1.obj.lt (HH.out.2.2.1.obj.frozen 3)
       obtain ⟨k5, t5⟩ := k4.setVal l b HH.out.2.1 HH.out.2.2.2.2.2.2.2.2.2.2.2 y4 m4 c4 (dbytes d) hSv
       have HK : Hid (Below w.heap.size w w4 ∧ NdAt (w4.setCell ⟨l.bp, 3, none⟩ (.slice y4 m4 c4)) B { g with b := some { l with x := y4, n := m4, c := c4 } } { st with bid := some { b with val := dbytes d } } ∧ Turns (atB l.bp) w4 (w4.setCell ⟨l.bp, 3, none⟩ (.slice y4 m4 c4))) := ⟨bE, k5, t5⟩
       clear H3 H4 hdd hm4 hSv k4 k5 t5 bE w0 w1 w2 c5 c6))
  obtain ⟨bE, k5, t5⟩ := HK.out
  have bD : Below (w4.setCell ⟨l.bp, 3, none⟩ (.slice y4 m4 c4)).heap.size (w4.setCell ⟨l.bp, 3, none⟩ (.slice y4 m4 c4)) (w4.setCell ⟨l.bp, 3, none⟩ (.slice y4 m4 c4)).drew := (Below.refl _ _).drew
  have k6 := k5.below bD
  have hnb : b.num < 4294967296 := HH.out.2.2.2.2.2.2.2.2.2.1
  obtain ⟨v, v1, v2, v3⟩ := k6.acc.lookAll b.num hnb
  have hav : v.p = b.bal ∧ v.a = z0 ∧ v.d = [] := by
    have q := HH.out.2.2.2.2.2.2.2.1
    rw [q] at v2
    injection v2 with a1 a2 a3
    exact ⟨a1.symm, a2.symm, a3.symm⟩
  have hvn : v.n = 0 := by rw [← v1.sv.sl.len, hav.2.2]; rfl
  have hBd : BdAt (w4.setCell ⟨l.bp, 3, none⟩ (.slice y4 m4 c4)).drew { l with x := y4, n := m4, c := c4 } { b with val := dbytes d } := by
    rcases k6.bid with ⟨q, _⟩ | ⟨l2, b2, a1, a2, a3, _⟩
    · cases q
    · injection a1 with a1
      injection a2 with a2
      subst a1
      subst a2
      exact a3
  have hAc := fun (W : World) (bb : Below (w4.setCell ⟨l.bp, 3, none⟩ (.slice y4 m4 c4)).drew.heap.size (w4.setCell ⟨l.bp, 3, none⟩ (.slice y4 m4 c4)).drew W) => accept_yes v.p v.a v.x v.n v.c b.bal y4 m4 c4 (dbytes d) W (hBd.val.sl.below bb) (by have := hBd.val.sm; dsimp only at this; omega) (by rw [hav.1, hav.2.1, hvn]; exact HH.out.2.2.2.2.2.2.2.2.1)
  have hlk := v3 _ rfl
  have s3 : (w4.setCell ⟨l.bp, 3, none⟩ (.slice y4 m4 c4)).drew.cell? ⟨g.p, 3, none⟩ = some (.map (some g.mb)) := k6.c3
  have d0 : (w4.setCell ⟨l.bp, 3, none⟩ (.slice y4 m4 c4)).drew.cell? ⟨l.bp, 0, none⟩ = some (.int .i64 b.num) := hBd.obj.cell (k := 0) (by omega)
  have d1 : (w4.setCell ⟨l.bp, 3, none⟩ (.slice y4 m4 c4)).drew.cell? ⟨l.bp, 1, none⟩ = some (.int .i64 b.bal.1) := hBd.obj.cell (k := 1) (by omega)
  have d2 : (w4.setCell ⟨l.bp, 3, none⟩ (.slice y4 m4 c4)).drew.cell? ⟨l.bp, 2, none⟩ = some (.int .i64 b.bal.2) := hBd.obj.cell (k := 2) (by omega)
  have d3 : (w4.setCell ⟨l.bp, 3, none⟩ (.slice y4 m4 c4)).drew.cell? ⟨l.bp, 3, none⟩ = some (.slice y4 m4 c4) := hBd.obj.cell (k := 3) (by omega)
  have HV : Hid (v.p = b.bal ∧ v.a = z0 ∧ v.d = [] ∧ v.n = 0) := ⟨hav.1, hav.2.1, hav.2.2, hvn⟩
  have HE : Hid (Below w.heap.size w w4 ∧ Turns (atB l.bp) w4 (w4.setCell ⟨l.bp, 3, none⟩ (.slice y4 m4 c4)).drew ∧ NdAt (w4.setCell ⟨l.bp, 3, none⟩ (.slice y4 m4 c4)).drew B { g with b := some { l with x := y4, n := m4, c := c4 } } { st with bid := some { b with val := dbytes d } } ∧ bwf b.bal ∧ (dbytes d).length = m4 ∧ m4 ≤ 5000) := ⟨bE, t5.trans (Turns.of_below bD), k6, hBd.wf, hBd.val.sl.len, hBd.val.sm⟩
  dsimp only [av, ac, bt] at hAc hlk
  clear hav hvn v1 v2 v3 bE k5 t5 bD k6 hBd HK
  obtain ⟨⟨vp1, vp2⟩, ⟨va1, va2⟩, vx, vn, vc, vd⟩ := v
  dsimp only at hAc hlk HV
  go_wp2_with fail
  refine wp_region_held_drew (S := fun q => q.cell? ⟨g.p, 3, none⟩ = some (.map (some g.mb)) ∧ q.cell? ⟨l.bp, 0, none⟩ = some (.int .i64 b.num) ∧ q.cell? ⟨l.bp, 1, none⟩ = some (.int .i64 b.bal.1) ∧ q.cell? ⟨l.bp, 2, none⟩ = some (.int .i64 b.bal.2) ∧ q.cell? ⟨l.bp, 3, none⟩ = some (.slice y4 m4 c4)) (by kernel_rfl) ⟨s3, d0, d1, d2, d3⟩ (fun hHeld => ?_)
  generalize (w4.setCell ⟨l.bp, 3, none⟩ (.slice y4 m4 c4)).drew = wE at *
  refine By.hk 0 ?_
  refine By.hk 1 ?_
  refine By.hk 2 ?_
  refine By.hk 3 ?_
  refine By.hk 4 ?_
  refine By.hk 5 ?_
  refine By.hk 6 ?_
  refine By.hk 7 ?_
  refine By.hk 8 ?_
  refine By.hk 9 ?_
  refine By.hk 10 ?_
  refine By.hk 11 ?_
  refine By.hk 12 ?_
  refine By.hk 13 ?_
  refine By.hk 14 ?_
  refine By.hk 15 ?_
  refine By.hk 17 ?_
  refine By.hk 18 ?_
  refine By.hk 19 ?_
  refine By.hk 20 ?_
  refine By.hk 21 ?_
  refine By.hk 22 ?_
  refine By.hk 23 ?_
  refine By.hk 24 ?_
  refine wpAnyH_ready (rs := [16]) (by kernel_rfl) (by simp) ?_
  refine AllReadyH.cons rfl (fun K hK => ?_) AllReadyH.nil
  refine st_lookup rfl _ _ 60 false rfl _ _ _ rfl rfl hlk ?_
  (try simp only [Act.put, List.getElem_toArray, List.getElem_cons_succ, List.getElem_cons_zero, List.setIfInBounds_toArray, List.set_cons_zero, List.set_cons_succ])
  refine hK.out _ _ ⟨s3, d0, d1, d2, d3⟩ (fun hHeld => ?_)
  clear hK K
  refine wpAnyH_ready (rs := [25]) (by kernel_rfl) (by simp) ?_
  refine AllReadyH.cons rfl (fun K hK => ?_) AllReadyH.nil
  go_simp
  refine (hAc _ (Below.refl _ _)).mono ?_
  rintro e w6 ⟨y6, cy6, rfl, H6⟩
  have k7 := HE.out.2.2.1.below H6.out.1
  obtain ⟨w7, D7, hput, H7⟩ := k7.acc.put b.num hnb (by have := HH.out.2.2.2.2.2.2.2.2.2.2.1; unfold gnb at this; show g.nb < _; omega) ⟨b.bal, b.bal, y6, m4, cy6, dbytes d⟩ ⟨vl_sv H6.out HE.out.2.2.2.2.2, HE.out.2.2.2.1, HE.out.2.2.2.1⟩
  have hput : (Instr.mapUpdate 60 (.map (some g.mb)) (.int .i64 (b.num : Int)) (.agg #[.int .i64 b.bal.1, .int .i64 b.bal.2, .int .i64 b.bal.1, .int .i64 b.bal.2, .slice y6 m4 cy6])).run Try.prog w6 = .ok () w7 := hput
  have k8 := k7.setA H7.out.1 H7.out.2
  have hbm : ¬ atB g.mb l.bp := fun e => by
    have e' : l.bp = g.mb := e
    have q3 := HH.out.2.2.1
    exact q3.obj.tb.not_map (e' ▸ HH.out.1.acc.isM)
  have s3' := keep H6.out.1 s3
  have d0' := keep H6.out.1 d0
  have d1' := keep H6.out.1 d1
  have d2' := keep H6.out.1 d2
  have d3' := keep H6.out.1 d3
  have s3'' : w7.cell? ⟨g.p, 3, none⟩ = some (.map (some g.mb)) := k8.c3
  have d0'' := keept H7.out.2 hbm d0'
  have d1'' := keept H7.out.2 hbm d1'
  have d2'' := keept H7.out.2 hbm d2'
  have d3'' := keept H7.out.2 hbm d3'
  have hAsk := ask_one k8 HH.out.2.2.2.2.2.1 HH.out.2.2.2.2.2.2.1
  have HF : Hid (Goes w w7 B g (picked st b d) 1) := by
    have hT : Turns (fp g) w w7 := (((Turns.of_below HE.out.1).trans (HE.out.2.1.weak fun k hk => .inr (.inr (.inr (.inr ⟨l, HH.out.2.1, .inl hk⟩))))).trans (Turns.of_below H6.out.1)).trans (H7.out.2.weak fun k hk => .inr (.inl hk))
    refine ⟨_, ?_, k8, hT, ?_, fun k hk => ?_⟩
    · rfl
    · show g.nb + 1 + l.tn ≤ gnb g + 1
      unfold gnb
      rw [HH.out.2.1]
      dsimp only
      omega
    · left
      rcases hk with q | q | q | q | ⟨l2, q, r⟩
      · exact .inl q
      · exact .inr (.inl q)
      · exact .inr (.inr (.inl q))
      · exact .inr (.inr (.inr (.inl q)))
      · injection q with q
        subst q
        exact .inr (.inr (.inr (.inr ⟨l, HH.out.2.1, r⟩)))
  refine hK.out _ _ ⟨s3', d0', d1', d2', d3'⟩ (fun hHeld => ?_)
  clear hK K
  refine By.hk 26 ?_
  refine By.hk 27 ?_
  refine By.hk 28 ?_
  refine wpAnyH_ready (rs := [29]) (by kernel_rfl) (by simp) ?_
  refine AllReadyH.cons rfl (fun K hK => ?_) AllReadyH.nil
  refine st_mapupdate rfl _ _ _ 60 rfl _ _ _ rfl rfl rfl hput ?_
  (try simp only [Act.put, List.getElem_toArray, List.getElem_cons_succ, List.getElem_cons_zero, List.setIfInBounds_toArray, List.set_cons_zero, List.set_cons_succ])
  refine hK.out _ _ ⟨s3'', d0'', d1'', d2'', d3''⟩ (fun hHeld => ?_)
  clear hK K
  refine wpAnyH_done (by kernel_rfl) ?_ _
  dsimp only at hAsk
  clear k7 k8 hput hHeld H7 HE hlk s3 d0 d1 d2 d3 s3' d0' d1' d2' d3' hAc hbm
  go_wp2_with (first
    | (
       go_at_call 36; refine hAsk.mono ?_; rintro e w9 ⟨rfl, hw9⟩; subst w9; clear hAsk))
  go_ret
  exact ⟨rfl, HF.out⟩

end

end Go.Proofs.Ytfgfjfemaniaiaa.Px

/-
  A monitor tells another one decrees that it knows.
  Conditions: the monitor is one that New gave ('NdAt').
-/
namespace Go.Proofs.Ytfgfjfemaniaiaa.Px
open Go.RowKit Wi By Fl Ba
set_option linter.unusedVariables false
set_option linter.unusedSimpArgs false
set_option maxRecDepth 100000

theorem delem_row : Try.prog.underlying 59 = some (.slice (Try.prog.elem 59)) := by kernel_rfl
theorem delem_is : Try.prog.elem 59 = 68 := by kernel_rfl
theorem dsize_is (w : World) : (sizeOf 68).run Try.prog w = .ok 3 w := by kernel_rfl

theorem cutD_from (b n c d : Nat) (w : World) (h1 : d ≤ n) (h2 : d < c) :
    (Instr.slice 59 (.slice (some ⟨b, 0, none⟩) n c) (some (.int .i64 (d : Int))) none none).run Try.prog w = .ok (.slice (some ⟨b, d * 3, none⟩) (n - d) (c - d)) w := by
  rw [run_slice_l w 59 _ _ _ delem_row .i64 (d : Int) (by omega) (by omega), delem_is, dsize_is]
  simp only [Result.andThen, sliced, Int.toNat_natCast, Option.map]
  rw [if_neg (by omega)]
  have hadd : (⟨b, 0, none⟩ : Addr).add (d * 3) = ⟨b, d * 3, none⟩ := by unfold Addr.add; split <;> simp_all
  rw [hadd]

theorem cutD_head (x : Option Addr) (n c m : Nat) (w : World) (h : m ≤ c) :
    (Instr.slice 59 (.slice x n c) none (some (.int .i64 (m : Int))) none).run Try.prog w = .ok (.slice x m c) w := by
  rw [run_slice_h w 59 _ _ _ delem_row .i64 (m : Int) (by omega) (by omega), delem_is, dsize_is]
  simp only [Result.andThen, sliced, Int.toNat_natCast, Nat.zero_mul, Nat.sub_zero]
  have : (if c = 0 then x else x.map (·.add 0)) = x := by
    split
    · rfl
    · cases x with
      | none => rfl
      | some a => simp [Addr.add]
  rw [this]

section
variable {w : World} {B : Nat} {g : Ln} {st : Nd}

/- What it tells from decree k + 1 on. -/
def tellM (st : Nd) (k : Nat) : Ms := ⟨5, k + 1, noAc, st.dec.length, (st.dec.drop k).take 64⟩

set_option maxHeartbeats 1600000 in
theorem tell_any (h : NdAt w B g st) (hi : st.id < 7) (dst : Int) (k : Nat) (hk : k < st.dec.length) :
    Calls Try.prog 47 #[.pointer (some ⟨g.p, 0, none⟩), .int .i64 dst, .int .i64 ((k + 1 : Nat) : Int)] w fun e w' => ∃ z l cz, e = .returned (.agg #[.int .i64 dst, .slice z l cz]) ∧ Hid (l ≤ 500000 ∧ Vl w w' z l cz (encM (tellM st k) st.id)) := by
  have hdl := h.dl
  have z0ok : BOk z0 := ⟨by show (0 : Int) ≤ 0; omega, by show (0 : Int) < _; omega, by show (0 : Int) ≤ 0; omega, by show (0 : Int) < _; omega⟩
  obtain ⟨b, c, e, hnc, _, _, hbl⟩ := h.dec.there (fun e => by rw [e] at hk; simp at hk)
  have ho := h.dec
  rw [e] at ho
  have c2 := h.c2
  rw [e] at c2
  obtain ⟨t, ht⟩ : ∃ t, t = ((st.dec.drop k).take 64).length := ⟨_, rfl⟩
  have htl : t = min 64 (st.dec.length - k) := by rw [ht]; simp
  have hto : told (k + 1) st.dec.length = (t : Int) := by unfold told; omega
  have hD : DcsAt w (some ⟨b, k * 3, none⟩) ((st.dec.drop k).take 64) := by
    refine .inr ⟨b, k * 3, rfl, hbl, fun i d q => ?_⟩
    have hi : i < 64 := by
      have := (List.getElem?_eq_some_iff.1 q).1
      simp at this
      omega
    rw [List.getElem?_take_of_lt hi, List.getElem?_drop] at q
    have a0 := ho.cell drow.len q (j := 0) (v := .int .i64 d.mon) rfl
    have a1 := ho.cell drow.len q (j := 1) (v := .int .i64 d.ser) rfl
    have a2 := ho.cell drow.len q (j := 2) (v := .string d.val) rfl
    rw [show k * 3 + i * 3 = (k + i) * 3 by omega]
    exact ⟨a0, a1, a2⟩
  have hS := fun (W : World) (bb : Below w.heap.size w W) (cy : Nat) => send_any (h.below bb) hi dst (tellM st k) none (some ⟨b, k * 3, none⟩) 0 cy ⟨by show 5 < _; omega, by show k + 1 < _; omega, by show st.dec.length < _; omega, z0ok, z0ok, Fl.Sl.empty _, by show 0 ≤ _; omega, hD.below bb, by show ((st.dec.drop k).take 64).length ≤ 64; omega, fun d hd => h.dok d (List.mem_of_mem_drop (List.mem_of_mem_take hd))⟩
  have hT := fun W => told_any (k + 1) st.dec.length W (by omega) (by omega)
  rw [hto] at hT
  have hc1 := fun v => cutD_from b st.dec.length c k v (by omega) (by omega)
  have hc2 := fun v => cutD_head (some ⟨b, k * 3, none⟩) (st.dec.length - k) (c - k) t v (by omega)
  have hpl := h.obj.lt
  dsimp only [mv, tellM, noAc, z0, List.length_nil] at hS
  rw [← ht] at hS
  have HL : Hid (encM (tellM st k) st.id = encM ⟨5, k + 1, ⟨(0, 0), (0, 0), []⟩, st.dec.length, (st.dec.drop k).take 64⟩ st.id) := rfl
  have i3 : ((k + 1 : Nat) : Int) - 1 = (k : Int) := by omega
  have i5 : (st.dec.length : Int) ≤ 80000 := by omega
  have i6 : (k : Int) < (st.dec.length : Int) := by omega
  have i7 : (t : Int) ≤ 64 := by omega
  have HP : Hid (tellM st k = tellM st k) := rfl
  clear h e ho hD z0ok htl hto ht hdl
  generalize hgl : encM (tellM st k) st.id = L at *
  clear hgl
  generalize encM ⟨5, k + 1, ⟨(0, 0), (0, 0), []⟩, st.dec.length, (st.dec.drop k).take 64⟩ st.id = L' at *
  generalize st.dec.length = n at *
  generalize n - k = nk at *
  generalize c - k = ck at *
  generalize g.p = p at *
  obtain ⟨j, hj⟩ : ∃ j, j = k + 1 := ⟨_, rfl⟩
  rw [← hj] at hS hT i3 ⊢
  clear hj
  have wk : IntKind.i64.wrap (k : Int) = (k : Int) := wrap_i64 (by omega) (by omega)
  go_enter Try.func47, Try.ntmps47
  go_wp2_with fail
  have bD : Below w.heap.size w (w.alloc (.cells #[.int .i64 0, .slice none 0 0] 70)).drew := on (al _ _) (Below.refl _ _).drew
  have s2 := keep bD c2
  have r0 : (w.alloc (.cells #[.int .i64 0, .slice none 0 0] 70)).drew.cell? ⟨w.heap.size, 0, none⟩ = some (.int .i64 0) := by go_simp
  have r1 : (w.alloc (.cells #[.int .i64 0, .slice none 0 0] 70)).drew.cell? ⟨w.heap.size, 1, none⟩ = some (.slice none 0 0) := by go_simp
  have f0 : (w.alloc (.cells #[.int .i64 0, .slice none 0 0] 70)).drew.frozen? ⟨w.heap.size, 0, none⟩ = false := by go_simp
  have f1 : (w.alloc (.cells #[.int .i64 0, .slice none 0 0] 70)).drew.frozen? ⟨w.heap.size, 1, none⟩ = false := by go_simp
  refine wp_region_held_drew (S := fun q => q.cell? ⟨p, 2, none⟩ = some (.slice (some ⟨b, 0, none⟩) n c) ∧ (Instr.slice 59 (.slice (some ⟨b, 0, none⟩) n c) (some (.int .i64 (k : Int))) none none).run Try.prog q = .ok (.slice (some ⟨b, k * 3, none⟩) nk ck) q ∧ (Instr.slice 59 (.slice (some ⟨b, k * 3, none⟩) nk ck) none (some (.int .i64 (t : Int))) none).run Try.prog q = .ok (.slice (some ⟨b, k * 3, none⟩) t ck) q) (by kernel_rfl) ⟨s2, hc1 _, hc2 _⟩ (fun hHeld => ?_)
  generalize (w.alloc (.cells #[.int .i64 0, .slice none 0 0] 70)).drew = wD at *
  refine By.hk 0 ?_
  refine By.hk 1 ?_
  refine By.hk 2 ?_
  refine By.hk 3 ?_
  refine By.hk 4 ?_
  refine By.hk 5 ?_
  refine By.hk 6 ?_
  refine By.hk 7 ?_
  refine By.hk 8 ?_
  refine wpAnyH_ready (rs := [9]) (by kernel_rfl) (by simp) ?_
  refine AllReadyH.cons rfl (fun K hK => ?_) AllReadyH.nil
  go_simp
  refine (hT _).mono ?_
  rintro e w1 ⟨rfl, hw1⟩
  subst w1
  clear hT
  refine hK.out _ _ ⟨s2, hc1 _, hc2 _⟩ (fun hHeld => ?_)
  clear hK K
  refine By.hk 10 ?_
  refine By.hk 11 ?_
  refine wpAnyH_done (by kernel_rfl) ?_ _
  have hSd := hS wD bD ck
  have lt1 : w.heap.size < wD.heap.size := cell_lt' r0
  clear hHeld hS s2 hc1 hc2
  go_wp2_with (first
    | (
       go_at_call 50; refine hSd.mono ?_; rintro e w1 ⟨z, l, cz, rfl, H1⟩; clear hSd
       replace f0 := keepf H1.out.2.1 lt1 f0
       replace f1 := keepf H1.out.2.1 lt1 f1
       replace r0 := keep H1.out.2.1 r0
       replace r1 := keep H1.out.2.1 r1
       have lt2 : w.heap.size < w1.heap.size := cell_lt' r0))
  refine bodyPost_ret (v := .agg #[.int .i64 dst, .slice z l cz]) ?_ rfl ⟨z, l, cz, rfl, H1.out.1, Vl.turns bD (by rw [HL.out]; exact H1.out.2) ?_⟩
  · rw [results_cell1 rfl]
    go_simp
  · exact (Turns.refl _ w1).set2 w.heap.size ⟨Nat.le_refl _, lt1⟩ _ _

end

end Go.Proofs.Ytfgfjfemaniaiaa.Px

/-
  Package paxos: compare, greet, at any state.
  Conditions: the monitor is one that New gave ('NdAt').
-/
namespace Go.Proofs.Ytfgfjfemaniaiaa.Px
open Go.RowKit Wi By Fl Ba
set_option linter.unusedVariables false
set_option linter.unusedSimpArgs false
set_option maxRecDepth 100000

theorem sent_say {n id num : Nat} (hid : id < n) (hnum : num ≤ 2147483647) : Sent n id ⟨4, num, noAc, 0, []⟩ :=
  ⟨hid, hnum, rfl, fun _ => ⟨rfl, rfl, rfl⟩, (fun e => by cases e), fun e => absurd rfl e⟩

theorem asked_sd {n : Nat} {said : ByteArray → Prop} {d : Dc} (h : Asked n said d) : Sd n d := ⟨h.mon, h.few, h.ok.val⟩

theorem sent_tell {n : Nat} {said : ByteArray → Prop} {G : Gh} {st : Nd} (h : NodeOk n said G st) (k : Nat) (hk : k < st.dec.length) (hl : st.dec.length ≤ 80000) : Sent n st.id (tellM st k) := by
  have hmem : ∀ d ∈ (st.dec.drop k).take 64, Asked n said d := fun d hd => by
    have h1 := List.mem_of_mem_take hd
    have h2 := List.mem_of_mem_drop h1
    obtain ⟨i, hi⟩ := List.mem_iff_getElem?.1 h2
    exact (h.dec i d hi).2
  have hlen : ((st.dec.drop k).take 64).length = min 64 (st.dec.length - k) := by rw [List.length_take, List.length_drop]
  refine ⟨h.sid, by show k + 1 ≤ _; omega, ?_, (fun e => by cases e), fun _ => ⟨rfl, by show st.dec.length ≤ _; omega, ?_, fun d hd => asked_sd (hmem d hd)⟩, fun _ e => absurd rfl e⟩
  · unfold mayM tellM
    dsimp only
    rw [if_neg (by decide), if_neg (by decide), if_neg (by decide), if_neg (by decide), if_pos rfl]
    have e1 : decide (1 ≤ k + 1) = true := by simp
    have e2 : decide (0 < ((st.dec.drop k).take 64).length) = true := by rw [hlen]; simp; omega
    have e3 : ((st.dec.drop k).take 64).all (fun d => decide (1 ≤ d.ser)) = true := by
      rw [List.all_eq_true]
      intro d hd
      have := (hmem d hd).ser
      simpa using this
    rw [e1, e2, e3]
    rfl
  · show told (k + 1) st.dec.length = (((st.dec.drop k).take 64).length : Int)
    rw [hlen]
    unfold told
    (try simp only [])
    (try split) <;> omega

theorem mls_one {w : World} {B : Nat} {n id : Nat} {P : Ms → Prop} (hB : B ≤ w.heap.size) (dst : Int) (x : Option Addr) (l c : Nat) (msg : Ms) (hd : 0 ≤ dst ∧ dst < n ∧ dst ≠ id) (hP : P msg) (hb : Bm w x l c (encM msg id)) :
    MlsK (w.alloc (.cells #[.int .i64 dst, .slice x l c] 70)) B (.slice (some ⟨w.heap.size, 0, none⟩) 1 1) n id 1 P :=
  ⟨[⟨dst, x, l, c⟩], own_ml w B hB ⟨dst, x, l, c⟩, Nat.le_refl _, fun m hm => by
    simp at hm
    subst hm
    exact ⟨hd.1, hd.2.1, hd.2.2, msg, hP, hb.below (al _ _)⟩⟩

section
variable {w : World} {B : Nat} {g : Ln} {st : Nd} {n : Nat} {said : ByteArray → Prop} {G : Gh}

/- Nothing of it is turned. -/
theorem Step.same {w' : World} {R : Value} {k : Nat} (h : NdAt w B g st) (b : Below w.heap.size w w') (q1 : GI n said G) (q2 : NodeOk n said G st) (q3 : NB n st) (hm : MlsK w' w.heap.size R n st.id k (fun m => Sent n st.id m ∧ MsgOk n said G st.id m)) : Step n said G w w' B g st st R k :=
  ⟨G, (Goes.same h b).mono (Nat.zero_le _), q1, GExt.refl _ _, q2, q3, hm⟩

theorem compare_any (h : NdAt w B g st) (k : NodeOk n said G st) (q : GI n said G) (nb : NB n st) (hn : n ≤ 7) (fr : Int) (hfr : 0 ≤ fr ∧ fr < n ∧ fr ≠ st.id) (kn : Nat) (hkn : kn ≤ 2147483647) :
    Calls Try.prog 32 #[.pointer (some ⟨g.p, 0, none⟩), .int .i64 fr, .int .i64 (kn : Int)] w fun e w' => ∃ R, e = .returned R ∧ Hid (Step n said G w w' B g st st R 1) := by
  have c2 := h.c2
  obtain ⟨x, c, e, _⟩ := h.rd
  rw [e] at c2
  have hi7 : st.id < 7 := by have := k.sid; omega
  have hS := say_any h hi7 fr
  have hdl := h.dl
  have HK := hid (And.intro h (And.intro k (And.intro q (And.intro nb (And.intro hfr hdl)))))
  by_cases h1 : kn < st.dec.length
  · have hT := tell_any h hi7 fr kn h1
    have i1 : (kn : Int) < (st.dec.length : Int) := by omega
    have eN : ((kn + 1 : Nat) : Int) = (kn : Int) + 1 := by omega
    rw [eN] at hT
    have ew : IntKind.i64.wrap ((kn : Int) + 1) = (kn : Int) + 1 := wrap_i64 (by omega) (by omega)
    have HT := hid (And.intro (sent_tell k kn h1 hdl) (k.tells (kn + 1) 64 st.dec.length (by omega)))
    clear hS h k q nb e hdl eN h1
    generalize st.dec.length = dl at c2 i1
    go_enter Try.func32, Try.ntmps32
    go_wp2_with (
       go_at_call 47; refine hT.mono ?_; rintro e w1 ⟨z, l, cz, rfl, H1⟩; clear hT)
    go_ret
    obtain ⟨p1, p2, p3, p4, p5, p6⟩ := HK.out
    refine ⟨_, rfl, Step.same p1 (on H1.out.2.1 (al _ _)) p3 p2 p4 (mls_one H1.out.2.1.size fr z l cz (tellM st kn) p5 ⟨HT.out.1, ?_⟩ (bm_of_vl H1.out.2 H1.out.1))⟩
    have := HT.out.2
    rw [Nat.add_sub_cancel] at this
    exact this
  · have i1 : ¬ (kn : Int) < (st.dec.length : Int) := by omega
    by_cases h2 : st.dec.length < kn
    · have i2 : (st.dec.length : Int) < (kn : Int) := by omega
      clear h k q nb e hdl h1 h2
      generalize hdd : st.dec.length = dl at c2 i1 i2
      rw [hdd] at hS
      go_enter Try.func32, Try.ntmps32
      go_wp2_with (
         go_at_call 34; refine hS.mono ?_; rintro e w1 ⟨z, l, cz, rfl, H1⟩; clear hS)
      go_ret
      obtain ⟨p1, p2, p3, p4, p5, p6⟩ := HK.out
      exact ⟨_, rfl, Step.same p1 (on H1.out.2.1 (al _ _)) p3 p2 p4 (mls_one H1.out.2.1.size fr z l cz ⟨4, dl, noAc, 0, []⟩ p5 ⟨sent_say p2.sid (by omega), MsgOk.say _ _⟩ (bm_of_vl H1.out.2 H1.out.1))⟩
    · have i2 : ¬ (st.dec.length : Int) < (kn : Int) := by omega
      clear h k q nb e hdl h1 h2 hS
      generalize st.dec.length = dl at c2 i1 i2
      go_enter Try.func32, Try.ntmps32
      go_wp2_with fail
      go_ret
      obtain ⟨p1, p2, p3, p4, p5, p6⟩ := HK.out
      exact ⟨_, rfl, Step.same p1 (Below.refl _ _) p3 p2 p4 ((MlsK.nil _ _ _ _ _).mono (by omega) (fun _ h => h))⟩

end

end Go.Proofs.Ytfgfjfemaniaiaa.Px

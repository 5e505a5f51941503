/-
  Behind any crashes a journal's records are those that were synced and a beginning of those that were put behind, each as it was put: 'mooringlaw08.JournalCrashes' returns true and leaves its arguments as they were.
  Conditions: none.
-/
import Derived.Test.YthfpljfndnjcnaaRows
import Derived.WalkKit
import Derived.ProofKit
import Derived.OpenShut
import Derived.SizedLaws
import Derived.ShutString
import Derived.ChangeOld
import Derived.Below
import Derived.Test.YthfpljfndnjcnaaByRows
import Derived.Test.YthfpljfndnjcnaaJoItem
import Derived.Test.YthfpljfndnjcnaaJoCr
namespace Go.Proofs.Ythfpljfndnjcnaa.journalCrashes
open Go.ChangeShapes Go.WideShapes Go.ChangeAt Go.RowKit By
open Dk Jo
set_option linter.unusedVariables false
set_option linter.unusedSimpArgs false

theorem own : ownKnob Try.prog.godebug = none := by kernel_rfl
theorem laidOut : laidOutB Try.prog = true := by kernel_rfl

theorem elem_rows : Try.prog.underlying 38 = some (.slice (Try.prog.elem 38)) := by kernel_rfl
theorem elem_rows_is : Try.prog.elem 38 = 31 := by kernel_rfl
theorem size_rows (w : World) : (sizeOf 31).run Try.prog w = .ok 1 w := by kernel_rfl

theorem cut_max (g k m c : Nat) (w : World) (h : k ≤ c) :
    (Instr.slice 38 (.slice (some ⟨g, 0, none⟩) m c) none (some (.int .i64 (k : Int))) (some (.int .i64 (k : Int)))).run Try.prog w = .ok (.slice (some ⟨g, 0, none⟩) k k) w := by
  rw [run_slice_hm w 38 _ _ _ elem_rows .i64 .i64 (k : Int) (k : Int) (by omega) (by omega) (by omega), elem_rows_is, size_rows]
  simp only [Result.andThen, sliced, Int.toNat_natCast, Nat.zero_mul, Nat.sub_zero]
  have : (if k = 0 then some (⟨g, 0, none⟩ : Addr) else (some (⟨g, 0, none⟩ : Addr)).map (·.add 0)) = some ⟨g, 0, none⟩ := by
    split
    · rfl
    · simp [Addr.add]
  rw [this]

set_option maxHeartbeats 4000000 in
set_option maxRecDepth 100000 in
theorem walk (z : Int) (a : Option Addr) (len cap : Nat) (V : Nat → ActV) (w : World) (hz : (Lit.int .i64 z).wf = true) (hl : ActsIn w a len cap V) :
    Calls Try.prog 4 #[.int .i64 z, .slice a len cap] w fun e w' => e = .returned (.bool true) ∧ Below w.heap.size w w' := by
  have hsm := hl.small
  have hbz := bounds_i64 hz
  have HL := hid hl
  obtain ⟨hz1, hz2⟩ := hbz
  clear hl hz
  by_cases hno : z < 1 ∨ 4096 < z
  · have hN := new_no z w hno
    clear hno
    go_enter Try.func4, Try.ntmps4
    go_wp2_with (first
      | (go_at_call 8; refine hN.mono ?_; rintro e w' ⟨rfl, hw⟩; subst w'; clear hN)
      | (go_at_call 9; refine (jawake _).mono ?_; rintro e w9 ⟨rfl, hb9⟩))
    go_ret
    exact ⟨rfl, hb9⟩
  · obtain ⟨n, rfl⟩ : ∃ n : Nat, z = (n : Int) := ⟨z.toNat, by omega⟩
    have hN := dnew n (n : Int) rfl w (by omega) (by omega)
    by_cases h3 : 300 < n
    · have h3' : (300 : Int) < (n : Int) := by omega
      clear hno
      go_enter Try.func4, Try.ntmps4
      go_wp2_with (first
        | (go_at_call 8; refine hN.mono ?_; rintro e w1 ⟨p, F, rfl, d1⟩; clear hN
           have HB1 := hid d1.bel
           clear d1)
        | (go_at_call 9; refine (jawake _).mono ?_; rintro e w9 ⟨rfl, hb9⟩))
      go_ret
      exact ⟨rfl, HB1.out.trans (hb9.mono HB1.out.size)⟩
    · have h3' : ¬ (300 : Int) < (n : Int) := by omega
      have hn3 : n ≤ 300 := by omega
      clear hno
      go_enter Try.func4, Try.ntmps4
      go_wp2_with (first
        | (go_at_call 8; refine hN.mono ?_; rintro e w1 ⟨p, F, rfl, d1⟩; clear hN
           have hO1 := (down_new d1 hn3 (fun _ => 0) (fun _ _ => 0)).open_ (by omega) d1.size
           clear d1)
        | (go_at_call 10; refine hO1.mono ?_; rintro e w2 ⟨jp, G, K, R, Aa, C, rfl, hb2, htop, hG0, hKF, ln', ft', hlf, _⟩; clear hO1
           obtain rfl : G = 0 := by omega
           have HC0 : Hid (Cr w (w2.alloc (.cells #[] 31)) p n jp w2.heap.size 0 0 0 0) := by
             have hbl := (Below.refl w2.heap.size w2).alloc (Nat.le_refl _) (.cells #[] 31)
             have hB : w.heap.size ≤ w2.heap.size := hlf.jd.dsk.size
             exact ⟨K, _, _, _, ln', ft', _, _, _, _, _, _, _, _, Aa, ln', C, ft', hlf.below hbl, by omega, AllG.new w2 w.heap.size hB _ _ _ _, (fun hk => by have := (hlf.foot _ hk).2; omega), fun i hi => by omega⟩
           clear hb2 htop hG0 hKF hlf))
      go_loopw [7, 8, 9, 10] (fun j all safe i wr => ∃ (k jp gx m c ms : Nat), k ≤ 100 ∧ k ≤ len ∧ m ≤ 300 ∧ ms ≤ 300 ∧ m ≤ c ∧ j = .pointer (some ⟨jp, 0, none⟩) ∧ all = .slice (some ⟨gx, 0, none⟩) m c ∧ safe = .int .i64 ms ∧ i = .int .i64 k ∧ Hid (Cr w wr p n jp gx m c ms k)) (fun _ _ _ i _ => 100 - (intOf i).toNat)
      case atStart => exact ⟨0, jp, w2.heap.size, 0, 0, 0, by omega, by omega, by omega, by omega, by omega, rfl, rfl, rfl, rfl, HC0.out⟩
      case round =>
        clear HC0
        obtain ⟨k, jp, gx, m, c, ms, hk1, hk2, hm3, hs3, hmc, rfl, rfl, rfl, rfl, HR⟩ := hrel
        by_cases hlt : k < len ∧ k < 100
        · obtain ⟨hlt1, hlt2⟩ := hlt
          have hk1' : (k : Int) < (len : Int) := by omega
          have hk2' : (k : Int) < 100 := by omega
          obtain ⟨K, Vv, g, st, ln, ft, F, mm, f, A, D, R, Aa, C, A', lnA, C', ftA, hlf, hg, hall, hKx, hagr⟩ := HR.out
          rcases HL.out.row with h0' | ⟨b, o, rfl, hbl, hcells⟩
          · omega
          obtain ⟨f0, f1, f2⟩ := hcells k hlt1
          have hbel := hlf.jd.dsk.bel
          have k0 := (hbel.cell (p := ⟨b, o + k * 3, none⟩) hbl).trans f0
          have k1 := (hbel.cell (p := ⟨b, o + k * 3 + 1, none⟩) hbl).trans f1
          have k2 := (hbel.cell (p := ⟨b, o + k * 3 + 2, none⟩) hbl).trans f2
          have hact := HL.out.act k hlt1
          have hbo : Below wr.heap.size wr (wr.alloc (.cells #[.int .i64 (V k).do_, .slice (V k).x (V k).n (V k).c, .slice (V k).u (V k).l (V k).k] 34)) := (Below.refl _ _).alloc (Nat.le_refl _) _
          have hlfo := hlf.below hbo
          have hallo := hall.below hbo
          have hKl : ∀ q, K q → w.heap.size ≤ q ∧ q < wr.heap.size := hlf.foot
          have hB : w.heap.size ≤ wr.heap.size := hlf.jd.dsk.size
          have hms : ms ≤ m := hlf.inv.le
          clear hcells f0 f1 f2 HR
          by_cases hd1 : (V k).do_ = 1
          · rw [hd1] at k0 hbo hlfo hallo
            have hS := hlfo.sync
            have HN : ∀ v, Turns K (wr.alloc (.cells #[.int .i64 1, .slice (V k).x (V k).n (V k).c, .slice (V k).u (V k).l (V k).k] 34)) v → Life w.heap.size w v K Vv p n jp g m st m ln ft F 0 (kept f A D (fun _ => true) mm) A D R Aa C → Hid (Cr w v p n jp gx m c m (k + 1)) := fun v tv lv => ⟨K, Vv, g, st, ln, ft, _, _, _, _, _, _, _, _, A', lnA, C', ftA, lv, by omega, hallo.turns tv hKx (fun q hq => (hKl q hq).1), hKx, hagr⟩
            clear hlf hall hlfo hallo hact hbel hagr hbo
            generalize (V k).x = X at *
            generalize (V k).n = Nn at *
            generalize (V k).c = Cc at *
            generalize (V k).u = U at *
            generalize (V k).l = Lc at *
            generalize (V k).k = Kc at *
            go_wp2_with (first
              | (go_at_call 11; refine hS.mono ?_; rintro e v ⟨rfl, tv, lv⟩; clear hS
                 have HV := HN v tv lv
                 clear HN tv lv))
            first
              | exact ⟨⟨k + 1, jp, gx, m, c, m, by omega, by omega, hm3, by omega, hmc, rfl, rfl, rfl, by go_num, HV.out⟩, show 100 - ((k : Int) + 1).toNat < 100 - ((k : Int)).toNat by omega⟩
              | (go_roundw
                 case rel => exact ⟨k + 1, jp, gx, m, c, m, by omega, by omega, hm3, by omega, hmc, rfl, rfl, rfl, by go_num, HV.out⟩
                 case measure => simp [intOf]; omega)
          · have hd1' : ((V k).do_ == 1) = false := by simpa using hd1
            by_cases hd2 : (V k).do_ = 2
            · rw [hd2] at k0 hbo hlfo hallo
              have hcut := hact.cut
              have hC := hlfo.crash (V k).u (V k).l (V k).k (V k).h ((hcut.row.belowB hbel).belowB hbo) (fun h0 q e hK => by have := hcut.row.low h0 q e; have := (hKl _ hK).1; omega) (by have := hcut.small; omega)
              have hFK : ∀ q, F q → K q := fun q hq => by rw [hlf.hK]; exact .inl hq
              have HOP : ∀ v m' f', ms ≤ m' → m' ≤ m → Turns K (wr.alloc (.cells #[.int .i64 2, .slice (V k).x (V k).n (V k).c, .slice (V k).u (V k).l (V k).k] 34)) v → Down w.heap.size w v F p n g m' st ln ft f' A D →
                  Calls Try.prog 10 #[.pointer (some ⟨p, 0, none⟩)] v fun e v2 => ∃ jq, e = .returned (.tuple #[.pointer (some ⟨jq, 0, none⟩), .int .i64 0]) ∧ Hid (∃ K2 g2 ln2 ft2 R2 Aa2 C2, Life w.heap.size w v2 K2 (vs f') p n jq g2 m' st m' ln2 ft2 F 0 f' A D R2 Aa2 C2 ∧ g2 ≤ k + 1 + 1 ∧ AllG v2 w.heap.size gx m c A' lnA C' ftA ∧ ¬ K2 gx ∧ Agr m' lnA ln2 ftA ft2) := fun v m' f' h1 h2 tv dv => by
                have hB2 : w.heap.size ≤ v.heap.size := dv.dsk.size
                refine (dv.open_ (by omega) hB2).mono fun e v2 ⟨jq, G, K2, R2, Aa2, C2, q1, q2, q3, q4, q5, ln2, ft2, q6, q7⟩ => ⟨jq, q1, K2, _, ln2, ft2, R2, Aa2, C2, q6, by omega, ?_⟩
                have ha := hallo.turns tv hKx (fun q hq => (hKl q hq).1)
                refine ⟨ha.below q2, fun hk2 => hKx (hFK _ (q5 gx ha.lt hk2)), fun i hi => ?_⟩
                obtain ⟨r1, r2⟩ := hagr i (by omega)
                obtain ⟨r3, r4⟩ := q7 i hi
                exact ⟨r1.trans r3.symm, fun j hj => (r2 j hj).trans (r4 j (by rw [← r1]; exact hj)).symm⟩
              have HOP' := hid HOP
              have hk9 : k ≤ 100 := hk1
              clear hlf hall hlfo hallo hact hbel hagr hbo HOP hcut
              generalize (V k).h = Hh at *
              generalize (V k).x = X at *
              generalize (V k).n = Nn at *
              generalize (V k).c = Cc at *
              generalize (V k).u = U at *
              generalize (V k).l = Lc at *
              generalize (V k).k = Kc at *
              go_wp2_with (first
                | (go_at_call 13; refine hC.mono ?_; rintro e v ⟨rfl, tv, m', f', hm1, hm2, dv⟩; clear hC
                   have hO := HOP'.out v m' f' hm1 hm2 tv dv
                   clear HOP' tv dv)
                | (go_at_call 10; refine hO.mono ?_; rintro e v2 ⟨jq, rfl, HL2⟩; clear hO
                   have hlen : Calls Try.prog 23 #[.pointer (some ⟨jq, 0, none⟩)] v2 fun e w' => e = .returned (.int .i64 (m' : Int)) ∧ w' = v2 := by
                     obtain ⟨K2, g2, ln2, ft2, R2, Aa2, C2, hl2, _⟩ := HL2.out
                     exact hl2.jd.jn.len)
                | (go_at_call 23; refine hlen.mono ?_; rintro e w' ⟨rfl, hw⟩; subst w'; clear hlen))
              have hb1 : decide ((m' : Int) < (ms : Int)) = false := by rw [decide_eq_false_iff_not]; omega
              have hb2 : decide ((m : Int) < (m' : Int)) = false := by rw [decide_eq_false_iff_not]; omega
              have hb3 : ¬ (m' : Int) < (ms : Int) := by omega
              have hb4 : ¬ (m : Int) < (m' : Int) := by omega
              have hmc' : m' ≤ c := by omega
              obtain ⟨K2, g2, ln2, ft2, R2, Aa2, C2, hl2, hg2, ha2, hK2, hag2⟩ := HL2.out
              have hbd : Below v2.heap.size v2 v2.drew := (Below.refl _ _).drew
              have hls := list_any (hl2.below hbd).jd.jn (by omega)
              have HL3 := hid (And.intro hl2 (And.intro hg2 (And.intro ha2 (And.intro hK2 hag2))))
              clear hl2 hg2 ha2 hK2 hag2 HL2 hbd
              refine wp_region_held_drew (S := fun _ => True) (by kernel_rfl) trivial (fun hHeld => ?_)
              refine wpAnyH_take (i := 0) (v := ?_) rfl (by kernel_rfl) (by kernel_rfl) (by kernel_rfl) (fun _ _ _ h => h) (Or.inl ⟨by rfl, ?_⟩) (by assumption) ?_
              case refine_2 => (intro w hSw; (try dsimp only at hSw); go_simp; (try with_reducible rfl))
              (try simp only [Act.put, List.getElem_toArray, List.getElem_cons_succ, List.getElem_cons_zero, List.setIfInBounds_toArray, List.set_cons_zero, List.set_cons_succ])
              refine wpAnyH_take (i := 1) (v := ?_) rfl (by kernel_rfl) (by kernel_rfl) (by kernel_rfl) (fun _ _ _ h => h) (Or.inl ⟨by rfl, ?_⟩) (by assumption) ?_
              case refine_2 => (intro w hSw; (try dsimp only at hSw); go_simp; (try with_reducible rfl))
              (try simp only [Act.put, List.getElem_toArray, List.getElem_cons_succ, List.getElem_cons_zero, List.setIfInBounds_toArray, List.set_cons_zero, List.set_cons_succ])
              refine wpAnyH_take (i := 2) (v := ?_) rfl (by kernel_rfl) (by kernel_rfl) (by kernel_rfl) (fun _ _ _ h => h) (Or.inl ⟨by rfl, ?_⟩) (by assumption) ?_
              case refine_2 => (intro w hSw; (try dsimp only at hSw); go_simp; (try with_reducible rfl))
              (try simp only [Act.put, List.getElem_toArray, List.getElem_cons_succ, List.getElem_cons_zero, List.setIfInBounds_toArray, List.set_cons_zero, List.set_cons_succ])
              refine wpAnyH_take (i := 3) (v := ?_) rfl (by kernel_rfl) (by kernel_rfl) (by kernel_rfl) (fun _ _ _ h => h) (Or.inl ⟨by rfl, ?_⟩) (by assumption) ?_
              case refine_2 => (intro w hSw; (try dsimp only at hSw); go_simp; (try with_reducible rfl))
              (try simp only [Act.put, List.getElem_toArray, List.getElem_cons_succ, List.getElem_cons_zero, List.setIfInBounds_toArray, List.set_cons_zero, List.set_cons_succ])
              refine wpAnyH_take (i := 4) (v := ?_) rfl (by kernel_rfl) (by kernel_rfl) (by kernel_rfl) (fun _ _ _ h => h) (Or.inl ⟨by rfl, ?_⟩) (by assumption) ?_
              case refine_2 => (intro w hSw; (try dsimp only at hSw); go_simp; (try with_reducible rfl))
              (try simp only [Act.put, List.getElem_toArray, List.getElem_cons_succ, List.getElem_cons_zero, List.setIfInBounds_toArray, List.set_cons_zero, List.set_cons_succ])
              refine wpAnyH_take (i := 5) (v := ?_) rfl (by kernel_rfl) (by kernel_rfl) (by kernel_rfl) (fun _ _ _ h => h) (Or.inl ⟨by rfl, ?_⟩) (by assumption) ?_
              case refine_2 => (intro w hSw; (try dsimp only at hSw); go_simp; (try with_reducible rfl))
              (try simp only [Act.put, List.getElem_toArray, List.getElem_cons_succ, List.getElem_cons_zero, List.setIfInBounds_toArray, List.set_cons_zero, List.set_cons_succ])
              refine wpAnyH_take (i := 6) (v := ?_) rfl (by kernel_rfl) (by kernel_rfl) (by kernel_rfl) (fun _ _ _ h => h) (Or.inl ⟨by rfl, ?_⟩) (by assumption) ?_
              case refine_2 => (intro w hSw; (try dsimp only at hSw); go_simp; (try with_reducible rfl))
              (try simp only [Act.put, List.getElem_toArray, List.getElem_cons_succ, List.getElem_cons_zero, List.setIfInBounds_toArray, List.set_cons_zero, List.set_cons_succ])
              refine wpAnyH_take (i := 7) (v := ?_) rfl (by kernel_rfl) (by kernel_rfl) (by kernel_rfl) (fun _ _ _ h => h) (Or.inl ⟨by rfl, ?_⟩) (by assumption) ?_
              case refine_2 => (intro w hSw; (try dsimp only at hSw); go_simp; (try with_reducible rfl))
              (try simp only [Act.put, List.getElem_toArray, List.getElem_cons_succ, List.getElem_cons_zero, List.setIfInBounds_toArray, List.set_cons_zero, List.set_cons_succ])
              refine wpAnyH_take (i := 8) (v := ?_) rfl (by kernel_rfl) (by kernel_rfl) (by kernel_rfl) (fun _ _ _ h => h) (Or.inl ⟨by rfl, ?_⟩) (by assumption) ?_
              case refine_2 => (intro w hSw; (try dsimp only at hSw); go_simp; (try with_reducible rfl))
              (try simp only [Act.put, List.getElem_toArray, List.getElem_cons_succ, List.getElem_cons_zero, List.setIfInBounds_toArray, List.set_cons_zero, List.set_cons_succ])
              refine wpAnyH_take (i := 9) (v := ?_) rfl (by kernel_rfl) (by kernel_rfl) (by kernel_rfl) (fun _ _ _ h => h) (Or.inl ⟨by rfl, ?_⟩) (by assumption) ?_
              case refine_2 => (intro w hSw; (try dsimp only at hSw); go_simp; (try with_reducible rfl))
              (try simp only [Act.put, List.getElem_toArray, List.getElem_cons_succ, List.getElem_cons_zero, List.setIfInBounds_toArray, List.set_cons_zero, List.set_cons_succ])
              refine wpAnyH_take (i := 10) (v := ?_) rfl (by kernel_rfl) (by kernel_rfl) (by kernel_rfl) (fun _ _ _ h => h) (Or.inl ⟨by rfl, ?_⟩) (by assumption) ?_
              case refine_2 => (intro w hSw; (try dsimp only at hSw); go_simp; (try with_reducible rfl))
              (try simp only [Act.put, List.getElem_toArray, List.getElem_cons_succ, List.getElem_cons_zero, List.setIfInBounds_toArray, List.set_cons_zero, List.set_cons_succ])
              refine wpAnyH_take (i := 12) (v := ?_) rfl (by kernel_rfl) (by kernel_rfl) (by kernel_rfl) (fun _ _ _ h => h) (Or.inl ⟨by rfl, ?_⟩) (by assumption) ?_
              case refine_2 => (intro w hSw; (try dsimp only at hSw); go_simp; (try with_reducible rfl))
              (try simp only [Act.put, List.getElem_toArray, List.getElem_cons_succ, List.getElem_cons_zero, List.setIfInBounds_toArray, List.set_cons_zero, List.set_cons_succ])
              refine wpAnyH_take (i := 13) (v := ?_) rfl (by kernel_rfl) (by kernel_rfl) (by kernel_rfl) (fun _ _ _ h => h) (Or.inl ⟨by rfl, ?_⟩) (by assumption) ?_
              case refine_2 => (intro w hSw; (try dsimp only at hSw); go_simp; (try with_reducible rfl))
              (try simp only [Act.put, List.getElem_toArray, List.getElem_cons_succ, List.getElem_cons_zero, List.setIfInBounds_toArray, List.set_cons_zero, List.set_cons_succ])
              refine wpAnyH_take (i := 14) (v := ?_) rfl (by kernel_rfl) (by kernel_rfl) (by kernel_rfl) (fun _ _ _ h => h) (Or.inl ⟨by rfl, ?_⟩) (by assumption) ?_
              case refine_2 => (intro w hSw; (try dsimp only at hSw); go_simp; (try with_reducible rfl))
              (try simp only [Act.put, List.getElem_toArray, List.getElem_cons_succ, List.getElem_cons_zero, List.setIfInBounds_toArray, List.set_cons_zero, List.set_cons_succ])
              refine wpAnyH_ready (rs := [11]) (by kernel_rfl) (by simp) ?_
              refine AllReadyH.cons rfl (fun K hK => ?_) AllReadyH.nil
              go_simp
              refine hls.mono ?_
              rintro e v3 ⟨x3, c3, A3, C3, rfl, hb3v, ho3⟩
              have hb3w : Below v2.heap.size v2 v3 := ⟨hb3v.os, hb3v.tape, hb3v.output, hb3v.size, hb3v.block⟩
              have hli := lists_yes x3 (some ⟨gx, 0, none⟩) m' c3 c A3 A' ln2 lnA C3 C' ft2 ftA v3 ho3.isG (by
                have h := (HL3.out.2.2.1.below hb3w).isG
                exact ⟨.inr ⟨gx, rfl, fun i hi => by
                  rcases h.tops with e | ⟨g', e1, e2⟩
                  · omega
                  · injection e1 with e1
                    injection e1 with e1 _ _
                    subst e1
                    exact e2 i (by omega)⟩, fun i hi => h.row i (by omega)⟩) (fun i hi => by
                obtain ⟨r1, r2⟩ := HL3.out.2.2.2.2 i hi
                exact ⟨r1.symm, fun j hj => (r2 j (by rw [r1]; exact hj)).symm⟩) (by omega)
              have HB3 := hid hb3w
              clear hb3v ho3 hb3w hls
              refine hK.out _ _ trivial (fun hHeld => ?_)
              clear hK K
              refine wpAnyH_ready (rs := [15]) (by kernel_rfl) (by simp) ?_
              refine AllReadyH.cons rfl (fun K hK => ?_) AllReadyH.nil
              go_simp
              refine hli.mono ?_
              rintro e v4 ⟨rfl, q4, hq4⟩
              have HQ4 := hid hq4
              clear hq4 hli
              refine hK.out _ _ trivial (fun hHeld => ?_)
              clear hK K
              refine wpAnyH_take (i := 16) (v := ?_) rfl (by kernel_rfl) (by kernel_rfl) (by kernel_rfl) (fun _ _ _ h => h) (Or.inl ⟨by rfl, ?_⟩) (by assumption) ?_
              case refine_2 => (intro w hSw; (try dsimp only at hSw); go_simp; (try with_reducible rfl))
              (try simp only [Act.put, List.getElem_toArray, List.getElem_cons_succ, List.getElem_cons_zero, List.setIfInBounds_toArray, List.set_cons_zero, List.set_cons_succ])
              refine wpAnyH_take (i := 17) (v := ?_) rfl (by kernel_rfl) (by kernel_rfl) (by kernel_rfl) (fun _ _ _ h => h) (Or.inl ⟨by rfl, ?_⟩) (by assumption) ?_
              case refine_2 => (intro w hSw; (try dsimp only at hSw); go_simp; (try with_reducible rfl))
              (try simp only [Act.put, List.getElem_toArray, List.getElem_cons_succ, List.getElem_cons_zero, List.setIfInBounds_toArray, List.set_cons_zero, List.set_cons_succ])
              refine wpAnyH_done (by kernel_rfl) ?_ _
              have hcm := cut_max gx m' m c v4 hmc'
              have HV : Hid (Cr w v4 p n jq gx m' m' m' (k + 1)) := by
                obtain ⟨z1, z2, z3, z4, z5⟩ := HL3.out
                have hb4 : Below v2.heap.size v2 v4 := by rw [HQ4.out]; exact below_drewN' HB3.out q4
                exact ⟨K2, _, g2, st, ln2, ft2, _, _, _, _, _, _, _, _, A', lnA, C', ftA, z1.below hb4, z2, (z3.below hb4).cut hm2, z4, z5⟩
              clear HL3 HB3
              go_wp2_with fail
              first
                | exact ⟨⟨k + 1, jq, gx, m', m', m', by omega, by omega, by omega, by omega, by omega, rfl, rfl, rfl, by go_num, HV.out⟩, show 100 - ((k : Int) + 1).toNat < 100 - ((k : Int)).toNat by omega⟩
                | (go_roundw
                   case rel => exact ⟨k + 1, jq, gx, m', m', m', by omega, by omega, by omega, by omega, by omega, rfl, rfl, rfl, by go_num, HV.out⟩
                   case measure => simp [intOf]; omega)
            · have hd2' : ((V k).do_ == 2) = false := by simpa using hd2
              by_cases hlong : 13005 < (V k).n
              · have hP := hlfo.put_long (V k).x (V k).n (V k).c hlong
                have HV : Hid (Cr w (wr.alloc (.cells #[.int .i64 (V k).do_, .slice (V k).x (V k).n (V k).c, .slice (V k).u (V k).l (V k).k] 34)) p n jp gx m c ms (k + 1)) := ⟨K, Vv, g, st, ln, ft, _, _, _, _, _, _, _, _, A', lnA, C', ftA, hlfo, by omega, hallo, hKx, hagr⟩
                clear hlf hall hlfo hallo hact hbel hagr hbo hd1 hd2
                generalize (V k).do_ = Do at *
                generalize (V k).x = X at *
                generalize (V k).n = Nn at *
                generalize (V k).c = Cc at *
                generalize (V k).u = U at *
                generalize (V k).l = Lc at *
                generalize (V k).k = Kc at *
                go_wp2_with (first
                  | (go_at_call 22; refine hP.mono ?_; rintro e v ⟨rfl, hv⟩; subst v; clear hP))
                first
                  | exact ⟨⟨k + 1, jp, gx, m, c, ms, by omega, by omega, hm3, hs3, hmc, rfl, rfl, rfl, by go_num, HV.out⟩, show 100 - ((k : Int) + 1).toNat < 100 - ((k : Int)).toNat by omega⟩
                  | (go_roundw
                     case rel => exact ⟨k + 1, jp, gx, m, c, ms, by omega, by omega, hm3, hs3, hmc, rfl, rfl, rfl, by go_num, HV.out⟩
                     case measure => simp [intOf]; omega)
              · by_cases hful : st m + pcs (V k).n ≤ n
                · have hby := hact.bytes
                  have hP := hlfo.put_ok (V k).x (V k).n (V k).c (V k).f ((bytes_elt hby hbel).turns (Turns.of_below (F := fun _ => False) hbo) (fun _ _ _ h => h)) (fun h0 ad e hK => by have := bytes_low hby h0 ad e; have := (hKl _ hK).1; omega) (by omega) hful (by omega)
                  have HDN : Hid (∀ v, Turns K (wr.alloc (.cells #[.int .i64 (V k).do_, .slice (V k).x (V k).n (V k).c, .slice (V k).u (V k).l (V k).k] 34)) v → (∃ K' V' F' A2 D' R' Aa' C2, Life w.heap.size w v K' V' p n jp g (m + 1) (stx st m (pcs (V k).n)) ms (ext ln m (V k).n) (ext ft m (V k).f) F' (mm + pcs (V k).n) f A2 D' R' Aa' C2 ∧ (∀ q, q < (wr.alloc (.cells #[.int .i64 (V k).do_, .slice (V k).x (V k).n (V k).c, .slice (V k).u (V k).l (V k).k] 34)).heap.size → K' q → K q)) →
                      v.cell? ⟨wr.heap.size, 1, none⟩ = some (.slice (V k).x (V k).n (V k).c) ∧ ∃ g' c' v2, (Builtin.append_ #[38, 38] 38 #[.slice (some ⟨gx, 0, none⟩) m c, .slice (some ⟨v.heap.size, 0, none⟩) 1 1]).run Try.prog (v.alloc (.cells #[.slice (V k).x (V k).n (V k).c] 31)) = .ok (.slice (some ⟨g', 0, none⟩) (m + 1) c') v2 ∧ m + 1 ≤ 300 ∧ m + 1 ≤ c' ∧ Cr w v2 p n jp g' (m + 1) c' ms (k + 1)) := fun v tv ⟨K', V', F', A2, D', R', Aa', C2, lv, hkk⟩ => by
                    have hsz : (wr.alloc (.cells #[.int .i64 (V k).do_, .slice (V k).x (V k).n (V k).c, .slice (V k).u (V k).l (V k).k] 34)).heap.size = wr.heap.size + 1 := by simp
                    have hnK : ¬ K wr.heap.size := fun e => by have := (hKl _ e).2; omega
                    have hcell : (wr.alloc (.cells #[.int .i64 (V k).do_, .slice (V k).x (V k).n (V k).c, .slice (V k).u (V k).l (V k).k] 34)).cell? ⟨wr.heap.size, 1, none⟩ = some (.slice (V k).x (V k).n (V k).c) := by simp
                    refine ⟨(World.cell?_of_block (a := ⟨wr.heap.size, 1, none⟩) (tv.block wr.heap.size (by rw [hsz]; omega) hnK)).trans hcell, ?_⟩
                    have hBv := lv.jd.dsk.size
                    have ha := hallo.turns tv hKx (fun q hq => (hKl q hq).1)
                    obtain ⟨g', c', v2, p1, p2, p3, p4⟩ := ha.push hBv (bytes_elt hby lv.jd.dsk.bel) (fun h0 => bytes_low hby h0) (by omega)
                    have hgx : gx < wr.heap.size := hall.lt
                    have hK'x : ¬ K' gx := fun e => hKx (hkk gx (by rw [hsz]; omega) e)
                    refine ⟨g', c', v2, p1, lv.count, p2.le, K', V', g, _, _, _, _, _, _, _, _, _, _, _, _, _, _, _, lv.turns p3 (fun q hq => by rw [hq]; exact hall.ge) (fun q hq e => hK'x (by rw [← e]; exact hq)), by omega, p2, ?_, fun i hi => ?_⟩
                    · rcases p4 with e | e
                      · rw [e]; exact hK'x
                      · exact fun h => by have := (lv.foot _ h).2; omega
                    · by_cases ei : i < m
                      · rw [ext_old _ _ _ ei, ext_old _ _ _ ei, ext_old _ _ _ ei, ext_old _ _ _ ei]
                        exact hagr i ei
                      · obtain rfl : i = m := by omega
                        rw [ext_new, ext_new, ext_new, ext_new]
                        exact ⟨rfl, fun j _ => rfl⟩
                  obtain ⟨m1, hm1⟩ : ∃ m1, m1 = m + 1 := ⟨_, rfl⟩
                  rw [← hm1] at HDN hP
                  clear hm1
                  clear hlf hall hlfo hallo hact hbel hagr hbo hd1 hd2 hby
                  generalize (V k).do_ = Do at *
                  generalize (V k).f = Ff at *
                  generalize (V k).x = X at *
                  generalize (V k).n = Nn at *
                  generalize (V k).c = Cc at *
                  generalize (V k).u = U at *
                  generalize (V k).l = Lc at *
                  generalize (V k).k = Kc at *
                  go_wp2_with (first
                    | (go_at_call 22; refine hP.mono ?_; rintro e v ⟨rfl, K', V', F', A2, D', R', Aa', C2, lv, tv, hkk, _, _⟩; clear hP
                       obtain ⟨kc, g', c', v2, hap, hm13, hmc1, hcr⟩ := HDN.out v tv ⟨K', V', F', A2, D', R', Aa', C2, lv, hkk⟩
                       have HV := hid hcr
                       clear HDN tv lv hkk hcr)
                    | (at_builtin; refine wpList_append_run rfl _ _ 38 rfl _ _ rfl rfl hap ?_; clear hap))
                  first
                    | exact ⟨⟨k + 1, jp, g', m1, c', ms, by omega, by omega, hm13, hs3, hmc1, rfl, rfl, rfl, by go_num, HV.out⟩, show 100 - ((k : Int) + 1).toNat < 100 - ((k : Int)).toNat by omega⟩
                    | (go_roundw
                       case rel => exact ⟨k + 1, jp, g', m1, c', ms, by omega, by omega, hm13, hs3, hmc1, rfl, rfl, rfl, by go_num, HV.out⟩
                       case measure => simp [intOf]; omega)
                · have hP := hlfo.put_full (V k).x (V k).n (V k).c (by omega) hful
                  have HDN : Hid (∀ q, Cr w ((wr.alloc (.cells #[.int .i64 (V k).do_, .slice (V k).x (V k).n (V k).c, .slice (V k).u (V k).l (V k).k] 34)).drewN q) p n jp gx m c ms (k + 1)) := fun q => by
                    have hbq : Below (wr.alloc (.cells #[.int .i64 (V k).do_, .slice (V k).x (V k).n (V k).c, .slice (V k).u (V k).l (V k).k] 34)).heap.size (wr.alloc (.cells #[.int .i64 (V k).do_, .slice (V k).x (V k).n (V k).c, .slice (V k).u (V k).l (V k).k] 34)) ((wr.alloc (.cells #[.int .i64 (V k).do_, .slice (V k).x (V k).n (V k).c, .slice (V k).u (V k).l (V k).k] 34)).drewN q) := ⟨rfl, rfl, rfl, Nat.le_refl _, fun _ _ => rfl⟩
                    exact ⟨K, Vv, g, st, ln, ft, _, _, _, _, _, _, _, _, A', lnA, C', ftA, hlfo.below hbq, by omega, hallo.below hbq, hKx, hagr⟩
                  clear hlf hall hlfo hallo hact hbel hagr hbo hd1 hd2
                  generalize (V k).do_ = Do at *
                  generalize (V k).x = X at *
                  generalize (V k).n = Nn at *
                  generalize (V k).c = Cc at *
                  generalize (V k).u = U at *
                  generalize (V k).l = Lc at *
                  generalize (V k).k = Kc at *
                  go_wp2_with (first
                    | (go_at_call 22; refine hP.mono ?_; rintro e v ⟨rfl, q, hv⟩; clear hP
                       have HV : Hid (Cr w v p n jp gx m c ms (k + 1)) := by rw [hv]; exact HDN.out q
                       clear HDN hv))
                  first
                    | exact ⟨⟨k + 1, jp, gx, m, c, ms, by omega, by omega, hm3, hs3, hmc, rfl, rfl, rfl, by go_num, HV.out⟩, show 100 - ((k : Int) + 1).toNat < 100 - ((k : Int)).toNat by omega⟩
                    | (go_roundw
                       case rel => exact ⟨k + 1, jp, gx, m, c, ms, by omega, by omega, hm3, hs3, hmc, rfl, rfl, rfl, by go_num, HV.out⟩
                       case measure => simp [intOf]; omega)
        · obtain ⟨K, Vv, g, st, ln, ft, F, mm, f, A, D, R, Aa, C, A', lnA, C', ftA, hlf, hg, hall, hKx, hagr⟩ := HR.out
          have hls := list_any hlf.jd.jn (by omega)
          have HST := hid (And.intro hlf (And.intro hall hagr))
          have hex : (len : Int) ≤ (k : Int) ∨ ((k : Int) < (len : Int) ∧ (100 : Int) ≤ (k : Int)) := by omega
          clear hlf hall hagr HR hlt HL
          rcases hex with hex | ⟨hex, hex2⟩
          all_goals
            go_wp2_with (first
              | (go_at_call 19; refine hls.mono ?_; rintro e v3 ⟨x3, c3, A3, C3, rfl, hb3, ho3⟩; clear hls
                 have hli := lists_yes x3 (some ⟨gx, 0, none⟩) m c3 c A3 A' ln lnA C3 C' ft ftA v3 ho3.isG (HST.out.2.1.below hb3).isG (fun i hi => by
                   obtain ⟨r1, r2⟩ := HST.out.2.2 i hi
                   exact ⟨r1.symm, fun j hj => (r2 j (by rw [r1]; exact hj)).symm⟩) (by omega)
                 have HB3 := hid (HST.out.1.jd.dsk.bel.trans (hb3.mono HST.out.1.jd.dsk.size))
                 clear hb3 ho3)
              | (go_at_call 18; refine hli.mono ?_; rintro e v4 ⟨rfl, q4, hq4⟩; clear hli
                 have HB4 : Hid (Below w.heap.size w v4) := by rw [hq4]; exact below_drewN' HB3.out q4
                 clear hq4)
              | (go_at_call 9; refine (jawake _).mono ?_; rintro e w9 ⟨rfl, hb9⟩))
            go_ret
            exact ⟨rfl, HB4.out.trans (hb9.mono HB4.out.size)⟩

set_option maxRecDepth 100000 in
theorem lifted (os : Os) (started : os.Started) (H : Type) (enc : TypeId × Value → H) :
    ReturnsInHanded {} Try.checked os 4 .any (Rows.journalCrashesSpec.pre6 enc Try.prog Try.f4 Rows.journalCrashesRow.domain false) (Rows.journalCrashesSpec.post enc Try.prog Try.f4 false true false false) := by
  refine returnsInHanded_of_change_sized (C := Try.checked) own started (by kernel_rfl) Try.func4
    (ChangeSpec.witness6 (enc := enc) (C := Try.checked) false ⟨#[], #[.int .i64 0, .slice none 0 0], []⟩ 8 (by kernel_rfl) (by kernel_rfl) (by kernel_rfl) (by kernel_rfl)) ?_
  intro W base args ds gs before hval0 hW hcnd hsz0 _
  have hsz : (DataW.weightsEach Try.prog (Try.f4.params.toList ++ Rows.journalCrashesSpec.plain.varTypes Try.prog) (ds ++ gs)).all (· ≤ reachBytes) = true := hsz0
  have hval : ∀ (j : Nat) t v, Try.f4.params[j]? = some t → args[j]? = some v → Value.okWide Try.prog W .any base t v := hval0
  have hW' := hW
  obtain ⟨p, q, hA0, hV, rfl, hfz, hnd⟩ := hW
  have hA : DataW.TrodAll enc Try.prog W 0 (fun _ => true) true Try.f4.params.toList args.toList ds p := hA0
  rw [Try.params4] at hA hval hsz
  obtain ⟨v0, vs0, d0, ds0, p0, q0, hargs, rfl, rfl, h0, r0⟩ := trodAll_cons hA
  obtain ⟨v1, vs1, d1, ds1, p1, q1, rfl, rfl, rfl, h1, r1⟩ := trodAll_cons r0
  obtain ⟨rfl, rfl, rfl⟩ := trodAll_nil r1
  obtain rfl : args = #[v0, v1] := by cases args; simp_all
  obtain ⟨rfl, rfl⟩ := trodVars_none hV
  obtain ⟨a0, rfl, rfl, rfl, w0⟩ := open_int Try.underlying3 (hval 0 3 v0 rfl rfl) h0
  have k1 := h1
  have lt1 : ∀ x ∈ p1, x.block < W.heap.size := by obtain ⟨m, hm⟩ := k1; exact DataW.trod_lt m _ _ _ hm
  have s1 : ∀ x ∈ d1.weights Try.prog 22, x ≤ reachBytes := fun x hx => by
    have := List.all_eq_true.1 hsz x (DataW.weights_mem_each (j := 1) rfl rfl x hx)
    simpa using this
  obtain ⟨b1, nn1, cc1, rfl⟩ := okWide_slice Try.underlying22 (hval 1 22 v1 rfl rfl)
  obtain ⟨fu1, hf1⟩ := h1
  obtain ⟨a1, len1, cap1, V1, e1, w1⟩ := acts_in hf1 s1
  simp [Value.cells] at e1
  obtain ⟨rfl, rfl, rfl⟩ := e1
  clear hA0 hval0
  refine (walk a0 b1 nn1 cc1 V1 W w0 w1).mono fun e W' ⟨he, bel⟩ => ?_
  subst he
  exact ⟨_, rfl, _, _, _, [], _, [], hW', trodAll_mk1 (shut_bool Try.underlying4 _), (trodAll_cons_mk (shut_int Try.underlying3 w0) (trodAll_cons_mk (Below.trod laidOut (by kernel_rfl) (of_decide_eq_true (by kernel_rfl)) k1 bel lt1) trodAll_mk0)), rfl, bel.frame _, fun h => by cases h⟩

theorem over : Rows.journalCrashesRow.holds Try.pinned (OpenSpec.ofChange Rows.journalCrashesSpec) :=
  OpenClaim.holds_of_wide 4 Try.f4 rfl rfl rfl rfl rfl rfl rfl ⟨rfl, rfl, rfl, rfl, rfl⟩ rfl rfl rfl rfl rfl (by kernel_rfl) Try.func4 (by kernel_rfl)
    (of_decide_eq_true (by kernel_rfl)) (by unfold Func.isWrapper; first | (rw [if_pos (by decide +kernel)]; kernel_rfl) | (rw [if_neg (by decide +kernel)]; exact ⟨rfl, rfl⟩))
    (fun os started H enc _ => lifted os started H enc)

theorem proved : Rows.JournalCrashesSaid := over
#print axioms proved
end Go.Proofs.Ythfpljfndnjcnaa.journalCrashes

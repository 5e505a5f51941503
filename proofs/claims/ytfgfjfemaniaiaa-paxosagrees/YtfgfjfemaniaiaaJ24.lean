/-
  2 texts of this proof, one behind the other: PxTake2, PxRecv3.
-/
import Derived.Test.YtfgfjfemaniaiaaJ01
import Derived.Test.YtfgfjfemaniaiaaJ23
import Derived.Test.YtfgfjfemaniaiaaJ15
/-
  Package paxos: take, at any state: what is known of all monitors stays true.
  Conditions: the monitor is one that New gave ('NdAt').
-/
namespace Go.Proofs.Ytfgfjfemaniaiaa.Px
open Go.RowKit Wi By Fl Ba
set_option linter.unusedVariables false
set_option linter.unusedSimpArgs false
set_option maxRecDepth 100000

theorem Rs.learned {n D : Nat} {st : Nd} (h : Rs n D st) (d : Dc) : Rs n (D + 1) (learned st d) := by
  have hl : (Px.learned st d).dec.length = st.dec.length + 1 := by show (st.dec ++ [d]).length = _; rw [List.length_append]; rfl
  have hw : (Px.learned st d).wait.length ≤ st.wait.length := left_len d st.wait
  have h1 := h.wl
  have h2 := h.dl
  refine ⟨by omega, by omega, h.tn, fun e => ⟨by have := (h.one e).1; omega, fun s hs => ?_⟩⟩
  show (upA st.acc (st.dec.length + 1) noAc s).a = z0
  rw [upA_other _ _ (by omega)]
  exact (h.one e).2 s (by omega)

def Tk (n D : Nat) (said : ByteArray → Prop) (G : Gh) (W0 wr : World) (B : Nat) (g : Ln) (st : Nd) (k : Nat) : Prop :=
  ∃ st', Goes W0 wr B g st' 0 ∧ (NodeOk n said G st' ∧ NB n st' ∧ Rs n (D + k) st' ∧ Kp st st')

theorem DcsAt.turns {w w' : World} {x : Option Addr} {L : List Dc} {G : Nat → Prop} (h : DcsAt w x L) (t : Turns G w w') (hx : ∀ a, x = some a → ¬ G a.block) : DcsAt w' x L := by
  rcases h with h0 | ⟨b, o, rfl, hb, hc⟩
  · exact .inl h0
  · exact .inr ⟨b, o, rfl, Nat.lt_of_lt_of_le hb t.size, fun i d hi => ⟨keept t (hx _ rfl) (hc i d hi).1, keept t (hx _ rfl) (hc i d hi).2.1, keept t (hx _ rfl) (hc i d hi).2.2⟩⟩

section
variable {w : World} {B : Nat} {g : Ln} {st : Nd} {n D : Nat} {said : ByteArray → Prop} {G : Gh}

set_option maxHeartbeats 9600000 in
theorem take_gen (h : NdAt w B g st) (o : NodeOk n said G st) (q : GI n said G) (nb : NB n st) (h1 : 1 ≤ n) (hn7 : n ≤ 7) (hgn : gnb g < 100000000000) (r : Rs n D st) (hD : D < 59900) (fr : Nat) (hfn : fr < n) (hfi : fr ≠ st.id) (k0 v2 v3 v4 v5 v6 : Value) (num kn dl cy : Nat) (y : Option Addr) (L : List Dc) (hL : L.length = dl) (hdc : DcsAt w y L) (hdn : ∀ a, y = some a → ¬ fp g a.block) (hok : ∀ d ∈ L, DOk d) (hch : ∀ i d, L[i]? = some d → Ch n G (num + i) (dbytes d) ∧ Asked n said d) (hn : num ≤ 2147483647) (hkn : kn ≤ 2147483647) (hd64 : dl ≤ 64) :
    Calls Try.prog 33 #[.pointer (some ⟨g.p, 0, none⟩), .int .i64 (fr : Int), .agg #[k0, .int .i64 num, v2, v3, v4, v5, v6, .int .i64 kn, .slice y dl cy]] w fun e w' => ∃ R, e = .returned R ∧ Hid (Did n said G w w' B g st R 10267 (D + 65)) := by
  have hpl := h.obj.lt
  have c2 := h.c2
  obtain ⟨x2, cc2, e2, _⟩ := h.rd
  rw [e2] at c2
  have b0 := al w (.cells #[k0, .int .i64 num, v2, v3, v4, v5, v6, .int .i64 kn, .slice y dl cy] 76)
  have HH : Hid ((st.id < 7 ∧ GI n said G ∧ gnb g < 100000000000 ∧ (fr : Int) ≠ (st.id : Int) ∧ ∀ i d, L[i]? = some d → Ch n G (num + i) (dbytes d) ∧ Asked n said d) ∧ st.dec.length ≤ 59900 ∧ L.length = dl ∧ DcsAt (w.alloc (.cells #[k0, .int .i64 num, v2, v3, v4, v5, v6, .int .i64 kn, .slice y dl cy] 76)) y L ∧ (∀ a, y = some a → ¬ fp g a.block) ∧ (∀ d ∈ L, DOk d) ∧ (∀ k, fp g k → k < w.heap.size)) := ⟨⟨by have := o.sid; omega, q, hgn, by omega, hch⟩, by have := r.dl; omega, hL, hdc.below b0, hdn, hok, fun k hk => (h.u8 k hk).1⟩
  have H0 : Hid (Tk n D said G (w.alloc (.cells #[k0, .int .i64 num, v2, v3, v4, v5, v6, .int .i64 kn, .slice y dl cy] 76)) (w.alloc (.cells #[k0, .int .i64 num, v2, v3, v4, v5, v6, .int .i64 kn, .slice y dl cy] 76)) B g st 0) := ⟨st, Goes.same (h.below b0) (Below.refl _ _), o, nb, r, Kp.refl _⟩
  have HF : Hid (∀ wF st' k, Goes (w.alloc (.cells #[k0, .int .i64 num, v2, v3, v4, v5, v6, .int .i64 kn, .slice y dl cy] 76)) wF B g st' k → Goes w wF B g st' k) := fun wF st' k hG => (Goes.trans (k1 := 0) rfl (Turns.of_below b0) (Nat.le_refl _) (fun k hk => .inl hk) hG).mono (by omega)
  have m1 : (w.alloc (.cells #[k0, .int .i64 num, v2, v3, v4, v5, v6, .int .i64 kn, .slice y dl cy] 76)).cell? ⟨w.heap.size, 1, none⟩ = some (.int .i64 num) := by go_simp
  have m7 : (w.alloc (.cells #[k0, .int .i64 num, v2, v3, v4, v5, v6, .int .i64 kn, .slice y dl cy] 76)).cell? ⟨w.heap.size, 7, none⟩ = some (.int .i64 kn) := by go_simp
  have HM : Hid ((w.alloc (.cells #[k0, .int .i64 num, v2, v3, v4, v5, v6, .int .i64 kn, .slice y dl cy] 76)).cell? ⟨w.heap.size, 1, none⟩ = some (.int .i64 num) ∧ (w.alloc (.cells #[k0, .int .i64 num, v2, v3, v4, v5, v6, .int .i64 kn, .slice y dl cy] 76)).cell? ⟨w.heap.size, 7, none⟩ = some (.int .i64 kn)) := ⟨m1, m7⟩
  have Hn : Hid (num ≤ 2147483647 ∧ kn ≤ 2147483647) := ⟨hn, hkn⟩
  have i5 : (st.dec.length : Int) ≤ 59900 := by have := r.dl; omega
  clear h o q nb hgn r hdc hdn hok hch e2 b0 m1 m7 hL hfi
  go_enter Try.func33, Try.ntmps33
  go_wp2_with fail
  obtain ⟨W0, hW0⟩ : ∃ W0, W0 = w.alloc (.cells #[k0, .int .i64 num, v2, v3, v4, v5, v6, .int .i64 kn, .slice y dl cy] 76) := ⟨_, rfl⟩
  rw [← hW0] at H0 HF HM HH ⊢
  have hs0 : Hid (W0.heap.size = w.heap.size + 1) := by show W0.heap.size = _; rw [hW0]; simp
  clear hW0
  generalize hdl0 : st.dec.length = dl0 at c2 i5 ⊢
  have Hdl0 : Hid (st.dec.length = dl0) := hdl0
  clear hdl0
  go_loopw [8, 9, 20] (fun _ _ i wr => ∃ k : Nat, k ≤ dl ∧ i = .int .i64 k ∧ Hid (Tk n D said G W0 wr B g st k)) (fun _ _ i _ => dl - (intOf i).toNat)
  case atStart => exact ⟨0, by omega, rfl, H0.out⟩
  case round =>
    clear H0
    obtain ⟨k, hk, rfl, HR⟩ := hrel
    obtain ⟨st', ⟨g1, e1, k1, t1, n1, f1⟩, hI⟩ := HR.out
    have hlen : st'.dec.length ≤ 59970 := by have := hI.2.2.1.dl; omega
    have hbx : ¬ fp g w.heap.size := fun e => by have := HH.out.2.2.2.2.2.2 _ e; omega
    have M1 := keept t1 hbx HM.out.1
    have M7 := keept t1 hbx HM.out.2
    obtain ⟨x3, c3, e3, hle3⟩ := k1.rd
    have C2 : wr.cell? ⟨g.p, 2, none⟩ = some (.slice x3 st'.dec.length c3) := by rw [← e1, k1.c2, e3]
    have lb : w.heap.size < wr.heap.size := by have := t1.size; have := hs0.out; omega
    have lp : g.p < wr.heap.size := by omega
    obtain ⟨nd, hnd⟩ : ∃ nd, nd = st'.dec.length := ⟨_, rfl⟩
    have Hnd : Hid (nd = st'.dec.length) := hnd
    have hnd2 : nd ≤ 59970 := by omega
    rw [← hnd] at C2
    have HG : Hid (NdAt wr B g1 st' ∧ g1.p = g.p ∧ Turns (fp g) W0 wr ∧ gnb g1 ≤ gnb g + 0 ∧ (∀ k, fp g1 k → fp g k ∨ W0.heap.size ≤ k) ∧ (NodeOk n said G st' ∧ NB n st' ∧ Rs n (D + k) st' ∧ Kp st st') ∧ st'.dec.length ≤ 59970) := ⟨k1, e1, t1, n1, f1, hI, hlen⟩
    clear k1 t1 n1 f1 hI hlen e3 hle3 hnd HR e1
    by_cases hlt : k < dl
    · have hkn2 : (k : Int) < (dl : Int) := by omega
      have hA := HH.out.2.2.2.1.turns HG.out.2.2.1 HH.out.2.2.2.2.1
      obtain ⟨b, oo, rfl, hbb, hc⟩ := hA.resolve_left (by have := HH.out.2.2.1; omega)
      obtain ⟨d, hd⟩ : ∃ d, L[k]? = some d := ⟨L[k]'(by have := HH.out.2.2.1; omega), List.getElem?_eq_getElem (by have := HH.out.2.2.1; omega)⟩
      obtain ⟨q0, q1, q2⟩ := hc k d hd
      have hdok : Hid (DOk d ∧ Ch n G (num + k) (dbytes d) ∧ Asked n said d) := ⟨HH.out.2.2.2.2.2.1 d (List.mem_of_getElem? hd), HH.out.1.2.2.2.2 k d hd⟩
      obtain ⟨mon, ser, s⟩ := d
      dsimp only at q0 q1 q2
      have bX : Below wr.heap.size wr (wr.alloc (.cells #[.int .i64 mon, .int .i64 ser, .string s] 68)).drew := on (al _ _) (Below.refl _ _).drew
      have S1 := keep bX M1
      have S2 := keep bX C2
      have D0 : (wr.alloc (.cells #[.int .i64 mon, .int .i64 ser, .string s] 68)).drew.cell? ⟨wr.heap.size, 0, none⟩ = some (.int .i64 mon) := by go_simp
      have D1 : (wr.alloc (.cells #[.int .i64 mon, .int .i64 ser, .string s] 68)).drew.cell? ⟨wr.heap.size, 1, none⟩ = some (.int .i64 ser) := by go_simp
      have D2 : (wr.alloc (.cells #[.int .i64 mon, .int .i64 ser, .string s] 68)).drew.cell? ⟨wr.heap.size, 2, none⟩ = some (.string s) := by go_simp
      obtain ⟨zA, hzA⟩ : ∃ zA : Int, (num : Int) + (k : Int) = zA := ⟨_, rfl⟩
      obtain ⟨zB, hzB⟩ : ∃ zB : Int, (nd : Int) + 1 = zB := ⟨_, rfl⟩
      have wA : IntKind.i64.wrap zA = zA := wrap_i64 (by have := Hn.out.1; omega) (by have := Hn.out.1; omega)
      have wB : IntKind.i64.wrap zB = zB := wrap_i64 (by omega) (by omega)
      clear hA hc hbb hd
      have HX : Hid (Below wr.heap.size wr (wr.alloc (.cells #[.int .i64 mon, .int .i64 ser, .string s] 68)).drew) := bX
      cases ht : (zA == zB) with
      | true =>
        have hL := fun (W : World) (bb : Below wr.heap.size wr W) => learn_any (HG.out.1.below bb) ⟨mon, ser, s⟩ hdok.out.1 (by have := Hnd.out; omega)
        dsimp only [dv] at hL
        rw [HG.out.2.1] at hL
        go_wp2_with fail
        refine wp_region_held_drew (S := fun q => q.cell? ⟨w.heap.size, 1, none⟩ = some (.int .i64 num) ∧ q.cell? ⟨g.p, 2, none⟩ = some (.slice x3 nd c3)) (by kernel_rfl) ⟨S1, S2⟩ (fun hHeld => ?_)
        generalize (wr.alloc (.cells #[.int .i64 mon, .int .i64 ser, .string s] 68)).drew = wD at *
        refine By.hk 0 ?_
        refine By.hk 1 ?_
        refine By.hk 2 ?_
        refine By.hk 3 ?_
        refine By.hk 4 ?_
        refine By.hk 5 ?_
        refine By.hk 6 ?_
        refine By.hk 7 ?_
        refine By.hk 8 ?_
        refine By.hk 9 ?_
        refine By.hk 10 ?_
        refine wpAnyH_done (by kernel_rfl) ?_ _
        have hL1 := hL wD HX.out
        clear hL hHeld
        go_wp2_with (first
          | (
             go_at_call 53; refine hL1.mono ?_; rintro e w5 ⟨rfl, H5⟩; clear hL1))
        have HN : Hid (Tk n D said G W0 w5 B g st (k + 1)) := by
          obtain ⟨a1, a2, a3, a4, a5, ⟨a6, a7, a8, a9⟩, a10⟩ := HG.out
          have ez : num + k = st'.dec.length + 1 := by
            have h1 : zA = zB := by simpa using ht
            have h2 := Hnd.out
            omega
          obtain ⟨c1, c2, c3⟩ := hdok.out
          rw [ez] at c2
          refine ⟨learned st' ⟨mon, ser, s⟩, ?_, a6.learned _ c2 c3, a7.learned _, a8.learned _, a9.id, a9.ser, ?_⟩
          · exact Goes.on a2 a3 a4 a5 wD HX.out H5.out (by omega)
          · show _ ≤ (st'.dec ++ [_]).length
            have := a9.dec
            simp
            omega
        go_roundw
        case rel => exact ⟨k + 1, by omega, by go_num, HN.out⟩
        case measure => simp [intOf]; omega
      | false =>
        go_wp2_with fail
        refine wp_region_held_drew (S := fun q => q.cell? ⟨w.heap.size, 1, none⟩ = some (.int .i64 num) ∧ q.cell? ⟨g.p, 2, none⟩ = some (.slice x3 nd c3)) (by kernel_rfl) ⟨S1, S2⟩ (fun hHeld => ?_)
        generalize (wr.alloc (.cells #[.int .i64 mon, .int .i64 ser, .string s] 68)).drew = wD at *
        refine By.hk 0 ?_
        refine By.hk 1 ?_
        refine By.hk 2 ?_
        refine By.hk 3 ?_
        refine By.hk 4 ?_
        refine By.hk 5 ?_
        refine By.hk 6 ?_
        refine By.hk 7 ?_
        refine By.hk 8 ?_
        refine By.hk 9 ?_
        refine By.hk 10 ?_
        refine wpAnyH_done (by kernel_rfl) ?_ _
        go_wp2_with fail
        have HN : Hid (Tk n D said G W0 wD B g st (k + 1)) := by
          obtain ⟨a1, a2, a3, a4, a5, ⟨a6, a7, a8, a9⟩, a10⟩ := HG.out
          exact ⟨st', Goes.on (k2 := 0) a2 a3 a4 a5 wD HX.out (Goes.same (a1.below HX.out) (Below.refl _ _)) (by omega), a6, a7, a8.mono (by omega), a9⟩
        go_roundw
        case rel => exact ⟨k + 1, by omega, by go_num, HN.out⟩
        case measure => simp [intOf]; omega
    · obtain rfl : k = dl := by omega
      obtain ⟨zB, hzB⟩ : ∃ zB : Int, (nd : Int) + 1 = zB := ⟨_, rfl⟩
      have wB : IntKind.i64.wrap zB = zB := wrap_i64 (by omega) (by omega)
      have bX : Below wr.heap.size wr wr.drew := (Below.refl _ _).drew
      have bY : Below wr.heap.size wr wr.drew.drew := on bX (Below.refl _ _).drew
      have HX : Hid (Below wr.heap.size wr wr.drew ∧ Below wr.drew.heap.size wr.drew wr.drew.drew) := ⟨bX, (Below.refl _ _).drew⟩
      have S1 := keep bX M1
      have S2 := keep bX C2
      have S7 := keep bX M7
      have HE : Hid (∀ wF R, Below wr.heap.size wr wF → MlsK wF w.heap.size R n st.id 10267 (fun m => Sent n st.id m ∧ MsgOk n said G st.id m) → Did n said G w wF B g st R 10267 (D + 65)) := fun wF R bF hm => by
        obtain ⟨a1, a2, a3, a4, a5, ⟨a6, a7, a8, a9⟩, a10⟩ := HG.out
        exact ⟨st', ⟨G, (HF.out _ _ _ (Goes.on (k2 := 0) (k3 := 0) a2 a3 a4 a5 wF bF (Goes.same (a1.below bF) (Below.refl _ _)) (by omega))).mono (by omega), HH.out.1.2.1, GExt.refl _ _, a6, a7, hm⟩, a8.mono (by omega), a9⟩
      have HSt : Hid (∀ W, Below wr.heap.size wr W → Calls Try.prog 37 #[.pointer (some ⟨g.p, 0, none⟩)] W fun e w' => ∃ R, e = .returned R ∧ Hid (Did n said G w w' B g st R 10267 (D + 65))) := fun W bW => by
        obtain ⟨a1, a2, a3, a4, a5, ⟨a6, a7, a8, a9⟩, a10⟩ := HG.out
        have p := start_any (a1.below bW) a6 HH.out.1.2.1 a7 h1 hn7 (by have := HH.out.1.2.2.1; omega) (a8.mono (D' := D + 64) (by omega)) (by omega)
        rw [a2] at p
        refine p.mono ?_
        rintro e w' ⟨R, rfl, H⟩
        obtain ⟨st2, ⟨G', s1, s2, s3, s4, s5, s6⟩, hr, hkp⟩ := H.out
        rw [a9.id] at s3 s6
        have hsz : w.heap.size ≤ W.heap.size := by have := bW.size; omega
        refine ⟨R, rfl, st2, ⟨G', ?_, s2, s3, s4, s5, s6.base hsz⟩, hr, a9.trans hkp⟩
        exact HF.out _ _ _ (Goes.on (k2 := 10267) (k3 := 10267) a2 a3 a4 a5 W bW s1 (by omega))
      have hSay := fun (W : World) (bb : Below wr.heap.size wr W) => say_any (HG.out.1.below bb) (by rw [HG.out.2.2.2.2.2.1.2.2.2.id]; exact HH.out.1.1) (fr : Int)
      rw [HG.out.2.1, HG.out.2.2.2.2.2.1.2.2.2.id] at hSay
      have hSta := HSt.out
      have HSM : Hid (Sent n st.id ⟨4, st'.dec.length, noAc, 0, []⟩ ∧ (fr : Int) ≠ (st.id : Int)) := by
        obtain ⟨a1, a2, a3, a4, a5, ⟨a6, a7, a8, a9⟩, a10⟩ := HG.out
        have := sent_say a6.sid (num := st'.dec.length) (by omega)
        rw [a9.id] at this
        exact ⟨this, HH.out.1.2.2.2.1⟩
      have more : ((dl0 : Int) < (nd : Int)) ∨ ¬ ((dl0 : Int) < (nd : Int)) := Decidable.em _
      have gap : (zB < (num : Int)) ∨ ¬ (zB < (num : Int)) := Decidable.em _
      have less : ((nd : Int) < (kn : Int)) ∨ ¬ ((nd : Int) < (kn : Int)) := Decidable.em _
      rcases more with more | more
      · rcases gap with gap | gap
        · rcases less with less | less
          · skip
            go_wp2_with fail
            refine wp_region_held_drew (S := fun q => q.cell? ⟨w.heap.size, 1, none⟩ = some (.int .i64 num) ∧ q.cell? ⟨g.p, 2, none⟩ = some (.slice x3 nd c3)) (by kernel_rfl) ⟨S1, S2⟩ (fun hHeld => ?_)
            generalize wr.drew = wD at *
            refine By.hk 0 ?_
            refine By.hk 1 ?_
            refine By.hk 2 ?_
            refine By.hk 3 ?_
            refine By.hk 4 ?_
            refine By.hk 5 ?_
            refine By.hk 6 ?_
            refine By.hk 7 ?_
            refine By.hk 8 ?_
            refine By.hk 9 ?_
            refine wpAnyH_done (by kernel_rfl) ?_ _
            clear hHeld
            have T2 := keep HX.out.2 S2
            have T7 := keep HX.out.2 S7
            go_wp2_with fail
            refine wp_region_held_drew (S := fun q => q.cell? ⟨g.p, 2, none⟩ = some (.slice x3 nd c3) ∧ q.cell? ⟨w.heap.size, 7, none⟩ = some (.int .i64 kn)) (by kernel_rfl) ⟨T2, T7⟩ (fun hHeld => ?_)
            generalize wD.drew = wG at *
            refine By.hk 0 ?_
            refine By.hk 1 ?_
            refine By.hk 2 ?_
            refine By.hk 3 ?_
            refine By.hk 4 ?_
            refine By.hk 5 ?_
            refine By.hk 6 ?_
            refine By.hk 7 ?_
            refine By.hk 8 ?_
            refine wpAnyH_done (by kernel_rfl) ?_ _
            clear hHeld
            have bG := on HX.out.1 HX.out.2
            have hY := hSay wG bG
            clear hSay hSta
            go_wp2_with (first
              | (
                 go_at_call 34; refine hY.mono ?_; rintro e w9 ⟨z9, l9, c9, rfl, H9⟩; clear hY))
            go_ret
            exact ⟨_, rfl, HE.out _ _ (on (on bG H9.out.2.1) (al _ _)) ((mls_one (by have := (on bG H9.out.2.1).size; omega) (fr : Int) z9 l9 c9 ⟨4, st'.dec.length, noAc, 0, []⟩ ⟨by omega, by omega, HSM.out.2⟩ ⟨HSM.out.1, MsgOk.say _ _⟩ (bm_of_vl H9.out.2 H9.out.1)).mono (by omega) (fun _ h => h))⟩
          · skip
            go_wp2_with fail
            refine wp_region_held_drew (S := fun q => q.cell? ⟨w.heap.size, 1, none⟩ = some (.int .i64 num) ∧ q.cell? ⟨g.p, 2, none⟩ = some (.slice x3 nd c3)) (by kernel_rfl) ⟨S1, S2⟩ (fun hHeld => ?_)
            generalize wr.drew = wD at *
            refine By.hk 0 ?_
            refine By.hk 1 ?_
            refine By.hk 2 ?_
            refine By.hk 3 ?_
            refine By.hk 4 ?_
            refine By.hk 5 ?_
            refine By.hk 6 ?_
            refine By.hk 7 ?_
            refine By.hk 8 ?_
            refine By.hk 9 ?_
            refine wpAnyH_done (by kernel_rfl) ?_ _
            clear hHeld
            have T2 := keep HX.out.2 S2
            have T7 := keep HX.out.2 S7
            go_wp2_with fail
            refine wp_region_held_drew (S := fun q => q.cell? ⟨g.p, 2, none⟩ = some (.slice x3 nd c3) ∧ q.cell? ⟨w.heap.size, 7, none⟩ = some (.int .i64 kn)) (by kernel_rfl) ⟨T2, T7⟩ (fun hHeld => ?_)
            generalize wD.drew = wG at *
            refine By.hk 0 ?_
            refine By.hk 1 ?_
            refine By.hk 2 ?_
            refine By.hk 3 ?_
            refine By.hk 4 ?_
            refine By.hk 5 ?_
            refine By.hk 6 ?_
            refine By.hk 7 ?_
            refine By.hk 8 ?_
            refine wpAnyH_done (by kernel_rfl) ?_ _
            clear hHeld
            have bG := on HX.out.1 HX.out.2
            have hY := hSta wG bG
            clear hSay hSta
            go_wp2_with (first
              | (
                 go_at_call 37; refine hY.mono ?_; rintro e w9 ⟨R9, rfl, H9⟩; clear hY))
            go_ret
            exact ⟨_, rfl, H9.out⟩
        · rcases less with less | less
          · skip
            go_wp2_with fail
            refine wp_region_held_drew (S := fun q => q.cell? ⟨w.heap.size, 1, none⟩ = some (.int .i64 num) ∧ q.cell? ⟨g.p, 2, none⟩ = some (.slice x3 nd c3)) (by kernel_rfl) ⟨S1, S2⟩ (fun hHeld => ?_)
            generalize wr.drew = wD at *
            refine By.hk 0 ?_
            refine By.hk 1 ?_
            refine By.hk 2 ?_
            refine By.hk 3 ?_
            refine By.hk 4 ?_
            refine By.hk 5 ?_
            refine By.hk 6 ?_
            refine By.hk 7 ?_
            refine By.hk 8 ?_
            refine By.hk 9 ?_
            refine wpAnyH_done (by kernel_rfl) ?_ _
            clear hHeld
            have T2 := keep HX.out.2 S2
            have T7 := keep HX.out.2 S7
            go_wp2_with fail
            refine wp_region_held_drew (S := fun q => q.cell? ⟨g.p, 2, none⟩ = some (.slice x3 nd c3) ∧ q.cell? ⟨w.heap.size, 7, none⟩ = some (.int .i64 kn)) (by kernel_rfl) ⟨T2, T7⟩ (fun hHeld => ?_)
            generalize wD.drew = wG at *
            refine By.hk 0 ?_
            refine By.hk 1 ?_
            refine By.hk 2 ?_
            refine By.hk 3 ?_
            refine By.hk 4 ?_
            refine By.hk 5 ?_
            refine By.hk 6 ?_
            refine By.hk 7 ?_
            refine By.hk 8 ?_
            refine wpAnyH_done (by kernel_rfl) ?_ _
            clear hHeld
            have bG := on HX.out.1 HX.out.2
            have hY := hSay wG bG
            clear hSay hSta
            go_wp2_with (first
              | (
                 go_at_call 34; refine hY.mono ?_; rintro e w9 ⟨z9, l9, c9, rfl, H9⟩; clear hY))
            go_ret
            exact ⟨_, rfl, HE.out _ _ (on (on bG H9.out.2.1) (al _ _)) ((mls_one (by have := (on bG H9.out.2.1).size; omega) (fr : Int) z9 l9 c9 ⟨4, st'.dec.length, noAc, 0, []⟩ ⟨by omega, by omega, HSM.out.2⟩ ⟨HSM.out.1, MsgOk.say _ _⟩ (bm_of_vl H9.out.2 H9.out.1)).mono (by omega) (fun _ h => h))⟩
          · skip
            go_wp2_with fail
            refine wp_region_held_drew (S := fun q => q.cell? ⟨w.heap.size, 1, none⟩ = some (.int .i64 num) ∧ q.cell? ⟨g.p, 2, none⟩ = some (.slice x3 nd c3)) (by kernel_rfl) ⟨S1, S2⟩ (fun hHeld => ?_)
            generalize wr.drew = wD at *
            refine By.hk 0 ?_
            refine By.hk 1 ?_
            refine By.hk 2 ?_
            refine By.hk 3 ?_
            refine By.hk 4 ?_
            refine By.hk 5 ?_
            refine By.hk 6 ?_
            refine By.hk 7 ?_
            refine By.hk 8 ?_
            refine By.hk 9 ?_
            refine wpAnyH_done (by kernel_rfl) ?_ _
            clear hHeld
            have T2 := keep HX.out.2 S2
            have T7 := keep HX.out.2 S7
            go_wp2_with fail
            refine wp_region_held_drew (S := fun q => q.cell? ⟨g.p, 2, none⟩ = some (.slice x3 nd c3) ∧ q.cell? ⟨w.heap.size, 7, none⟩ = some (.int .i64 kn)) (by kernel_rfl) ⟨T2, T7⟩ (fun hHeld => ?_)
            generalize wD.drew = wG at *
            refine By.hk 0 ?_
            refine By.hk 1 ?_
            refine By.hk 2 ?_
            refine By.hk 3 ?_
            refine By.hk 4 ?_
            refine By.hk 5 ?_
            refine By.hk 6 ?_
            refine By.hk 7 ?_
            refine By.hk 8 ?_
            refine wpAnyH_done (by kernel_rfl) ?_ _
            clear hHeld
            have bG := on HX.out.1 HX.out.2
            have hY := hSta wG bG
            clear hSay hSta
            go_wp2_with (first
              | (
                 go_at_call 37; refine hY.mono ?_; rintro e w9 ⟨R9, rfl, H9⟩; clear hY))
            go_ret
            exact ⟨_, rfl, H9.out⟩
      · rcases gap with gap | gap
        · rcases less with less | less
          · skip
            go_wp2_with fail
            refine wp_region_held_drew (S := fun q => q.cell? ⟨w.heap.size, 1, none⟩ = some (.int .i64 num) ∧ q.cell? ⟨g.p, 2, none⟩ = some (.slice x3 nd c3)) (by kernel_rfl) ⟨S1, S2⟩ (fun hHeld => ?_)
            generalize wr.drew = wD at *
            refine By.hk 0 ?_
            refine By.hk 1 ?_
            refine By.hk 2 ?_
            refine By.hk 3 ?_
            refine By.hk 4 ?_
            refine By.hk 5 ?_
            refine By.hk 6 ?_
            refine By.hk 7 ?_
            refine By.hk 8 ?_
            refine By.hk 9 ?_
            refine wpAnyH_done (by kernel_rfl) ?_ _
            clear hHeld
            have T2 := keep HX.out.2 S2
            have T7 := keep HX.out.2 S7
            go_wp2_with fail
            refine wp_region_held_drew (S := fun q => q.cell? ⟨g.p, 2, none⟩ = some (.slice x3 nd c3) ∧ q.cell? ⟨w.heap.size, 7, none⟩ = some (.int .i64 kn)) (by kernel_rfl) ⟨T2, T7⟩ (fun hHeld => ?_)
            generalize wD.drew = wG at *
            refine By.hk 0 ?_
            refine By.hk 1 ?_
            refine By.hk 2 ?_
            refine By.hk 3 ?_
            refine By.hk 4 ?_
            refine By.hk 5 ?_
            refine By.hk 6 ?_
            refine By.hk 7 ?_
            refine By.hk 8 ?_
            refine wpAnyH_done (by kernel_rfl) ?_ _
            clear hHeld
            have bG := on HX.out.1 HX.out.2
            have hY := hSay wG bG
            clear hSay hSta
            go_wp2_with (first
              | (
                 go_at_call 34; refine hY.mono ?_; rintro e w9 ⟨z9, l9, c9, rfl, H9⟩; clear hY))
            go_ret
            exact ⟨_, rfl, HE.out _ _ (on (on bG H9.out.2.1) (al _ _)) ((mls_one (by have := (on bG H9.out.2.1).size; omega) (fr : Int) z9 l9 c9 ⟨4, st'.dec.length, noAc, 0, []⟩ ⟨by omega, by omega, HSM.out.2⟩ ⟨HSM.out.1, MsgOk.say _ _⟩ (bm_of_vl H9.out.2 H9.out.1)).mono (by omega) (fun _ h => h))⟩
          · skip
            go_wp2_with fail
            refine wp_region_held_drew (S := fun q => q.cell? ⟨w.heap.size, 1, none⟩ = some (.int .i64 num) ∧ q.cell? ⟨g.p, 2, none⟩ = some (.slice x3 nd c3)) (by kernel_rfl) ⟨S1, S2⟩ (fun hHeld => ?_)
            generalize wr.drew = wD at *
            refine By.hk 0 ?_
            refine By.hk 1 ?_
            refine By.hk 2 ?_
            refine By.hk 3 ?_
            refine By.hk 4 ?_
            refine By.hk 5 ?_
            refine By.hk 6 ?_
            refine By.hk 7 ?_
            refine By.hk 8 ?_
            refine By.hk 9 ?_
            refine wpAnyH_done (by kernel_rfl) ?_ _
            clear hHeld
            have T2 := keep HX.out.2 S2
            have T7 := keep HX.out.2 S7
            go_wp2_with fail
            refine wp_region_held_drew (S := fun q => q.cell? ⟨g.p, 2, none⟩ = some (.slice x3 nd c3) ∧ q.cell? ⟨w.heap.size, 7, none⟩ = some (.int .i64 kn)) (by kernel_rfl) ⟨T2, T7⟩ (fun hHeld => ?_)
            generalize wD.drew = wG at *
            refine By.hk 0 ?_
            refine By.hk 1 ?_
            refine By.hk 2 ?_
            refine By.hk 3 ?_
            refine By.hk 4 ?_
            refine By.hk 5 ?_
            refine By.hk 6 ?_
            refine By.hk 7 ?_
            refine By.hk 8 ?_
            refine wpAnyH_done (by kernel_rfl) ?_ _
            clear hHeld
            have bG := on HX.out.1 HX.out.2
            have hY := hSta wG bG
            clear hSay hSta
            go_wp2_with (first
              | (
                 go_at_call 37; refine hY.mono ?_; rintro e w9 ⟨R9, rfl, H9⟩; clear hY))
            go_ret
            exact ⟨_, rfl, H9.out⟩
        · skip
          go_wp2_with fail
          refine wp_region_held_drew (S := fun q => q.cell? ⟨w.heap.size, 1, none⟩ = some (.int .i64 num) ∧ q.cell? ⟨g.p, 2, none⟩ = some (.slice x3 nd c3)) (by kernel_rfl) ⟨S1, S2⟩ (fun hHeld => ?_)
          generalize wr.drew = wD at *
          refine By.hk 0 ?_
          refine By.hk 1 ?_
          refine By.hk 2 ?_
          refine By.hk 3 ?_
          refine By.hk 4 ?_
          refine By.hk 5 ?_
          refine By.hk 6 ?_
          refine By.hk 7 ?_
          refine By.hk 8 ?_
          refine By.hk 9 ?_
          refine wpAnyH_done (by kernel_rfl) ?_ _
          clear hHeld
          go_wp2_with fail
          rotate_left
          · exfalso; rename_i hx _ _; simp at hx; omega
          go_ret
          exact ⟨_, rfl, HE.out _ _ HX.out.1 ((MlsK.nil _ _ _ _ _).mono (Nat.zero_le _) (fun _ h => h))⟩

end

end Go.Proofs.Ytfgfjfemaniaiaa.Px

/-
  Package paxos: Receive, at any state, of what a monitor sent: what is known of all monitors stays true.
  Conditions: the monitor is one that New gave ('NdAt').
-/
namespace Go.Proofs.Ytfgfjfemaniaiaa.Px
open Go.RowKit Wi By Fl Ba
set_option linter.unusedVariables false
set_option linter.unusedSimpArgs false
set_option maxRecDepth 100000

theorem kind_pos {m : Ms} {fr n : Nat} (h : mayM m fr n = true) : m.kind = 1 ∨ m.kind = 2 ∨ m.kind = 3 ∨ m.kind = 4 ∨ m.kind = 5 := by
  have h5 := mayM_kind h
  by_cases e : m.kind = 0
  · exfalso
    unfold mayM at h
    rw [e] at h
    simp at h
  · omega

section
variable {w W w' : World} {B : Nat} {g : Ln} {st : Nd} {n D : Nat} {said : ByteArray → Prop} {G : Gh}

theorem Did.from_ {R : Value} {k D' : Nat} (b : Below w.heap.size w W) (h : Did n said G W w' B g st R k D') : Did n said G w w' B g st R k D' := by
  obtain ⟨st', ⟨G', s1, s2, s3, s4, s5, s6⟩, hr, hkp⟩ := h
  exact ⟨st', ⟨G', (Goes.trans (k1 := 0) rfl (Turns.of_below b) (by omega) (fun j hj => .inl hj) s1).mono (by omega), s2, s3, s4, s5, s6.base b.size⟩, hr, hkp⟩

theorem Step.did {st' : Nd} {R : Value} {k D' : Nat} (h : Step n said G w w' B g st st' R k) (hr : Rs n D' st') (hk : Kp st st') : Did n said G w w' B g st R k D' := ⟨st', h, hr, hk⟩

theorem Rs.upd {num : Nat} {a : Ac} (h : Rs n D st) (h2 : n ≠ 1) : ∀ st' : Nd, st'.dec = st.dec → st'.wait = st.wait → st'.turn = st.turn → Rs n D st' := fun st' e1 e2 e3 => ⟨by rw [e2]; exact h.wl, by rw [e1]; exact h.dl, by rw [e3]; exact h.tn, fun e => absurd e h2⟩


set_option maxHeartbeats 1600000 in
theorem recvk_1 (h : NdAt w B g st) (k : NodeOk n said G st) (q : GI n said G) (nb : NB n st) (h1 : 1 ≤ n) (hn7 : n ≤ 7) (hgn : gnb g < 100000000000) (r : Rs n D st) (hD : D < 59900) (fr : Nat) (hfn : fr < n) (hfi : fr ≠ st.id) (num kn : Nat) (p1 p2 a1 a2 : Int) (d : List Nat) (L : List Dc) (hs : Sent n fr ⟨1, num, ⟨(p1, p2), (a1, a2), d⟩, kn, L⟩) (hm : MsgOk n said G fr ⟨1, num, ⟨(p1, p2), (a1, a2), d⟩, kn, L⟩) (x : Option Addr) (nn c : Nat) (hl : Fl.Sl w x nn c (encM ⟨1, num, ⟨(p1, p2), (a1, a2), d⟩, kn, L⟩ fr)) (hnn : nn ≤ 140737488351232) :
    Calls Try.prog 22 #[.pointer (some ⟨g.p, 0, none⟩), .int .i64 fr, .slice x nn c] w fun e w' => ∃ R, e = .returned (.tuple #[R, .int .i64 0]) ∧ Hid (Did n said G w w' B g st R 10267 (D + 65)) := by
  have hM := made_yes h
  have c0 := h.c0
  have c1 := h.c1
  rw [k.sn] at c1
  have i1 : ¬ (n : Int) ≤ (fr : Int) := by omega
  have i2 : ((fr : Int) == (st.id : Int)) = false := by
    simp
    omega
  have hd := decM_back hn7 hs
  obtain ⟨hB, hmay⟩ := decM_mb hn7 hd
  obtain ⟨dn, hdn⟩ : ∃ dn, dn = d.length := ⟨_, rfl⟩
  obtain ⟨dl, hdl⟩ : ∃ dl, dl = L.length := ⟨_, rfl⟩
  have hDc : Calls Try.prog 29 #[.slice x nn c, .int .i64 fr, .int .i64 n] w fun e w' => ∃ X C Y CY, e = .returned (.tuple #[.agg #[.int .i64 1, .int .i64 num, .int .i64 p1, .int .i64 p2, .int .i64 a1, .int .i64 a2, .slice X dn C, .int .i64 kn, .slice Y dl CY], .bool true]) ∧ Hid (Below w.heap.size w w' ∧ Sv w' X dn C d ∧ L.length = dl ∧ DcsAt w' Y L ∧ (∀ a, Y = some a → w.heap.size ≤ a.block)) := by
    have q := decode_any x nn c _ n fr hn7 w hl hnn
    rw [hd] at q
    refine q.mono ?_
    rintro e w' ⟨X, C, Y, CY, he, H⟩
    refine ⟨X, C, Y, CY, ?_, H.out.1, ⟨?_, ?_, fun a ha => (H.out.2.tb a ha).2⟩, hdl.symm, (own_dcs H.out.2.own).2, fun a ha => ?_⟩
    · rw [he, hdn, hdl]
      rfl
    · rw [hdn]
      exact H.out.2.sl
    · have := hB.len
      rw [hdn]
      exact Nat.le_trans this (by omega)
    · obtain ⟨x9, c9, e9, _, _, q9⟩ := H.out.2.own.form
      injection e9 with e9
      obtain ⟨k9, hk9, h9, _⟩ := q9 a (e9 ▸ ha)
      rw [hk9]
      exact h9
  have HC : Hid (∀ (W : World) (X : Option Addr) (C : Nat) (Y : Option Addr) (CY : Nat), Below w.heap.size w W → Sv W X dn C d → L.length = dl → DcsAt W Y L → (∀ a, Y = some a → w.heap.size ≤ a.block) → Calls Try.prog 30 #[.pointer (some ⟨g.p, 0, none⟩), .int .i64 fr, .agg #[.int .i64 1, .int .i64 num, .int .i64 p1, .int .i64 p2, .int .i64 a1, .int .i64 a2, .slice X dn C, .int .i64 kn, .slice Y dl CY]] W fun e w' => ∃ R, e = .returned R ∧ Hid (Did n said G w w' B g st R 10267 (D + 65))) := by
    intro W X C Y CY bb hsv hLl hdc hy
    have hk := h.below bb
    subst hdn
    subst hdl
    have hn1 : n ≠ 1 := by have := k.sid; omega
    refine (answer_any hk k q nb hn7 (by omega) fr hfn hfi ⟨1, num, ⟨(p1, p2), (a1, a2), d⟩, kn, L⟩ hs hm (.inl rfl) X Y C CY hsv).mono ?_
    rintro e w' ⟨R, rfl, H⟩
    obtain ⟨st', s1, s2, s3, s4, s5, s6⟩ := H.out
    exact ⟨R, rfl, Did.from_ bb ((s1.did ((Rs.upd (num := 0) (a := noAc) r hn1 st' s2 s3 s6).mono (by omega)) ⟨s4, s5, by rw [s2]; exact Nat.le_refl _⟩).mono (by omega) (Nat.le_refl _))⟩
  clear h hl hd hB hmay hdn hdl k q nb r hs hm hgn
  go_enter Try.func22, Try.ntmps22
  go_wp2_with (first
    | (
       go_at_call 26; refine hM.mono ?_; rintro e w1 ⟨rfl, hw1⟩; subst w1; clear hM)
    | (
       go_at_call 29; refine hDc.mono ?_; rintro e w2 ⟨X, C, Y, CY, rfl, H2⟩; clear hDc
       have b3 := al w2 (.cells #[.int .i64 1, .int .i64 num, .int .i64 p1, .int .i64 p2, .int .i64 a1, .int .i64 a2, .slice X dn C, .int .i64 kn, .slice Y dl CY] 76)
       have hC := HC.out _ X C Y CY (on H2.out.1 b3) (H2.out.2.1.below b3) H2.out.2.2.1 (H2.out.2.2.2.1.below b3) H2.out.2.2.2.2
       clear HC b3)
    | (
       go_at_call 30; refine hC.mono ?_; rintro e w3 ⟨R3, rfl, H3⟩; clear hC))
  go_ret2
  exact ⟨_, rfl, H3.out⟩

set_option maxHeartbeats 1600000 in
theorem recvk_2 (h : NdAt w B g st) (k : NodeOk n said G st) (q : GI n said G) (nb : NB n st) (h1 : 1 ≤ n) (hn7 : n ≤ 7) (hgn : gnb g < 100000000000) (r : Rs n D st) (hD : D < 59900) (fr : Nat) (hfn : fr < n) (hfi : fr ≠ st.id) (num kn : Nat) (p1 p2 a1 a2 : Int) (d : List Nat) (L : List Dc) (hs : Sent n fr ⟨2, num, ⟨(p1, p2), (a1, a2), d⟩, kn, L⟩) (hm : MsgOk n said G fr ⟨2, num, ⟨(p1, p2), (a1, a2), d⟩, kn, L⟩) (x : Option Addr) (nn c : Nat) (hl : Fl.Sl w x nn c (encM ⟨2, num, ⟨(p1, p2), (a1, a2), d⟩, kn, L⟩ fr)) (hnn : nn ≤ 140737488351232) :
    Calls Try.prog 22 #[.pointer (some ⟨g.p, 0, none⟩), .int .i64 fr, .slice x nn c] w fun e w' => ∃ R, e = .returned (.tuple #[R, .int .i64 0]) ∧ Hid (Did n said G w w' B g st R 10267 (D + 65)) := by
  have hM := made_yes h
  have c0 := h.c0
  have c1 := h.c1
  rw [k.sn] at c1
  have i1 : ¬ (n : Int) ≤ (fr : Int) := by omega
  have i2 : ((fr : Int) == (st.id : Int)) = false := by
    simp
    omega
  have hd := decM_back hn7 hs
  obtain ⟨hB, hmay⟩ := decM_mb hn7 hd
  obtain ⟨dn, hdn⟩ : ∃ dn, dn = d.length := ⟨_, rfl⟩
  obtain ⟨dl, hdl⟩ : ∃ dl, dl = L.length := ⟨_, rfl⟩
  have hDc : Calls Try.prog 29 #[.slice x nn c, .int .i64 fr, .int .i64 n] w fun e w' => ∃ X C Y CY, e = .returned (.tuple #[.agg #[.int .i64 2, .int .i64 num, .int .i64 p1, .int .i64 p2, .int .i64 a1, .int .i64 a2, .slice X dn C, .int .i64 kn, .slice Y dl CY], .bool true]) ∧ Hid (Below w.heap.size w w' ∧ Sv w' X dn C d ∧ L.length = dl ∧ DcsAt w' Y L ∧ (∀ a, Y = some a → w.heap.size ≤ a.block)) := by
    have q := decode_any x nn c _ n fr hn7 w hl hnn
    rw [hd] at q
    refine q.mono ?_
    rintro e w' ⟨X, C, Y, CY, he, H⟩
    refine ⟨X, C, Y, CY, ?_, H.out.1, ⟨?_, ?_, fun a ha => (H.out.2.tb a ha).2⟩, hdl.symm, (own_dcs H.out.2.own).2, fun a ha => ?_⟩
    · rw [he, hdn, hdl]
      rfl
    · rw [hdn]
      exact H.out.2.sl
    · have := hB.len
      rw [hdn]
      exact Nat.le_trans this (by omega)
    · obtain ⟨x9, c9, e9, _, _, q9⟩ := H.out.2.own.form
      injection e9 with e9
      obtain ⟨k9, hk9, h9, _⟩ := q9 a (e9 ▸ ha)
      rw [hk9]
      exact h9
  have HC : Hid (∀ (W : World) (X : Option Addr) (C : Nat) (Y : Option Addr) (CY : Nat), Below w.heap.size w W → Sv W X dn C d → L.length = dl → DcsAt W Y L → (∀ a, Y = some a → w.heap.size ≤ a.block) → Calls Try.prog 30 #[.pointer (some ⟨g.p, 0, none⟩), .int .i64 fr, .agg #[.int .i64 2, .int .i64 num, .int .i64 p1, .int .i64 p2, .int .i64 a1, .int .i64 a2, .slice X dn C, .int .i64 kn, .slice Y dl CY]] W fun e w' => ∃ R, e = .returned R ∧ Hid (Did n said G w w' B g st R 10267 (D + 65))) := by
    intro W X C Y CY bb hsv hLl hdc hy
    have hk := h.below bb
    subst hdn
    subst hdl
    have hn1 : n ≠ 1 := by have := k.sid; omega
    refine (answer_any hk k q nb hn7 (by omega) fr hfn hfi ⟨2, num, ⟨(p1, p2), (a1, a2), d⟩, kn, L⟩ hs hm (.inr rfl) X Y C CY hsv).mono ?_
    rintro e w' ⟨R, rfl, H⟩
    obtain ⟨st', s1, s2, s3, s4, s5, s6⟩ := H.out
    exact ⟨R, rfl, Did.from_ bb ((s1.did ((Rs.upd (num := 0) (a := noAc) r hn1 st' s2 s3 s6).mono (by omega)) ⟨s4, s5, by rw [s2]; exact Nat.le_refl _⟩).mono (by omega) (Nat.le_refl _))⟩
  clear h hl hd hB hmay hdn hdl k q nb r hs hm hgn
  go_enter Try.func22, Try.ntmps22
  go_wp2_with (first
    | (
       go_at_call 26; refine hM.mono ?_; rintro e w1 ⟨rfl, hw1⟩; subst w1; clear hM)
    | (
       go_at_call 29; refine hDc.mono ?_; rintro e w2 ⟨X, C, Y, CY, rfl, H2⟩; clear hDc
       have b3 := al w2 (.cells #[.int .i64 2, .int .i64 num, .int .i64 p1, .int .i64 p2, .int .i64 a1, .int .i64 a2, .slice X dn C, .int .i64 kn, .slice Y dl CY] 76)
       have hC := HC.out _ X C Y CY (on H2.out.1 b3) (H2.out.2.1.below b3) H2.out.2.2.1 (H2.out.2.2.2.1.below b3) H2.out.2.2.2.2
       clear HC b3)
    | (
       go_at_call 30; refine hC.mono ?_; rintro e w3 ⟨R3, rfl, H3⟩; clear hC))
  go_ret2
  exact ⟨_, rfl, H3.out⟩

set_option maxHeartbeats 1600000 in
theorem recvk_3 (h : NdAt w B g st) (k : NodeOk n said G st) (q : GI n said G) (nb : NB n st) (h1 : 1 ≤ n) (hn7 : n ≤ 7) (hgn : gnb g < 100000000000) (r : Rs n D st) (hD : D < 59900) (fr : Nat) (hfn : fr < n) (hfi : fr ≠ st.id) (num kn : Nat) (p1 p2 a1 a2 : Int) (d : List Nat) (L : List Dc) (hs : Sent n fr ⟨3, num, ⟨(p1, p2), (a1, a2), d⟩, kn, L⟩) (hm : MsgOk n said G fr ⟨3, num, ⟨(p1, p2), (a1, a2), d⟩, kn, L⟩) (x : Option Addr) (nn c : Nat) (hl : Fl.Sl w x nn c (encM ⟨3, num, ⟨(p1, p2), (a1, a2), d⟩, kn, L⟩ fr)) (hnn : nn ≤ 140737488351232) :
    Calls Try.prog 22 #[.pointer (some ⟨g.p, 0, none⟩), .int .i64 fr, .slice x nn c] w fun e w' => ∃ R, e = .returned (.tuple #[R, .int .i64 0]) ∧ Hid (Did n said G w w' B g st R 10267 (D + 65)) := by
  have hM := made_yes h
  have c0 := h.c0
  have c1 := h.c1
  rw [k.sn] at c1
  have i1 : ¬ (n : Int) ≤ (fr : Int) := by omega
  have i2 : ((fr : Int) == (st.id : Int)) = false := by
    simp
    omega
  have hd := decM_back hn7 hs
  obtain ⟨hB, hmay⟩ := decM_mb hn7 hd
  obtain ⟨dn, hdn⟩ : ∃ dn, dn = d.length := ⟨_, rfl⟩
  obtain ⟨dl, hdl⟩ : ∃ dl, dl = L.length := ⟨_, rfl⟩
  have hDc : Calls Try.prog 29 #[.slice x nn c, .int .i64 fr, .int .i64 n] w fun e w' => ∃ X C Y CY, e = .returned (.tuple #[.agg #[.int .i64 3, .int .i64 num, .int .i64 p1, .int .i64 p2, .int .i64 a1, .int .i64 a2, .slice X dn C, .int .i64 kn, .slice Y dl CY], .bool true]) ∧ Hid (Below w.heap.size w w' ∧ Sv w' X dn C d ∧ L.length = dl ∧ DcsAt w' Y L ∧ (∀ a, Y = some a → w.heap.size ≤ a.block)) := by
    have q := decode_any x nn c _ n fr hn7 w hl hnn
    rw [hd] at q
    refine q.mono ?_
    rintro e w' ⟨X, C, Y, CY, he, H⟩
    refine ⟨X, C, Y, CY, ?_, H.out.1, ⟨?_, ?_, fun a ha => (H.out.2.tb a ha).2⟩, hdl.symm, (own_dcs H.out.2.own).2, fun a ha => ?_⟩
    · rw [he, hdn, hdl]
      rfl
    · rw [hdn]
      exact H.out.2.sl
    · have := hB.len
      rw [hdn]
      exact Nat.le_trans this (by omega)
    · obtain ⟨x9, c9, e9, _, _, q9⟩ := H.out.2.own.form
      injection e9 with e9
      obtain ⟨k9, hk9, h9, _⟩ := q9 a (e9 ▸ ha)
      rw [hk9]
      exact h9
  have HC : Hid (∀ (W : World) (X : Option Addr) (C : Nat) (Y : Option Addr) (CY : Nat), Below w.heap.size w W → Sv W X dn C d → L.length = dl → DcsAt W Y L → (∀ a, Y = some a → w.heap.size ≤ a.block) → Calls Try.prog 31 #[.pointer (some ⟨g.p, 0, none⟩), .int .i64 fr, .agg #[.int .i64 3, .int .i64 num, .int .i64 p1, .int .i64 p2, .int .i64 a1, .int .i64 a2, .slice X dn C, .int .i64 kn, .slice Y dl CY]] W fun e w' => ∃ R, e = .returned R ∧ Hid (Did n said G w w' B g st R 10267 (D + 65))) := by
    intro W X C Y CY bb hsv hLl hdc hy
    have hk := h.below bb
    subst hdn
    subst hdl
    refine (hear_any hk k q nb h1 hn7 (by omega) r (by omega) fr hfn ⟨3, num, ⟨(p1, p2), (a1, a2), d⟩, kn, L⟩ hs hm rfl X Y C CY hsv).mono ?_
    rintro e w' ⟨R, rfl, H⟩
    exact ⟨R, rfl, Did.from_ bb (H.out.mono (by omega) (by omega))⟩
  clear h hl hd hB hmay hdn hdl k q nb r hs hm hgn
  go_enter Try.func22, Try.ntmps22
  go_wp2_with (first
    | (
       go_at_call 26; refine hM.mono ?_; rintro e w1 ⟨rfl, hw1⟩; subst w1; clear hM)
    | (
       go_at_call 29; refine hDc.mono ?_; rintro e w2 ⟨X, C, Y, CY, rfl, H2⟩; clear hDc
       have b3 := al w2 (.cells #[.int .i64 3, .int .i64 num, .int .i64 p1, .int .i64 p2, .int .i64 a1, .int .i64 a2, .slice X dn C, .int .i64 kn, .slice Y dl CY] 76)
       have hC := HC.out _ X C Y CY (on H2.out.1 b3) (H2.out.2.1.below b3) H2.out.2.2.1 (H2.out.2.2.2.1.below b3) H2.out.2.2.2.2
       clear HC b3)
    | (
       go_at_call 31; refine hC.mono ?_; rintro e w3 ⟨R3, rfl, H3⟩; clear hC))
  go_ret2
  exact ⟨_, rfl, H3.out⟩

set_option maxHeartbeats 1600000 in
theorem recvk_4 (h : NdAt w B g st) (k : NodeOk n said G st) (q : GI n said G) (nb : NB n st) (h1 : 1 ≤ n) (hn7 : n ≤ 7) (hgn : gnb g < 100000000000) (r : Rs n D st) (hD : D < 59900) (fr : Nat) (hfn : fr < n) (hfi : fr ≠ st.id) (num kn : Nat) (p1 p2 a1 a2 : Int) (d : List Nat) (L : List Dc) (hs : Sent n fr ⟨4, num, ⟨(p1, p2), (a1, a2), d⟩, kn, L⟩) (hm : MsgOk n said G fr ⟨4, num, ⟨(p1, p2), (a1, a2), d⟩, kn, L⟩) (x : Option Addr) (nn c : Nat) (hl : Fl.Sl w x nn c (encM ⟨4, num, ⟨(p1, p2), (a1, a2), d⟩, kn, L⟩ fr)) (hnn : nn ≤ 140737488351232) :
    Calls Try.prog 22 #[.pointer (some ⟨g.p, 0, none⟩), .int .i64 fr, .slice x nn c] w fun e w' => ∃ R, e = .returned (.tuple #[R, .int .i64 0]) ∧ Hid (Did n said G w w' B g st R 10267 (D + 65)) := by
  have hM := made_yes h
  have c0 := h.c0
  have c1 := h.c1
  rw [k.sn] at c1
  have i1 : ¬ (n : Int) ≤ (fr : Int) := by omega
  have i2 : ((fr : Int) == (st.id : Int)) = false := by
    simp
    omega
  have hd := decM_back hn7 hs
  obtain ⟨hB, hmay⟩ := decM_mb hn7 hd
  obtain ⟨dn, hdn⟩ : ∃ dn, dn = d.length := ⟨_, rfl⟩
  obtain ⟨dl, hdl⟩ : ∃ dl, dl = L.length := ⟨_, rfl⟩
  have hDc : Calls Try.prog 29 #[.slice x nn c, .int .i64 fr, .int .i64 n] w fun e w' => ∃ X C Y CY, e = .returned (.tuple #[.agg #[.int .i64 4, .int .i64 num, .int .i64 p1, .int .i64 p2, .int .i64 a1, .int .i64 a2, .slice X dn C, .int .i64 kn, .slice Y dl CY], .bool true]) ∧ Hid (Below w.heap.size w w' ∧ Sv w' X dn C d ∧ L.length = dl ∧ DcsAt w' Y L ∧ (∀ a, Y = some a → w.heap.size ≤ a.block)) := by
    have q := decode_any x nn c _ n fr hn7 w hl hnn
    rw [hd] at q
    refine q.mono ?_
    rintro e w' ⟨X, C, Y, CY, he, H⟩
    refine ⟨X, C, Y, CY, ?_, H.out.1, ⟨?_, ?_, fun a ha => (H.out.2.tb a ha).2⟩, hdl.symm, (own_dcs H.out.2.own).2, fun a ha => ?_⟩
    · rw [he, hdn, hdl]
      rfl
    · rw [hdn]
      exact H.out.2.sl
    · have := hB.len
      rw [hdn]
      exact Nat.le_trans this (by omega)
    · obtain ⟨x9, c9, e9, _, _, q9⟩ := H.out.2.own.form
      injection e9 with e9
      obtain ⟨k9, hk9, h9, _⟩ := q9 a (e9 ▸ ha)
      rw [hk9]
      exact h9
  have HC : Hid (∀ (W : World) (X : Option Addr) (C : Nat) (Y : Option Addr) (CY : Nat), Below w.heap.size w W → Sv W X dn C d → L.length = dl → DcsAt W Y L → (∀ a, Y = some a → w.heap.size ≤ a.block) → Calls Try.prog 32 #[.pointer (some ⟨g.p, 0, none⟩), .int .i64 fr, .int .i64 num] W fun e w' => ∃ R, e = .returned R ∧ Hid (Did n said G w w' B g st R 10267 (D + 65))) := by
    intro W X C Y CY bb hsv hLl hdc hy
    have hk := h.below bb
    refine (compare_any hk k q nb hn7 (fr : Int) ⟨by omega, by omega, by omega⟩ num hs.num).mono ?_
    rintro e w' ⟨R, rfl, H⟩
    exact ⟨R, rfl, Did.from_ bb ((H.out.did (r.mono (by omega)) (Kp.refl _)).mono (by omega) (Nat.le_refl _))⟩
  clear h hl hd hB hmay hdn hdl k q nb r hs hm hgn
  go_enter Try.func22, Try.ntmps22
  go_wp2_with (first
    | (
       go_at_call 26; refine hM.mono ?_; rintro e w1 ⟨rfl, hw1⟩; subst w1; clear hM)
    | (
       go_at_call 29; refine hDc.mono ?_; rintro e w2 ⟨X, C, Y, CY, rfl, H2⟩; clear hDc
       have b3 := al w2 (.cells #[.int .i64 4, .int .i64 num, .int .i64 p1, .int .i64 p2, .int .i64 a1, .int .i64 a2, .slice X dn C, .int .i64 kn, .slice Y dl CY] 76)
       have hC := HC.out _ X C Y CY (on H2.out.1 b3) (H2.out.2.1.below b3) H2.out.2.2.1 (H2.out.2.2.2.1.below b3) H2.out.2.2.2.2
       clear HC b3)
    | (
       go_at_call 32; refine hC.mono ?_; rintro e w3 ⟨R3, rfl, H3⟩; clear hC))
  go_ret2
  exact ⟨_, rfl, H3.out⟩

set_option maxHeartbeats 1600000 in
theorem recvk_5 (h : NdAt w B g st) (k : NodeOk n said G st) (q : GI n said G) (nb : NB n st) (h1 : 1 ≤ n) (hn7 : n ≤ 7) (hgn : gnb g < 100000000000) (r : Rs n D st) (hD : D < 59900) (fr : Nat) (hfn : fr < n) (hfi : fr ≠ st.id) (num kn : Nat) (p1 p2 a1 a2 : Int) (d : List Nat) (L : List Dc) (hs : Sent n fr ⟨5, num, ⟨(p1, p2), (a1, a2), d⟩, kn, L⟩) (hm : MsgOk n said G fr ⟨5, num, ⟨(p1, p2), (a1, a2), d⟩, kn, L⟩) (x : Option Addr) (nn c : Nat) (hl : Fl.Sl w x nn c (encM ⟨5, num, ⟨(p1, p2), (a1, a2), d⟩, kn, L⟩ fr)) (hnn : nn ≤ 140737488351232) :
    Calls Try.prog 22 #[.pointer (some ⟨g.p, 0, none⟩), .int .i64 fr, .slice x nn c] w fun e w' => ∃ R, e = .returned (.tuple #[R, .int .i64 0]) ∧ Hid (Did n said G w w' B g st R 10267 (D + 65)) := by
  have hM := made_yes h
  have c0 := h.c0
  have c1 := h.c1
  rw [k.sn] at c1
  have i1 : ¬ (n : Int) ≤ (fr : Int) := by omega
  have i2 : ((fr : Int) == (st.id : Int)) = false := by
    simp
    omega
  have hd := decM_back hn7 hs
  obtain ⟨hB, hmay⟩ := decM_mb hn7 hd
  obtain ⟨dn, hdn⟩ : ∃ dn, dn = d.length := ⟨_, rfl⟩
  obtain ⟨dl, hdl⟩ : ∃ dl, dl = L.length := ⟨_, rfl⟩
  have hDc : Calls Try.prog 29 #[.slice x nn c, .int .i64 fr, .int .i64 n] w fun e w' => ∃ X C Y CY, e = .returned (.tuple #[.agg #[.int .i64 5, .int .i64 num, .int .i64 p1, .int .i64 p2, .int .i64 a1, .int .i64 a2, .slice X dn C, .int .i64 kn, .slice Y dl CY], .bool true]) ∧ Hid (Below w.heap.size w w' ∧ Sv w' X dn C d ∧ L.length = dl ∧ DcsAt w' Y L ∧ (∀ a, Y = some a → w.heap.size ≤ a.block)) := by
    have q := decode_any x nn c _ n fr hn7 w hl hnn
    rw [hd] at q
    refine q.mono ?_
    rintro e w' ⟨X, C, Y, CY, he, H⟩
    refine ⟨X, C, Y, CY, ?_, H.out.1, ⟨?_, ?_, fun a ha => (H.out.2.tb a ha).2⟩, hdl.symm, (own_dcs H.out.2.own).2, fun a ha => ?_⟩
    · rw [he, hdn, hdl]
      rfl
    · rw [hdn]
      exact H.out.2.sl
    · have := hB.len
      rw [hdn]
      exact Nat.le_trans this (by omega)
    · obtain ⟨x9, c9, e9, _, _, q9⟩ := H.out.2.own.form
      injection e9 with e9
      obtain ⟨k9, hk9, h9, _⟩ := q9 a (e9 ▸ ha)
      rw [hk9]
      exact h9
  have HC : Hid (∀ (W : World) (X : Option Addr) (C : Nat) (Y : Option Addr) (CY : Nat), Below w.heap.size w W → Sv W X dn C d → L.length = dl → DcsAt W Y L → (∀ a, Y = some a → w.heap.size ≤ a.block) → Calls Try.prog 33 #[.pointer (some ⟨g.p, 0, none⟩), .int .i64 fr, .agg #[.int .i64 5, .int .i64 num, .int .i64 p1, .int .i64 p2, .int .i64 a1, .int .i64 a2, .slice X dn C, .int .i64 kn, .slice Y dl CY]] W fun e w' => ∃ R, e = .returned R ∧ Hid (Did n said G w w' B g st R 10267 (D + 65))) := by
    intro W X C Y CY bb hsv hLl hdc hy
    have hk := h.below bb
    have hfl : ∀ j, fp g j → j < w.heap.size := fun j hj => (h.u8 j hj).1
    refine (take_gen hk k q nb h1 hn7 hgn r hD fr hfn hfi _ _ _ _ _ _ num kn dl CY Y L hLl hdc (fun a ha hf => ?_) hB.dok (hm.decs rfl) hB.num hB.known (by rw [← hLl]; exact hB.dl)).mono ?_
    · have := hy a ha
      have := hfl _ hf
      omega
    · rintro e w' ⟨R, rfl, H⟩
      exact ⟨R, rfl, Did.from_ bb H.out⟩
  clear h hl hd hB hmay hdn hdl k q nb r hs hm hgn
  go_enter Try.func22, Try.ntmps22
  go_wp2_with (first
    | (
       go_at_call 26; refine hM.mono ?_; rintro e w1 ⟨rfl, hw1⟩; subst w1; clear hM)
    | (
       go_at_call 29; refine hDc.mono ?_; rintro e w2 ⟨X, C, Y, CY, rfl, H2⟩; clear hDc
       have b3 := al w2 (.cells #[.int .i64 5, .int .i64 num, .int .i64 p1, .int .i64 p2, .int .i64 a1, .int .i64 a2, .slice X dn C, .int .i64 kn, .slice Y dl CY] 76)
       have hC := HC.out _ X C Y CY (on H2.out.1 b3) (H2.out.2.1.below b3) H2.out.2.2.1 (H2.out.2.2.2.1.below b3) H2.out.2.2.2.2
       clear HC b3)
    | (
       go_at_call 33; refine hC.mono ?_; rintro e w3 ⟨R3, rfl, H3⟩; clear hC))
  go_ret2
  exact ⟨_, rfl, H3.out⟩

theorem recv_any (h : NdAt w B g st) (k : NodeOk n said G st) (q : GI n said G) (nb : NB n st) (h1 : 1 ≤ n) (hn7 : n ≤ 7) (hgn : gnb g < 100000000000) (r : Rs n D st) (hD : D < 59900) (fr : Nat) (hfn : fr < n) (hfi : fr ≠ st.id) (m : Ms) (hs : Sent n fr m) (hm : MsgOk n said G fr m) (x : Option Addr) (nn c : Nat) (hl : Fl.Sl w x nn c (encM m fr)) (hnn : nn ≤ 140737488351232) :
    Calls Try.prog 22 #[.pointer (some ⟨g.p, 0, none⟩), .int .i64 fr, .slice x nn c] w fun e w' => ∃ R, e = .returned (.tuple #[R, .int .i64 0]) ∧ Hid (Did n said G w w' B g st R 10267 (D + 65)) := by
  obtain ⟨kd, num, ⟨⟨p1, p2⟩, ⟨a1, a2⟩, d⟩, kn, L⟩ := m
  rcases kind_pos hs.may with e | e | e | e | e
  all_goals (dsimp only at e; subst e)
  · exact recvk_1 h k q nb h1 hn7 hgn r hD fr hfn hfi num kn p1 p2 a1 a2 d L hs hm x nn c hl hnn
  · exact recvk_2 h k q nb h1 hn7 hgn r hD fr hfn hfi num kn p1 p2 a1 a2 d L hs hm x nn c hl hnn
  · exact recvk_3 h k q nb h1 hn7 hgn r hD fr hfn hfi num kn p1 p2 a1 a2 d L hs hm x nn c hl hnn
  · exact recvk_4 h k q nb h1 hn7 hgn r hD fr hfn hfi num kn p1 p2 a1 a2 d L hs hm x nn c hl hnn
  · exact recvk_5 h k q nb h1 hn7 hgn r hD fr hfn hfi num kn p1 p2 a1 a2 d L hs hm x nn c hl hnn

end

end Go.Proofs.Ytfgfjfemaniaiaa.Px

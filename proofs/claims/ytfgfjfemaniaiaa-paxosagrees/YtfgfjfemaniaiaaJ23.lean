/-
  4 texts of this proof, one behind the other: PxAns2, PxAns3, PxRecv1, PxHear.
-/
import Derived.Test.YtfgfjfemaniaiaaJ01
import Derived.Test.YtfgfjfemaniaiaaJ22
import Derived.Test.YtfgfjfemaniaiaaJ20
import Derived.Test.YtfgfjfemaniaiaaJ15
import Derived.Test.YtfgfjfemaniaiaaJ21
/-
  Package paxos: answer, at any state: what is known of all monitors stays true.
  Conditions: the monitor is one that New gave ('NdAt').
-/
namespace Go.Proofs.Ytfgfjfemaniaiaa.Px
open Go.RowKit Wi By Fl Ba
set_option linter.unusedVariables false
set_option linter.unusedSimpArgs false
set_option maxRecDepth 100000

section
variable {w : World} {B : Nat} {g : Ln} {st : Nd} {n : Nat} {said : ByteArray → Prop} {G : Gh}

set_option maxHeartbeats 1600000 in
theorem ans_known (h : NdAt w B g st) (hi7 : st.id < 7) (fr : Int) (m : Ms) (x y : Option Addr) (c cy : Nat) (h1 : 1 ≤ m.num) (h2 : m.num ≤ st.dec.length) (hfr : 0 ≤ fr ∧ fr < n ∧ fr ≠ st.id) :
    Calls Try.prog 30 #[.pointer (some ⟨g.p, 0, none⟩), .int .i64 fr, mv m x c y cy] w fun e w' => ∃ R, e = .returned R ∧ Hid (Below w.heap.size w w' ∧ MlsK w' w.heap.size R n st.id 1 (fun u => u = tellM st (m.num - 1))) := by
  obtain ⟨k, hk⟩ : ∃ k, k = m.num - 1 := ⟨_, rfl⟩
  rw [← hk]
  have hnum : m.num = k + 1 := by omega
  have HT := hid (fun (W : World) (b : Below w.heap.size w W) => tell_any (h.below b) hi7 fr k (by omega))
  have c2 := h.c2
  obtain ⟨x2, cc2, e2, _⟩ := h.rd
  rw [e2] at c2
  have hpl := h.obj.lt
  have i1 : (m.num : Int) ≤ (st.dec.length : Int) := by omega
  have hdl8 : (st.dec.length : Int) ≤ 80000 := by have := h.dl; omega
  obtain ⟨kd, num, ⟨⟨p1, p2⟩, ⟨a1, a2⟩, dd⟩, kn, L⟩ := m
  unfold mv
  dsimp only at hnum i1 h1 h2 ⊢
  rw [← hnum] at HT
  clear hnum hk h1 h2
  have bD : Below w.heap.size w (w.alloc (.cells #[.int .i64 (kd : Int), .int .i64 (num : Int), .int .i64 p1, .int .i64 p2, .int .i64 a1, .int .i64 a2, .slice x dd.length c, .int .i64 (kn : Int), .slice y L.length cy] 76)).drew := on (al _ _) (Below.refl _ _).drew
  have s2 := keep bD c2
  have q1 : (w.alloc (.cells #[.int .i64 (kd : Int), .int .i64 (num : Int), .int .i64 p1, .int .i64 p2, .int .i64 a1, .int .i64 a2, .slice x dd.length c, .int .i64 (kn : Int), .slice y L.length cy] 76)).drew.cell? ⟨w.heap.size, 1, none⟩ = some (.int .i64 (num : Int)) := by go_simp
  have HF := hid hfr
  obtain ⟨dlen, hdlen⟩ : ∃ k, st.dec.length = k := ⟨_, rfl⟩
  rw [hdlen] at i1 s2 hdl8
  clear h c2 e2 hdlen
  go_enter Try.func30, Try.ntmps30
  go_wp2_with fail
  refine wp_region_held_drew (S := fun q => q.cell? ⟨w.heap.size, 1, none⟩ = some (.int .i64 (num : Int)) ∧ q.cell? ⟨g.p, 2, none⟩ = some (.slice x2 dlen cc2)) (by kernel_rfl) ⟨q1, s2⟩ (fun hHeld => ?_)
  generalize (w.alloc (.cells #[.int .i64 (kd : Int), .int .i64 (num : Int), .int .i64 p1, .int .i64 p2, .int .i64 a1, .int .i64 a2, .slice x dd.length c, .int .i64 (kn : Int), .slice y L.length cy] 76)).drew = wD at *
  refine By.hk 0 ?_
  refine By.hk 1 ?_
  refine By.hk 2 ?_
  refine By.hk 3 ?_
  refine By.hk 4 ?_
  refine By.hk 5 ?_
  refine By.hk 6 ?_
  refine By.hk 7 ?_
  refine wpAnyH_done (by kernel_rfl) ?_ _
  clear hHeld
  have hT := HT.out wD bD
  go_wp2_with (
     go_at_call 47; refine hT.mono ?_; rintro e w1 ⟨z, l, cz, rfl, H1⟩; clear hT)
  go_ret
  have b1 := on bD H1.out.2.1
  exact ⟨_, rfl, on b1 (al _ _), mls_one b1.size fr z l cz (tellM st k) HF.out rfl (bm_of_vl H1.out.2 H1.out.1)⟩

theorem uv10 {k : Nat} (h : k < 18446744073709551616) : (uv k).length ≤ 10 := uv_ten h

theorem enc3_len {n id num : Nat} {a : Ac} (hn : n ≤ 7) (hid : id < n) (hnum : num ≤ 2147483647) (hp : Sb n a.p) (ha : Sb n a.a) (hd : a.d.length ≤ 4104) : (encM ⟨3, num, a, 0, []⟩ id).length ≤ 500000 := by
  have h8 : (fx (fnv (body ⟨3, num, a, 0, []⟩ id)) 8).length = 8 := fx_len _ _
  unfold encM sealed
  rw [List.length_append, h8]
  unfold body wBal
  rw [if_neg (by show ¬ (3 : Nat) = 4; decide), if_neg (by show ¬ (3 : Nat) = 5; decide)]
  simp only [List.length_append]
  have p0 := hp.r1
  have p1 := hp.m1
  have a0 := ha.r1
  have a1 := ha.m1
  have q1 := uv10 (k := id) (by omega)
  have q2 := uv10 (k := 3) (by omega)
  have q3 := uv10 (k := num) (by omega)
  have q4 := uv10 (k := a.p.1.toNat) (by omega)
  have q5 := uv10 (k := a.p.2.toNat) (by omega)
  have q6 := uv10 (k := a.a.1.toNat) (by omega)
  have q7 := uv10 (k := a.a.2.toNat) (by omega)
  have q8 := uv10 (k := a.d.length) (by omega)
  omega

theorem sent_state {n id num : Nat} {a : Ac} (hid : id < n) (hnum : num ≤ 2147483647) (h1 : 1 ≤ num) (hp : Sb n a.p) (ha : Sb n a.a) (hd : a.d.length ≤ 4104) (hm : mayA a.p a.a a.d.length = true) (hz : zb a.p = false) (hv : a.a = z0 ∨ (dOf n a.d).isSome = true) : Sent n id ⟨3, num, a, 0, []⟩ := by
  refine ⟨hid, hnum, ?_, (fun e => by cases e), (fun e => by cases e), fun _ _ => ⟨rfl, rfl, hp, ha, hd⟩⟩
  have e1 : (zb a.a || (dOf n a.d).isSome) = true := by
    rcases hv with e | e
    · rw [e]; rfl
    · rw [e]; simp
  unfold mayM mayState
  simp [hm, hz, h1]
  simpa using e1

end

end Go.Proofs.Ytfgfjfemaniaiaa.Px

/-
  Package paxos: answer, at any state: what is known of all monitors stays true.
  Conditions: the monitor is one that New gave ('NdAt').
-/
namespace Go.Proofs.Ytfgfjfemaniaiaa.Px
open Go.RowKit Wi By Fl Ba
set_option linter.unusedVariables false
set_option linter.unusedSimpArgs false
set_option maxRecDepth 100000

theorem mayA_parts {p a : Bt} {k : Nat} (h : mayA p a k = true) : mzb p = true ∧ mzb a = true ∧ ltb p a = false ∧ (zb a = false ∨ k = 0) := by
  unfold mayA at h
  simp at h
  exact ⟨h.1.1.1, h.1.1.2, h.1.2, h.2⟩

theorem zb_iff {a : Bt} : zb a = true ↔ a = z0 := by
  obtain ⟨a1, a2⟩ := a
  unfold zb z0
  simp

theorem may_of_mz {p : Bt} (h : mzb p = true) (hz : zb p = false) : mayb p = true := by
  unfold mzb at h
  rw [hz] at h
  simpa using h

theorem may_nz {p : Bt} (h : mayb p = true) : zb p = false := by
  cases e : zb p with
  | false => rfl
  | true =>
    rw [zb_iff.1 e] at h
    exact absurd h (by decide)

section
variable {w : World} {B : Nat} {g : Ln} {st : Nd} {n : Nat} {said : ByteArray → Prop} {G : Gh}

/- What a state that is told comes to. -/
theorem state_mail {G' : Gh} (q : GI n said G') (hn : n ≤ 7) {num id : Nat} {a : Ac} (hid : id < n) (hnum : num ≤ 2147483647) (h1 : 1 ≤ num) (hp : Sb n a.p) (ha : Sb n a.a) (hm : mayA a.p a.a a.d.length = true) (hz : zb a.p = false) (ht : Told G' num id a) :
    (Sent n id ⟨3, num, a, 0, []⟩ ∧ MsgOk n said G' id ⟨3, num, a, 0, []⟩) ∧ (encM ⟨3, num, a, 0, []⟩ id).length ≤ 500000 := by
  have hv : (a.a = z0 ∨ (dOf n a.d).isSome = true) ∧ a.d.length ≤ 4104 := by
    rcases ht.acc with e | ⟨_, e⟩
    · refine ⟨.inl e, ?_⟩
      rcases (mayA_parts hm).2.2.2 with z | z
      · rw [e] at z
        exact absurd z (by decide)
      · omega
    · obtain ⟨d, d1, d2⟩ := q.val _ _ _ e
      refine ⟨.inr ?_, ?_⟩
      · rw [d1, dOf_w n hn d (asked_sd d2) d2.ser]
        rfl
      · rw [d1]
        exact dbytes_len hn (asked_sd d2)
  exact ⟨⟨sent_state hid hnum h1 hp ha hv.2 hm hz hv.1, MsgOk.state _ _ _ ht⟩, enc3_len hn hid hnum hp ha hv.2⟩

theorem one_mls {w' : World} {z : Option Addr} {l cz : Nat} {id : Nat} {v9 : MlV} {fr : Int} {msg : Ms} {P : Ms → Prop} {B' : Nat} (ho : OwnMl w' B' (.slice z l cz) [v9]) (hd : v9.dst = fr) (hfr : 0 ≤ fr ∧ fr < n ∧ fr ≠ id) (hs : Fl.Sl w' v9.x v9.n v9.c (encM msg id)) (ht : ∀ a, v9.x = some a → B' ≤ a.block ∧ Tb w' a.block 5) (hP : P msg) (hl : (encM msg id).length ≤ 500000) : MlsK w' B' (.slice z l cz) n id 1 P :=
  ⟨[v9], ho, Nat.le_refl _, fun m hm => by
    simp at hm
    subst hm
    rw [hd]
    exact ⟨hfr.1, hfr.2.1, hfr.2.2, msg, hP, hs, by rw [← hs.len]; exact hl, fun a ha => (ht a ha).2⟩⟩

theorem sb_bok {b : Bt} (h : Sb n b) (hn : n ≤ 7) : BOk b ∧ bwf b := by
  have := h.r0
  have := h.r1
  have := h.m0
  have := h.m1
  exact ⟨⟨by omega, by omega, by omega, by omega⟩, wfi_all (by omega) (by omega), wfi_all (by omega) (by omega)⟩

set_option maxHeartbeats 1600000 in
theorem answer_any (h : NdAt w B g st) (k : NodeOk n said G st) (q : GI n said G) (nb : NB n st) (hn : n ≤ 7) (hgn : gnb g < 1000000000000000) (fr : Nat) (hfn : fr < n) (hfi : fr ≠ st.id) (m : Ms) (hs : Sent n fr m) (hm : MsgOk n said G fr m) (hkind : m.kind = 1 ∨ m.kind = 2) (x y : Option Addr) (c cy : Nat) (hsv : Sv w x m.st.d.length c m.st.d) :
    Calls Try.prog 30 #[.pointer (some ⟨g.p, 0, none⟩), .int .i64 (fr : Int), mv m x c y cy] w fun e w' => ∃ R, e = .returned R ∧ Hid (∃ st', Step n said G w w' B g st st' R 1 ∧ st'.dec = st.dec ∧ st'.wait = st.wait ∧ st'.id = st.id ∧ st'.ser = st.ser ∧ st'.turn = st.turn) := by
  have hfr : (0 : Int) ≤ (fr : Int) ∧ (fr : Int) < n ∧ (fr : Int) ≠ st.id := ⟨by omega, by omega, by omega⟩
  have hi7 : st.id < 7 := by have := k.sid; omega
  have hms : 1 ≤ m.num ∧ mayState m.st n = true := by
    have q := hs.may
    unfold mayM at q
    rcases hkind with e | e <;> rw [e] at q <;> simp at q
    · exact ⟨q.1.1.1, q.1.1.2⟩
    · exact ⟨q.1.1.1, q.1.1.2⟩
  have hpz : mayb m.st.p = true := by
    have q := hms.2
    unfold mayState at q
    simp at q
    exact may_of_mz (mayA_parts q.1.1).1 q.1.2
  obtain ⟨_, _, hsp, hsa, hsd⟩ := hs.ko (by rcases hkind with e | e <;> omega) (by rcases hkind with e | e <;> omega)
  by_cases hkn : m.num ≤ st.dec.length
  · refine (ans_known h hi7 (fr : Int) m x y c cy hms.1 hkn hfr).mono fun e w' ⟨R, a1, a2⟩ => ⟨R, a1, st, Step.same h a2.out.1 q k nb (a2.out.2.mono (Nat.le_refl _) (fun u hu => ?_)), rfl, rfl, rfl, rfl, rfl⟩
    subst hu
    have hx := k.tells (m.num - 1 + 1) 64 st.dec.length (by omega)
    rw [Nat.add_sub_cancel] at hx
    exact ⟨sent_tell k (m.num - 1) (by omega) h.dl, hx⟩
  · have hnl : st.dec.length < m.num := by omega
    obtain ⟨⟨⟨ap1, ap2⟩, ⟨aa1, aa2⟩, vd⟩, hst⟩ : ∃ A, st.acc m.num = A := ⟨_, rfl⟩
    obtain ⟨hbp, hba⟩ := nb.acc m.num hnl
    have hmay := k.may m.num hnl
    have htold := k.tell m.num hnl
    obtain ⟨kd, num, ⟨⟨p1, p2⟩, ⟨a1, a2⟩, dd⟩, kn, L⟩ := m
    dsimp only at hst hbp hba hmay htold hnl hpz hsp hsa hsd hkind hms hsv
    have hq := (sb_bok hbp hn).1
    have hb := (sb_bok hba hn).1
    rw [hst] at hq hb
    have hpp := may_bok hpz
    have hno : ∀ (w' : World), Goes w w' B g { st with acc := upA st.acc num ⟨(ap1, ap2), (aa1, aa2), vd⟩ } 1 → Goes w w' B g st 1 := fun w' hg => by
      have e9 : upA st.acc num ⟨(ap1, ap2), (aa1, aa2), vd⟩ = st.acc := by
        funext i
        by_cases e : i = num
        · subst e
          rw [upA_same, hst]
        · exact upA_other _ _ e
      rw [e9] at hg
      exact hg
    cases hfree : freeb (ap1, ap2) (aa1, aa2) vd.length (p1, p2) with
    | false =>
      have hz : zb (st.acc num).p = false := by
        rw [hst]
        cases e : zb ((ap1, ap2) : Bt) with
        | false => rfl
        | true =>
          have e2 := zb_iff.1 e
          have hm9 := hmay
          rw [hst] at hm9
          dsimp only at hm9
          have : freeb (ap1, ap2) (aa1, aa2) vd.length (p1, p2) = true := free_of (by rw [e2]; exact may_pos hpz) hpz hm9
          rw [this] at hfree
          cases hfree
      obtain ⟨s1, s2⟩ := state_mail q hn k.sid hs.num hms.1 hbp hba hmay hz htold
      rw [hst] at s1 s2
      have fin : ∀ (w' : World) (z : Option Addr) (l cz : Nat), Hid (∃ v9 : MlV, Goes w w' B g { st with acc := upA st.acc num ⟨(ap1, ap2), (aa1, aa2), vd⟩ } 1 ∧ OwnMl w' w.heap.size (.slice z l cz) [v9] ∧ v9.dst = (fr : Int) ∧ Fl.Sl w' v9.x v9.n v9.c (encM ⟨3, num, ⟨(ap1, ap2), (aa1, aa2), vd⟩, 0, []⟩ st.id) ∧ ∀ a, v9.x = some a → w.heap.size ≤ a.block ∧ Tb w' a.block 5) → ∃ st', Step n said G w w' B g st st' (.slice z l cz) 1 ∧ st'.dec = st.dec ∧ st'.wait = st.wait ∧ st'.id = st.id ∧ st'.ser = st.ser ∧ st'.turn = st.turn := fun w' z l cz hH => by
        obtain ⟨v9, t1, t2, t3, t4, t5⟩ := hH.out
        exact ⟨st, ⟨G, hno w' t1, q, GExt.refl _ _, k, nb, one_mls t2 t3 hfr t4 t5 s1 s2⟩, rfl, rfl, rfl, rfl, rfl⟩
      rcases hkind with e | e
      · subst e
        exact (ans_1_no h num hnl ap1 ap2 aa1 aa2 vd hst hq hb hi7 (fr : Int) kn dd.length c L.length cy p1 p2 a1 a2 x y dd hs.num hsv hpp.1 hpp.2 hfree hgn).mono fun e w' ⟨z, l, cz, b1, b2⟩ => ⟨_, b1, fin w' z l cz b2⟩
      · subst e
        exact (ans_2_no h num hnl ap1 ap2 aa1 aa2 vd hst hq hb hi7 (fr : Int) kn dd.length c L.length cy p1 p2 a1 a2 x y dd hs.num hsv hpp.1 hpp.2 hfree hgn).mono fun e w' ⟨z, l, cz, b1, b2⟩ => ⟨_, b1, fin w' z l cz b2⟩
    | true =>
      have hfree2 : freeb (st.acc num).p (st.acc num).a (st.acc num).d.length (p1, p2) = true := by rw [hst]; exact hfree
      have nbU : ∀ (A : Ac), Sb n A.p → Sb n A.a → NB n { st with acc := upA st.acc num A } := fun A h1 h2 => ⟨fun s hs9 => by
        show Sb n (upA st.acc num A s).p ∧ Sb n (upA st.acc num A s).a
        by_cases e : s = num
        · subst e
          rw [upA_same]
          exact ⟨h1, h2⟩
        · rw [upA_other _ _ e]
          exact nb.acc s hs9, nb.bid⟩
      rcases hkind with e | e
      · subst e
        obtain ⟨G', g1, g2, g3, g4⟩ := k.promise q num hnl (p1, p2) hfree2
        have hmA : mayA (p1, p2) (st.acc num).a (st.acc num).d.length = true := may_prep hfree2
        obtain ⟨s1, s2⟩ := state_mail (a := ⟨(p1, p2), (st.acc num).a, (st.acc num).d⟩) g1 hn k.sid hs.num hms.1 hsp hba hmA (may_nz hpz) g4
        rw [hst] at g3 s1 s2 hba
        exact (ans_1_yes h num hnl ap1 ap2 aa1 aa2 vd hst hq hb hi7 (fr : Int) kn dd.length c L.length cy p1 p2 a1 a2 x y dd hs.num hsv hpp.1 hpp.2 hfree hgn).mono fun e w' ⟨z, l, cz, b1, b2⟩ => by
          obtain ⟨v9, t1, t2, t3, t4, t5⟩ := b2.out
          exact ⟨_, b1, _, ⟨G', t1, g1, g2, g3, nbU _ hsp hba, one_mls t2 t3 hfr t4 t5 s1 s2⟩, rfl, rfl, rfl, rfl, rfl⟩
      · subst e
        obtain ⟨G', g1, g2, g3, g4, _⟩ := k.vote q num hnl (p1, p2) dd (hm.acc rfl) hfree2
        have hmA : mayA (p1, p2) (p1, p2) dd.length = true := may_acc hpz
        obtain ⟨s1, s2⟩ := state_mail (a := ⟨(p1, p2), (p1, p2), dd⟩) g1 hn k.sid hs.num hms.1 hsp hsp hmA (may_nz hpz) g4
        exact (ans_2_yes h num hnl ap1 ap2 aa1 aa2 vd hst hq hb hi7 (fr : Int) kn dd.length c L.length cy p1 p2 a1 a2 x y dd hs.num hsv hpp.1 hpp.2 hfree hgn).mono fun e w' ⟨z, l, cz, b1, b2⟩ => by
          obtain ⟨v9, t1, t2, t3, t4, t5⟩ := b2.out
          exact ⟨_, b1, _, ⟨G', t1, g1, g2, g3, nbU _ hsp hsp, one_mls t2 t3 hfr t4 t5 s1 s2⟩, rfl, rfl, rfl, rfl, rfl⟩

end

end Go.Proofs.Ytfgfjfemaniaiaa.Px

/-
  What a monitor without a bid makes of states that it is told, of how many decrees another one knows; start, where nothing waits.
  Conditions: the monitor is one that New gave ('NdAt'), without a bid.
-/
namespace Go.Proofs.Ytfgfjfemaniaiaa.Px
open Go.RowKit Wi By Fl Ba
set_option linter.unusedVariables false
set_option linter.unusedSimpArgs false
set_option maxRecDepth 100000

section
variable {w : World} {B : Nat} {g : Ln} {st : Nd}

theorem NdAt.nob (h : NdAt w B g st) (hb : st.bid = none) : w.cell? ⟨g.p, 6, none⟩ = some (.pointer none) := by
  have hgb : g.b = none := by
    rcases h.bid with ⟨q, _⟩ | ⟨l, b, q1, q2, _⟩
    · exact q
    · rw [hb] at q2
      cases q2
  rw [h.c6, hgb]
  rfl

set_option maxHeartbeats 1600000 in
theorem hear_idle (h : NdAt w B g st) (hb : st.bid = none) (fr : Int) (v0 v1 v2 v3 v4 v5 v6 v7 v8 : Value) :
    Calls Try.prog 31 #[.pointer (some ⟨g.p, 0, none⟩), .int .i64 fr, .agg #[v0, v1, v2, v3, v4, v5, v6, v7, v8]] w fun e w' => e = .returned (.slice none 0 0) ∧ Hid (Below w.heap.size w w') := by
  have c6 := h.nob hb
  have hpl := h.obj.lt
  have bD : Below w.heap.size w (w.alloc (.cells #[v0, v1, v2, v3, v4, v5, v6, v7, v8] 76)).drew := on (al _ _) (Below.refl _ _).drew
  have s6 := keep bD c6
  have hpe : ∀ W : World, (binOp .eql 61 (.pointer none) (.pointer none)).run Try.prog W = .ok (.bool true) W := fun _ => by kernel_rfl
  clear h hb
  generalize g.p = p at *
  go_enter Try.func31, Try.ntmps31
  go_wp2_with fail
  refine wp_region_held_drew (S := fun q => q.cell? ⟨p, 6, none⟩ = some (.pointer none)) (by kernel_rfl) s6 (fun hHeld => ?_)
  generalize (w.alloc (.cells #[v0, v1, v2, v3, v4, v5, v6, v7, v8] 76)).drew = wD at *
  refine By.hk 0 ?_
  refine By.hk 1 ?_
  refine By.hk 2 ?_
  refine By.hk 3 ?_
  refine By.hk 4 ?_
  refine By.hk 5 ?_
  refine wpAnyH_take (i := 6) (v := undef) rfl (by kernel_rfl) (by kernel_rfl) (by kernel_rfl) (fun _ _ _ h => h) (Or.inr ⟨by rfl, rfl⟩) (by assumption) ?_
  (try simp only [Act.put, List.getElem_toArray, List.getElem_cons_succ, List.getElem_cons_zero, List.setIfInBounds_toArray, List.set_cons_zero, List.set_cons_succ])
  refine wpAnyH_take (i := 7) (v := undef) rfl (by kernel_rfl) (by kernel_rfl) (by kernel_rfl) (fun _ _ _ h => h) (Or.inr ⟨by rfl, rfl⟩) (by assumption) ?_
  (try simp only [Act.put, List.getElem_toArray, List.getElem_cons_succ, List.getElem_cons_zero, List.setIfInBounds_toArray, List.set_cons_zero, List.set_cons_succ])
  refine wpAnyH_take (i := 8) (v := undef) rfl (by kernel_rfl) (by kernel_rfl) (by kernel_rfl) (fun _ _ _ h => h) (Or.inr ⟨by rfl, rfl⟩) (by assumption) ?_
  (try simp only [Act.put, List.getElem_toArray, List.getElem_cons_succ, List.getElem_cons_zero, List.setIfInBounds_toArray, List.set_cons_zero, List.set_cons_succ])
  refine wpAnyH_take (i := 9) (v := undef) rfl (by kernel_rfl) (by kernel_rfl) (by kernel_rfl) (fun _ _ _ h => h) (Or.inr ⟨by rfl, rfl⟩) (by assumption) ?_
  (try simp only [Act.put, List.getElem_toArray, List.getElem_cons_succ, List.getElem_cons_zero, List.setIfInBounds_toArray, List.set_cons_zero, List.set_cons_succ])
  refine wpAnyH_take (i := 10) (v := undef) rfl (by kernel_rfl) (by kernel_rfl) (by kernel_rfl) (fun _ _ _ h => h) (Or.inr ⟨by rfl, rfl⟩) (by assumption) ?_
  (try simp only [Act.put, List.getElem_toArray, List.getElem_cons_succ, List.getElem_cons_zero, List.setIfInBounds_toArray, List.set_cons_zero, List.set_cons_succ])
  refine wpAnyH_take (i := 11) (v := undef) rfl (by kernel_rfl) (by kernel_rfl) (by kernel_rfl) (fun _ _ _ h => h) (Or.inr ⟨by rfl, rfl⟩) (by assumption) ?_
  (try simp only [Act.put, List.getElem_toArray, List.getElem_cons_succ, List.getElem_cons_zero, List.setIfInBounds_toArray, List.set_cons_zero, List.set_cons_succ])
  refine wpAnyH_take (i := 12) (v := undef) rfl (by kernel_rfl) (by kernel_rfl) (by kernel_rfl) (fun _ _ _ h => h) (Or.inr ⟨by rfl, rfl⟩) (by assumption) ?_
  (try simp only [Act.put, List.getElem_toArray, List.getElem_cons_succ, List.getElem_cons_zero, List.setIfInBounds_toArray, List.set_cons_zero, List.set_cons_succ])
  refine wpAnyH_take (i := 13) (v := undef) rfl (by kernel_rfl) (by kernel_rfl) (by kernel_rfl) (fun _ _ _ h => h) (Or.inr ⟨by rfl, rfl⟩) (by assumption) ?_
  (try simp only [Act.put, List.getElem_toArray, List.getElem_cons_succ, List.getElem_cons_zero, List.setIfInBounds_toArray, List.set_cons_zero, List.set_cons_succ])
  refine wpAnyH_take (i := 14) (v := undef) rfl (by kernel_rfl) (by kernel_rfl) (by kernel_rfl) (fun _ _ _ h => h) (Or.inr ⟨by rfl, rfl⟩) (by assumption) ?_
  (try simp only [Act.put, List.getElem_toArray, List.getElem_cons_succ, List.getElem_cons_zero, List.setIfInBounds_toArray, List.set_cons_zero, List.set_cons_succ])
  refine wpAnyH_take (i := 15) (v := undef) rfl (by kernel_rfl) (by kernel_rfl) (by kernel_rfl) (fun _ _ _ h => h) (Or.inr ⟨by rfl, rfl⟩) (by assumption) ?_
  (try simp only [Act.put, List.getElem_toArray, List.getElem_cons_succ, List.getElem_cons_zero, List.setIfInBounds_toArray, List.set_cons_zero, List.set_cons_succ])
  refine By.hk 16 ?_
  refine wpAnyH_done (by kernel_rfl) ?_ _
  go_wp2_with fail
  go_ret
  exact ⟨rfl, bD⟩

theorem drive_idle (h : NdAt w B g st) (hb : st.bid = none) : Calls Try.prog 52 #[.pointer (some ⟨g.p, 0, none⟩)] w fun e w' => e = .returned (.slice none 0 0) ∧ w' = w := by
  have c6 := h.nob hb
  clear h hb
  go_enter Try.func52, Try.ntmps52
  go_wp2_with fail
  go_loopw [3, 4, 5, 6, 7] (fun out _ _ _ _ wr => out = .slice none 0 0 ∧ wr = w) (fun _ _ _ _ _ wr => 0)
  case atStart => exact ⟨rfl, rfl⟩
  case round =>
    obtain ⟨rfl, hw⟩ := hrel
    subst hw
    go_wp2_with fail
    go_ret
    exact ⟨rfl, rfl⟩

theorem start_idle (h : NdAt w B g st) (hb : st.bid = none) (hw : st.wait = []) : Calls Try.prog 37 #[.pointer (some ⟨g.p, 0, none⟩)] w fun e w' => e = .returned (.slice none 0 0) ∧ Hid (Below w.heap.size w w') := by
  have hap := app_nil
  have hB := begin_idle h hb hw
  have HD : Hid (∀ w1, Below w.heap.size w w1 → Calls Try.prog 52 #[.pointer (some ⟨g.p, 0, none⟩)] w1 fun e w' => e = .returned (.slice none 0 0) ∧ w' = w1) := fun w1 b1 => drive_idle (h.below b1) hb
  clear h hb hw
  go_enter Try.func37, Try.ntmps37
  go_wp2_with (first
    | (
       go_at_call 57; refine hB.mono ?_; rintro e w1 ⟨rfl, H1⟩; clear hB
       have hD := HD.out w1 H1.out
       clear HD)
    | (
       go_at_call 52; refine hD.mono ?_; rintro e w2 ⟨rfl, hw2⟩; subst w2; clear hD)
    | (
       at_builtin; refine wpList_append_run rfl _ _ 49 rfl _ _ rfl rfl (hap _) ?_))
  go_ret
  exact ⟨rfl, H1.out⟩

theorem compare_fresh (h : NdAt w B g st) (hd : st.dec = []) (hi : st.id < 7) (fr : Int) (kn : Nat) :
    Calls Try.prog 32 #[.pointer (some ⟨g.p, 0, none⟩), .int .i64 fr, .int .i64 kn] w fun e w' => ∃ y n c, e = .returned (.slice y n c) ∧ Hid (Below w.heap.size w w') := by
  have c2 := h.c2
  obtain ⟨x, c, e, _⟩ := h.rd
  rw [e, hd] at c2
  have hS := say_any h hi fr
  clear h e hd
  dsimp only [List.length_nil] at c2
  by_cases hk : kn = 0
  · subst hk
    clear hS
    go_enter Try.func32, Try.ntmps32
    go_wp2_with fail
    go_ret
    exact ⟨none, 0, 0, rfl, Below.refl _ _⟩
  · have i1 : ¬ (kn : Int) < 0 := by omega
    have i2 : (0 : Int) < (kn : Int) := by omega
    go_enter Try.func32, Try.ntmps32
    go_wp2_with (first
      | (
         go_at_call 34; refine hS.mono ?_; rintro e w1 ⟨z, l, cz, rfl, H1⟩; clear hS))
    go_ret
    exact ⟨_, _, _, rfl, on H1.out.2.1 (al _ _)⟩

end

end Go.Proofs.Ytfgfjfemaniaiaa.Px

/-
  Package paxos: hear, at any state: what is known of all monitors stays true.
  Conditions: the monitor is one that New gave ('NdAt').
-/
namespace Go.Proofs.Ytfgfjfemaniaiaa.Px
open Go.RowKit Wi By Fl Ba
set_option linter.unusedVariables false
set_option linter.unusedSimpArgs false
set_option maxRecDepth 100000

section
variable {w w1 : World} {B : Nat} {g : Ln} {st : Nd} {n D : Nat} {said : ByteArray → Prop} {G : Gh}

/- What the others told is other. -/
theorem NdAt.setTold (h : NdAt w B g st) (l : Lb) (b : Bd) (hl : g.b = some l) (hb : st.bid = some b) {nb' : Nat} {D' : DataW Value} {M' : Nat → Ac} (ha : ApAt w1 l.tb nb' D' M') (t : Turns (atB l.tb) w w1) :
    NdAt w1 B { g with b := some { l with tn := nb', tD := D' } } { st with bid := some { b with told := M' } } := by
  rcases h.bid with ⟨q, _⟩ | ⟨l', b', q1, q2, q3, q4⟩
  · rw [hl] at q
    cases q
  rw [hl] at q1
  injection q1 with q1
  subst q1
  rw [hb] at q2
  injection q2 with q2
  subst q2
  have hu := mb_not_u8 q3.told.isM
  have nm : ∀ k ty, Tb w k ty → ¬ atB l.tb k := fun k ty hk e => by
    have e' : k = l.tb := e
    exact hk.not_map (e' ▸ q3.told.isM)
  refine ⟨?_, h.dec.turns t (fun k hk => nm k _ (h.dec.tb hk).2), h.wait.turns t (fun k hk => nm k _ (h.wait.tb hk).2), h.ne, h.acc.turns t (fun e => q4 (by have e' : g.mb = l.tb := e; exact e'.symm)) hu, .inr ⟨_, _, rfl, rfl, ⟨?_, q3.val.turns t hu, ha, q3.wf⟩, q4⟩, fun k hk => h.low k ?_, h.dl, h.wl, h.dok, h.wok⟩
  · refine (t.blk h.obj (nm _ _ h.obj.tb)).congr (fun j hj => ?_)
    rcases j with _ | _ | _ | _ | _ | _ | _ | _ | j <;> first | rfl | (unfold obj8; simp only [hl]; rfl) | omega
  · exact t.blk q3.obj (nm _ _ q3.obj.tb)
  · rcases hk with a | a | a | a | ⟨l2, a, a2⟩
    · exact .inl a
    · exact .inr (.inl a)
    · exact .inr (.inr (.inl a))
    · exact .inr (.inr (.inr (.inl a)))
    · injection a with a
      subst a
      exact .inr (.inr (.inr (.inr ⟨l, hl, a2⟩)))

theorem Did.none (h : NdAt w B g st) (k : NodeOk n said G st) (q : GI n said G) (nb : NB n st) (r : Rs n D st) (b : Below w.heap.size w w1) : Did n said G w w1 B g st (.slice none 0 0) 10261 (D + 1) :=
  ⟨st, Step.same h b q k nb ((MlsK.nil _ _ _ _ _).mono (Nat.zero_le _) (fun _ h => h)), r.mono (by omega), Kp.refl _⟩

set_option maxHeartbeats 3200000 in
theorem hear_gen (h : NdAt w B g st) (k : NodeOk n said G st) (q : GI n said G) (nb : NB n st) (h1 : 1 ≤ n) (hn : n ≤ 7) (hgn : gnb g < 1000000000000) (r : Rs n D st) (hD : D < 60000) (fr : Nat) (hfn : fr < n) (l : Lb) (b : Bd) (p1 : g.b = some l) (hb : st.bid = some b) (p3 : BdAt w l b) (p4 : l.tb ≠ g.mb) (num : Nat) (e1 e2 a1 a2 : Int) (x : Option Addr) (dn c : Nat) (dd : List Nat) (v0 v7 v8 : Value) (hsv : Sv w x dn c dd) (hp : bwf (e1, e2)) (ha : bwf (a1, a2)) (hm : b.num = num → Told G num fr ⟨(e1, e2), (a1, a2), dd⟩) :
    Calls Try.prog 31 #[.pointer (some ⟨g.p, 0, none⟩), .int .i64 (fr : Int), .agg #[v0, .int .i64 (num : Nat), .int .i64 e1, .int .i64 e2, .int .i64 a1, .int .i64 a2, .slice x dn c, v7, v8]] w fun e w' => ∃ R, e = .returned R ∧ Hid (Did n said G w w' B g st R 10261 (D + 1)) := by
  have bD : Below w.heap.size w (w.alloc (.cells #[v0, .int .i64 num, .int .i64 e1, .int .i64 e2, .int .i64 a1, .int .i64 a2, .slice x dn c, v7, v8] 76)).drew := on (al _ _) (Below.refl _ _).drew
  have q1 : (w.alloc (.cells #[v0, .int .i64 num, .int .i64 e1, .int .i64 e2, .int .i64 a1, .int .i64 a2, .slice x dn c, v7, v8] 76)).drew.cell? ⟨w.heap.size, 1, none⟩ = some (.int .i64 num) := by go_simp
  have q2 : (w.alloc (.cells #[v0, .int .i64 num, .int .i64 e1, .int .i64 e2, .int .i64 a1, .int .i64 a2, .slice x dn c, v7, v8] 76)).drew.cell? ⟨w.heap.size, 2, none⟩ = some (.int .i64 e1) := by go_simp
  have q3 : (w.alloc (.cells #[v0, .int .i64 num, .int .i64 e1, .int .i64 e2, .int .i64 a1, .int .i64 a2, .slice x dn c, v7, v8] 76)).drew.cell? ⟨w.heap.size, 3, none⟩ = some (.int .i64 e2) := by go_simp
  have q4 : (w.alloc (.cells #[v0, .int .i64 num, .int .i64 e1, .int .i64 e2, .int .i64 a1, .int .i64 a2, .slice x dn c, v7, v8] 76)).drew.cell? ⟨w.heap.size, 4, none⟩ = some (.int .i64 a1) := by go_simp
  have q5 : (w.alloc (.cells #[v0, .int .i64 num, .int .i64 e1, .int .i64 e2, .int .i64 a1, .int .i64 a2, .slice x dn c, v7, v8] 76)).drew.cell? ⟨w.heap.size, 5, none⟩ = some (.int .i64 a2) := by go_simp
  have q6 : (w.alloc (.cells #[v0, .int .i64 num, .int .i64 e1, .int .i64 e2, .int .i64 a1, .int .i64 a2, .slice x dn c, v7, v8] 76)).drew.cell? ⟨w.heap.size, 6, none⟩ = some (.slice x dn c) := by go_simp
  have c6 : w.cell? ⟨g.p, 6, none⟩ = some (.pointer (some ⟨l.bp, 0, none⟩)) := by rw [h.c6, p1]; rfl
  have s6 := keep bD c6
  have s0 := keep bD p3.c0
  have s4 := keep bD p3.c4
  have hpe : ∀ W : World, (binOp .eql 61 (.pointer (some ⟨l.bp, 0, none⟩)) (.pointer none)).run Try.prog W = .ok (.bool false) W := fun _ => by kernel_rfl
  have HH := hid (And.intro h (And.intro k (And.intro q (And.intro nb (And.intro r (And.intro p1 (And.intro hb (And.intro p3 (And.intro hsv (And.intro hgn (And.intro hm (And.intro hp ha))))))))))))
  have Hp4 := hid p4
  clear h k q nb r p1 hb p3 p4 hsv hgn hm hp ha c6
  by_cases hnum : b.num = num
  · have i2 : ((b.num : Int) != (num : Int)) = false := by rw [hnum]; simp
    have i1 : (b.num : Int) = (num : Int) := by omega
    have Hnum := hid hnum
    clear hnum
    obtain ⟨bn, hbn⟩ : ∃ bn, b.num = bn := ⟨_, rfl⟩
    rw [hbn] at i1 i2 s0
    clear hbn
    go_enter Try.func31, Try.ntmps31
    go_wp2_with fail
    refine wp_region_held_drew (S := fun q => q.cell? ⟨g.p, 6, none⟩ = some (.pointer (some ⟨l.bp, 0, none⟩)) ∧ q.cell? ⟨l.bp, 0, none⟩ = some (.int .i64 (bn : Int)) ∧ q.cell? ⟨w.heap.size, 1, none⟩ = some (.int .i64 num)) (by kernel_rfl) ⟨s6, s0, q1⟩ (fun hHeld => ?_)
    generalize (w.alloc (.cells #[v0, .int .i64 num, .int .i64 e1, .int .i64 e2, .int .i64 a1, .int .i64 a2, .slice x dn c, v7, v8] 76)).drew = wD at *
    refine By.hk 0 ?_
    refine By.hk 1 ?_
    refine By.hk 2 ?_
    refine By.hk 3 ?_
    refine By.hk 4 ?_
    refine By.hk 5 ?_
    refine By.hk 6 ?_
    refine By.hk 7 ?_
    refine By.hk 8 ?_
    refine By.hk 9 ?_
    refine By.hk 10 ?_
    refine By.hk 11 ?_
    refine By.hk 12 ?_
    refine By.hk 13 ?_
    refine By.hk 14 ?_
    refine By.hk 15 ?_
    refine By.hk 16 ?_
    refine wpAnyH_done (by kernel_rfl) ?_ _
    clear hHeld
    obtain ⟨v, v1, v2, v3⟩ := (HH.out.2.2.2.2.2.2.2.1.below bD).told.lookAll fr (by omega)
    obtain ⟨⟨ua, ub⟩, ⟨uc, ud⟩, vx, vn, vc, ve⟩ := v
    have hlk := v3 wD rfl
    dsimp only [av, ac] at hlk
    clear v1 v2 v3
    have hL1 := fun W => less_any (e1, e2) (ua, ub) W
    have hL2 := fun W => less_any (a1, a2) (uc, ud) W
    dsimp only [bt] at hL1 hL2
    have lb : w.heap.size < wD.heap.size := cell_lt' q1
    have lp : g.p < wD.heap.size := cell_lt' s6
    have ll : l.bp < wD.heap.size := cell_lt' s4
    have bA := on bD (al wD (.cells #[.int .i64 ua, .int .i64 ub, .int .i64 uc, .int .i64 ud, .slice vx vn vc] 74))
    cases hl1 : ltb (e1, e2) (ua, ub) with
    | true =>
      rw [hl1] at hL1
      go_wp2_with (
        go_at_call 51; refine (hL1 _).mono ?_; rintro e w5 ⟨rfl, H5⟩; clear hL1
        have HB := hid (on bA H5))
      go_ret
      obtain ⟨h, k, q, nb, r, _⟩ := HH.out
      exact ⟨_, rfl, Did.none h k q nb r HB.out⟩
    | false =>
    rw [hl1] at hL1
    cases hl2 : ltb (a1, a2) (uc, ud) with
    | true =>
      rw [hl2] at hL2
      go_wp2_with (first
        | (go_at_call 51; refine (hL1 _).mono ?_; rintro e w5 ⟨rfl, H5⟩; clear hL1
           have z4 := keep H5 (keep (al wD (.cells #[.int .i64 ua, .int .i64 ub, .int .i64 uc, .int .i64 ud, .slice vx vn vc] 74)) q4)
           have z5 := keep H5 (keep (al wD (.cells #[.int .i64 ua, .int .i64 ub, .int .i64 uc, .int .i64 ud, .slice vx vn vc] 74)) q5)
           have x2 : w5.cell? ⟨wD.heap.size, 2, none⟩ = some (.int .i64 uc) := keep H5 (by go_simp)
           have x3 : w5.cell? ⟨wD.heap.size, 3, none⟩ = some (.int .i64 ud) := keep H5 (by go_simp)
           have HB5 := hid (on bA H5))
        | (go_at_call 51; refine (hL2 _).mono ?_; rintro e w6 ⟨rfl, H6⟩; clear hL2
           have HB := hid (on HB5.out H6)))
      go_ret
      obtain ⟨h, k, q, nb, r, _⟩ := HH.out
      exact ⟨_, rfl, Did.none h k q nb r HB.out⟩
    | false =>
      rw [hl2] at hL2
      go_wp2_with (first
        | (go_at_call 51; refine (hL1 _).mono ?_; rintro e w5 ⟨rfl, H5⟩; clear hL1
           have z2 := keep H5 (keep (al wD (.cells #[.int .i64 ua, .int .i64 ub, .int .i64 uc, .int .i64 ud, .slice vx vn vc] 74)) q2)
           have z3 := keep H5 (keep (al wD (.cells #[.int .i64 ua, .int .i64 ub, .int .i64 uc, .int .i64 ud, .slice vx vn vc] 74)) q3)
           have z4 := keep H5 (keep (al wD (.cells #[.int .i64 ua, .int .i64 ub, .int .i64 uc, .int .i64 ud, .slice vx vn vc] 74)) q4)
           have z5 := keep H5 (keep (al wD (.cells #[.int .i64 ua, .int .i64 ub, .int .i64 uc, .int .i64 ud, .slice vx vn vc] 74)) q5)
           have z6 := keep H5 (keep (al wD (.cells #[.int .i64 ua, .int .i64 ub, .int .i64 uc, .int .i64 ud, .slice vx vn vc] 74)) q6)
           have y6 := keep H5 (keep (al wD (.cells #[.int .i64 ua, .int .i64 ub, .int .i64 uc, .int .i64 ud, .slice vx vn vc] 74)) s6)
           have y4 := keep H5 (keep (al wD (.cells #[.int .i64 ua, .int .i64 ub, .int .i64 uc, .int .i64 ud, .slice vx vn vc] 74)) s4)
           have x2 : w5.cell? ⟨wD.heap.size, 2, none⟩ = some (.int .i64 uc) := keep H5 (by go_simp)
           have x3 : w5.cell? ⟨wD.heap.size, 3, none⟩ = some (.int .i64 ud) := keep H5 (by go_simp)
           have HB5 := hid (on bA H5)
           clear H5 q2 q3 q4 q5 q6 s6 s4 q1 s0)
        | (go_at_call 51; refine (hL2 _).mono ?_; rintro e w6 ⟨rfl, H6⟩; clear hL2
           have bE := on HB5.out (on H6 ((Below.refl _ _).drew))
           have t2 := keep (on H6 ((Below.refl _ _).drew)) z2
           have t3 := keep (on H6 ((Below.refl _ _).drew)) z3
           have t4 := keep (on H6 ((Below.refl _ _).drew)) z4
           have t5 := keep (on H6 ((Below.refl _ _).drew)) z5
           have t6 := keep (on H6 ((Below.refl _ _).drew)) z6
           have u6 := keep (on H6 ((Below.refl _ _).drew)) y6
           have u4 := keep (on H6 ((Below.refl _ _).drew)) y4
           have HBE := hid bE
           clear H6 z2 z3 z4 z5 z6 y6 y4 x2 x3 bE))
      obtain ⟨w7, g7, G7, hput, hdr, HZ⟩ : ∃ w7 g7 G7, (Instr.mapUpdate 60 (.map (some l.tb)) (.int .i64 (fr : Int)) (.agg #[.int .i64 e1, .int .i64 e2, .int .i64 a1, .int .i64 a2, .slice x dn c])).run Try.prog w6.drew = .ok () w7 ∧ (Calls Try.prog 52 #[.pointer (some ⟨g.p, 0, none⟩)] w7 fun e w' => ∃ R, e = .returned R ∧ Hid (Did n said G w w' B g st R 10261 (D + 1))) ∧ Hid (G7 = G ∧ g7 = g ∧ Turns (atB l.tb) w6.drew w7) := by
        obtain ⟨h, k, q, nb, r, p1, hb, p3, hsv, hgn, hm, hp, ha⟩ := HH.out
        have hE := h.below HBE.out
        have pE := p3.below HBE.out
        obtain ⟨w7, D7, hput, H7⟩ := pE.told.put fr (by omega) (by unfold gnb at hgn; rw [p1] at hgn; dsimp only at hgn; omega) ⟨(e1, e2), (a1, a2), x, dn, c, dd⟩ ⟨hsv.below HBE.out, hp, ha⟩
        have k7 := hE.setTold l b p1 hb H7.out.1 H7.out.2
        have ht := hm Hnum.out
        rw [← Hnum.out] at ht
        have o7 := k.hear b hb fr ⟨(e1, e2), (a1, a2), dd⟩ ht
        have n7 : NB n { st with bid := some { b with told := upA b.told fr ⟨(e1, e2), (a1, a2), dd⟩ } } := ⟨nb.acc, fun b' hb' => by
          injection hb' with hb'
          subst hb'
          exact nb.bid b hb⟩
        have r7 : Rs n D { st with bid := some { b with told := upA b.told fr ⟨(e1, e2), (a1, a2), dd⟩ } } := ⟨r.wl, r.dl, r.tn, r.one⟩
        have hg7 : gnb { g with b := some { l with tn := l.tn + 1, tD := D7 } } ≤ gnb g + 1 := by
          unfold gnb
          rw [p1]
          dsimp only
          omega
        have hf7 : ∀ j, fp { g with b := some { l with tn := l.tn + 1, tD := D7 } } j → fp g j := fun j hj => by
          rcases hj with a | a | a | a | ⟨l2, a, a2⟩
          · exact .inl a
          · exact .inr (.inl a)
          · exact .inr (.inr (.inl a))
          · exact .inr (.inr (.inr (.inl a)))
          · injection a with a
            subst a
            exact .inr (.inr (.inr (.inr ⟨l, p1, a2⟩)))
        have tT : Turns (fp g) w w7 := (Turns.of_below HBE.out).trans (H7.out.2.weak fun j hj => by
          have e' : j = l.tb := hj
          exact .inr (.inr (.inr (.inr ⟨l, p1, .inr e'⟩))))
        refine ⟨w7, g, G, hput, ?_, rfl, rfl, H7.out.2⟩
        refine (drive_any k7 o7 q n7 h1 hn (by omega) r7 hD).mono ?_
        rintro e w' ⟨R, rfl, H⟩
        obtain ⟨st', ⟨G', s1, s2, s3, s4, s5, s6⟩, hr, hkp⟩ := H.out
        refine ⟨R, rfl, st', ⟨G', (Goes.trans (g := g) (g1 := { g with b := some { l with tn := l.tn + 1, tD := D7 } }) (k1 := 1) (k2 := 10260) rfl tT hg7 (fun j hj => .inl (hf7 j hj)) s1).mono (by omega), s2, s3, s4, s5, (s6.mono (by omega) (fun _ h => h)).base tT.size⟩, hr, ⟨hkp.id, hkp.ser, hkp.dec⟩⟩
      obtain ⟨_, _, tG⟩ := HZ.out
      have hnt : ∀ j ty, Tb w6.drew j ty → ¬ atB l.tb j := fun j ty hj e => by
        have e' : j = l.tb := e
        exact hj.not_map (e' ▸ (HH.out.2.2.2.2.2.2.2.1.below HBE.out).told.isM)
      have hne : l.tb ≠ w.heap.size := fun e => by
        have := HH.out.2.2.2.2.2.2.2.1.told.lt
        omega
      have hng : ¬ atB l.tb w.heap.size := fun e => hne (by have e' : w.heap.size = l.tb := e; exact e'.symm)
      have n2 := keept tG hng t2
      have n3 := keept tG hng t3
      have n4 := keept tG hng t4
      have n5 := keept tG hng t5
      have n6 := keept tG hng t6
      have v6 := keept tG (hnt g.p _ (HH.out.1.below HBE.out).obj.tb) u6
      have v4 := keept tG (hnt l.bp _ (HH.out.2.2.2.2.2.2.2.1.below HBE.out).obj.tb) u4
      clear HZ tG hnt hne hng bA lb lp ll hlk
      refine wp_region_held_drew (S := fun q => q.cell? ⟨g.p, 6, none⟩ = some (.pointer (some ⟨l.bp, 0, none⟩)) ∧ q.cell? ⟨l.bp, 4, none⟩ = some (.map (some l.tb)) ∧ q.cell? ⟨w.heap.size, 2, none⟩ = some (.int .i64 e1) ∧ q.cell? ⟨w.heap.size, 3, none⟩ = some (.int .i64 e2) ∧ q.cell? ⟨w.heap.size, 4, none⟩ = some (.int .i64 a1) ∧ q.cell? ⟨w.heap.size, 5, none⟩ = some (.int .i64 a2) ∧ q.cell? ⟨w.heap.size, 6, none⟩ = some (.slice x dn c)) (by kernel_rfl) ⟨u6, u4, t2, t3, t4, t5, t6⟩ (fun hHeld => ?_)
      generalize w6.drew = wF at *
      refine By.hk 0 ?_
      refine By.hk 1 ?_
      refine By.hk 2 ?_
      refine By.hk 3 ?_
      refine By.hk 4 ?_
      refine By.hk 5 ?_
      refine By.hk 6 ?_
      refine By.hk 7 ?_
      refine By.hk 8 ?_
      refine By.hk 9 ?_
      refine wpAnyH_ready (rs := [10]) (by kernel_rfl) (by simp) ?_
      refine AllReadyH.cons rfl (fun K hK => ?_) AllReadyH.nil
      refine st_mapupdate rfl _ _ _ 60 rfl _ _ _ rfl rfl rfl hput ?_
      (try simp only [Act.put, List.getElem_toArray, List.getElem_cons_succ, List.getElem_cons_zero, List.setIfInBounds_toArray, List.set_cons_zero, List.set_cons_succ])
      refine hK.out _ _ ⟨v6, v4, n2, n3, n4, n5, n6⟩ (fun hHeld => ?_)
      clear hK K
      refine wpAnyH_done (by kernel_rfl) ?_ _
      clear hHeld
      go_wp2_with (go_at_call 52; refine hdr.mono ?_; rintro e w9 ⟨R9, rfl, H9⟩; clear hdr)
      go_ret
      exact ⟨_, rfl, H9.out⟩
  · have i1 : ¬ (b.num : Int) = (num : Int) := by omega
    have i2 : ((b.num : Int) != (num : Int)) = true := by simpa using i1
    generalize b.num = bn at *
    generalize l.bp = bp at *
    go_enter Try.func31, Try.ntmps31
    go_wp2_with fail
    refine wp_region_held_drew (S := fun q => q.cell? ⟨g.p, 6, none⟩ = some (.pointer (some ⟨bp, 0, none⟩)) ∧ q.cell? ⟨bp, 0, none⟩ = some (.int .i64 (bn : Int)) ∧ q.cell? ⟨w.heap.size, 1, none⟩ = some (.int .i64 num)) (by kernel_rfl) ⟨s6, s0, q1⟩ (fun hHeld => ?_)
    generalize (w.alloc (.cells #[v0, .int .i64 num, .int .i64 e1, .int .i64 e2, .int .i64 a1, .int .i64 a2, .slice x dn c, v7, v8] 76)).drew = wD at *
    refine By.hk 0 ?_
    refine By.hk 1 ?_
    refine By.hk 2 ?_
    refine By.hk 3 ?_
    refine By.hk 4 ?_
    refine By.hk 5 ?_
    refine By.hk 6 ?_
    refine By.hk 7 ?_
    refine By.hk 8 ?_
    refine By.hk 9 ?_
    refine By.hk 10 ?_
    refine By.hk 11 ?_
    refine By.hk 12 ?_
    refine By.hk 13 ?_
    refine By.hk 14 ?_
    refine By.hk 15 ?_
    refine By.hk 16 ?_
    refine wpAnyH_done (by kernel_rfl) ?_ _
    clear hHeld
    go_wp2_with fail
    go_ret
    obtain ⟨h, k, q, nb, r, _⟩ := HH.out
    exact ⟨_, rfl, Did.none h k q nb r bD⟩

theorem hear_any (h : NdAt w B g st) (k : NodeOk n said G st) (q : GI n said G) (nb : NB n st) (h1 : 1 ≤ n) (hn : n ≤ 7) (hgn : gnb g < 1000000000000) (r : Rs n D st) (hD : D < 60000) (fr : Nat) (hfn : fr < n) (m : Ms) (hs : Sent n fr m) (hm : MsgOk n said G fr m) (hkind : m.kind = 3) (x y : Option Addr) (c cy : Nat) (hsv : Sv w x m.st.d.length c m.st.d) :
    Calls Try.prog 31 #[.pointer (some ⟨g.p, 0, none⟩), .int .i64 (fr : Int), mv m x c y cy] w fun e w' => ∃ R, e = .returned R ∧ Hid (Did n said G w w' B g st R 10261 (D + 1)) := by
  cases hb : st.bid with
  | none =>
    refine (hear_idle h hb (fr : Int) _ _ _ _ _ _ _ _ _).mono ?_
    rintro e w' ⟨rfl, H⟩
    exact ⟨_, rfl, Did.none h k q nb r H.out⟩
  | some b =>
    obtain ⟨_, _, hsp, hsa, hsd⟩ := hs.ko (by omega) (by omega)
    have hpp := sb_bok hsp hn
    have haa := sb_bok hsa hn
    rcases h.bid with ⟨_, p2⟩ | ⟨l, b', p1, p2, p3, p4⟩
    · rw [hb] at p2
      cases p2
    rw [hb] at p2
    injection p2 with p2
    subst p2
    exact hear_gen h k q nb h1 hn hgn r hD fr hfn l b p1 hb p3 p4 m.num m.st.p.1 m.st.p.2 m.st.a.1 m.st.a.2 x m.st.d.length c m.st.d _ _ _ hsv hpp.2 haa.2 (fun _ => hm.told hkind)

end

end Go.Proofs.Ytfgfjfemaniaiaa.Px

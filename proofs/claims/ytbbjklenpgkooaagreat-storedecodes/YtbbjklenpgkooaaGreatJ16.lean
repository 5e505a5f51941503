/-
  4 texts of this proof, one behind the other: WiRefBytes, StRefDec, StSame, StBlock.
-/
import Derived.Test.YtbbjklenpgkooaaGreatJ15
import Derived.Test.YtbbjklenpgkooaaGreatJ14
import Derived.Test.YtbbjklenpgkooaaGreatJ12
import Derived.Test.YtbbjklenpgkooaaGreatJ11
/-
  What the document's ReadBytes does: a contract over plain lists ('WiPlain').
  Conditions: bytes that are looked at lie in memory.
-/
namespace Go.Proofs.YtbbjklenpgkooaaGreat
open Go.RowKit Wi By
set_option linter.unusedVariables false
set_option linter.unusedSimpArgs false
set_option maxRecDepth 100000

def RTold (w w' : World) (q : Nat) (x : Option Addr) (n c : Nat) (L : List Nat) (v : Value) (k l' : List Nat) (e' : Nat) : Prop := RGo w w' q x n c L l' e' ∧ ∃ y cy, v = .slice y k.length cy ∧ Sl w' y k.length cy k

theorem cut_mid (x : Option Addr) (n c a h : Nat) (w : World) (h1 : a ≤ h) (h2 : h ≤ c) :
    (Instr.slice 22 (.slice x n c) (some (.int .i64 (a : Int))) (some (.int .i64 (h : Int))) none).run Tryz.prog w = .ok (.slice (cutTo x c a) (h - a) (c - a)) w := by
  rw [run_slice_lh w 22 _ _ _ welem_row .i64 .i64 (a : Int) (h : Int) (by omega) (by omega) (by omega), welem_is, wsize_byte]
  simp only [Result.andThen, sliced, Int.toNat_natCast, Nat.mul_one]
  rfl

/- An append that comes up alone in a region that draws its order. -/
theorem wready_append {P : Program} {w w' : World} {ops : Array Oper} {o : Oper} {a : Act} {K : Act → World → Prop} {Q : Exit → Act → World → Prop} {v' : Value} (hg : Region.wanted o (yielded ops a.tmps) = true) (s x : Operand) (t : TypeId)
    (ho : o.op = .call { callee := .builtin .append, args := #[s, x], argTypes := #[t, t] }) (v1 v2 : Value) (hs : a.eval s = v1) (hx : a.eval x = v2) (hr : (Builtin.append_ #[t, t] o.type #[v1, v2]).run P w = .ok v' w')
    (h : K (a.put o.dst v') w') : if Region.wanted o (yielded ops a.tmps) = true then Oper.wp P o a w K Q else K (a.put o.dst undef) w := by
  rw [if_pos hg]
  unfold Oper.wp execOp
  simp only [ho, resolve, invoke, builtin, Sem.run_bind, Sem.run_pure, Result.andThen_ok, List.map_toArray, List.map_cons, List.map_nil, hs, hx, hr]
  exact h

theorem below_drew' {B : Nat} {a w : World} (h : Below B a w) : Below B a w.drew := ⟨h.os, h.tape, h.output, h.size, h.block⟩

set_option maxHeartbeats 2000000 in
set_option maxRecDepth 100000 in
theorem rby_new (q n c t e : Nat) (b : Int) (x : Option Addr) (L : List Nat) (w : World) (h : RRd w q x n c L t e) (hb1 : -9223372036854775808 ≤ b) (hb2 : b ≤ 9223372036854775807) :
    Calls Tryz.prog 29 #[.pointer (some ⟨q, 0, none⟩), .int .i64 b] w fun ed w' => ∃ v, ed = .returned v ∧ RTold w w' q x n c L v (rBy b (L.drop t) e).1 (rBy b (L.drop t) e).2.1 (rBy b (L.drop t) e).2.2 ∧ ∀ a k d, v = .slice (some a) k d → w.heap.size ≤ a.block := by
  have h1 := h.place
  have hu : Calls Tryz.prog 28 #[.pointer (some ⟨q, 0, none⟩), .int .i64 b] w fun ed w' => ed = .returned (.int .i64 ((rNum b (L.drop t) e).1 : Int)) ∧ Turn q w w' ∧ ∃ t', RRd w' q x n c L t' (rNum b (L.drop t) e).2.2 ∧ L.drop t' = (rNum b (L.drop t) e).2.1 :=
    rnum_any q n c t e b x L w h hb1 hb2
  have hN := rNum_lt b (L.drop t) e hb2
  have hsm := h.small
  have hle := h.le
  have hlen := h.sl.len
  by_cases he2 : (rNum b (L.drop t) e).2.2 = 0
  · have he : e = 0 := by
      by_cases he : e = 0
      · exact he
      · rw [rNum_bad he] at he2
        exact he2
    subst he
    by_cases hfew : (rNum b (L.drop t) 0).2.1.length < (rNum b (L.drop t) 0).1
    · have HD : Hid (rBy b (L.drop t) 0 = ([], L.drop t, 5)) := rBy_few he2 hfew
      have hr : ∀ v s, Turn q w v → RRd v q x n c L s 0 → Calls Tryz.prog 57 #[.pointer (some ⟨q, 0, none⟩), .int .i64 5, .int .i64 (t : Int)] v fun ed w' => ed = .returned (.tuple #[]) ∧ RGo w w' q x n c L (L.drop t) 5 := fun v s t1 h3 =>
        (wrong_any q n c s 0 5 t x L v h3 hle).mono fun ed w' ⟨a1, a2, a3⟩ => ⟨a1, t1.trans a2, t, a3, rfl⟩
      rw [he2] at hu
      generalize (rNum b (L.drop t) 0).1 = N at *
      generalize (rNum b (L.drop t) 0).2.1 = l2 at *
      clear h he2
      go_enter Tryz.func29, Tryz.ntmps29
      go_wp2_with (go_at_call 28; refine hu.mono ?_; rintro e w2 ⟨rfl, t2, s, hg, hd⟩; have g0 := hg.bytes; have g1 := hg.place; have g2 := hg.bad; clear hu)
      have hs := hg.le
      obtain ⟨r, hr'⟩ : ∃ r, r = n - s := ⟨_, rfl⟩
      have hri : (n : Int) - (s : Int) = (r : Int) := by omega
      have hrN : r < N := by
        have := congrArg List.length hd
        rw [List.length_drop, hlen] at this
        omega
      have hr2 := fun m => hr (w2.drewN m) s (t2.drewN m) (hg.drewN m)
      clear hr hg hd hr' hlen hfew t2
      go_quiet (fail)
      go_wp2_with (go_at_call 57; refine (hr2 _).mono ?_; rintro e w3 ⟨rfl, hg3⟩; clear hr2)
      go_ret
      rw [HD.out]
      exact ⟨_, rfl, ⟨hg3, none, 0, rfl, Sl.empty _⟩, fun a k d he => by cases he⟩
    · have hge : (rNum b (L.drop t) 0).1 ≤ (rNum b (L.drop t) 0).2.1.length := by omega
      have HD : Hid (rBy b (L.drop t) 0 = ((rNum b (L.drop t) 0).2.1.take (rNum b (L.drop t) 0).1, (rNum b (L.drop t) 0).2.1.drop (rNum b (L.drop t) 0).1, 0)) := rBy_yes he2 hge
      rw [he2] at hu
      generalize (rNum b (L.drop t) 0).1 = N at *
      generalize (rNum b (L.drop t) 0).2.1 = l2 at *
      clear h he2 hfew
      go_enter Tryz.func29, Tryz.ntmps29
      go_wp2_with (go_at_call 28; refine hu.mono ?_; rintro e w2 ⟨rfl, t2, s, hg, hd⟩; have g0 := hg.bytes; have g1 := hg.place; have g2 := hg.bad; clear hu)
      have hs := hg.le
      have hdl : l2.length = n - s := by
        rw [← hd, List.length_drop, hlen]
      obtain ⟨r, hr'⟩ : ∃ r, r = n - s := ⟨_, rfl⟩
      have hri : (n : Int) - (s : Int) = (r : Int) := by omega
      have hrN : N ≤ r := by omega
      obtain ⟨z, hz⟩ : ∃ z, z = s + N := ⟨_, rfl⟩
      have hzi : (s : Int) + (N : Int) = (z : Int) := by omega
      have hzn : z ≤ n := by omega
      have hwz : IntKind.i64.wrap (z : Int) = (z : Int) := by rw [IntKind.wrap_i64]; omega
      have hcap := hg.sl.le
      have hcut : ∀ v : World, (Instr.slice 22 (.slice x n c) (some (.int .i64 (s : Int))) (some (.int .i64 (z : Int))) none).run Tryz.prog v = .ok (.slice (cutTo x c s) N (c - s)) v := fun v => by
        have := cut_mid x n c s z v (by omega) (by omega)
        rw [show z - s = N by omega] at this
        exact this
      have hsl : ∀ v, Below w2.heap.size w2 v → Sl v (cutTo x c s) N (c - s) (l2.take N) := fun v hv => by
        have := ((hg.below hv).sl.from s hs).head N (by omega)
        rw [hd] at this
        exact this
      have HG : Hid (RRd w2 q x n c L s 0 ∧ Turn q w w2 ∧ L.drop s = l2 ∧ z = s + N ∧ l2.length = n - s ∧ N ≤ n - s) := ⟨hg, t2, hd, hz, hdl, by omega⟩
      clear hg hd hr' hlen t2 hz hdl hge
      go_quiet (fail)
      go_wp2_with fail
      have hbd : Below w2.heap.size w2 (w2.drewN nq).drew := ⟨rfl, rfl, rfl, Nat.le_refl _, fun _ _ => rfl⟩
      obtain ⟨R3, w3, hrun, ho3, hb3⟩ := push_list (w2.drewN nq).drew w2 w2.heap.size (.slice none 0 0) [] (OwnL.start _ _) (Nat.le_refl _) hbd _ N (c - s) (l2.take N) (hsl _ hbd) (by simp; omega)
      rw [List.nil_append] at ho3
      have hS3 : w3.cell? ⟨q, 0, none⟩ = some (.slice x n c) ∧ w3.cell? ⟨q, 1, none⟩ = some (.int .i64 (s : Int)) := by
        have := HG.out.1.below hb3
        exact ⟨this.bytes, this.place⟩
      have hlt2 : ∀ u ∈ l2.take N, u < 256 := (hsl _ hbd).lt
      have hlenN : (l2.take N).length = N := (hsl _ hbd).len
      obtain ⟨y3, c3, rfl, hy3, hyb⟩ := ho3.sl hlt2
      rw [hlenN] at hrun hy3
      have hf1 := (HG.out.1.below hb3).fr 1
      have H3 : Hid (Below w2.heap.size w2 w3 ∧ Sl w3 y3 N c3 (l2.take N) ∧ ∀ a, y3 = some a → w2.heap.size ≤ a.block) := ⟨hb3, hy3, fun a ha => (hyb a ha).1⟩
      have HlN : Hid ((l2.take N).length = N) := hlenN
      clear hsl ho3 hb3 hy3 hyb hlt2 hlenN hbd
      generalize cutTo x c s = y at hcut hrun
      refine wp_region_held_drew (S := fun v => v.cell? ⟨q, 0, none⟩ = some (.slice x n c) ∧ v.cell? ⟨q, 1, none⟩ = some (.int .i64 (s : Int))) (by kernel_rfl) ⟨g0, g1⟩ (fun hHeld => ?_)
      refine wpAnyH_take (i := 0) (v := ?_) rfl (by kernel_rfl) (by kernel_rfl) (by kernel_rfl) (fun _ _ _ h => h) (Or.inl ⟨by rfl, ?_⟩) (by assumption) ?_
      case refine_2 => (intro w hSw; (try dsimp only at hSw); go_simp; (try with_reducible rfl))
      (try simp only [Act.put, List.getElem_toArray, List.getElem_cons_succ, List.getElem_cons_zero, List.setIfInBounds_toArray, List.set_cons_zero, List.set_cons_succ])
      refine wpAnyH_take (i := 1) (v := ?_) rfl (by kernel_rfl) (by kernel_rfl) (by kernel_rfl) (fun _ _ _ h => h) (Or.inl ⟨by rfl, ?_⟩) (by assumption) ?_
      case refine_2 => (intro w hSw; (try dsimp only at hSw); go_simp; (try with_reducible rfl))
      (try simp only [Act.put, List.getElem_toArray, List.getElem_cons_succ, List.getElem_cons_zero, List.setIfInBounds_toArray, List.set_cons_zero, List.set_cons_succ])
      refine wpAnyH_take (i := 2) (v := ?_) rfl (by kernel_rfl) (by kernel_rfl) (by kernel_rfl) (fun _ _ _ h => h) (Or.inl ⟨by rfl, ?_⟩) (by assumption) ?_
      case refine_2 => (intro w hSw; (try dsimp only at hSw); go_simp; (try with_reducible rfl))
      (try simp only [Act.put, List.getElem_toArray, List.getElem_cons_succ, List.getElem_cons_zero, List.setIfInBounds_toArray, List.set_cons_zero, List.set_cons_succ])
      refine wpAnyH_take (i := 3) (v := ?_) rfl (by kernel_rfl) (by kernel_rfl) (by kernel_rfl) (fun _ _ _ h => h) (Or.inl ⟨by rfl, ?_⟩) (by assumption) ?_
      case refine_2 => (intro w hSw; (try dsimp only at hSw); go_simp; (try with_reducible rfl))
      (try simp only [Act.put, List.getElem_toArray, List.getElem_cons_succ, List.getElem_cons_zero, List.setIfInBounds_toArray, List.set_cons_zero, List.set_cons_succ])
      refine wpAnyH_take (i := 4) (v := ?_) rfl (by kernel_rfl) (by kernel_rfl) (by kernel_rfl) (fun _ _ _ h => h) (Or.inl ⟨by rfl, ?_⟩) (by assumption) ?_
      case refine_2 => (intro w hSw; (try dsimp only at hSw); go_simp; (try with_reducible rfl))
      (try simp only [Act.put, List.getElem_toArray, List.getElem_cons_succ, List.getElem_cons_zero, List.setIfInBounds_toArray, List.set_cons_zero, List.set_cons_succ])
      refine wpAnyH_take (i := 5) (v := ?_) rfl (by kernel_rfl) (by kernel_rfl) (by kernel_rfl) (fun _ _ _ h => h) (Or.inl ⟨by rfl, ?_⟩) (by assumption) ?_
      case refine_2 => (intro w hSw; (try dsimp only at hSw); go_simp; (try with_reducible rfl))
      (try simp only [Act.put, List.getElem_toArray, List.getElem_cons_succ, List.getElem_cons_zero, List.setIfInBounds_toArray, List.set_cons_zero, List.set_cons_succ])
      refine wpAnyH_take (i := 6) (v := ?_) rfl (by kernel_rfl) (by kernel_rfl) (by kernel_rfl) (fun _ _ _ h => h) (Or.inl ⟨by rfl, ?_⟩) (by assumption) ?_
      case refine_2 => (intro w hSw; (try dsimp only at hSw); go_simp; (try with_reducible rfl))
      (try simp only [Act.put, List.getElem_toArray, List.getElem_cons_succ, List.getElem_cons_zero, List.setIfInBounds_toArray, List.set_cons_zero, List.set_cons_succ])
      refine wpAnyH_take (i := 7) (v := ?_) rfl (by kernel_rfl) (by kernel_rfl) (by kernel_rfl) (fun _ _ _ h => h) (Or.inl ⟨by rfl, ?_⟩) (by assumption) ?_
      case refine_2 => (intro w hSw; (try dsimp only at hSw); go_simp; (try with_reducible rfl))
      (try simp only [Act.put, List.getElem_toArray, List.getElem_cons_succ, List.getElem_cons_zero, List.setIfInBounds_toArray, List.set_cons_zero, List.set_cons_succ])
      refine wpAnyH_take (i := 8) (v := ?_) rfl (by kernel_rfl) (by kernel_rfl) (by kernel_rfl) (fun _ _ _ h => h) (Or.inl ⟨by rfl, ?_⟩) (by assumption) ?_
      case refine_2 => (intro w hSw; (try dsimp only at hSw); go_simp; (try with_reducible rfl))
      (try simp only [Act.put, List.getElem_toArray, List.getElem_cons_succ, List.getElem_cons_zero, List.setIfInBounds_toArray, List.set_cons_zero, List.set_cons_succ])
      refine wpAnyH_take (i := 9) (v := ?_) rfl (by kernel_rfl) (by kernel_rfl) (by kernel_rfl) (fun _ _ _ h => h) (Or.inl ⟨by rfl, ?_⟩) (by assumption) ?_
      case refine_2 => (intro w hSw; (try dsimp only at hSw); go_simp; (try with_reducible rfl))
      (try simp only [Act.put, List.getElem_toArray, List.getElem_cons_succ, List.getElem_cons_zero, List.setIfInBounds_toArray, List.set_cons_zero, List.set_cons_succ])
      refine wpAnyH_take (i := 10) (v := ?_) rfl (by kernel_rfl) (by kernel_rfl) (by kernel_rfl) (fun _ _ _ h => h) (Or.inl ⟨by rfl, ?_⟩) (by assumption) ?_
      case refine_2 => (intro w hSw; (try dsimp only at hSw); go_simp; (try with_reducible rfl))
      (try simp only [Act.put, List.getElem_toArray, List.getElem_cons_succ, List.getElem_cons_zero, List.setIfInBounds_toArray, List.set_cons_zero, List.set_cons_succ])
      refine wpAnyH_take (i := 11) (v := ?_) rfl (by kernel_rfl) (by kernel_rfl) (by kernel_rfl) (fun _ _ _ h => h) (Or.inl ⟨by rfl, ?_⟩) (by assumption) ?_
      case refine_2 => (intro w hSw; (try dsimp only at hSw); go_simp; (try with_reducible rfl))
      (try simp only [Act.put, List.getElem_toArray, List.getElem_cons_succ, List.getElem_cons_zero, List.setIfInBounds_toArray, List.set_cons_zero, List.set_cons_succ])
      refine wpAnyH_take (i := 12) (v := ?_) rfl (by kernel_rfl) (by kernel_rfl) (by kernel_rfl) (fun _ _ _ h => h) (Or.inl ⟨by rfl, ?_⟩) (by assumption) ?_
      case refine_2 => (intro w hSw; (try dsimp only at hSw); go_simp; (try with_reducible rfl))
      (try simp only [Act.put, List.getElem_toArray, List.getElem_cons_succ, List.getElem_cons_zero, List.setIfInBounds_toArray, List.set_cons_zero, List.set_cons_succ])
      refine wpAnyH_take (i := 13) (v := ?_) rfl (by kernel_rfl) (by kernel_rfl) (by kernel_rfl) (fun _ _ _ h => h) (Or.inl ⟨by rfl, ?_⟩) (by assumption) ?_
      case refine_2 => (intro w hSw; (try dsimp only at hSw); go_simp; (try with_reducible rfl))
      (try simp only [Act.put, List.getElem_toArray, List.getElem_cons_succ, List.getElem_cons_zero, List.setIfInBounds_toArray, List.set_cons_zero, List.set_cons_succ])
      refine wpAnyH_take (i := 14) (v := ?_) rfl (by kernel_rfl) (by kernel_rfl) (by kernel_rfl) (fun _ _ _ h => h) (Or.inl ⟨by rfl, ?_⟩) (by assumption) ?_
      case refine_2 => (intro w hSw; (try dsimp only at hSw); go_simp; (try with_reducible rfl))
      (try simp only [Act.put, List.getElem_toArray, List.getElem_cons_succ, List.getElem_cons_zero, List.setIfInBounds_toArray, List.set_cons_zero, List.set_cons_succ])
      refine wpAnyH_take (i := 15) (v := ?_) rfl (by kernel_rfl) (by kernel_rfl) (by kernel_rfl) (fun _ _ _ h => h) (Or.inl ⟨by rfl, ?_⟩) (by assumption) ?_
      case refine_2 => (intro w hSw; (try dsimp only at hSw); go_simp; (try with_reducible rfl))
      (try simp only [Act.put, List.getElem_toArray, List.getElem_cons_succ, List.getElem_cons_zero, List.setIfInBounds_toArray, List.set_cons_zero, List.set_cons_succ])
      refine wpAnyH_ready (rs := [16]) (by kernel_rfl) (by simp) ?_
      refine AllReadyH.cons rfl (fun K hK => ?_) AllReadyH.nil
      refine wready_append rfl _ _ 22 rfl _ _ rfl rfl hrun ?_
      (try simp only [Act.put, List.getElem_toArray, List.getElem_cons_succ, List.getElem_cons_zero, List.setIfInBounds_toArray, List.set_cons_zero, List.set_cons_succ])
      refine hK.out _ _ hS3 (fun hHeld => ?_)
      clear hK K
      refine wpAnyH_take (i := 17) (v := ?_) rfl (by kernel_rfl) (by kernel_rfl) (by kernel_rfl) (fun _ _ _ h => h) (Or.inl ⟨by rfl, ?_⟩) (by assumption) ?_
      case refine_2 => (intro w hSw; (try dsimp only at hSw); go_simp; (try with_reducible rfl))
      (try simp only [Act.put, List.getElem_toArray, List.getElem_cons_succ, List.getElem_cons_zero, List.setIfInBounds_toArray, List.set_cons_zero, List.set_cons_succ])
      refine wpAnyH_done (by kernel_rfl) ?_ _
      obtain ⟨k0, k1⟩ := hS3
      clear g0 g1 g2 hrun hcut
      go_wp2_with fail
      go_ret
      rw [HD.out]
      obtain ⟨a1, a2, a3, a4, a5, a6⟩ := HG.out
      obtain ⟨b1, b2, b3⟩ := H3.out
      have hyq : ∀ a, y3 = some a → a.block ≠ q := fun a ha => by
        have h1 := b3 a ha
        have h2 := a1.lt
        omega
      refine ⟨_, rfl, ⟨⟨(a2.trans (Turn.of_below b1)).setCell rfl _, z, (a1.below b1).setPlace z hzn, by rw [a4, ← List.drop_drop, a3]⟩, y3, c3, by rw [HlN.out]; rfl, ?_⟩, fun a k d he => ?_⟩
      · rw [HlN.out]
        exact b2.turn ((Turn.refl q w3).setCell rfl _) hyq
      · injection he with e1 e2 e3
        have h1 := b3 a e1
        have h2 := a2.size
        omega
  · have HD : Hid (rBy b (L.drop t) e = ([], (rNum b (L.drop t) e).2.1, (rNum b (L.drop t) e).2.2)) := by
      show rBy b (L.drop t) e = _
      by_cases he : e = 0
      · subst he; exact rBy_no he2
      · rw [rBy_bad he, rNum_bad he]
    generalize (rNum b (L.drop t) e).1 = N at *
    generalize (rNum b (L.drop t) e).2.1 = l2 at *
    generalize (rNum b (L.drop t) e).2.2 = e2 at *
    have hne : ((e2 : Int) != 0) = true := by simp; omega
    clear h
    go_enter Tryz.func29, Tryz.ntmps29
    go_wp2_with (go_at_call 28; refine hu.mono ?_; rintro e w2 ⟨rfl, t2, s, hg, hd⟩; have g2 := hg.bad; clear hu)
    go_ret
    rw [HD.out]
    exact ⟨_, rfl, ⟨⟨t2, s, hg, hd⟩, none, 0, rfl, Sl.empty _⟩, fun a k d he => by cases he⟩

theorem rby_any (q n c t e : Nat) (b : Int) (x : Option Addr) (L : List Nat) (w : World) (h : RRd w q x n c L t e) (hb1 : -9223372036854775808 ≤ b) (hb2 : b ≤ 9223372036854775807) :
    Calls Tryz.prog 29 #[.pointer (some ⟨q, 0, none⟩), .int .i64 b] w fun ed w' => ∃ v, ed = .returned v ∧ RTold w w' q x n c L v (rBy b (L.drop t) e).1 (rBy b (L.drop t) e).2.1 (rBy b (L.drop t) e).2.2 :=
  (rby_new q n c t e b x L w h hb1 hb2).mono fun ed w' ⟨v, h1, h2, _⟩ => ⟨v, h1, h2⟩

end Go.Proofs.YtbbjklenpgkooaaGreat

/-
  The document's Decode of a batch.
  Conditions: the bytes lie in memory.
-/
namespace Go.Proofs.YtbbjklenpgkooaaGreat
open Go.RowKit By Dk Wi St
set_option linter.unusedVariables false
set_option linter.unusedSimpArgs false
set_option maxRecDepth 100000

theorem RRd.turns {w w' : World} {F : Nat → Prop} {q : Nat} {x : Option Addr} {n c : Nat} {L : List Nat} {t e : Nat} (h : RRd w q x n c L t e) (k : Turns F w w') (hp : ¬ F q) (ha : ∀ a, x = some a → ¬ F a.block) : RRd w' q x n c L t e := by
  have hb := k.block q h.lt hp
  exact ⟨(World.cell?_of_block (a := ⟨q, 0, none⟩) hb).trans h.bytes, (World.cell?_of_block (a := ⟨q, 1, none⟩) hb).trans h.place, (World.cell?_of_block (a := ⟨q, 2, none⟩) hb).trans h.bad, fun j => (World.frozen?_of_block (w := w) hb).trans (h.fr j), h.sl.turns k (fun _ => ha), h.ap, h.le, h.small⟩

/- The document's reader at q and the act that is made at Q. -/
structure RB (w v : World) (q : Nat) (x : Option Addr) (n c : Nat) (L l : List Nat) (e : Nat) (Q : Nat) (B0 B1 B2 : Value) : Prop where
  rd : ∃ t, RRd v q x n c L t e ∧ L.drop t = l
  tn : Turn q w v
  tq : Three v Q B0 B1 B2
  hQ : w.heap.size ≤ Q
  hq : q < w.heap.size
  hx : ∀ a, x = some a → a.block < w.heap.size

section
variable {w v v' : World} {q : Nat} {x : Option Addr} {n c : Nat} {L l : List Nat} {e : Nat} {Q : Nat} {B0 B1 B2 : Value}

theorem RB.go (h : RB w v q x n c L l e Q B0 B1 B2) {l' : List Nat} {e' : Nat} (g : RGo v v' q x n c L l' e') : RB w v' q x n c L l' e' Q B0 B1 B2 := by
  obtain ⟨t, t', h1, h2⟩ := g
  have := h.hq
  have h3 := h.hQ
  exact ⟨⟨t', h1, h2⟩, h.tn.trans t, h.tq.turn t (by omega), h.hQ, h.hq, h.hx⟩

theorem RB.rdq (h : RB w v q x n c L l e Q B0 B1 B2) (t : Turn Q v v') : ∃ t, RRd v' q x n c L t e ∧ L.drop t = l := by
  obtain ⟨t', h1, h2⟩ := h.rd
  have := h.hq
  have h3 := h.hQ
  exact ⟨t', h1.turn t (by omega) (fun a ha => by have := h.hx a ha; omega), h2⟩

theorem RB.set1 (h : RB w v q x n c L l e Q B0 B1 B2) (u : Value) : RB w (v.setCell ⟨Q, 1, none⟩ u) q x n c L l e Q B0 u B2 :=
  ⟨h.rdq ((Turn.refl Q v).setCell rfl u), h.tn.high h.hQ u, h.tq.set1 u, h.hQ, h.hq, h.hx⟩
theorem RB.set2 (h : RB w v q x n c L l e Q B0 B1 B2) (u : Value) : RB w (v.setCell ⟨Q, 2, none⟩ u) q x n c L l e Q B0 B1 u :=
  ⟨h.rdq ((Turn.refl Q v).setCell rfl u), h.tn.high h.hQ u, h.tq.set2 u, h.hQ, h.hq, h.hx⟩

theorem RB.new {l' : List Nat} {e' : Nat} (hq : q < w.heap.size) (hx : ∀ a, x = some a → a.block < w.heap.size) (g : RGo w v q x n c L l' e') (u0 u1 u2 : Value) :
    RB w (v.alloc (.cells #[u0, u1, u2] 54)) q x n c L l' e' v.heap.size u0 u1 u2 := by
  obtain ⟨t, t', h1, h2⟩ := g
  have b1 : Below v.heap.size v (v.alloc (.cells #[u0, u1, u2] 54)) := (Below.refl _ _).alloc (Nat.le_refl _) _
  exact ⟨⟨t', h1.below b1, h2⟩, t.trans (Turn.of_below b1), Three.new v u0 u1 u2 54, t.size, hq, hx⟩

end

/- Decode, behind k acts: the reader at q, the list R. -/
structure DQ (w wr : World) (q : Nat) (x : Option Addr) (n c : Nat) (L l : List Nat) (e : Nat) (R : Value) (k : Nat) (V : Nat → AV) : Prop where
  rd : ∃ t, RRd wr q x n c L t (rActs k l e).2.2 ∧ L.drop t = (rActs k l e).2.1
  own : OwnA wr R k V
  hR : ∀ g, R.ownBlock = some g → w.heap.size ≤ g ∧ g ≠ q
  ok : ∀ i, i < k → ActOk wr (V i)
  ap : ∀ i, i < k → ∀ a, (V i).x = some a → w.heap.size ≤ a.block ∧ ((V i).n ≠ 0 → a.block ≠ q ∧ R.ownBlock ≠ some a.block)
  eq : pas V k = (rActs k l e).1
  bel : Below w.heap.size w wr
  hq : w.heap.size ≤ q
  hx : ∀ a, x = some a → a.block < w.heap.size

theorem DQ.qlt {w wr : World} {q : Nat} {x : Option Addr} {n c : Nat} {L l : List Nat} {e : Nat} {R : Value} {k : Nat} {V : Nat → AV} (h : DQ w wr q x n c L l e R k V) : q < wr.heap.size := by
  obtain ⟨t, h1, _⟩ := h.rd
  exact h1.lt

theorem Sl.lt_block {w : World} {x : Option Addr} {n c : Nat} {l : List Nat} (h : Sl w x n c l) (hn : n ≠ 0) {a : Addr} (ha : x = some a) : a.block < w.heap.size := by
  rcases h.row with h0 | ⟨b, o, h1, h2, h3⟩
  · exact absurd h0 hn
  · rw [ha] at h1
    injection h1 with h1
    subst h1
    exact h2

theorem DQ.step {w wr v : World} {q : Nat} {x : Option Addr} {n c : Nat} {L l : List Nat} {e : Nat} {xr : Option Addr} {cr k : Nat} {V : Nat → AV} (h : DQ w wr q x n c L l e (.slice xr k cr) k V) (hk : k ≤ 256) {Q : Nat} {av : AV}
    (hb : RB wr v q x n c L (rAct (rActs k l e).2.1 (rActs k l e).2.2).2.1 (rAct (rActs k l e).2.1 (rActs k l e).2.2).2.2 Q (.string av.key) (.bool av.set) (.slice av.x av.n av.c)) (hpa : pa av = (rAct (rActs k l e).2.1 (rActs k l e).2.2).1) (hok : ActOk v av) (hav : ∀ a, av.x = some a → wr.heap.size ≤ a.block) :
    ∃ x' c' w', (Builtin.append_ #[24, 24] 24 #[.slice xr k cr, .slice (some ⟨v.heap.size, 0, none⟩) 1 1]).run Tryz.prog (v.alloc (.cells #[.string av.key, .bool av.set, .slice av.x av.n av.c] 54)) = .ok (.slice x' (k + 1) c') w' ∧
      Hid (DQ w w' q x n c L l e (.slice x' (k + 1) c') (k + 1) (catA V k fun _ => av)) := by
  have hql := h.qlt
  have hsz := h.bel.size
  have hsz1 := hb.tn.size
  have hoq : ∀ g, (Value.slice xr k cr).ownBlock = some g → g ≠ q := fun g hg => (h.hR g hg).2
  have hlt : ∀ g, (Value.slice xr k cr).ownBlock = some g → g < wr.heap.size := fun g hg => (h.own.lt g hg).2
  have tq : Turns (fun j => j = q) wr v := ⟨hb.tn.os, hb.tn.tape, hb.tn.output, hb.tn.size, fun j hj hn => hb.tn.block j hj hn⟩
  have own1 : OwnA v (.slice xr k cr) k V := h.own.turns tq hoq
  have own2 := own1.alloc #[.string av.key, .bool av.set, .slice av.x av.n av.c] 54
  have b1 : Below v.heap.size v (v.alloc (.cells #[.string av.key, .bool av.set, .slice av.x av.n av.c] 54)) := (Below.refl _ _).alloc (Nat.le_refl _) _
  have t3 := Three.new v (.string av.key) (.bool av.set) (.slice av.x av.n av.c) 54
  obtain ⟨x', c', w', hap, HP⟩ := own2.push v.heap.size 0 1 1 (fun _ => av) (fun i hi => by
    obtain rfl : i = 0 := by omega
    exact ⟨t3.c0, t3.c1, t3.c2⟩) (by omega)
  obtain ⟨p1, p2, p3⟩ := HP.out
  refine ⟨x', c', w', hap, ?_⟩
  have hn1 := b1.size
  have hn2 := p2.size
  have hbel1 : Below w.heap.size w v := h.bel.trans (hb.tn.below h.hq hsz)
  have hbel2 : Below w.heap.size w (v.alloc (.cells #[.string av.key, .bool av.set, .slice av.x av.n av.c] 54)) := hbel1.trans (b1.mono hbel1.size)
  have hvi : ∀ i, i < k → ActOk v (V i) := fun i hi => (h.ok i hi).turns tq (fun hn a ha => (((h.ap i hi) a ha).2 hn).1)
  refine ⟨?_, p1, fun g hg => ?_, fun i hi => ?_, fun i hi a ha => ?_, ?_, hbel2.trans (p2.below (fun j hj => (h.hR j hj).1) hbel2.size), h.hq, h.hx⟩
  · obtain ⟨t, r1, r2⟩ := hb.rd
    exact ⟨t, (r1.below b1).turns p2 (fun e1 => hoq _ e1 rfl) (fun a ha e1 => by have := h.hx a ha; have := (h.hR _ e1).1; omega), r2⟩
  · rcases p3 g hg with e1 | e1
    · exact h.hR g e1
    · exact ⟨by omega, by omega⟩
  · by_cases ei : i < k
    · rw [catA_old V _ ei]
      exact ((hvi i ei).below b1).turns p2 (fun hn a ha => ((h.ap i ei a ha).2 hn).2)
    · obtain rfl : i = k := by omega
      rw [catA_at]
      exact (hok.below b1).turns p2 (fun hn a ha e1 => by have := hav a ha; have := hlt _ e1; omega)
  · by_cases ei : i < k
    · rw [catA_old V _ ei] at ha ⊢
      refine ⟨(h.ap i ei a ha).1, fun hn => ⟨((h.ap i ei a ha).2 hn).1, fun e1 => ?_⟩⟩
      rcases p3 _ e1 with e2 | e2
      · exact ((h.ap i ei a ha).2 hn).2 e2
      · have := (h.ok i ei).sl.lt_block hn ha
        omega
    · obtain rfl : i = k := by omega
      rw [catA_at] at ha ⊢
      have h1 := hav a ha
      refine ⟨by omega, fun hn => ⟨by omega, fun e1 => ?_⟩⟩
      rcases p3 _ e1 with e2 | e2
      · have := hlt _ e2
        omega
      · have := hok.sl.lt_block hn ha
        omega
  · rw [pas_cat V (fun _ => av) k 1, h.eq]
    show (rActs k l e).1 ++ [pa av] = _
    rw [hpa]
    rfl

theorem dec_ref {b : List Nat} {c : Nat} {acts : List PA} (hb : ∀ v ∈ b, v < 256) (hS : DecSays b c acts) : (∃ o, EncSays (rd b).1 0 o ∧ o = b ∧ c = 0 ∧ acts = (rd b).1) ∨ (c = 5 ∧ acts = [] ∧ ∃ c' o, EncSays (rd b).1 c' o ∧ (c' = 0 → o ≠ b)) := by
  rcases hS with ⟨⟨h1, h2, h3⟩, h4, h5⟩ | ⟨h1, h4, h5⟩
  · left
    have he := (rd_iff b hb h2).1 h3
    refine ⟨enc (rd b).1, .inr (.inr ⟨⟨rd_len b, h2⟩, by rw [he]; exact h1, rfl, rfl⟩), he, h4, h5⟩
  · right
    obtain ⟨c', o, hE⟩ := enc_says (rd b).1
    refine ⟨h4, h5, c', o, hE, fun hc he => ?_⟩
    rcases hE with ⟨_, e1, e2⟩ | ⟨_, _, e1, e2⟩ | ⟨⟨e3, e4⟩, e5, e1, e2⟩
    · omega
    · omega
    · rw [e2] at he
      exact h1 ⟨by rw [← he]; exact e5, e4, (rd_iff b hb e4).2 he⟩

set_option maxHeartbeats 2000000 in
theorem rdecode_any (x : Option Addr) (n cp : Nat) (b : List Nat) (w : World) (h : Sl w x n cp b) (hxb : ∀ a, x = some a → a.block < w.heap.size) (hn : n ≤ 140737488351232) (c : Nat) (acts : List PA) (hS : DecSays b c acts) :
    Calls Tryz.prog 8 #[.slice x n cp] w fun e w' => ∃ a m cm V, e = .returned (.tuple #[.slice a m cm, .int .i64 (c : Int)]) ∧ m ≤ 256 ∧ pas V m = acts ∧ m ≤ cm ∧ DecTold w w' a m V := by
  have hbl := h.lt
  have hrd : rd b = rActs (rNum 256 b 0).1 (rNum 256 b 0).2.1 (rNum 256 b 0).2.2 := rfl
  have hmost := rNum_most 256 b 0 (by omega)
  have hd := dec_ref hbl hS
  have hR0 : RRd (w.alloc (.cells #[.slice x n cp, .int .i64 0, .int .i64 0] 68)) w.heap.size x n cp b 0 0 := by
    have b1 : Below w.heap.size w (w.alloc (.cells #[.slice x n cp, .int .i64 0, .int .i64 0] 68)) := (Below.refl _ _).alloc (Nat.le_refl _) _
    have t1 := Three.new w (.slice x n cp) (.int .i64 0) (.int .i64 0) 68
    refine ⟨t1.c0, t1.c1, t1.c2, fun j => ?_, h.below b1, fun a ha => by have := hxb a ha; omega, Nat.zero_le _, by omega⟩
    simp only [World.frozen?, heap_alloc_new]
    simp
  have b0 : Below w.heap.size w (w.alloc (.cells #[.slice x n cp, .int .i64 0, .int .i64 0] 68)) := (Below.refl _ _).alloc (Nat.le_refl _) _
  have hN := rnum_any w.heap.size n cp 0 0 256 x b _ hR0 (by omega) (by omega)
  rw [List.drop_zero] at hN
  have hconv : ∀ v, Below w.heap.size w v → (convert 22 9 (.slice x n cp)).run Tryz.prog v = .ok (.string (str b)) v := fun v hv => conv_sl (h.below hv)
  generalize rNum 256 b 0 = M at hrd hmost hN
  obtain ⟨N, l, e0⟩ := M
  dsimp only at hrd hmost hN
  have hN256 : N ≤ 256 := by omega
  have H0 : Hid (∀ v, RGo (w.alloc (.cells #[.slice x n cp, .int .i64 0, .int .i64 0] 68)) v w.heap.size x n cp b l e0 → DQ w (v.alloc (.cells #[] 54)) w.heap.size x n cp b l e0 (.slice (some ⟨v.heap.size, 0, none⟩) 0 0) 0 (fun _ => noAV)) := fun v ⟨t, t', r1, r2⟩ => by
    have bb : Below v.heap.size v (v.alloc (.cells #[] 54)) := (Below.refl _ _).alloc (Nat.le_refl _) _
    have hs := t.size
    have hs0 : (w.alloc (.cells #[.slice x n cp, .int .i64 0, .int .i64 0] 68)).heap.size = w.heap.size + 1 := by simp
    have hb2 : Below w.heap.size w v := b0.trans (t.below (Nat.le_refl _) b0.size)
    refine ⟨⟨t', r1.below bb, r2⟩, OwnA.start v _, fun g hg => ?_, (fun i hi => by omega), (fun i hi => by omega), rfl, hb2.trans (bb.mono hb2.size), Nat.le_refl _, hxb⟩
    simp [Value.ownBlock] at hg
    omega
  have HC := hid hconv
  have HD := hid hd
  have HRD := hid hrd
  have hbb := hid hbl
  clear h hS hbl hrd hmost hconv hd hR0 b0
  go_enter Tryz.func8, Tryz.ntmps8
  go_wp2_with (go_at_call 28; refine hN.mono ?_; rintro e w2 ⟨rfl, hg2⟩; clear hN
               have H2 := hid (H0.out w2 hg2)
               clear H0 hg2)
  go_loopw [6, 7] (fun R i wr => ∃ (k : Nat) (xr : Option Addr) (cr : Nat) (V : Nat → AV), k ≤ N ∧ R = .slice xr k cr ∧ i = .int .i64 k ∧ Hid (DQ w wr w.heap.size x n cp b l e0 (.slice xr k cr) k V)) (fun _ i _ => N - (intOf i).toNat)
  case atStart => exact ⟨0, _, _, _, by omega, rfl, rfl, H2.out⟩
  case round =>
    clear H2
    obtain ⟨k, xr, cr, V, hk, rfl, rfl, HQ⟩ := hrel
    by_cases hkl : k < N
    · have hkl' : (k : Int) < (N : Int) := by omega
      obtain ⟨t0, r1, r2⟩ := HQ.out.rd
      have hql := HQ.out.qlt
      have hxw : ∀ a, x = some a → a.block < wr.heap.size := fun a ha => by have := hxb a ha; have := HQ.out.bel.size; omega
      have hll : ∀ v ∈ (rActs k l e0).2.1, v < 256 := fun v hv => by rw [← r2] at hv; exact r1.sl.lt v (List.mem_of_mem_drop hv)
      have HST : Hid (∀ v Q (av : AV), RB wr v w.heap.size x n cp b (rAct (rActs k l e0).2.1 (rActs k l e0).2.2).2.1 (rAct (rActs k l e0).2.1 (rActs k l e0).2.2).2.2 Q (.string av.key) (.bool av.set) (.slice av.x av.n av.c) → pa av = (rAct (rActs k l e0).2.1 (rActs k l e0).2.2).1 → ActOk v av → (∀ a, av.x = some a → wr.heap.size ≤ a.block) →
          ∃ x' c' w', (Builtin.append_ #[24, 24] 24 #[.slice xr k cr, .slice (some ⟨v.heap.size, 0, none⟩) 1 1]).run Tryz.prog (v.alloc (.cells #[.string av.key, .bool av.set, .slice av.x av.n av.c] 54)) = .ok (.slice x' (k + 1) c') w' ∧
            Hid (DQ w w' w.heap.size x n cp b l e0 (.slice x' (k + 1) c') (k + 1) (catA V k fun _ => av))) := fun v Q av a1 a2 a3 a4 => HQ.out.step (by omega) a1 a2 a3 a4
      clear HQ HC HD HRD
      generalize (rActs k l e0).2.1 = L1 at *
      generalize (rActs k l e0).2.2 = E1 at *
      have hk64 := rBy_most 64 L1 E1 (by omega)
      have hkl2 := rBy_lt 64 L1 E1 hll
      have hB := rby_new w.heap.size n cp t0 E1 64 x b wr r1 (by omega) (by omega)
      rw [r2] at hB
      have hB1 : Calls Tryz.prog 29 #[.pointer (some ⟨w.heap.size, 0, none⟩), .int .i64 64] wr fun ed w' => ∃ y m cy, ed = .returned (.slice y m cy) ∧ (convert 22 9 (.slice y m cy)).run Tryz.prog w' = .ok (.string (str (rBy 64 L1 E1).1)) w' ∧ Hid (RB wr (w'.alloc (.cells #[.string (str (rBy 64 L1 E1).1), .bool false, .slice none 0 0] 54)) w.heap.size x n cp b (rBy 64 L1 E1).2.1 (rBy 64 L1 E1).2.2 w'.heap.size (.string (str (rBy 64 L1 E1).1)) (.bool false) (.slice none 0 0)) :=
        hB.mono fun ed w' ⟨v, h1, ⟨h2, y, cy, h3, h4⟩, _⟩ => ⟨y, _, cy, by rw [h1, h3], conv_sl h4, RB.new hql hxw h2 _ _ _⟩
      clear hB
      generalize hK : rBy 64 L1 E1 = K at hB1 hk64 hkl2
      obtain ⟨k1, l1, e1⟩ := K
      dsimp only at hB1 hk64 hkl2
      have hNN : ∀ v Q, RB wr v w.heap.size x n cp b l1 e1 Q (.string (str k1)) (.bool false) (.slice none 0 0) → Calls Tryz.prog 28 #[.pointer (some ⟨w.heap.size, 0, none⟩), .int .i64 1] v fun ed w' => ed = .returned (.int .i64 ((rNum 1 l1 e1).1 : Int)) ∧ w'.cell? ⟨Q, 1, none⟩ = some (.bool false) ∧ w'.frozen? ⟨Q, 1, none⟩ = false ∧ Hid (RB wr w' w.heap.size x n cp b (rNum 1 l1 e1).2.1 (rNum 1 l1 e1).2.2 Q (.string (str k1)) (.bool false) (.slice none 0 0)) := fun v Q hv => by
        obtain ⟨t1, g1, g2⟩ := hv.rd
        have := rnum_any w.heap.size n cp t1 e1 1 x b v g1 (by omega) (by omega)
        rw [g2] at this
        refine this.mono fun ed w' ⟨h1, h2⟩ => ?_
        have h6 := hv.go h2
        exact ⟨h1, h6.tq.c1, h6.tq.f1, h6⟩
      have hm1 := rNum_most 1 l1 e1 (by omega)
      generalize hM : rNum 1 l1 e1 = M at hNN hm1
      obtain ⟨m, l2, e2⟩ := M
      dsimp only at hNN hm1
      have hDA : rAct L1 E1 = if m = 1 then (⟨k1, true, (rBy 4096 l2 e2).1⟩, (rBy 4096 l2 e2).2.1, (rBy 4096 l2 e2).2.2) else (⟨k1, false, []⟩, l2, e2) := by
        unfold rAct
        rw [hK]
        dsimp only
        rw [hM]
      have hkey : nat (str k1) = k1 := nat_str hkl2
      have hks : (str k1).size ≤ 140737488351232 := by rw [str_size]; omega
      have HN := hid hNN
      clear hNN hK hM
      by_cases hm : m = 1
      · subst hm
        rw [if_pos rfl] at hDA
        have hd4 := rBy_most 4096 l2 e2 (by omega)
        have HB2 : Hid (∀ v Q, RB wr v w.heap.size x n cp b l2 e2 Q (.string (str k1)) (.bool true) (.slice none 0 0) → Calls Tryz.prog 29 #[.pointer (some ⟨w.heap.size, 0, none⟩), .int .i64 4096] v fun ed w' => ∃ y m cy, ed = .returned (.slice y m cy) ∧ w'.cell? ⟨Q, 2, none⟩ = some (.slice none 0 0) ∧ w'.frozen? ⟨Q, 2, none⟩ = false ∧ w'.cell? ⟨Q, 0, none⟩ = some (.string (str k1)) ∧ w'.cell? ⟨Q, 1, none⟩ = some (.bool true) ∧
            ∃ x' c' w3, (Builtin.append_ #[24, 24] 24 #[.slice xr k cr, .slice (some ⟨w'.heap.size, 0, none⟩) 1 1]).run Tryz.prog ((w'.setCell ⟨Q, 2, none⟩ (.slice y m cy)).alloc (.cells #[.string (str k1), .bool true, .slice y m cy] 54)) = .ok (.slice x' (k + 1) c') w3 ∧
              Hid (∃ V, DQ w w3 w.heap.size x n cp b l e0 (.slice x' (k + 1) c') (k + 1) V)) := fun v Q hv => by
          obtain ⟨t1, g1, g2⟩ := hv.rd
          have := rby_new w.heap.size n cp t1 e2 4096 x b v g1 (by omega) (by omega)
          rw [g2] at this
          refine this.mono fun ed w' ⟨u, h1, ⟨h2, y, cy, h3, h4⟩, h5⟩ => ?_
          subst h3
          have h6 := hv.go h2
          have h7 := h6.set2 (.slice y (rBy 4096 l2 e2).1.length cy)
          have hfr : ∀ a, y = some a → v.heap.size ≤ a.block := fun a ha => h5 a _ _ (by rw [ha])
          have hQl := hv.tq.lt
          have s1 : Sl (w'.setCell ⟨Q, 2, none⟩ (.slice y (rBy 4096 l2 e2).1.length cy)) y (rBy 4096 l2 e2).1.length cy (rBy 4096 l2 e2).1 := h4.turn (turn_one Q w' 2 _) (fun a ha => by have := hfr a ha; omega)
          obtain ⟨x', c', w3, p1, p2⟩ := HST.out _ Q ⟨str k1, true, y, (rBy 4096 l2 e2).1.length, cy, (rBy 4096 l2 e2).1⟩ (by rw [hDA]; exact h7) (by rw [hDA]; unfold pa; dsimp only; rw [hkey]) ⟨s1, by show (rBy 4096 l2 e2).1.length ≤ _; omega, hks⟩ (fun a ha => by have := hfr a ha; have := hv.tn.size; omega)
          refine ⟨y, _, cy, h1, h6.tq.c2, h6.tq.f2, h6.tq.c0, h6.tq.c1, x', c', w3, ?_, _, p2.out⟩
          simpa [World.setCell] using p1
        clear hDA HST hkey hks hd4 hm1 hll r1 r2 hql hxw hk64 hkl2
        go_wp2_with (first
          | (go_at_call 29; refine hB1.mono ?_; rintro e w1 ⟨y, my, cy, rfl, hcv, HR⟩; clear hB1
             have hN1 := HN.out _ _ HR.out
             clear HN HR)
          | (go_at_call 28; refine hN1.mono ?_; rintro e w2 ⟨rfl, q2, q3, HR2⟩; clear hN1
             have hB2 := HB2.out _ _ (HR2.out.set1 (.bool true))
             clear HB2)
          | (go_at_call 29; refine hB2.mono ?_; rintro e w3 ⟨y3, m3, c3, rfl, q4, q5, q6, q7, x', c', w4, hap, HF⟩; clear hB2)
          | (at_builtin; refine wpList_append_run rfl _ _ 24 rfl _ _ rfl rfl hap ?_; clear hap))
        go_roundw
        case rel => obtain ⟨V', hF⟩ := HF.out; exact ⟨k + 1, x', c', V', by omega, rfl, by go_num, hF⟩
        case measure => simp [intOf]; omega
      · obtain rfl : m = 0 := by omega
        rw [if_neg (by omega)] at hDA
        have HE : Hid (∀ v Q, RB wr v w.heap.size x n cp b l2 e2 Q (.string (str k1)) (.bool false) (.slice none 0 0) → v.cell? ⟨Q, 0, none⟩ = some (.string (str k1)) ∧ v.cell? ⟨Q, 2, none⟩ = some (.slice none 0 0) ∧
            ∃ x' c' w3, (Builtin.append_ #[24, 24] 24 #[.slice xr k cr, .slice (some ⟨v.heap.size, 0, none⟩) 1 1]).run Tryz.prog ((v.setCell ⟨Q, 1, none⟩ (.bool false)).alloc (.cells #[.string (str k1), .bool false, .slice none 0 0] 54)) = .ok (.slice x' (k + 1) c') w3 ∧
              Hid (∃ V, DQ w w3 w.heap.size x n cp b l e0 (.slice x' (k + 1) c') (k + 1) V)) := fun v Q hv => by
          have h7 := hv.set1 (.bool false)
          obtain ⟨x', c', w3, p1, p2⟩ := HST.out _ Q ⟨str k1, false, none, 0, 0, []⟩ (by rw [hDA]; exact h7) (by rw [hDA]; unfold pa; dsimp only; rw [hkey]) ⟨Sl.empty _, Nat.zero_le _, hks⟩ (fun a ha => by cases ha)
          refine ⟨hv.tq.c0, hv.tq.c2, x', c', w3, ?_, _, p2.out⟩
          simpa [World.setCell] using p1
        clear hDA HST hkey hks hm1 hll r1 r2 hql hxw hk64 hkl2
        go_wp2_with (first
          | (go_at_call 29; refine hB1.mono ?_; rintro e w1 ⟨y, my, cy, rfl, hcv, HR⟩; clear hB1
             have hN1 := HN.out _ _ HR.out
             clear HN HR)
          | (go_at_call 28; refine hN1.mono ?_; rintro e w2 ⟨rfl, q2, q3, HR2⟩; clear hN1
             obtain ⟨q6, q4, x', c', w4, hap, HF⟩ := HE.out _ _ HR2.out
             clear HE)
          | (at_builtin; refine wpList_append_run rfl _ _ 24 rfl _ _ rfl rfl hap ?_; clear hap))
        go_roundw
        case rel => obtain ⟨V', hF⟩ := HF.out; exact ⟨k + 1, x', c', V', by omega, rfl, by go_num, hF⟩
        case measure => simp [intOf]; omega
    · obtain rfl : k = N := by omega
      have hq := HQ.out
      have hacts := hq.own.acts hq.ok
      have hpas : pas V k = (rd b).1 := by rw [HRD.out]; exact hq.eq
      have hkc : k ≤ cr := by
        obtain ⟨_, _, hfe, h4, _⟩ := own_form hq.own
        injection hfe with _ _ hfe
        omega
      have HF : Hid (∀ v, Below wr.heap.size wr v → DecTold w v xr k V) := fun v hb => ⟨hacts.below hb, (fun ad ha => by
          rcases hq.own.2 with ⟨he3, _⟩ | ⟨g, cap, cur, he3, _⟩
          · injection he3 with he3
            rw [ha] at he3
            cases he3
          · have := (hq.hR g (by rw [he3]; rfl)).1
            injection he3 with he3
            rw [ha] at he3
            injection he3 with he3
            rw [he3]
            exact this), (fun i hi ad ha => (hq.ap i hi ad ha).1), hq.bel.trans (hb.mono hq.bel.size)⟩
      have HCC : Hid (∀ v, Below wr.heap.size wr v → (convert 22 9 (.slice x n cp)).run Tryz.prog v = .ok (.string (str b)) v) := fun v hb => HC.out v (hq.bel.trans (hb.mono hq.bel.size))
      rcases HD.out with ⟨o, hE, ho, rfl, rfl⟩ | ⟨rfl, rfl, c', o, hE, hne⟩
      · rw [← hpas] at hE
        have hC : Calls Tryz.prog 14 #[.slice xr k cr] wr fun e w' => ∃ y m cy, e = .returned (.tuple #[.slice y m cy, .int .i64 ((0 : Nat) : Int)]) ∧ (convert 22 9 (.slice y m cy)).run Tryz.prog w' = .ok (.string (str b)) w' ∧ (convert 22 9 (.slice x n cp)).run Tryz.prog w' = .ok (.string (str b)) w' ∧ Hid (Below wr.heap.size wr w') :=
          (rencode_any xr k cr V wr hacts (by omega) 0 o hE).mono fun e w' ⟨y, m, cy, h1, h2, h3, h4⟩ => ⟨y, m, cy, h1, by rw [← ho]; exact conv_sl h2, HCC.out w' h4, h4⟩
        have HP := hid hpas
        clear hq hacts hpas hE HQ HD HRD HC HCC ho
        generalize str b = Sb at *
        go_wp2_with (go_at_call 14; refine hC.mono ?_; rintro e w3 ⟨y3, m3, c3, rfl, g1, g2, HB⟩; clear hC)
        go_ret2
        exact ⟨xr, k, cr, V, rfl, hN256, HP.out, hkc, HF.out w3 HB.out⟩
      · rw [← hpas] at hE
        have hC : Calls Tryz.prog 14 #[.slice xr k cr] wr fun e w' => ∃ y m cy So, e = .returned (.tuple #[.slice y m cy, .int .i64 (c' : Int)]) ∧ (convert 22 9 (.slice y m cy)).run Tryz.prog w' = .ok (.string So) w' ∧ (convert 22 9 (.slice x n cp)).run Tryz.prog w' = .ok (.string (str b)) w' ∧ (c' = 0 → (So.toList == (str b).toList) = false) ∧ Hid (Below wr.heap.size wr w') :=
          (rencode_any xr k cr V wr hacts (by omega) c' o hE).mono fun e w' ⟨y, m, cy, h1, h2, h3, h4⟩ => ⟨y, m, cy, str o, h1, conv_sl h2, HCC.out w' h4, fun h0 => beq_nat (str o) (str b) false (by
            rw [nat_str h2.lt, nat_str hbb.out]
            exact ⟨fun e => absurd e (hne h0), fun e => by cases e⟩), h4⟩
        clear hq hacts hpas hE HQ HD HRD HC HCC hne
        generalize str b = Sb at *
        have HF2 : Hid (∀ v, Below wr.heap.size wr v → Below w.heap.size w v) := fun v hv => (HF.out v hv).2.2.2
        clear HF
        by_cases h0 : c' = 0
        · subst h0
          go_wp2_with (go_at_call 14; refine hC.mono ?_; rintro e w3 ⟨y3, m3, c3, So, rfl, g1, g2, g3, HB⟩; clear hC; have g4 := g3 rfl; clear g3)
          go_ret2
          exact ⟨none, 0, 0, fun _ => noAV, rfl, by omega, rfl, Nat.le_refl _, ⟨.inl rfl, fun i hi => by omega⟩, (fun ad ha => by cases ha), (fun i hi => by omega), HF2.out _ HB.out⟩
        · have hne0 : ((c' : Int) != 0) = true := by simp; omega
          go_wp2_with (go_at_call 14; refine hC.mono ?_; rintro e w3 ⟨y3, m3, c3, So, rfl, g1, g2, g3, HB⟩; clear hC g3)
          go_ret2
          exact ⟨none, 0, 0, fun _ => noAV, rfl, by omega, rfl, Nat.le_refl _, ⟨.inl rfl, fun i hi => by omega⟩, (fun ad ha => by cases ha), (fun i hi => by omega), HF2.out _ HB.out⟩

end Go.Proofs.YtbbjklenpgkooaaGreat

/-
  The document's Same of package store: lists that are alike.
  Conditions: the acts lie in memory.
-/
namespace Go.Proofs.YtbbjklenpgkooaaGreat
open Go.RowKit By Dk Wi St
set_option linter.unusedVariables false
set_option linter.unusedSimpArgs false
set_option maxRecDepth 100000

theorem ActsAt.drewN {w : World} {a : Option Addr} {len : Nat} {V : Nat → AV} (h : ActsAt w a len V) (m : Nat) : ActsAt (w.drewN m) a len V := h.below ⟨rfl, rfl, rfl, Nat.le_refl _, fun _ _ => rfl⟩

theorem pa_parts {v u : AV} (h : pa v = pa u) : v.key = u.key ∧ v.set = u.set ∧ v.d = u.d := by
  unfold pa at h
  injection h with h1 h2 h3
  exact ⟨nat_inj h1, h2, h3⟩

theorem pas_at {V U : Nat → AV} {n i : Nat} (h : pas V n = pas U n) (hi : i < n) : pa (V i) = pa (U i) := by
  have := congrArg (fun l => l[i]?) h
  simpa [pas, hi] using this

set_option maxHeartbeats 1000000 in
theorem rsame_yes (a b : Option Addr) (n ca cb : Nat) (V U : Nat → AV) (w : World) (h1 : ActsAt w a n V) (h2 : ActsAt w b n U) (he : pas V n = pas U n) (hn : n ≤ 140737488351232) :
    Calls Tryz.prog 9 #[.slice a n ca, .slice b n cb] w fun e w' => e = .returned (.bool true) ∧ Below w.heap.size w w' := by
  have H1 := hid h1
  have H2 := hid h2
  have HE := hid he
  clear h1 h2 he
  go_enter Tryz.func9, Tryz.ntmps9
  go_wp2_with fail
  go_loopw [5] (fun i wr => ∃ k m : Nat, k ≤ n ∧ i = .int .i64 k ∧ Hid (wr = w.drewN m)) (fun i _ => n - (intOf i).toNat)
  case atStart => exact ⟨0, 0, by omega, rfl, rfl⟩
  case round =>
    obtain ⟨k, m, hk, rfl, HW⟩ := hrel
    by_cases hkl : k < n
    · have hkl' : (k : Int) < (n : Int) := by omega
      rcases H1.out.row with h0 | ⟨ba, oa, rfl, hba, hca⟩
      · omega
      rcases H2.out.row with h0 | ⟨bb, ob, rfl, hbb, hcb⟩
      · omega
      obtain ⟨e1, e2, e3⟩ := pa_parts (pas_at HE.out hkl)
      obtain ⟨f0, f1, f2⟩ := hca k hkl
      obtain ⟨g0, g1, g2⟩ := hcb k hkl
      have hw := HW.out
      have k0 : wr.cell? ⟨ba, oa + k * 3, none⟩ = some (.string (V k).key) := by rw [hw]; exact f0
      have k1 : wr.cell? ⟨ba, oa + k * 3 + 1, none⟩ = some (.bool (V k).set) := by rw [hw]; exact f1
      have k2 : wr.cell? ⟨ba, oa + k * 3 + 2, none⟩ = some (.slice (V k).x (V k).n (V k).c) := by rw [hw]; exact f2
      have l0 : wr.cell? ⟨bb, ob + k * 3, none⟩ = some (.string (V k).key) := by rw [hw, e1]; exact g0
      have l1 : wr.cell? ⟨bb, ob + k * 3 + 1, none⟩ = some (.bool (V k).set) := by rw [hw, e2]; exact g1
      have l2 : wr.cell? ⟨bb, ob + k * 3 + 2, none⟩ = some (.slice (U k).x (U k).n (U k).c) := by rw [hw]; exact g2
      have c1 : ∀ q, (convert 22 9 (.slice (V k).x (V k).n (V k).c)).run Tryz.prog (wr.drewN q) = .ok (.string (str (V k).d)) (wr.drewN q) := fun q => by
        rw [hw, World.drewN_drewN]; exact conv_sl (((H1.out.drewN _).act k hkl).sl)
      have c2 : ∀ q, (convert 22 9 (.slice (U k).x (U k).n (U k).c)).run Tryz.prog (wr.drewN q) = .ok (.string (str (V k).d)) (wr.drewN q) := fun q => by
        rw [hw, World.drewN_drewN, e3]; exact conv_sl (((H2.out.drewN _).act k hkl).sl)
      clear hca hcb f0 f1 f2 g0 g1 g2 e1 e2 e3 hw
      generalize (V k).key = Kk at *
      generalize (V k).set = Ks at *
      generalize (V k).x = Kx at *
      generalize (V k).n = Kn at *
      generalize (V k).c = Kc at *
      generalize (U k).x = Ux at *
      generalize (U k).n = Un at *
      generalize (U k).c = Uc at *
      generalize str (V k).d = Kd at *
      go_wp2_with fail
      go_quiet (fail)
      go_wp2_with fail
      go_roundw
      case rel => exact ⟨k + 1, m + nq, by omega, by go_num, by rw [HW.out, World.drewN_drewN]; exact hid rfl⟩
      case measure => simp [intOf]; omega
    · obtain rfl : k = n := by omega
      go_wp2_with fail
      go_ret
      exact ⟨rfl, by rw [HW.out]; exact below_drewN' (Below.refl _ _) m⟩

end Go.Proofs.YtbbjklenpgkooaaGreat

/-
  The bytes that came in lie in memory that is there.
  Conditions: none.
-/
namespace Go.Proofs.YtbbjklenpgkooaaGreat
open Go.RowKit Go.ChangeShapes Go.WideShapes Go.Deep Wi By
set_option linter.unusedVariables false
set_option linter.unusedSimpArgs false
set_option maxRecDepth 100000

theorem st_block {W : World} {base : Nat} {x : Option Addr} {n c : Nat} (h : Value.okWide Tryz.prog W .any base 22 (.slice x n c)) : ∀ a, x = some a → a.block < W.heap.size := by
  rintro a rfl
  simp only [Value.okWide, Tryz.underlying22, Cell.okWide, Cell.ok] at h
  obtain ⟨_, _, _, _, row, cells, hs, _⟩ := h
  by_cases hb : a.block < W.heap.size
  · exact hb
  · unfold World.shape? at hs
    simp [Array.getElem?_eq_none (Nat.le_of_not_lt hb)] at hs

end Go.Proofs.YtbbjklenpgkooaaGreat

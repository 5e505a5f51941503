/-
  What the document's ReadBytes does: a contract over plain lists ('WiPlain').
  Conditions: bytes that are looked at lie in memory.
-/
import Derived.Test.YtjodeceaogngfaaWiRefTake
namespace Go.Proofs.Ytjodeceaogngfaa
open Go.RowKit Wi By
set_option linter.unusedVariables false
set_option linter.unusedSimpArgs false
set_option maxRecDepth 100000

def RTold (w w' : World) (q : Nat) (x : Option Addr) (n c : Nat) (L : List Nat) (v : Value) (k l' : List Nat) (e' : Nat) : Prop := RGo w w' q x n c L l' e' ∧ ∃ y cy, v = .slice y k.length cy ∧ Sl w' y k.length cy k

theorem cut_mid (x : Option Addr) (n c a h : Nat) (w : World) (h1 : a ≤ h) (h2 : h ≤ c) :
    (Instr.slice 22 (.slice x n c) (some (.int .i64 (a : Int))) (some (.int .i64 (h : Int))) none).run Try.prog w = .ok (.slice (cutTo x c a) (h - a) (c - a)) w := by
  rw [run_slice_lh w 22 _ _ _ welem_row .i64 .i64 (a : Int) (h : Int) (by omega) (by omega) (by omega), welem_is, wsize_byte]
  simp only [Result.andThen, sliced, Int.toNat_natCast, Nat.mul_one]
  rfl

/- An append that comes up alone in a region that draws its order. -/
theorem wready_append {P : Program} {w w' : World} {ops : Array Oper} {o : Oper} {a : Act} {K : Act → World → Prop} {Q : Exit → Act → World → Prop} {v' : Value} (hg : Region.wanted o (yielded ops a.tmps) = true) (s x : Operand) (t : TypeId)
    (ho : o.op = .call { callee := .builtin .append, args := #[s, x], argTypes := #[t, t] }) (v1 v2 : Value) (hs : a.eval s = v1) (hx : a.eval x = v2) (hr : (Builtin.append_ #[t, t] o.type #[v1, v2]).run P w = .ok v' w')
    (h : K (a.put o.dst v') w') : if Region.wanted o (yielded ops a.tmps) = true then Oper.wp P o a w K Q else K (a.put o.dst undef) w := by
  rw [if_pos hg]
  unfold Oper.wp execOp
  simp only [ho, resolve, invoke, builtin, Sem.run_bind, Sem.run_pure, Result.andThen_ok, List.map_toArray, List.map_cons, List.map_nil, hs, hx, hr]
  exact h

theorem below_drew' {B : Nat} {a w : World} (h : Below B a w) : Below B a w.drew := ⟨h.os, h.tape, h.output, h.size, h.block⟩

set_option maxHeartbeats 2000000 in
set_option maxRecDepth 100000 in
theorem rby_new (q n c t e : Nat) (b : Int) (x : Option Addr) (L : List Nat) (w : World) (h : RRd w q x n c L t e) (hb1 : -9223372036854775808 ≤ b) (hb2 : b ≤ 9223372036854775807) :
    Calls Try.prog 37 #[.pointer (some ⟨q, 0, none⟩), .int .i64 b] w fun ed w' => ∃ v, ed = .returned v ∧ RTold w w' q x n c L v (rBy b (L.drop t) e).1 (rBy b (L.drop t) e).2.1 (rBy b (L.drop t) e).2.2 ∧ ∀ a k d, v = .slice (some a) k d → w.heap.size ≤ a.block := by
  have h1 := h.place
  have hu : Calls Try.prog 36 #[.pointer (some ⟨q, 0, none⟩), .int .i64 b] w fun ed w' => ed = .returned (.int .i64 ((rNum b (L.drop t) e).1 : Int)) ∧ Turn q w w' ∧ ∃ t', RRd w' q x n c L t' (rNum b (L.drop t) e).2.2 ∧ L.drop t' = (rNum b (L.drop t) e).2.1 :=
    rnum_any q n c t e b x L w h hb1 hb2
  have hN := rNum_lt b (L.drop t) e hb2
  have hsm := h.small
  have hle := h.le
  have hlen := h.sl.len
  by_cases he2 : (rNum b (L.drop t) e).2.2 = 0
  · have he : e = 0 := by
      by_cases he : e = 0
      · exact he
      · rw [rNum_bad he] at he2
        exact he2
    subst he
    by_cases hfew : (rNum b (L.drop t) 0).2.1.length < (rNum b (L.drop t) 0).1
    · have HD : Hid (rBy b (L.drop t) 0 = ([], L.drop t, 5)) := rBy_few he2 hfew
      have hr : ∀ v s, Turn q w v → RRd v q x n c L s 0 → Calls Try.prog 46 #[.pointer (some ⟨q, 0, none⟩), .int .i64 5, .int .i64 (t : Int)] v fun ed w' => ed = .returned (.tuple #[]) ∧ RGo w w' q x n c L (L.drop t) 5 := fun v s t1 h3 =>
        (wrong_any q n c s 0 5 t x L v h3 hle).mono fun ed w' ⟨a1, a2, a3⟩ => ⟨a1, t1.trans a2, t, a3, rfl⟩
      rw [he2] at hu
      generalize (rNum b (L.drop t) 0).1 = N at *
      generalize (rNum b (L.drop t) 0).2.1 = l2 at *
      clear h he2
      go_enter Try.func37, Try.ntmps37
      go_wp2_with (go_at_call 36; refine hu.mono ?_; rintro e w2 ⟨rfl, t2, s, hg, hd⟩; have g0 := hg.bytes; have g1 := hg.place; have g2 := hg.bad; clear hu)
      have hs := hg.le
      obtain ⟨r, hr'⟩ : ∃ r, r = n - s := ⟨_, rfl⟩
      have hri : (n : Int) - (s : Int) = (r : Int) := by omega
      have hrN : r < N := by
        have := congrArg List.length hd
        rw [List.length_drop, hlen] at this
        omega
      have hr2 := fun m => hr (w2.drewN m) s (t2.drewN m) (hg.drewN m)
      clear hr hg hd hr' hlen hfew t2
      go_quiet (fail)
      go_wp2_with (go_at_call 46; refine (hr2 _).mono ?_; rintro e w3 ⟨rfl, hg3⟩; clear hr2)
      go_ret
      rw [HD.out]
      exact ⟨_, rfl, ⟨hg3, none, 0, rfl, Sl.empty _⟩, fun a k d he => by cases he⟩
    · have hge : (rNum b (L.drop t) 0).1 ≤ (rNum b (L.drop t) 0).2.1.length := by omega
      have HD : Hid (rBy b (L.drop t) 0 = ((rNum b (L.drop t) 0).2.1.take (rNum b (L.drop t) 0).1, (rNum b (L.drop t) 0).2.1.drop (rNum b (L.drop t) 0).1, 0)) := rBy_yes he2 hge
      rw [he2] at hu
      generalize (rNum b (L.drop t) 0).1 = N at *
      generalize (rNum b (L.drop t) 0).2.1 = l2 at *
      clear h he2 hfew
      go_enter Try.func37, Try.ntmps37
      go_wp2_with (go_at_call 36; refine hu.mono ?_; rintro e w2 ⟨rfl, t2, s, hg, hd⟩; have g0 := hg.bytes; have g1 := hg.place; have g2 := hg.bad; clear hu)
      have hs := hg.le
      have hdl : l2.length = n - s := by
        rw [← hd, List.length_drop, hlen]
      obtain ⟨r, hr'⟩ : ∃ r, r = n - s := ⟨_, rfl⟩
      have hri : (n : Int) - (s : Int) = (r : Int) := by omega
      have hrN : N ≤ r := by omega
      obtain ⟨z, hz⟩ : ∃ z, z = s + N := ⟨_, rfl⟩
      have hzi : (s : Int) + (N : Int) = (z : Int) := by omega
      have hzn : z ≤ n := by omega
      have hwz : IntKind.i64.wrap (z : Int) = (z : Int) := by rw [IntKind.wrap_i64]; omega
      have hcap := hg.sl.le
      have hcut : ∀ v : World, (Instr.slice 22 (.slice x n c) (some (.int .i64 (s : Int))) (some (.int .i64 (z : Int))) none).run Try.prog v = .ok (.slice (cutTo x c s) N (c - s)) v := fun v => by
        have := cut_mid x n c s z v (by omega) (by omega)
        rw [show z - s = N by omega] at this
        exact this
      have hsl : ∀ v, Below w2.heap.size w2 v → Sl v (cutTo x c s) N (c - s) (l2.take N) := fun v hv => by
        have := ((hg.below hv).sl.from s hs).head N (by omega)
        rw [hd] at this
        exact this
      have HG : Hid (RRd w2 q x n c L s 0 ∧ Turn q w w2 ∧ L.drop s = l2 ∧ z = s + N ∧ l2.length = n - s ∧ N ≤ n - s) := ⟨hg, t2, hd, hz, hdl, by omega⟩
      clear hg hd hr' hlen t2 hz hdl hge
      go_quiet (fail)
      go_wp2_with fail
      have hbd : Below w2.heap.size w2 (w2.drewN nq).drew := ⟨rfl, rfl, rfl, Nat.le_refl _, fun _ _ => rfl⟩
      obtain ⟨R3, w3, hrun, ho3, hb3⟩ := push_list (w2.drewN nq).drew w2 w2.heap.size (.slice none 0 0) [] (OwnL.start _ _) (Nat.le_refl _) hbd _ N (c - s) (l2.take N) (hsl _ hbd) (by simp; omega)
      rw [List.nil_append] at ho3
      have hS3 : w3.cell? ⟨q, 0, none⟩ = some (.slice x n c) ∧ w3.cell? ⟨q, 1, none⟩ = some (.int .i64 (s : Int)) := by
        have := HG.out.1.below hb3
        exact ⟨this.bytes, this.place⟩
      have hlt2 : ∀ u ∈ l2.take N, u < 256 := (hsl _ hbd).lt
      have hlenN : (l2.take N).length = N := (hsl _ hbd).len
      obtain ⟨y3, c3, rfl, hy3, hyb⟩ := ho3.sl hlt2
      rw [hlenN] at hrun hy3
      have hf1 := (HG.out.1.below hb3).fr 1
      have H3 : Hid (Below w2.heap.size w2 w3 ∧ Sl w3 y3 N c3 (l2.take N) ∧ ∀ a, y3 = some a → w2.heap.size ≤ a.block) := ⟨hb3, hy3, fun a ha => (hyb a ha).1⟩
      have HlN : Hid ((l2.take N).length = N) := hlenN
      clear hsl ho3 hb3 hy3 hyb hlt2 hlenN hbd
      generalize cutTo x c s = y at hcut hrun
      refine wp_region_held_drew (S := fun v => v.cell? ⟨q, 0, none⟩ = some (.slice x n c) ∧ v.cell? ⟨q, 1, none⟩ = some (.int .i64 (s : Int))) (by kernel_rfl) ⟨g0, g1⟩ (fun hHeld => ?_)
      refine wpAnyH_take (i := 0) (v := ?_) rfl (by kernel_rfl) (by kernel_rfl) (by kernel_rfl) (fun _ _ _ h => h) (Or.inl ⟨by rfl, ?_⟩) (by assumption) ?_
      case refine_2 => (intro w hSw; (try dsimp only at hSw); go_simp; (try with_reducible rfl))
      (try simp only [Act.put, List.getElem_toArray, List.getElem_cons_succ, List.getElem_cons_zero, List.setIfInBounds_toArray, List.set_cons_zero, List.set_cons_succ])
      refine wpAnyH_take (i := 1) (v := ?_) rfl (by kernel_rfl) (by kernel_rfl) (by kernel_rfl) (fun _ _ _ h => h) (Or.inl ⟨by rfl, ?_⟩) (by assumption) ?_
      case refine_2 => (intro w hSw; (try dsimp only at hSw); go_simp; (try with_reducible rfl))
      (try simp only [Act.put, List.getElem_toArray, List.getElem_cons_succ, List.getElem_cons_zero, List.setIfInBounds_toArray, List.set_cons_zero, List.set_cons_succ])
      refine wpAnyH_take (i := 2) (v := ?_) rfl (by kernel_rfl) (by kernel_rfl) (by kernel_rfl) (fun _ _ _ h => h) (Or.inl ⟨by rfl, ?_⟩) (by assumption) ?_
      case refine_2 => (intro w hSw; (try dsimp only at hSw); go_simp; (try with_reducible rfl))
      (try simp only [Act.put, List.getElem_toArray, List.getElem_cons_succ, List.getElem_cons_zero, List.setIfInBounds_toArray, List.set_cons_zero, List.set_cons_succ])
      refine wpAnyH_take (i := 3) (v := ?_) rfl (by kernel_rfl) (by kernel_rfl) (by kernel_rfl) (fun _ _ _ h => h) (Or.inl ⟨by rfl, ?_⟩) (by assumption) ?_
      case refine_2 => (intro w hSw; (try dsimp only at hSw); go_simp; (try with_reducible rfl))
      (try simp only [Act.put, List.getElem_toArray, List.getElem_cons_succ, List.getElem_cons_zero, List.setIfInBounds_toArray, List.set_cons_zero, List.set_cons_succ])
      refine wpAnyH_take (i := 4) (v := ?_) rfl (by kernel_rfl) (by kernel_rfl) (by kernel_rfl) (fun _ _ _ h => h) (Or.inl ⟨by rfl, ?_⟩) (by assumption) ?_
      case refine_2 => (intro w hSw; (try dsimp only at hSw); go_simp; (try with_reducible rfl))
      (try simp only [Act.put, List.getElem_toArray, List.getElem_cons_succ, List.getElem_cons_zero, List.setIfInBounds_toArray, List.set_cons_zero, List.set_cons_succ])
      refine wpAnyH_take (i := 5) (v := ?_) rfl (by kernel_rfl) (by kernel_rfl) (by kernel_rfl) (fun _ _ _ h => h) (Or.inl ⟨by rfl, ?_⟩) (by assumption) ?_
      case refine_2 => (intro w hSw; (try dsimp only at hSw); go_simp; (try with_reducible rfl))
      (try simp only [Act.put, List.getElem_toArray, List.getElem_cons_succ, List.getElem_cons_zero, List.setIfInBounds_toArray, List.set_cons_zero, List.set_cons_succ])
      refine wpAnyH_take (i := 6) (v := ?_) rfl (by kernel_rfl) (by kernel_rfl) (by kernel_rfl) (fun _ _ _ h => h) (Or.inl ⟨by rfl, ?_⟩) (by assumption) ?_
      case refine_2 => (intro w hSw; (try dsimp only at hSw); go_simp; (try with_reducible rfl))
      (try simp only [Act.put, List.getElem_toArray, List.getElem_cons_succ, List.getElem_cons_zero, List.setIfInBounds_toArray, List.set_cons_zero, List.set_cons_succ])
      refine wpAnyH_take (i := 7) (v := ?_) rfl (by kernel_rfl) (by kernel_rfl) (by kernel_rfl) (fun _ _ _ h => h) (Or.inl ⟨by rfl, ?_⟩) (by assumption) ?_
      case refine_2 => (intro w hSw; (try dsimp only at hSw); go_simp; (try with_reducible rfl))
      (try simp only [Act.put, List.getElem_toArray, List.getElem_cons_succ, List.getElem_cons_zero, List.setIfInBounds_toArray, List.set_cons_zero, List.set_cons_succ])
      refine wpAnyH_take (i := 8) (v := ?_) rfl (by kernel_rfl) (by kernel_rfl) (by kernel_rfl) (fun _ _ _ h => h) (Or.inl ⟨by rfl, ?_⟩) (by assumption) ?_
      case refine_2 => (intro w hSw; (try dsimp only at hSw); go_simp; (try with_reducible rfl))
      (try simp only [Act.put, List.getElem_toArray, List.getElem_cons_succ, List.getElem_cons_zero, List.setIfInBounds_toArray, List.set_cons_zero, List.set_cons_succ])
      refine wpAnyH_take (i := 9) (v := ?_) rfl (by kernel_rfl) (by kernel_rfl) (by kernel_rfl) (fun _ _ _ h => h) (Or.inl ⟨by rfl, ?_⟩) (by assumption) ?_
      case refine_2 => (intro w hSw; (try dsimp only at hSw); go_simp; (try with_reducible rfl))
      (try simp only [Act.put, List.getElem_toArray, List.getElem_cons_succ, List.getElem_cons_zero, List.setIfInBounds_toArray, List.set_cons_zero, List.set_cons_succ])
      refine wpAnyH_take (i := 10) (v := ?_) rfl (by kernel_rfl) (by kernel_rfl) (by kernel_rfl) (fun _ _ _ h => h) (Or.inl ⟨by rfl, ?_⟩) (by assumption) ?_
      case refine_2 => (intro w hSw; (try dsimp only at hSw); go_simp; (try with_reducible rfl))
      (try simp only [Act.put, List.getElem_toArray, List.getElem_cons_succ, List.getElem_cons_zero, List.setIfInBounds_toArray, List.set_cons_zero, List.set_cons_succ])
      refine wpAnyH_take (i := 11) (v := ?_) rfl (by kernel_rfl) (by kernel_rfl) (by kernel_rfl) (fun _ _ _ h => h) (Or.inl ⟨by rfl, ?_⟩) (by assumption) ?_
      case refine_2 => (intro w hSw; (try dsimp only at hSw); go_simp; (try with_reducible rfl))
      (try simp only [Act.put, List.getElem_toArray, List.getElem_cons_succ, List.getElem_cons_zero, List.setIfInBounds_toArray, List.set_cons_zero, List.set_cons_succ])
      refine wpAnyH_take (i := 12) (v := ?_) rfl (by kernel_rfl) (by kernel_rfl) (by kernel_rfl) (fun _ _ _ h => h) (Or.inl ⟨by rfl, ?_⟩) (by assumption) ?_
      case refine_2 => (intro w hSw; (try dsimp only at hSw); go_simp; (try with_reducible rfl))
      (try simp only [Act.put, List.getElem_toArray, List.getElem_cons_succ, List.getElem_cons_zero, List.setIfInBounds_toArray, List.set_cons_zero, List.set_cons_succ])
      refine wpAnyH_take (i := 13) (v := ?_) rfl (by kernel_rfl) (by kernel_rfl) (by kernel_rfl) (fun _ _ _ h => h) (Or.inl ⟨by rfl, ?_⟩) (by assumption) ?_
      case refine_2 => (intro w hSw; (try dsimp only at hSw); go_simp; (try with_reducible rfl))
      (try simp only [Act.put, List.getElem_toArray, List.getElem_cons_succ, List.getElem_cons_zero, List.setIfInBounds_toArray, List.set_cons_zero, List.set_cons_succ])
      refine wpAnyH_take (i := 14) (v := ?_) rfl (by kernel_rfl) (by kernel_rfl) (by kernel_rfl) (fun _ _ _ h => h) (Or.inl ⟨by rfl, ?_⟩) (by assumption) ?_
      case refine_2 => (intro w hSw; (try dsimp only at hSw); go_simp; (try with_reducible rfl))
      (try simp only [Act.put, List.getElem_toArray, List.getElem_cons_succ, List.getElem_cons_zero, List.setIfInBounds_toArray, List.set_cons_zero, List.set_cons_succ])
      refine wpAnyH_take (i := 15) (v := ?_) rfl (by kernel_rfl) (by kernel_rfl) (by kernel_rfl) (fun _ _ _ h => h) (Or.inl ⟨by rfl, ?_⟩) (by assumption) ?_
      case refine_2 => (intro w hSw; (try dsimp only at hSw); go_simp; (try with_reducible rfl))
      (try simp only [Act.put, List.getElem_toArray, List.getElem_cons_succ, List.getElem_cons_zero, List.setIfInBounds_toArray, List.set_cons_zero, List.set_cons_succ])
      refine wpAnyH_ready (rs := [16]) (by kernel_rfl) (by simp) ?_
      refine AllReadyH.cons rfl (fun K hK => ?_) AllReadyH.nil
      refine wready_append rfl _ _ 22 rfl _ _ rfl rfl hrun ?_
      (try simp only [Act.put, List.getElem_toArray, List.getElem_cons_succ, List.getElem_cons_zero, List.setIfInBounds_toArray, List.set_cons_zero, List.set_cons_succ])
      refine hK.out _ _ hS3 (fun hHeld => ?_)
      clear hK K
      refine wpAnyH_take (i := 17) (v := ?_) rfl (by kernel_rfl) (by kernel_rfl) (by kernel_rfl) (fun _ _ _ h => h) (Or.inl ⟨by rfl, ?_⟩) (by assumption) ?_
      case refine_2 => (intro w hSw; (try dsimp only at hSw); go_simp; (try with_reducible rfl))
      (try simp only [Act.put, List.getElem_toArray, List.getElem_cons_succ, List.getElem_cons_zero, List.setIfInBounds_toArray, List.set_cons_zero, List.set_cons_succ])
      refine wpAnyH_done (by kernel_rfl) ?_ _
      obtain ⟨k0, k1⟩ := hS3
      clear g0 g1 g2 hrun hcut
      go_wp2_with fail
      go_ret
      rw [HD.out]
      obtain ⟨a1, a2, a3, a4, a5, a6⟩ := HG.out
      obtain ⟨b1, b2, b3⟩ := H3.out
      have hyq : ∀ a, y3 = some a → a.block ≠ q := fun a ha => by
        have h1 := b3 a ha
        have h2 := a1.lt
        omega
      refine ⟨_, rfl, ⟨⟨(a2.trans (Turn.of_below b1)).setCell rfl _, z, (a1.below b1).setPlace z hzn, by rw [a4, ← List.drop_drop, a3]⟩, y3, c3, by rw [HlN.out]; rfl, ?_⟩, fun a k d he => ?_⟩
      · rw [HlN.out]
        exact b2.turn ((Turn.refl q w3).setCell rfl _) hyq
      · injection he with e1 e2 e3
        have h1 := b3 a e1
        have h2 := a2.size
        omega
  · have HD : Hid (rBy b (L.drop t) e = ([], (rNum b (L.drop t) e).2.1, (rNum b (L.drop t) e).2.2)) := by
      show rBy b (L.drop t) e = _
      by_cases he : e = 0
      · subst he; exact rBy_no he2
      · rw [rBy_bad he, rNum_bad he]
    generalize (rNum b (L.drop t) e).1 = N at *
    generalize (rNum b (L.drop t) e).2.1 = l2 at *
    generalize (rNum b (L.drop t) e).2.2 = e2 at *
    have hne : ((e2 : Int) != 0) = true := by simp; omega
    clear h
    go_enter Try.func37, Try.ntmps37
    go_wp2_with (go_at_call 36; refine hu.mono ?_; rintro e w2 ⟨rfl, t2, s, hg, hd⟩; have g2 := hg.bad; clear hu)
    go_ret
    rw [HD.out]
    exact ⟨_, rfl, ⟨⟨t2, s, hg, hd⟩, none, 0, rfl, Sl.empty _⟩, fun a k d he => by cases he⟩

theorem rby_any (q n c t e : Nat) (b : Int) (x : Option Addr) (L : List Nat) (w : World) (h : RRd w q x n c L t e) (hb1 : -9223372036854775808 ≤ b) (hb2 : b ≤ 9223372036854775807) :
    Calls Try.prog 37 #[.pointer (some ⟨q, 0, none⟩), .int .i64 b] w fun ed w' => ∃ v, ed = .returned v ∧ RTold w w' q x n c L v (rBy b (L.drop t) e).1 (rBy b (L.drop t) e).2.1 (rBy b (L.drop t) e).2.2 :=
  (rby_new q n c t e b x L w h hb1 hb2).mono fun ed w' ⟨v, h1, h2, _⟩ => ⟨v, h1, h2⟩

end Go.Proofs.Ytjodeceaogngfaa

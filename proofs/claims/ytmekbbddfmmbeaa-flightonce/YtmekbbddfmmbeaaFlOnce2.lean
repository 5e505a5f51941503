/-
  The theorem of delivery: what each act of the law does, with the count.
  Conditions: none.
-/
import Derived.Test.YtmekbbddfmmbeaaFlOnce
namespace Go.Proofs.Ytmekbbddfmmbeaa.Fl
open Go.RowKit By
set_option linter.unusedVariables false
set_option linter.unusedSimpArgs false
set_option maxRecDepth 100000

section
variable {w0 w : World} {p lb k : Nat} {L : List MV}

theorem Once.len_ (h : Once w0 w p lb k L) : L.length ≤ k := h.len

theorem once_deliver_no (h : Once w0 w p lb k L) (i : Int) (hi : i < 0 ∨ (L.length : Int) ≤ i) : Calls Try.prog 15 #[.pointer (some ⟨p, 0, none⟩), .int .i64 i] w fun e w' => e = .returned (.tuple #[.int .i64 0, .int .i64 0, .slice none 0 0, .bool false]) ∧ w' = w := by
  obtain ⟨mb, D, R, nb, Dl, C, h1, _⟩ := h.fl
  exact deliver_no h1 i hi

theorem once_look_no (h : Once w0 w p lb k L) (i : Int) (hi : i < 0 ∨ (L.length : Int) ≤ i) : Calls Try.prog 13 #[.pointer (some ⟨p, 0, none⟩), .int .i64 i] w fun e w' => e = .returned (.tuple #[.int .i64 0, .int .i64 0, .slice none 0 0, .bool false]) ∧ w' = w := by
  obtain ⟨mb, D, R, nb, Dl, C, h1, _⟩ := h.fl
  exact look_no h1 i hi

theorem once_twice_no (h : Once w0 w p lb k L) (i : Int) (hi : i < 0 ∨ (L.length : Int) ≤ i) : Calls Try.prog 16 #[.pointer (some ⟨p, 0, none⟩), .int .i64 i] w fun e w' => e = .returned (.bool false) ∧ w' = w := by
  obtain ⟨mb, D, R, nb, Dl, C, h1, _⟩ := h.fl
  exact twice_no h1 i hi

theorem cnt_pos {L : List MV} {m : MV} {j : Nat} (hm : L[j]? = some m) : 0 < cntL m.fr m.to (str m.d) L := by
  rw [cnt_del _ _ _ L j m hm]
  simp

theorem once_deliver (h : Once w0 w p lb k L) (hk : k ≤ 1000) (j : Nat) (m : MV) (hm : L[j]? = some m) : Calls Try.prog 15 #[.pointer (some ⟨p, 0, none⟩), .int .i64 (j : Int)] w fun e w2 =>
    ∃ f t y n cy s cc, e = .returned (.tuple #[.int .i64 f, .int .i64 t, .slice y n cy, .bool true]) ∧ (convert 31 9 (.slice y n cy)).run Try.prog w2 = .ok (.string s) w2 ∧ Hid (∀ w3, Below w2.heap.size w2 w3 → ∃ v0 st w4 w5, Ent w0 w3 p lb k (del L j) f t s (-1) cc v0 st w4 w5) := by
  obtain ⟨mb, D, R, nb, Dl, C, h1, h2, h3, h4, h5⟩ := h.fl
  have hok := h1.dat m (List.mem_of_getElem? hm)
  have hj : j < L.length := (List.getElem?_eq_some_iff.1 hm).1
  refine (deliver_free h1 j m hm rfl).mono fun e w2 ⟨y, cy, e1, H⟩ => ?_
  obtain ⟨hs, hy, R2, h6, t6⟩ := H.out
  refine ⟨m.fr, m.to, y, m.n, cy, str m.d, C m.fr m.to (str m.d), e1, conv_sl hs, fun w3 hb3 => ?_⟩
  have hb2 : Below w0.heap.size w0 w2 := h.bel.trans (h1.out t6 h1.bw)
  have hl2 := h2.turns t6 (left_far h1 h2 h3)
  have hlen := del_len L j hj
  have hle := h.len
  have hss : (str m.d).size ≤ 140737488355328 := by rw [str_size, hok.sl.len]; have := hok.sm; omega
  refine ent_make rfl (hb2.trans (hb3.mono hb2.size)) (h6.below hb3) (hl2.below hb3) h3 h4 hk (by omega) m.fr m.to (str m.d) hok.wf hok.wt hss (-1) (.inr rfl) (fun a b s => ⟨by have := (h5 a b s).1; omega, (h5 a b s).2⟩) (fun _ => ?_) (fun a b u => ?_)
  · have := (h5 m.fr m.to (str m.d)).1
    have := cnt_pos hm
    omega
  · have q1 := (h5 a b u).1
    have q2 := cnt_del a b u L j m hm
    unfold updC
    by_cases e : m.fr = a ∧ m.to = b ∧ str m.d = u
    · rw [if_pos e] at q2
      rw [if_pos ⟨e.1.symm, e.2.1.symm, e.2.2.symm⟩]
      rw [← e.1, ← e.2.1, ← e.2.2] at q1 q2 ⊢
      omega
    · rw [if_neg e] at q2
      rw [if_neg (fun q => e ⟨q.1.symm, q.2.1.symm, q.2.2.symm⟩)]
      omega

theorem snoc_cnt {C : Int → Int → ByteArray → Int} {m : MV} (h5 : ∀ a b s, (cntL a b s L : Int) ≤ C a b s ∧ C a b s ≤ k) {f t : Int} {s : ByteArray} (e1 : m.fr = f) (e2 : m.to = t) (e3 : str m.d = s) (a b : Int) (u : ByteArray) : (cntL a b u (L ++ [m]) : Int) ≤ updC C f t s (C f t s + 1) a b u := by
  subst e1
  subst e2
  subst e3
  have q1 := (h5 a b u).1
  have q2 := cnt_snoc a b u L m
  unfold updC
  by_cases e : m.fr = a ∧ m.to = b ∧ str m.d = u
  · rw [if_pos e] at q2
    rw [if_pos ⟨e.1.symm, e.2.1.symm, e.2.2.symm⟩]
    rw [← e.1, ← e.2.1, ← e.2.2] at q1 q2 ⊢
    omega
  · rw [if_neg e] at q2
    rw [if_neg (fun q => e ⟨q.1.symm, q.2.1.symm, q.2.2.symm⟩)]
    omega

theorem once_twice (h : Once w0 w p lb k L) (hk : k ≤ 1000) (j : Nat) (m : MV) (hm : L[j]? = some m) : Calls Try.prog 13 #[.pointer (some ⟨p, 0, none⟩), .int .i64 (j : Int)] w fun e w2 =>
    ∃ f t y n cy s, e = .returned (.tuple #[.int .i64 f, .int .i64 t, .slice y n cy, .bool true]) ∧ Below w.heap.size w w2 ∧
      Calls Try.prog 16 #[.pointer (some ⟨p, 0, none⟩), .int .i64 (j : Int)] w2 fun e w3 => e = .returned (.bool true) ∧ (convert 31 9 (.slice y n cy)).run Try.prog w3.drew = .ok (.string s) w3.drew ∧ ∃ cc v0 st w4 w5, Hid (Ent w0 w3.drew p lb k (L ++ [m]) f t s 1 cc v0 st w4 w5) := by
  obtain ⟨mb, D, R, nb, Dl, C, h1, h2, h3, h4, h5⟩ := h.fl
  have hok := h1.dat m (List.mem_of_getElem? hm)
  have hle := h.len
  refine (look_yes h1 j m hm).mono fun e w2 ⟨y, cy, e1, H⟩ => ?_
  obtain ⟨hb2, hs, hy⟩ := H.out
  refine ⟨m.fr, m.to, y, m.n, cy, str m.d, e1, hb2, ?_⟩
  have h1' := h1.below hb2
  have h2' := h2.below hb2
  refine (twice_yes h1' j m hm (by omega)).mono fun e w3 ⟨e3, H3⟩ => ⟨e3, ?_⟩
  obtain ⟨R3, h6, t6⟩ := H3.out
  have bd : Below w3.heap.size w3 w3.drew := (Below.refl _ _).drew
  have hny : ∀ a, y = some a → ¬ fp p mb R a.block := fun a ha hf => by
    have q1 := (hy a ha).1
    rcases (h1.foot _ hf).2 with q | q | ⟨es, c, q⟩
    · have := q.lt; omega
    · have := q.lt; omega
    · have := (Array.getElem?_eq_some_iff.1 q).1; omega
  have hb0 : Below w0.heap.size w0 w2 := h.bel.trans (hb2.mono h.bel.size)
  have hb3 : Below w0.heap.size w0 w3 := hb0.trans (h1'.out t6 h1'.bw)
  have hss : (str m.d).size ≤ 140737488355328 := by rw [str_size, hok.sl.len]; have := hok.sm; omega
  have := ent_make rfl (hb3.trans (bd.mono hb3.size)) (h6.below bd) ((h2'.turns t6 (left_far h1' h2' h3)).below bd) h3 h4 hk (by simp; omega) m.fr m.to (str m.d) hok.wf hok.wt hss 1 (.inl rfl) (fun a b s => ⟨by have := (h5 a b s).1; omega, (h5 a b s).2⟩) (fun e => by omega) (snoc_cnt h5 rfl rfl rfl)
  obtain ⟨v0, st, w4, w5, hE⟩ := this
  exact ⟨conv_sl ((hs.turns t6 (fun _ => hny)).below bd), _, v0, st, w4, w5, hE⟩

theorem once_post (h : Once w0 w p lb k L) (hk : k ≤ 1000) (V : ActV) (hV : ActIn w0 V) : Calls Try.prog 17 #[.pointer (some ⟨p, 0, none⟩), .int .i64 V.a, .int .i64 V.b, .slice V.x V.n V.c] w fun e w2 =>
    e = .returned (.bool true) ∧ (∀ g, Tb w g 33 → w2.heap[g]? = w.heap[g]?) ∧ ∃ m cc v0 st w4 w5, Hid (Ent w0 w2.drew p lb k (L ++ [m]) V.a V.b (str V.d) 1 cc v0 st w4 w5 ∧ Below w0.heap.size w0 w2.drew ∧ Below w0.heap.size w0 w4) := by
  obtain ⟨mb, D, R, nb, Dl, C, h1, h2, h3, h4, h5⟩ := h.fl
  have hle := h.len
  refine (post_yes h1 V.a V.b hV.ha hV.hb V.x V.n V.c V.d (hV.sl.below h.bel) hV.sm (by omega)).mono fun e w2 ⟨e2, H2⟩ => ⟨e2, ?_⟩
  obtain ⟨R3, m, h6, mf, mt, md, mn, mx, t6⟩ := H2.out
  refine ⟨fun g hg => t6.block g hg.lt (fun hf => ?_), ?_⟩
  · rcases (h1.foot _ hf).2 with q | q | q
    · have := hg.same q
      revert this
      decide
    · have := hg.same q
      revert this
      decide
    · exact hg.not_map q
  have bd : Below w2.heap.size w2 w2.drew := (Below.refl _ _).drew
  have hb2 : Below w0.heap.size w0 w2 := h.bel.trans (h1.out t6 h1.bw)
  have hss : (str V.d).size ≤ 140737488355328 := by rw [str_size, hV.sl.len]; have := hV.sm; omega
  have hb3 := hb2.trans (bd.mono hb2.size)
  have := ent_make rfl hb3 (h6.below bd) ((h2.turns t6 (left_far h1 h2 h3)).below bd) h3 h4 hk (by simp; omega) V.a V.b (str V.d) hV.ha hV.hb hss 1 (.inl rfl) (fun a b s => ⟨by have := (h5 a b s).1; omega, (h5 a b s).2⟩) (fun e => by omega) (snoc_cnt h5 mf mt (by rw [md]))
  obtain ⟨v0, st, w4, w5, hE⟩ := this
  exact ⟨m, _, v0, st, w4, w5, hE, hb3, hb3.trans (hE.t1.below (fun j hj => by rw [hj]; exact h2.bl) hb3.size)⟩

end

end Go.Proofs.Ytmekbbddfmmbeaa.Fl

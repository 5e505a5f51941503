/-
  2 texts of this proof, one behind the other: ShPlain, ShBack.
-/
import Derived.Test.YtnfflmndejbepaaJNaPlain
import Derived.Test.YtnfflmndejbepaaJNaCheck
/-
  Shards and holders, plainly: which may be, what a shard has of a name, an item set, entries done and taken back.
  Conditions: none.
-/
namespace Go.Proofs.Ytnfflmndejbepaa.Sh
open Na
set_option linter.unusedVariables false
set_option linter.unusedSimpArgs false
set_option maxRecDepth 100000

structure Chk where
  sz : Int
  dat : List Nat
  sum : Int

structure Itm where
  nm : ByteArray
  ch : Chk

structure Ent where
  seq : Int
  cl : Int
  ks : Int
  nm : ByteArray
  code : Int
  gone : Bool
  sz : Int

structure Und where
  seq : Int
  nm : ByteArray
  has : Bool
  was : Chk

structure Shd where
  pl : Int
  si : Int
  its : List Itm
  log : List Ent
  und : List Und

structure Hld where
  fe : Int
  now : Shd
  nx : List Shd

def zC : Chk := ⟨0, [], 0⟩
def zS : Shd := ⟨0, 0, [], [], []⟩
def zH : Hld := ⟨0, zS, []⟩

/- Names in order. -/
def lt (a b : ByteArray) : Prop := lessN (nat a) (nat b) = true

theorem lt_irr (a : ByteArray) : ¬ lt a a := fun h => by
  unfold lt at h
  rw [less_irrefl] at h
  cases h

theorem lt_tr {a b c : ByteArray} (h : lt a b) (k : lt b c) : lt a c := less_trans _ _ _ h k

theorem lt_tot {a b : ByteArray} (h : a ≠ b) : lt a b ∨ lt b a := by
  have h2 := less_total (nat a) (nat b) (fun e => h (nat_inj e))
  unfold lt
  cases h3 : lessN (nat a) (nat b) <;> cases h4 : lessN (nat b) (nat a) <;> simp_all

theorem lt_ne {a b : ByteArray} (h : lt a b) : a ≠ b := fun e => by subst e; exact lt_irr _ h

theorem lt_asym {a b : ByteArray} (h : lt a b) : ¬ lt b a := fun k => lt_irr _ (lt_tr h k)

/- Which may be. -/
def NameOk (s : ByteArray) : Prop := ∃ rs t, Txt (nat s) rs t ∧ why rs t = 0
def okC (c : Chk) : Prop := 0 ≤ c.sz ∧ c.sz ≤ 4096 ∧ c.dat.length ≤ 4096
def okE (e : Ent) : Prop := (1 ≤ e.seq ∧ e.seq ≤ 4096) ∧ (0 ≤ e.cl ∧ e.cl ≤ 2147483647) ∧ (0 ≤ e.ks ∧ e.ks ≤ 2147483647) ∧ NameOk e.nm ∧
  (e.code ≠ 0 → e.gone = false ∧ e.sz = 0) ∧ (e.gone = true → e.sz = 0) ∧ (0 ≤ e.sz ∧ e.sz ≤ 4096) ∧ (0 ≤ e.code ∧ e.code ≤ 255)

def Rise (L : List Itm) : Prop := L.Pairwise fun x y => lt x.nm y.nm

def okU (u : Und) (e : Ent) : Prop := u.seq = e.seq ∧ u.nm = e.nm ∧ okC u.was ∧ (u.has = false → u.was = zC)

def okS (s : Shd) : Prop := (s.si = 0 ∧ s = zS) ∨ (s.si ≠ 0 ∧ (1 ≤ s.si ∧ s.si ≤ 1048576) ∧ (0 ≤ s.pl ∧ s.pl ≤ 31) ∧ s.und.length ≤ s.log.length ∧ (∀ x ∈ s.its, NameOk x.nm ∧ okC x.ch) ∧ Rise s.its ∧
  (∀ (i : Nat) (e : Ent), s.log[i]? = some e → okE e ∧ e.seq = ((i + 1 : Nat) : Int)) ∧
  ∀ (i : Nat) (u : Und) (e : Ent), s.und[i]? = some u → s.log[s.log.length - s.und.length + i]? = some e → okU u e)

def Nexts : Int → List Shd → Int → Prop
  | _, [], _ => True
  | last, s :: l, fe => last < s.si ∧ s.si ≤ fe ∧ okS s ∧ Nexts s.si l fe

def okH (h : Hld) : Prop := (0 ≤ h.fe ∧ h.fe ≤ 1048576) ∧ okS h.now ∧ h.now.si ≤ h.fe ∧ h.nx.length ≤ 64 ∧ Nexts h.now.si h.nx h.fe

/- What a shard has of a name: the first of that name. -/
def find (nm : ByteArray) : List Itm → Option Chk
  | [] => none
  | x :: L => if x.nm = nm then some x.ch else find nm L

/- An item set, or gone. -/
def isLt (a b : ByteArray) : Bool := lessN (nat a) (nat b)

def setT (nm : ByteArray) (c : Chk) : Bool → List Itm → List Itm
  | done, [] => if done then [] else [⟨nm, c⟩]
  | done, x :: L => (if !done && isLt nm x.nm then [⟨nm, c⟩] else []) ++ ((if x.nm = nm then [] else [x]) ++ setT nm c (done || isLt nm x.nm) L)

def del (nm : ByteArray) : List Itm → List Itm
  | [] => []
  | x :: L => (if x.nm = nm then [] else [x]) ++ del nm L

def setI (L : List Itm) (nm : ByteArray) (has : Bool) (c : Chk) : List Itm := setT nm c (!has) L

theorem setT_true (nm : ByteArray) (c : Chk) : ∀ L, setT nm c true L = del nm L
  | [] => rfl
  | x :: L => by simp [setT, del, setT_true nm c L]

theorem isLt_irr (a : ByteArray) : isLt a a = false := less_irrefl _

theorem del_set (nm : ByteArray) (c : Chk) : ∀ (d : Bool) (L : List Itm), del nm (setT nm c d L) = del nm L
  | d, [] => by
    unfold setT
    cases d <;> simp [del]
  | d, x :: L => by
    have ih := fun d => del_set nm c d L
    unfold setT
    cases hc : (!d && isLt nm x.nm) <;> by_cases e : x.nm = nm <;> simp [del, e, ih]

theorem set_skip {nm : ByteArray} {c : Chk} {d : Bool} {x : Itm} {L : List Itm} (e : x.nm = nm) : setT nm c d (x :: L) = setT nm c d L := by
  show (if !d && isLt nm x.nm then [⟨nm, c⟩] else []) ++ ((if x.nm = nm then [] else [x]) ++ setT nm c (d || isLt nm x.nm) L) = setT nm c d L
  rw [e, isLt_irr]
  simp

theorem set_del (nm : ByteArray) (c : Chk) : ∀ (d : Bool) (L : List Itm), setT nm c d L = setT nm c d (del nm L)
  | d, [] => rfl
  | d, x :: L => by
    have ih := fun d => set_del nm c d L
    by_cases e : x.nm = nm
    · have e1 : setT nm c d (x :: L) = setT nm c d L := by
        exact set_skip e
      rw [e1, ih]
      simp [del, e]
    · have e2 : del nm (x :: L) = x :: del nm L := by simp [del, e]
      rw [e2]
      show (if !d && isLt nm x.nm then [⟨nm, c⟩] else []) ++ ((if x.nm = nm then [] else [x]) ++ setT nm c (d || isLt nm x.nm) L) = (if !d && isLt nm x.nm then [⟨nm, c⟩] else []) ++ ((if x.nm = nm then [] else [x]) ++ setT nm c (d || isLt nm x.nm) (del nm L))
      rw [ih]

theorem del_none {nm : ByteArray} : ∀ {L : List Itm}, find nm L = none → del nm L = L
  | [], _ => rfl
  | x :: L, h => by
    unfold find at h
    by_cases e : x.nm = nm
    · rw [if_pos e] at h; cases h
    · rw [if_neg e] at h
      simp [del, e, del_none h]

theorem set_above {nm : ByteArray} {c : Chk} : ∀ {L : List Itm}, (∀ x ∈ L, lt nm x.nm) → setT nm c false L = ⟨nm, c⟩ :: L
  | [], _ => rfl
  | x :: L, h => by
    have hx : isLt nm x.nm = true := h x (List.mem_cons_self ..)
    have hd : ∀ L : List Itm, (∀ x ∈ L, lt nm x.nm) → del nm L = L := by
      intro L
      induction L with
      | nil => intro _; rfl
      | cons y L ih =>
        intro h
        have := lt_ne (h y (List.mem_cons_self ..))
        simp [del, Ne.symm this, ih (fun z hz => h z (List.mem_cons_of_mem _ hz))]
    have hne := lt_ne (h x (List.mem_cons_self ..))
    simp [setT, hx, Ne.symm hne, setT_true, hd L (fun z hz => h z (List.mem_cons_of_mem _ hz))]

/- What stands there is set anew: nothing turns. -/
theorem set_same {nm : ByteArray} {c : Chk} : ∀ {L : List Itm}, Rise L → find nm L = some c → setT nm c false L = L
  | [], _, h => by cases h
  | x :: L, hr, h => by
    unfold find at h
    have hr2 := List.pairwise_cons.1 hr
    by_cases e : x.nm = nm
    · rw [if_pos e] at h
      injection h with h
      have e1 : setT nm c false (x :: L) = setT nm c false L := by
        exact set_skip e
      rw [e1, set_above (fun y hy => by have := hr2.1 y hy; rw [e] at this; exact this)]
      cases x
      simp at e h
      rw [e, h]
    · rw [if_neg e] at h
      have hlt : lt x.nm nm := by
        have hmem : ∀ {L : List Itm}, find nm L = some c → ∃ y ∈ L, y.nm = nm := by
          intro L
          induction L with
          | nil => intro h; cases h
          | cons z L ih =>
            intro h
            unfold find at h
            by_cases e : z.nm = nm
            · exact ⟨z, List.mem_cons_self .., e⟩
            · rw [if_neg e] at h
              obtain ⟨y, hy, hy2⟩ := ih h
              exact ⟨y, List.mem_cons_of_mem _ hy, hy2⟩
        obtain ⟨y, hy, hy2⟩ := hmem h
        have := hr2.1 y hy
        rwa [hy2] at this
      have hf : isLt nm x.nm = false := by
        cases h3 : isLt nm x.nm with
        | false => rfl
        | true => exact absurd h3 (lt_asym hlt)
      simp [setT, hf, e, set_same hr2.2 h]

/- What was there is set back. -/
theorem set_back {L : List Itm} (hr : Rise L) (nm : ByteArray) (has : Bool) (c : Chk) :
    setI (setI L nm has c) nm (find nm L).isSome ((find nm L).getD zC) = L := by
  unfold setI
  cases h : find nm L with
  | none =>
    simp only [Option.isSome_none, Bool.not_false]
    rw [setT_true, del_set]
    exact del_none h
  | some c0 =>
    simp only [Option.isSome_some, Bool.not_true, Option.getD_some]
    rw [set_del, del_set, ← set_del]
    exact set_same hr h

theorem mem_del {nm : ByteArray} {y : Itm} : ∀ {L : List Itm}, y ∈ del nm L → y ∈ L ∧ y.nm ≠ nm
  | x :: L, h => by
    by_cases e : x.nm = nm
    · simp [del, e] at h
      have := mem_del h
      exact ⟨List.mem_cons_of_mem _ this.1, this.2⟩
    · simp [del, e] at h
      rcases h with h | h
      · subst h; exact ⟨List.mem_cons_self .., e⟩
      · have := mem_del h
        exact ⟨List.mem_cons_of_mem _ this.1, this.2⟩

theorem mem_set {nm : ByteArray} {c : Chk} {y : Itm} : ∀ {d : Bool} {L : List Itm}, y ∈ setT nm c d L → (y = ⟨nm, c⟩ ∧ d = false) ∨ y ∈ L
  | d, [], h => by
    unfold setT at h
    cases d <;> simp at h
    exact .inl ⟨h, rfl⟩
  | d, x :: L, h => by
    unfold setT at h
    rcases List.mem_append.1 h with h | h
    · cases hc : (!d && isLt nm x.nm) <;> rw [hc] at h <;> simp at h
      refine .inl ⟨h, ?_⟩
      cases d <;> simp_all
    · rcases List.mem_append.1 h with h | h
      · by_cases e : x.nm = nm <;> simp [e] at h
        exact .inr (by rw [h]; exact List.mem_cons_self ..)
      · rcases mem_set h with h | h
        · refine .inl ⟨h.1, ?_⟩
          have := h.2
          cases d <;> simp_all
        · exact .inr (List.mem_cons_of_mem _ h)

theorem del_rise {nm : ByteArray} : ∀ {L : List Itm}, Rise L → Rise (del nm L)
  | [], _ => List.Pairwise.nil
  | x :: L, h => by
    have h2 := List.pairwise_cons.1 h
    have ih : Rise (del nm L) := del_rise h2.2
    by_cases e : x.nm = nm
    · simpa [del, e] using ih
    · have : del nm (x :: L) = x :: del nm L := by simp [del, e]
      rw [this]
      exact List.pairwise_cons.2 ⟨fun y hy => h2.1 y (mem_del hy).1, ih⟩

theorem set_rise {nm : ByteArray} {c : Chk} : ∀ {d : Bool} {L : List Itm}, Rise L → Rise (setT nm c d L)
  | true, L, h => by rw [setT_true]; exact del_rise h
  | false, [], _ => List.pairwise_singleton ..
  | false, x :: L, h => by
    have h2 := List.pairwise_cons.1 h
    by_cases e : x.nm = nm
    · have e1 : setT nm c false (x :: L) = setT nm c false L := by
        exact set_skip e
      rw [e1]
      exact set_rise h2.2
    · cases hl : isLt nm x.nm with
      | true =>
        rw [set_above (fun y hy => by
          rcases List.mem_cons.1 hy with hy | hy
          · subst hy; exact hl
          · exact lt_tr hl (h2.1 y hy))]
        exact List.pairwise_cons.2 ⟨fun y hy => by
          rcases List.mem_cons.1 hy with hy | hy
          · subst hy; exact hl
          · exact lt_tr hl (h2.1 y hy), h⟩
      | false =>
        have hx : lt x.nm nm := by
          rcases lt_tot e with h3 | h3
          · exact h3
          · have : isLt nm x.nm = true := h3
            rw [hl] at this; cases this
        have : setT nm c false (x :: L) = x :: setT nm c false L := by simp [setT, hl, e]
        rw [this]
        exact List.pairwise_cons.2 ⟨fun y hy => by
          rcases mem_set hy with hy | hy
          · rw [hy.1]; exact hx
          · exact h2.1 y hy, set_rise h2.2⟩

end Go.Proofs.Ytnfflmndejbepaa.Sh

/-
  Entries done and taken back, holders turned, plainly: what may be stays so, what was is there again.
  Conditions: none.
-/
namespace Go.Proofs.Ytnfflmndejbepaa.Sh
open Na
set_option linter.unusedVariables false
set_option linter.unusedSimpArgs false
set_option maxRecDepth 100000

def back1 (s : Shd) : Shd := match s.und.getLast? with
  | none => s
  | some u => ⟨s.pl, s.si, setI s.its u.nm u.has u.was, s.log.dropLast, s.und.dropLast⟩

def backN : Nat → Shd → Shd
  | 0, s => s
  | n + 1, s => backN n (back1 s)

def undOf (s : Shd) (e : Ent) : Und := ⟨e.seq, e.nm, (find e.nm s.its).isSome, (find e.nm s.its).getD zC⟩

def doE (s : Shd) (e : Ent) (c : Chk) : Shd := ⟨s.pl, s.si, if e.code = 0 then setI s.its e.nm (!e.gone) c else s.its, s.log ++ [e], s.und ++ [undOf s e]⟩

theorem set_self {L : List Itm} (hr : Rise L) (nm : ByteArray) : setI L nm (find nm L).isSome ((find nm L).getD zC) = L := by
  unfold setI
  cases h : find nm L with
  | none =>
    simp only [Option.isSome_none, Bool.not_false]
    rw [setT_true]
    exact del_none h
  | some c0 =>
    simp only [Option.isSome_some, Bool.not_true, Option.getD_some]
    exact set_same hr h

theorem back_do {s : Shd} (hr : Rise s.its) (e : Ent) (c : Chk) : back1 (doE s e c) = s := by
  unfold back1 doE
  simp only [List.getLast?_concat, List.dropLast_concat]
  have : setI (if e.code = 0 then setI s.its e.nm (!e.gone) c else s.its) (undOf s e).nm (undOf s e).has (undOf s e).was = s.its := by
    unfold undOf
    by_cases h : e.code = 0
    · rw [if_pos h]; exact set_back hr e.nm (!e.gone) c
    · rw [if_neg h]; exact set_self hr e.nm
  rw [this]

theorem do_rise {s : Shd} (hr : Rise s.its) (e : Ent) (c : Chk) : Rise (doE s e c).its := by
  show Rise (if e.code = 0 then setI s.its e.nm (!e.gone) c else s.its)
  by_cases h : e.code = 0
  · rw [if_pos h]; exact set_rise hr
  · rw [if_neg h]; exact hr

theorem find_mem {nm : ByteArray} {c : Chk} : ∀ {L : List Itm}, find nm L = some c → ⟨nm, c⟩ ∈ L
  | x :: L, h => by
    unfold find at h
    by_cases e : x.nm = nm
    · rw [if_pos e] at h
      injection h with h
      cases x
      simp at e h
      subst e; subst h
      exact List.mem_cons_self ..
    · rw [if_neg e] at h
      exact List.mem_cons_of_mem _ (find_mem h)

theorem zC_ok : okC zC := by unfold okC zC; simp

/- The entry done: the shard may be still. -/
theorem do_ok {s : Shd} {e : Ent} {c : Chk} (h : okS s) (h0 : s.si ≠ 0) (he : okE e) (hc : okC c) (hq : e.seq = ((s.log.length + 1 : Nat) : Int)) : okS (doE s e c) := by
  rcases h with h | ⟨_, h1, h2, h3, h4, h5, h6, h7⟩
  · exact absurd h.1 h0
  · have hw : okC ((find e.nm s.its).getD zC) := by
      cases hf : find e.nm s.its with
      | none => exact zC_ok
      | some c0 => exact (h4 _ (find_mem hf)).2
    refine .inr ⟨h0, h1, h2, ?_, fun x hx => ?_, do_rise h5 e c, fun i x hx => ?_, fun i u x hu hx => ?_⟩
    · show (s.und ++ [undOf s e]).length ≤ (s.log ++ [e]).length
      simp; exact h3
    · have hx' : x ∈ (if e.code = 0 then setI s.its e.nm (!e.gone) c else s.its) := hx
      by_cases hz : e.code = 0
      · rw [if_pos hz] at hx'
        rcases mem_set hx' with hx' | hx'
        · rw [hx'.1]; exact ⟨he.2.2.2.1, hc⟩
        · exact h4 x hx'
      · rw [if_neg hz] at hx'
        exact h4 x hx'
    · have hx' : (s.log ++ [e])[i]? = some x := hx
      by_cases hi : i < s.log.length
      · rw [List.getElem?_append_left hi] at hx'
        exact h6 i x hx'
      · rw [List.getElem?_append_right (by omega)] at hx'
        have hi2 : i = s.log.length := by
          have := (List.getElem?_eq_some_iff.1 hx').1
          simp at this
          omega
        subst hi2
        simp at hx'
        subst hx'
        exact ⟨he, hq⟩
    · have hu' : (s.und ++ [undOf s e])[i]? = some u := hu
      have hx' : (s.log ++ [e])[(s.log ++ [e]).length - (s.und ++ [undOf s e]).length + i]? = some x := hx
      have el : (s.log ++ [e]).length - (s.und ++ [undOf s e]).length = s.log.length - s.und.length := by simp
      rw [el] at hx'
      by_cases hi : i < s.und.length
      · rw [List.getElem?_append_left hi] at hu'
        rw [List.getElem?_append_left (by omega)] at hx'
        exact h7 i u x hu' hx'
      · rw [List.getElem?_append_right (by omega)] at hu'
        have hi2 : i = s.und.length := by
          have := (List.getElem?_eq_some_iff.1 hu').1
          simp at this
          omega
        subst hi2
        rw [List.getElem?_append_right (by omega)] at hx'
        simp at hu'
        have ex : x = e := by
          rw [show s.log.length - s.und.length + s.und.length - s.log.length = 0 by omega] at hx'
          simpa using hx'.symm
        subst hu'
        subst ex
        refine ⟨rfl, rfl, hw, fun q => ?_⟩
        have q' : (find x.nm s.its).isSome = false := q
        show (find x.nm s.its).getD zC = zC
        cases hf : find x.nm s.its with
        | none => rfl
        | some c0 => rw [hf] at q'; cases q'

/- The Undos up to an entry are gone. -/
def commitU (head : Int) (s : Shd) : Shd := { s with und := s.und.filter fun u => decide (head < u.seq) }

theorem und_seq {s : Shd} (h : okS s) (h0 : s.si ≠ 0) {i : Nat} {u : Und} (hi : s.und[i]? = some u) : u.seq = ((s.log.length - s.und.length + i + 1 : Nat) : Int) := by
  rcases h with h | ⟨_, _, _, h3, _, _, h6, h7⟩
  · exact absurd h.1 h0
  · have hl := (List.getElem?_eq_some_iff.1 hi).1
    obtain ⟨e, he⟩ : ∃ e, s.log[s.log.length - s.und.length + i]? = some e := ⟨_, List.getElem?_eq_getElem (by omega)⟩
    rw [(h7 i u e hi he).1, (h6 _ e he).2]

theorem filter_drop : ∀ (L : List Und) (b : Nat) (head : Int), (∀ (i : Nat) (u : Und), L[i]? = some u → u.seq = ((b + i + 1 : Nat) : Int)) → ∃ d, d ≤ L.length ∧ L.filter (fun u => decide (head < u.seq)) = L.drop d
  | [], _, _, _ => ⟨0, Nat.le_refl _, rfl⟩
  | u :: L, b, head, h => by
    have hu := h 0 u rfl
    by_cases hc : head < u.seq
    · refine ⟨0, Nat.zero_le _, ?_⟩
      have hall : ∀ x ∈ L, head < x.seq := fun x hx => by
        obtain ⟨i, hi⟩ := List.mem_iff_getElem?.1 hx
        have := h (i + 1) x hi
        omega
      rw [List.drop_zero, List.filter_cons_of_pos (by simpa using hc), List.filter_eq_self.2 (fun x hx => by simpa using hall x hx)]
    · obtain ⟨d, hd, he⟩ := filter_drop L (b + 1) head (fun i x hi => by
        have := h (i + 1) x hi
        rw [this]; congr 1; omega)
      exact ⟨d + 1, by simp; omega, by rw [List.filter_cons_of_neg (by simpa using hc), he]; rfl⟩

theorem commit_ok {s : Shd} (head : Int) (h : okS s) (h0 : s.si ≠ 0) : okS (commitU head s) := by
  obtain ⟨d, hd, he⟩ := filter_drop s.und (s.log.length - s.und.length) head (fun i u hi => und_seq h h0 hi)
  rcases h with h | ⟨_, h1, h2, h3, h4, h5, h6, h7⟩
  · exact absurd h.1 h0
  · refine .inr ⟨h0, h1, h2, ?_, h4, h5, h6, fun i u e hu hx => ?_⟩
    · show (s.und.filter _).length ≤ s.log.length
      rw [he, List.length_drop]; omega
    · have hu' : (s.und.filter fun u => decide (head < u.seq))[i]? = some u := hu
      have hx' : s.log[s.log.length - (s.und.filter fun u => decide (head < u.seq)).length + i]? = some e := hx
      rw [he] at hu' hx'
      rw [List.getElem?_drop] at hu'
      rw [List.length_drop] at hx'
      exact h7 (d + i) u e hu' (by rw [← hx']; congr 1; omega)

theorem nexts_le {fe fe' : Int} (hf : fe ≤ fe') : ∀ {L : List Shd} {last : Int}, Nexts last L fe → Nexts last L fe'
  | [], _, _ => trivial
  | s :: L, last, h => ⟨h.1, by have := h.2.1; omega, h.2.2.1, nexts_le hf h.2.2.2⟩

theorem nexts_below {fe lo : Int} : ∀ {L : List Shd} {last : Int}, lo ≤ last → Nexts last L fe → Nexts lo L fe
  | [], _, _, _ => trivial
  | s :: L, last, hl, h => ⟨by have := h.1; omega, h.2⟩

/- A shard staged. -/
def stageL (s : Shd) (L : List Shd) : List Shd := L.filter (fun x => decide (x.si < s.si)) ++ [s]

theorem nexts_stage {s : Shd} (hs : okS s) : ∀ {L : List Shd} {last fe : Int}, Nexts last L fe → last < s.si → fe ≤ s.si → Nexts last (stageL s L) s.si
  | [], last, fe, _, hl, _ => ⟨hl, Int.le_refl _, hs, trivial⟩
  | x :: L, last, fe, h, hl, hf => by
    by_cases hx : x.si < s.si
    · have e : stageL s (x :: L) = x :: stageL s L := by unfold stageL; rw [List.filter_cons_of_pos (by simpa using hx)]; rfl
      rw [e]
      exact ⟨h.1, Int.le_of_lt hx, h.2.2.1, nexts_stage hs h.2.2.2 hx hf⟩
    · have e : stageL s (x :: L) = stageL s L := by unfold stageL; rw [List.filter_cons_of_neg (by simpa using hx)]
      rw [e]
      have h1 := h.2.1
      have h2 : x.si = s.si := by omega
      have : ∀ {L : List Shd}, Nexts x.si L fe → L = [] := by
        intro L
        cases L with
        | nil => intro _; rfl
        | cons y L => intro q; have := q.1; have := q.2.1; omega
      rw [this h.2.2.2]
      exact ⟨hl, Int.le_refl _, hs, trivial⟩

/- Those above an interval. -/
def aboveL (since : Int) (L : List Shd) : List Shd := L.filter fun x => decide (since < x.si)

theorem nexts_above {since fe : Int} : ∀ {L : List Shd} {last : Int}, Nexts last L fe → Nexts (if last < since then since else last) (aboveL since L) fe
  | [], _, _ => trivial
  | x :: L, last, h => by
    have h1 := h.1
    have ih := nexts_above (since := since) h.2.2.2
    by_cases hx : since < x.si
    · have e : aboveL since (x :: L) = x :: aboveL since L := by unfold aboveL; rw [List.filter_cons_of_pos (by simpa using hx)]
      rw [e]
      rw [if_neg (by omega)] at ih
      exact ⟨by split <;> omega, h.2.1, h.2.2.1, ih⟩
    · have e : aboveL since (x :: L) = aboveL since L := by unfold aboveL; rw [List.filter_cons_of_neg (by simpa using hx)]
      rw [e]
      refine nexts_below ?_ ih
      split <;> split <;> omega

theorem nexts_mem {fe : Int} : ∀ {L : List Shd} {last : Int}, Nexts last L fe → ∀ x ∈ L, okS x ∧ x.si ≤ fe ∧ last < x.si
  | x :: L, last, h, y, hy => by
    rcases List.mem_cons.1 hy with hy | hy
    · subst hy; exact ⟨h.2.2.1, h.2.1, h.1⟩
    · have := nexts_mem h.2.2.2 y hy
      exact ⟨this.1, this.2.1, by have := h.1; omega⟩

/- The shard of an interval. -/
def atL (since : Int) : List Shd → Option Shd
  | [] => none
  | s :: L => if s.si = since then some s else atL since L

def atH (h : Hld) (since : Int) : Option Shd := if since ≤ 0 then none else atL since (h.now :: h.nx)

theorem atL_mem {since : Int} {s : Shd} : ∀ {L : List Shd}, atL since L = some s → s ∈ L ∧ s.si = since
  | x :: L, h => by
    unfold atL at h
    by_cases e : x.si = since
    · rw [if_pos e] at h
      injection h with h
      subst h
      exact ⟨List.mem_cons_self .., e⟩
    · rw [if_neg e] at h
      exact ⟨List.mem_cons_of_mem _ (atL_mem h).1, (atL_mem h).2⟩

theorem act_ok {h : Hld} {since : Int} {s : Shd} (hh : okH h) (h1 : 1 ≤ since) (h2 : since ≤ 1048576) (hf : h.fe ≤ since) (ha : atH h since = some s) : okH ⟨since, s, aboveL since h.nx⟩ ∧ s.si = since := by
  unfold atH at ha
  rw [if_neg (by omega)] at ha
  obtain ⟨hm, hsi⟩ := atL_mem ha
  have hs : okS s := by
    rcases List.mem_cons.1 hm with hm | hm
    · rw [hm]; exact hh.2.1
    · exact (nexts_mem hh.2.2.2.2 s hm).1
  have hn := nexts_above (since := since) hh.2.2.2.2
  have hlen : (aboveL since h.nx).length ≤ 64 := Nat.le_trans (List.length_filter_le _ _) hh.2.2.2.1
  refine ⟨⟨⟨show 0 ≤ since by omega, h2⟩, hs, show s.si ≤ since by omega, hlen, ?_⟩, hsi⟩
  show Nexts s.si (aboveL since h.nx) since
  have hle := hh.2.2.1
  rw [hsi]
  refine nexts_le hf ?_
  split at hn
  · exact hn
  · have : h.now.si = since := by omega
    rw [this] at hn; exact hn

theorem ask_ok {h : Hld} {since : Int} (hh : okH h) (h1 : 1 ≤ since) (h2 : since ≤ 1048576) (hf : h.fe ≤ since) : okH ⟨since, h.now, h.nx⟩ :=
  ⟨⟨show 0 ≤ since by omega, h2⟩, hh.2.1, Int.le_trans hh.2.2.1 hf, hh.2.2.2.1, nexts_le hf hh.2.2.2.2⟩

theorem stage_ok {h : Hld} {s : Shd} (hh : okH h) (hs : okS s) (h0 : s.si ≠ 0) (hf : h.fe ≤ s.si) (hn : h.now.si < s.si) (hl : (h.nx.filter fun x => decide (x.si < s.si)).length < 64) : okH ⟨s.si, h.now, stageL s h.nx⟩ := by
  have hb : 1 ≤ s.si ∧ s.si ≤ 1048576 := by
    rcases hs with hs | hs
    · exact absurd hs.1 h0
    · exact hs.2.1
  exact ⟨⟨show 0 ≤ s.si by omega, hb.2⟩, hh.2.1, Int.le_of_lt hn, by show (stageL s h.nx).length ≤ 64; unfold stageL; rw [List.length_append]; simp; omega, nexts_stage hs hh.2.2.2.2 hn hf⟩

theorem now_ok {fe : Int} {s t : Shd} {L : List Shd} (hh : okH ⟨fe, s, L⟩) (ht : okS t) (e : t.si = s.si) : okH ⟨fe, t, L⟩ :=
  ⟨hh.1, ht, by show t.si ≤ fe; rw [e]; exact hh.2.2.1, hh.2.2.2.1, by show Nexts t.si L fe; rw [e]; exact hh.2.2.2.2⟩

/- What comes of a shard by so many entries, and the way back. -/
def Did (s : Shd) : Nat → Shd → Prop
  | 0, t => t = s
  | n + 1, t => ∃ t0 e c, Did s n t0 ∧ t = doE t0 e c

theorem did_back {s : Shd} (hr : Rise s.its) : ∀ {n : Nat} {t : Shd}, Did s n t → backN n t = s ∧ Rise t.its ∧ t.log.length = s.log.length + n ∧ t.und.length = s.und.length + n
  | 0, t, h => by
    have h : t = s := h
    subst h
    exact ⟨rfl, hr, rfl, rfl⟩
  | n + 1, t, h => by
    obtain ⟨t0, e, c, h, rfl⟩ := h
    obtain ⟨h1, h2, h3, h4⟩ := did_back hr h
    refine ⟨?_, do_rise h2 e c, ?_, ?_⟩
    · show backN n (back1 (doE t0 e c)) = s
      rw [back_do h2, h1]
    · show (t0.log ++ [e]).length = _
      rw [List.length_append, h3, List.length_singleton]; omega
    · show (t0.und ++ [undOf t0 e]).length = _
      rw [List.length_append, h4, List.length_singleton]; omega

/- One entry taken back: the shard may be still. -/
theorem back1_ok {s : Shd} {u : Und} (h : okS s) (hu : s.und.getLast? = some u) : okS (back1 s) ∧ (back1 s).log.length + 1 = s.log.length ∧ (back1 s).und.length + 1 = s.und.length ∧ (back1 s).si = s.si := by
  have hne : s.und ≠ [] := fun e => by rw [e] at hu; cases hu
  have hul : 0 < s.und.length := List.length_pos_iff.2 hne
  have hug : s.und[s.und.length - 1]? = some u := by rw [← List.getLast?_eq_getElem?]; exact hu
  have e1 : back1 s = ⟨s.pl, s.si, setI s.its u.nm u.has u.was, s.log.dropLast, s.und.dropLast⟩ := by unfold back1; rw [hu]
  rcases h with h | ⟨h0, h1, h2, h3, h4, h5, h6, h7⟩
  · rw [h.2] at hul
    exact absurd hul (by simp [zS])
  · obtain ⟨e, he⟩ : ∃ e, s.log[s.log.length - 1]? = some e := ⟨_, List.getElem?_eq_getElem (by omega)⟩
    have hU := h7 (s.und.length - 1) u e hug (by rw [← he]; congr 1; omega)
    have hE := (h6 _ e he).1
    rw [e1]
    refine ⟨.inr ⟨h0, h1, h2, ?_, fun x hx => ?_, set_rise h5, fun i x hx => ?_, fun i v x hv hx => ?_⟩, ?_, ?_, rfl⟩
    · show s.und.dropLast.length ≤ s.log.dropLast.length
      rw [List.length_dropLast, List.length_dropLast]; omega
    · rcases mem_set hx with hx | hx
      · rw [hx.1]
        exact ⟨by show NameOk u.nm; rw [hU.2.1]; exact hE.2.2.2.1, hU.2.2.1⟩
      · exact h4 x hx
    · have hx' : s.log.dropLast[i]? = some x := hx
      rw [List.getElem?_dropLast] at hx'
      split at hx'
      · exact h6 i x hx'
      · cases hx'
    · have hv' : s.und.dropLast[i]? = some v := hv
      have hx' : s.log.dropLast[s.log.dropLast.length - s.und.dropLast.length + i]? = some x := hx
      rw [List.length_dropLast, List.length_dropLast] at hx'
      rw [List.getElem?_dropLast] at hv' hx'
      split at hv'
      · split at hx'
        · exact h7 i v x hv' (by rw [← hx']; congr 1; omega)
        · cases hx'
      · cases hv'
    · show s.log.dropLast.length + 1 = s.log.length
      rw [List.length_dropLast]; omega
    · show s.und.dropLast.length + 1 = s.und.length
      rw [List.length_dropLast]; omega

end Go.Proofs.Ytnfflmndejbepaa.Sh

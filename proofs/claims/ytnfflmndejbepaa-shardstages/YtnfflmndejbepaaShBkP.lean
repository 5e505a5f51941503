/-
  Entries taken back, plainly: what may be stays so, how long its lists are.
  Conditions: none.
-/
import Derived.Test.YtnfflmndejbepaaShMem
namespace Go.Proofs.Ytnfflmndejbepaa.Sh
set_option linter.unusedSectionVars false
variable [Inhabited DZ]
set_option linter.unusedVariables false
set_option linter.unusedSimpArgs false
set_option maxRecDepth 100000

theorem set_len {nm : ByteArray} {c : Chk} : ∀ (d : Bool) (L : List Itm), (setT nm c d L).length ≤ L.length + (if d then 0 else 1)
  | d, [] => by cases d <;> simp [setT]
  | d, x :: L => by
    have h := set_len (nm := nm) (c := c) (d || isLt nm x.nm) L
    unfold setT
    rw [List.length_append, List.length_append, List.length_cons]
    have h2 : (if x.nm = nm then ([] : List Itm) else [x]).length ≤ 1 := by split <;> simp
    generalize isLt nm x.nm = b at *
    cases d <;> cases b <;> simp at h ⊢ <;> omega

theorem backN_next : ∀ (k : Nat) (S : Shd), backN (k + 1) S = back1 (backN k S)
  | 0, S => rfl
  | k + 1, S => by
    show backN (k + 1) (back1 S) = back1 (backN k (back1 S))
    exact backN_next k (back1 S)

theorem okS_rise {S : Shd} (h : okS S) : Rise S.its := by
  rcases h with h | h
  · rw [h.2]; exact List.Pairwise.nil
  · exact h.2.2.2.2.2.1

theorem backs_ok {S : Shd} (h : okS S) : ∀ {k : Nat}, k ≤ S.und.length → okS (backN k S) ∧ (backN k S).log.length + k = S.log.length ∧ (backN k S).und.length + k = S.und.length ∧ (backN k S).its.length ≤ S.its.length + k ∧ (backN k S).si = S.si
  | 0, _ => ⟨h, rfl, rfl, Nat.le_refl _, rfl⟩
  | k + 1, hk => by
    obtain ⟨h1, h2, h3, h4, h5⟩ := backs_ok h (k := k) (by omega)
    rw [backN_next]
    have hne : (backN k S).und ≠ [] := fun e => by rw [e] at h3; simp at h3; omega
    obtain ⟨u, hu⟩ : ∃ u, (backN k S).und.getLast? = some u := ⟨_, List.getLast?_eq_some_getLast hne⟩
    obtain ⟨b1, b2, b3, b4⟩ := back1_ok h1 hu
    refine ⟨b1, by omega, by omega, ?_, b4.trans h5⟩
    have e1 : (back1 (backN k S)).its = setI (backN k S).its u.nm u.has u.was := by unfold back1; rw [hu]
    rw [e1]
    unfold setI
    have := set_len (nm := u.nm) (c := u.was) (!u.has) (backN k S).its
    have h9 : (if (!u.has) = true then 0 else 1) ≤ 1 := by split <;> omega
    omega

def backP (S : Shd) (head : Int) : Shd × Int := if bz (okS S) then (if decide (0 ≤ head ∧ head ≤ (S.log.length : Int)) then (if (S.und.length : Int) < (S.log.length : Int) - head then (zS, 4) else (backN (S.log.length - head.toNat) S, 0)) else (zS, 1)) else (zS, 1)

end Go.Proofs.Ytnfflmndejbepaa.Sh

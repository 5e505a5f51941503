/-
  3 texts of this proof, one behind the other: MoKnown, MoAtE, MoNew.
-/
import Derived.Test.YtdlajpjigddbhaaGreatJ24
import Derived.Test.YtdlajpjigddbhaaGreatJ25
import Derived.Test.YtdlajpjigddbhaaGreatJ20
/-
  Package monitor: known: its maps up to the last decree that it knows.
  Conditions: none.
-/
namespace Go.Proofs.YtdlajpjigddbhaaGreat.Mo
open Go.RowKit Wi By Fl Px At
set_option linter.unusedVariables false
set_option linter.unusedSimpArgs false
set_option maxRecDepth 100000

/- The changes that were applied, and the last map, of some decrees. -/
def chainF (a : List Ch × Mp) (d : Dc) : List Ch × Mp := stepC a.1 a.2 (nat d.val)
def chainOf (m0 : Mp) (L : List Dc) : List Ch × Mp := L.foldl chainF ([], m0)

theorem chain_snoc (m0 : Mp) (L : List Dc) (d : Dc) : chainOf m0 (L ++ [d]) = stepC (chainOf m0 L).1 (chainOf m0 L).2 (nat d.val) := by
  simp only [chainOf, chainF, List.foldl_append, List.foldl_cons, List.foldl_nil]

theorem app_pool {m : Mp} {c : Ch} (h : (applyP m c).1 = 0) : (applyP m c).2.pool = m.pool := by
  unfold applyP at h ⊢
  split at h
  · rename_i h1
    rw [if_pos h1]
    split at h
    · rename_i h2
      rw [if_pos h2]
      unfold advP
      split
      · rfl
      · split <;> rfl
    · rename_i h2
      exact absurd h h2
  · exact absurd h (by decide)

theorem stepC_pool (cs : List Ch) (m : Mp) (l : List Nat) : (stepC cs m l).2.pool = m.pool := by
  unfold stepC
  split
  · rename_i h
    exact app_pool h.2
  · rfl

theorem stepC_len (cs : List Ch) (m : Mp) (l : List Nat) : (stepC cs m l).1.length ≤ cs.length + 1 := by
  unfold stepC
  split <;> simp

theorem fold_len : ∀ (L : List Dc) (a : List Ch × Mp), (L.foldl chainF a).1.length ≤ a.1.length + L.length
  | [], a => by simp
  | d :: L, a => by
    have h1 := fold_len L (chainF a d)
    have h2 := stepC_len a.1 a.2 (nat d.val)
    have h3 : (chainF a d).1.length ≤ a.1.length + 1 := by simp only [chainF]; exact h2
    simp only [List.foldl_cons, List.length_cons]
    omega

theorem fold_pool : ∀ (L : List Dc) (a : List Ch × Mp), (L.foldl chainF a).2.pool = a.2.pool
  | [], a => rfl
  | d :: L, a => by
    simp only [List.foldl_cons]
    rw [fold_pool L (chainF a d)]
    simp only [chainF]
    exact stepC_pool a.1 a.2 _

theorem chain_len (m0 : Mp) (L : List Dc) : (chainOf m0 L).1.length ≤ L.length := by
  have := fold_len L ([], m0)
  simp only [List.length_nil, Nat.zero_add] at this
  exact this

theorem chain_pool (m0 : Mp) (L : List Dc) : (chainOf m0 L).2.pool = m0.pool := fold_pool L ([], m0)

section
variable {w : World} {B q : Nat} {g : Ln} {st : Nd} {r : Nat} {cs : List Ch} {m : Mp} {Rc : Value} {x : Option Addr} {n c : Nat}

theorem follow_any (h : MoAt w B q g st r cs m Rc x n c) (hr : r < 1000000000) (hcs : cs.length ≤ 90000) (hmk : m.pool.k ≤ 9223372036854775807) (y : Option Addr) (yn yc : Nat) (l : List Nat) (hl : Go.Proofs.YtdlajpjigddbhaaGreat.Sl w y yn yc l) (hn : yn ≤ 140737488355328) (hy : yn ≠ 0 → ∀ a, y = some a → a.block ≠ q) :
    Calls Tryz.prog 45 #[.pointer (some ⟨q, 1, none⟩), .slice y yn yc] w fun e w' => e = .returned (.tuple #[]) ∧ Hid (∃ R' x' n' c', MoAt w' B q g st (r + 1) (stepC cs m l).1 (stepC cs m l).2 R' x' n' c' ∧ Turns (fun k => k = q ∨ Rc.ownBlock = some k) w w' ∧ ∀ k, R'.ownBlock = some k → Rc.ownBlock = some k ∨ w.heap.size ≤ k) := by
  cases hd : (decC l).2 with
  | false =>
    refine (follow_bad h hr y yn yc l hl hn hy hd).mono fun e w' ⟨h1, h2⟩ => ⟨h1, Rc, x, n, c, ?_, h2.out.2.weak (fun k hk => .inl hk), fun k hk => .inl hk⟩
    have e1 : stepC cs m l = (cs, m) := by unfold stepC; rw [if_neg (by rw [hd]; simp)]
    rw [e1]
    exact h2.out.1
  | true =>
    have hd2 : decC l = ((decC l).1, true) := by rw [← hd]
    by_cases ha : (applyP m (decC l).1).1 = 0
    · exact follow_ok h hr hcs hmk y yn yc l hl hn hy _ hd2 ha
    · exact follow_no h hr hcs hmk y yn yc l hl hn hy _ hd2 ha

end

/- A monitor whose maps are those of its first decrees. -/
structure MoK (w : World) (B q : Nat) (g : Ln) (st : Nd) (p : Pool) (r : Nat) (Rc : Value) (x : Option Addr) (n c : Nat) : Prop where
  mo : MoAt w B q g st r (chainOf ⟨0, p, []⟩ (st.dec.take r)).1 (chainOf ⟨0, p, []⟩ (st.dec.take r)).2 Rc x n c
  le : r ≤ st.dec.length

def MoS (w : World) (B q : Nat) (g : Ln) (st : Nd) (p : Pool) : Prop := ∃ r Rc x n c, MoK w B q g st p r Rc x n c

section
variable {w : World} {B q : Nat} {g : Ln} {st : Nd} {p : Pool}

theorem MoK.pool {r : Nat} {Rc : Value} {x : Option Addr} {n c : Nat} (h : MoK w B q g st p r Rc x n c) : (chainOf ⟨0, p, []⟩ (st.dec.take r)).2.pool = p := chain_pool _ _

/- What a monitor's own calls turn of its own: its block, and that of its changes. -/
def ofM (q : Nat) (Rc : Value) : Nat → Prop := fun k => k = q ∨ Rc.ownBlock = some k

def readOf (w : World) (q : Nat) : Nat := match w.cell? ⟨q, 1, none⟩ with
  | some (.int _ z) => z.toNat
  | _ => 0

theorem readOf_at {r : Nat} {cs : List Ch} {m : Mp} {Rc : Value} {x : Option Addr} {n c : Nat} (h : MoAt w B q g st r cs m Rc x n c) : readOf w q = r := by
  have e : w.cell? ⟨q, 1, none⟩ = some (.int .i64 (r : Int)) := cell_heap h.obj rfl
  unfold readOf
  rw [e]
  simp

set_option maxHeartbeats 3200000 in
theorem known_any {r : Nat} {Rc : Value} {x : Option Addr} {n c : Nat} (h : MoK w B q g st p r Rc x n c) (hk : p.k ≤ 9223372036854775807) :
    Calls Tryz.prog 28 #[.pointer (some ⟨q, 0, none⟩)] w fun e w' => e = .returned (.pointer (some ⟨q, 1, none⟩)) ∧ Hid (∃ R' x' n' c', MoK w' B q g st p st.dec.length R' x' n' c' ∧ Turns (ofM q Rc) w w' ∧ ∀ k, R'.ownBlock = some k → ofM q Rc k ∨ w.heap.size ≤ k) := by
  have H0 := hid (show ∃ R' x' n' c', MoK w B q g st p r R' x' n' c' ∧ Turns (ofM q Rc) w w ∧ ∀ k, R'.ownBlock = some k → ofM q Rc k ∨ w.heap.size ≤ k from ⟨Rc, x, n, c, h, Turns.refl _ _, fun k hk => .inl (.inr hk)⟩)
  have hle := h.le
  have hdl := h.mo.node.dl
  have HP := hid hk
  clear h hk
  obtain ⟨N, hN⟩ : ∃ N, N = st.dec.length := ⟨_, rfl⟩
  have HN := hid hN
  rw [← hN] at hle hdl
  clear hN
  go_enter Tryz.func28, Tryz.ntmps28
  go_wp2_with fail
  go_loopw [3, 4] (fun _ _ wr => ∃ i : Nat, i ≤ N ∧ Hid (∃ R' x' n' c', MoK wr B q g st p i R' x' n' c' ∧ Turns (ofM q Rc) w wr ∧ ∀ k, R'.ownBlock = some k → ofM q Rc k ∨ w.heap.size ≤ k)) (fun _ _ wr => N - readOf wr q)
  case atStart => exact ⟨r, hle, H0.out⟩
  case round =>
    clear H0
    obtain ⟨i, hi, HR⟩ := hrel
    obtain ⟨R1, x1, n1, c1, hM, hT, hB⟩ := HR.out
    have hro := readOf_at hM.mo
    obtain ⟨wE, hwE⟩ : ∃ wE, wE = wr.drew := ⟨_, rfl⟩
    have bE : Below wr.heap.size wr wE := by rw [hwE]; exact (Below.refl _ _).drew
    have HWE := hid hwE.symm
    have hME := hM.mo.below bE
    have k0 : wE.cell? ⟨q, 0, none⟩ = some (.pointer (some ⟨g.p, 0, none⟩)) := cell_heap hME.obj rfl
    have k1 : wE.cell? ⟨q, 1, none⟩ = some (.int .i64 (i : Int)) := cell_heap hME.obj rfl
    have hL := len_any hME.node
    rw [← HN.out] at hL
    have HT := hid (And.intro hT hB)
    have HME := hid hME
    have HI := hid hro
    have HBE := hid bE
    clear hM hT hB HR hro hwE hME bE
    by_cases hlt : i < N
    · have hqI : (i : Int) < (N : Int) := by omega
      go_wp2_with fail
      refine wp_region_held_drew (S := fun v => v.cell? ⟨q, 0, none⟩ = some (.pointer (some ⟨g.p, 0, none⟩)) ∧ v.cell? ⟨q, 1, none⟩ = some (.int .i64 (i : Int))) (by kernel_rfl) (by rw [HWE.out]; exact ⟨k0, k1⟩) (fun hHeld => ?_)
      rw [HWE.out] at hHeld ⊢
      refine wpAnyH_take (i := 0) (v := ?_) rfl (by kernel_rfl) (by kernel_rfl) (by kernel_rfl) (fun _ _ _ h => h) (Or.inl ⟨by rfl, ?_⟩) (by assumption) ?_
      case refine_2 => (intro w hSw; (try dsimp only at hSw); go_simp; (try with_reducible rfl))
      (try simp only [Act.put, List.getElem_toArray, List.getElem_cons_succ, List.getElem_cons_zero, List.setIfInBounds_toArray, List.set_cons_zero, List.set_cons_succ])
      refine wpAnyH_take (i := 1) (v := ?_) rfl (by kernel_rfl) (by kernel_rfl) (by kernel_rfl) (fun _ _ _ h => h) (Or.inl ⟨by rfl, ?_⟩) (by assumption) ?_
      case refine_2 => (intro w hSw; (try dsimp only at hSw); go_simp; (try with_reducible rfl))
      (try simp only [Act.put, List.getElem_toArray, List.getElem_cons_succ, List.getElem_cons_zero, List.setIfInBounds_toArray, List.set_cons_zero, List.set_cons_succ])
      refine wpAnyH_take (i := 2) (v := ?_) rfl (by kernel_rfl) (by kernel_rfl) (by kernel_rfl) (fun _ _ _ h => h) (Or.inl ⟨by rfl, ?_⟩) (by assumption) ?_
      case refine_2 => (intro w hSw; (try dsimp only at hSw); go_simp; (try with_reducible rfl))
      (try simp only [Act.put, List.getElem_toArray, List.getElem_cons_succ, List.getElem_cons_zero, List.setIfInBounds_toArray, List.set_cons_zero, List.set_cons_succ])
      refine wpAnyH_take (i := 3) (v := ?_) rfl (by kernel_rfl) (by kernel_rfl) (by kernel_rfl) (fun _ _ _ h => h) (Or.inl ⟨by rfl, ?_⟩) (by assumption) ?_
      case refine_2 => (intro w hSw; (try dsimp only at hSw); go_simp; (try with_reducible rfl))
      (try simp only [Act.put, List.getElem_toArray, List.getElem_cons_succ, List.getElem_cons_zero, List.setIfInBounds_toArray, List.set_cons_zero, List.set_cons_succ])
      refine wpAnyH_take (i := 4) (v := ?_) rfl (by kernel_rfl) (by kernel_rfl) (by kernel_rfl) (fun _ _ _ h => h) (Or.inl ⟨by rfl, ?_⟩) (by assumption) ?_
      case refine_2 => (intro w hSw; (try dsimp only at hSw); go_simp; (try with_reducible rfl))
      (try simp only [Act.put, List.getElem_toArray, List.getElem_cons_succ, List.getElem_cons_zero, List.setIfInBounds_toArray, List.set_cons_zero, List.set_cons_succ])
      refine wpAnyH_take (i := 5) (v := ?_) rfl (by kernel_rfl) (by kernel_rfl) (by kernel_rfl) (fun _ _ _ h => h) (Or.inl ⟨by rfl, ?_⟩) (by assumption) ?_
      case refine_2 => (intro w hSw; (try dsimp only at hSw); go_simp; (try with_reducible rfl))
      (try simp only [Act.put, List.getElem_toArray, List.getElem_cons_succ, List.getElem_cons_zero, List.setIfInBounds_toArray, List.set_cons_zero, List.set_cons_succ])
      refine wpAnyH_take (i := 6) (v := ?_) rfl (by kernel_rfl) (by kernel_rfl) (by kernel_rfl) (fun _ _ _ h => h) (Or.inl ⟨by rfl, ?_⟩) (by assumption) ?_
      case refine_2 => (intro w hSw; (try dsimp only at hSw); go_simp; (try with_reducible rfl))
      (try simp only [Act.put, List.getElem_toArray, List.getElem_cons_succ, List.getElem_cons_zero, List.setIfInBounds_toArray, List.set_cons_zero, List.set_cons_succ])
      refine wpAnyH_take (i := 7) (v := ?_) rfl (by kernel_rfl) (by kernel_rfl) (by kernel_rfl) (fun _ _ _ h => h) (Or.inl ⟨by rfl, ?_⟩) (by assumption) ?_
      case refine_2 => (intro w hSw; (try dsimp only at hSw); go_simp; (try with_reducible rfl))
      (try simp only [Act.put, List.getElem_toArray, List.getElem_cons_succ, List.getElem_cons_zero, List.setIfInBounds_toArray, List.set_cons_zero, List.set_cons_succ])
      refine wpAnyH_take (i := 8) (v := ?_) rfl (by kernel_rfl) (by kernel_rfl) (by kernel_rfl) (fun _ _ _ h => h) (Or.inl ⟨by rfl, ?_⟩) (by assumption) ?_
      case refine_2 => (intro w hSw; (try dsimp only at hSw); go_simp; (try with_reducible rfl))
      (try simp only [Act.put, List.getElem_toArray, List.getElem_cons_succ, List.getElem_cons_zero, List.setIfInBounds_toArray, List.set_cons_zero, List.set_cons_succ])
      refine wpAnyH_ready (rs := [9]) (by kernel_rfl) (by simp) ?_
      refine AllReadyH.cons rfl (fun K hK => ?_) AllReadyH.nil
      go_simp
      refine hL.mono ?_
      rintro ed W1 ⟨rfl, hw⟩
      subst W1
      refine hK.out _ _ ⟨k0, k1⟩ (fun hHeld => ?_)
      clear hK K
      refine wpAnyH_take (i := 10) (v := ?_) rfl (by kernel_rfl) (by kernel_rfl) (by kernel_rfl) (fun _ _ _ h => h) (Or.inl ⟨by rfl, ?_⟩) (by assumption) ?_
      case refine_2 => (intro w hSw; (try dsimp only at hSw); go_simp; (try with_reducible rfl))
      (try simp only [Act.put, List.getElem_toArray, List.getElem_cons_succ, List.getElem_cons_zero, List.setIfInBounds_toArray, List.set_cons_zero, List.set_cons_succ])
      refine wpAnyH_done (by kernel_rfl) ?_ _
      clear hHeld
      obtain ⟨d, hd⟩ : ∃ d, st.dec[i]? = some d := ⟨st.dec[i]'(by have := HN.out; omega), List.getElem?_eq_getElem (by have := HN.out; omega)⟩
      have HD := hid hd
      obtain ⟨wF, hwF⟩ : ∃ wF, wF = wE.drew := ⟨_, rfl⟩
      have bF : Below wE.heap.size wE wF := by rw [hwF]; exact (Below.refl _ _).drew
      have HWF := hid hwF.symm
      have hMF := HME.out.below bF
      have l0 := keep bF k0
      have l1 := keep bF k1
      have hGt := get_yes hMF.node i d hd
      have eN : ((i + 1 : Nat) : Int) = (i : Int) + 1 := by omega
      rw [eN] at hGt
      have ew : IntKind.i64.wrap ((i : Int) + 1) = (i : Int) + 1 := Px.wrap_i64 (by omega) (by omega)
      have HMF := hid hMF
      have HBF := hid (on HBE.out bF)
      clear hd hwF bF hMF k0 k1 eN hL
      go_wp2_with fail
      refine wp_region_held_drew (S := fun v => v.cell? ⟨q, 0, none⟩ = some (.pointer (some ⟨g.p, 0, none⟩)) ∧ v.cell? ⟨q, 1, none⟩ = some (.int .i64 (i : Int))) (by kernel_rfl) (by rw [HWF.out]; exact ⟨l0, l1⟩) (fun hHeld => ?_)
      rw [HWF.out] at hHeld ⊢
      refine wpAnyH_take (i := 0) (v := ?_) rfl (by kernel_rfl) (by kernel_rfl) (by kernel_rfl) (fun _ _ _ h => h) (Or.inl ⟨by rfl, ?_⟩) (by assumption) ?_
      case refine_2 => (intro w hSw; (try dsimp only at hSw); go_simp; (try with_reducible rfl))
      (try simp only [Act.put, List.getElem_toArray, List.getElem_cons_succ, List.getElem_cons_zero, List.setIfInBounds_toArray, List.set_cons_zero, List.set_cons_succ])
      refine wpAnyH_take (i := 1) (v := ?_) rfl (by kernel_rfl) (by kernel_rfl) (by kernel_rfl) (fun _ _ _ h => h) (Or.inl ⟨by rfl, ?_⟩) (by assumption) ?_
      case refine_2 => (intro w hSw; (try dsimp only at hSw); go_simp; (try with_reducible rfl))
      (try simp only [Act.put, List.getElem_toArray, List.getElem_cons_succ, List.getElem_cons_zero, List.setIfInBounds_toArray, List.set_cons_zero, List.set_cons_succ])
      refine wpAnyH_take (i := 2) (v := ?_) rfl (by kernel_rfl) (by kernel_rfl) (by kernel_rfl) (fun _ _ _ h => h) (Or.inl ⟨by rfl, ?_⟩) (by assumption) ?_
      case refine_2 => (intro w hSw; (try dsimp only at hSw); go_simp; (try with_reducible rfl))
      (try simp only [Act.put, List.getElem_toArray, List.getElem_cons_succ, List.getElem_cons_zero, List.setIfInBounds_toArray, List.set_cons_zero, List.set_cons_succ])
      refine wpAnyH_take (i := 3) (v := ?_) rfl (by kernel_rfl) (by kernel_rfl) (by kernel_rfl) (fun _ _ _ h => h) (Or.inl ⟨by rfl, ?_⟩) (by assumption) ?_
      case refine_2 => (intro w hSw; (try dsimp only at hSw); go_simp; (try with_reducible rfl))
      (try simp only [Act.put, List.getElem_toArray, List.getElem_cons_succ, List.getElem_cons_zero, List.setIfInBounds_toArray, List.set_cons_zero, List.set_cons_succ])
      refine wpAnyH_take (i := 4) (v := ?_) rfl (by kernel_rfl) (by kernel_rfl) (by kernel_rfl) (fun _ _ _ h => h) (Or.inl ⟨by rfl, ?_⟩) (by assumption) ?_
      case refine_2 => (intro w hSw; (try dsimp only at hSw); go_simp; (try with_reducible rfl))
      (try simp only [Act.put, List.getElem_toArray, List.getElem_cons_succ, List.getElem_cons_zero, List.setIfInBounds_toArray, List.set_cons_zero, List.set_cons_succ])
      refine wpAnyH_take (i := 5) (v := ?_) rfl (by kernel_rfl) (by kernel_rfl) (by kernel_rfl) (fun _ _ _ h => h) (Or.inl ⟨by rfl, ?_⟩) (by assumption) ?_
      case refine_2 => (intro w hSw; (try dsimp only at hSw); go_simp; (try with_reducible rfl))
      (try simp only [Act.put, List.getElem_toArray, List.getElem_cons_succ, List.getElem_cons_zero, List.setIfInBounds_toArray, List.set_cons_zero, List.set_cons_succ])
      refine wpAnyH_take (i := 6) (v := ?_) rfl (by kernel_rfl) (by kernel_rfl) (by kernel_rfl) (fun _ _ _ h => h) (Or.inl ⟨by rfl, ?_⟩) (by assumption) ?_
      case refine_2 => (intro w hSw; (try dsimp only at hSw); go_simp; (try with_reducible rfl))
      (try simp only [Act.put, List.getElem_toArray, List.getElem_cons_succ, List.getElem_cons_zero, List.setIfInBounds_toArray, List.set_cons_zero, List.set_cons_succ])
      refine wpAnyH_take (i := 7) (v := ?_) rfl (by kernel_rfl) (by kernel_rfl) (by kernel_rfl) (fun _ _ _ h => h) (Or.inl ⟨by rfl, ?_⟩) (by assumption) ?_
      case refine_2 => (intro w hSw; (try dsimp only at hSw); go_simp; (try with_reducible rfl))
      (try simp only [Act.put, List.getElem_toArray, List.getElem_cons_succ, List.getElem_cons_zero, List.setIfInBounds_toArray, List.set_cons_zero, List.set_cons_succ])
      refine wpAnyH_take (i := 8) (v := ?_) rfl (by kernel_rfl) (by kernel_rfl) (by kernel_rfl) (fun _ _ _ h => h) (Or.inl ⟨by rfl, ?_⟩) (by assumption) ?_
      case refine_2 => (intro w hSw; (try dsimp only at hSw); go_simp; (try with_reducible rfl))
      (try simp only [Act.put, List.getElem_toArray, List.getElem_cons_succ, List.getElem_cons_zero, List.setIfInBounds_toArray, List.set_cons_zero, List.set_cons_succ])
      refine wpAnyH_take (i := 9) (v := ?_) rfl (by kernel_rfl) (by kernel_rfl) (by kernel_rfl) (fun _ _ _ h => h) (Or.inl ⟨by rfl, ?_⟩) (by assumption) ?_
      case refine_2 => (intro w hSw; (try dsimp only at hSw); go_simp; (try with_reducible rfl))
      (try simp only [Act.put, List.getElem_toArray, List.getElem_cons_succ, List.getElem_cons_zero, List.setIfInBounds_toArray, List.set_cons_zero, List.set_cons_succ])
      refine wpAnyH_ready (rs := [10]) (by kernel_rfl) (by simp) ?_
      refine AllReadyH.cons rfl (fun K hK => ?_) AllReadyH.nil
      go_simp
      refine hGt.mono ?_
      rintro ed W2 ⟨y2, m2, cy2, rfl, H2⟩
      have b2 := H2.out.2.1
      refine hK.out _ _ ⟨keep b2 l0, keep b2 l1⟩ (fun hHeld => ?_)
      clear hK K
      refine wpAnyH_take (i := 11) (v := ?_) rfl (by kernel_rfl) (by kernel_rfl) (by kernel_rfl) (fun _ _ _ h => h) (Or.inl ⟨by rfl, ?_⟩) (by assumption) ?_
      case refine_2 => (intro w hSw; (try dsimp only at hSw); go_simp; (try with_reducible rfl))
      (try simp only [Act.put, List.getElem_toArray, List.getElem_cons_succ, List.getElem_cons_zero, List.setIfInBounds_toArray, List.set_cons_zero, List.set_cons_succ])
      refine wpAnyH_take (i := 12) (v := ?_) rfl (by kernel_rfl) (by kernel_rfl) (by kernel_rfl) (fun _ _ _ h => h) (Or.inl ⟨by rfl, ?_⟩) (by assumption) ?_
      case refine_2 => (intro w hSw; (try dsimp only at hSw); go_simp; (try with_reducible rfl))
      (try simp only [Act.put, List.getElem_toArray, List.getElem_cons_succ, List.getElem_cons_zero, List.setIfInBounds_toArray, List.set_cons_zero, List.set_cons_succ])
      refine wpAnyH_take (i := 13) (v := ?_) rfl (by kernel_rfl) (by kernel_rfl) (by kernel_rfl) (fun _ _ _ h => h) (Or.inl ⟨by rfl, ?_⟩) (by assumption) ?_
      case refine_2 => (intro w hSw; (try dsimp only at hSw); go_simp; (try with_reducible rfl))
      (try simp only [Act.put, List.getElem_toArray, List.getElem_cons_succ, List.getElem_cons_zero, List.setIfInBounds_toArray, List.set_cons_zero, List.set_cons_succ])
      refine wpAnyH_take (i := 14) (v := ?_) rfl (by kernel_rfl) (by kernel_rfl) (by kernel_rfl) (fun _ _ _ h => h) (Or.inl ⟨by rfl, ?_⟩) (by assumption) ?_
      case refine_2 => (intro w hSw; (try dsimp only at hSw); go_simp; (try with_reducible rfl))
      (try simp only [Act.put, List.getElem_toArray, List.getElem_cons_succ, List.getElem_cons_zero, List.setIfInBounds_toArray, List.set_cons_zero, List.set_cons_succ])
      refine wpAnyH_take (i := 15) (v := ?_) rfl (by kernel_rfl) (by kernel_rfl) (by kernel_rfl) (fun _ _ _ h => h) (Or.inl ⟨by rfl, ?_⟩) (by assumption) ?_
      case refine_2 => (intro w hSw; (try dsimp only at hSw); go_simp; (try with_reducible rfl))
      (try simp only [Act.put, List.getElem_toArray, List.getElem_cons_succ, List.getElem_cons_zero, List.setIfInBounds_toArray, List.set_cons_zero, List.set_cons_succ])
      refine wpAnyH_done (by kernel_rfl) ?_ _
      clear hHeld
      have hdok : d.val.size ≤ 4096 := (HMF.out.node.dok d (List.mem_of_getElem? HD.out)).val
      have hFo : Calls Tryz.prog 45 #[.pointer (some ⟨q, 1, none⟩), .slice y2 m2 cy2] W2 fun e w' => e = .returned (.tuple #[]) ∧ Hid (∃ R' x' n' c', MoK w' B q g st p (i + 1) R' x' n' c' ∧ Turns (ofM q R1) W2 w' ∧ ∀ k, R'.ownBlock = some k → ofM q R1 k ∨ W2.heap.size ≤ k) := by
        have hm2 := H2.out.1
        obtain ⟨q1, q2, q3⟩ := H2.out.2
        have hi2 : i < st.dec.length := by have := HN.out; omega
        refine (follow_any (HMF.out.below b2) (by omega) ?_ ?_ y2 m2 cy2 (nat d.val) ⟨q2.len, q2.le, q2.nil, q2.row, q2.lt⟩ (by omega) (fun _ a ha e => ?_)).mono fun e w' ⟨a1, a2⟩ => ⟨a1, ?_⟩
        · have := chain_len ⟨0, p, []⟩ (st.dec.take i)
          rw [List.length_take] at this
          omega
        · rw [chain_pool]
          exact HP.out
        · have := (q3 a ha).1
          have := HMF.out.lt
          omega
        · obtain ⟨R', x', n', c', k1, k2, k3⟩ := a2.out
          have et : st.dec.take (i + 1) = st.dec.take i ++ [d] := by rw [List.take_add_one, HD.out]; rfl
          refine ⟨R', x', n', c', ⟨?_, hi2⟩, k2, fun k hk => ?_⟩
          · rw [et, chain_snoc]
            exact k1
          · rcases k3 k hk with e9 | e9
            · exact .inl (.inr e9)
            · exact .inr e9
      have HB2 := hid b2
      clear b2 H2 hdok hGt HD HMF l0 l1
      go_wp2_with (go_at_call 45; refine hFo.mono ?_; rintro ed W3 ⟨rfl, H3⟩; clear hFo)
      have hr3 : readOf W3 q = i + 1 := by obtain ⟨_, _, _, _, k1, _⟩ := H3.out; exact readOf_at k1.mo
      go_roundw
      case rel =>
        obtain ⟨R', x', n', c', k1, k2, k3⟩ := H3.out
        refine ⟨i + 1, by omega, R', x', n', c', k1, ?_, fun k hk => ?_⟩
        · refine (HT.out.1.trans (Turns.of_below (on HBF.out HB2.out))).more k2 (fun k hk => ?_)
          rcases hk with hk | hk
          · exact .inl (.inl hk)
          · exact HT.out.2 k hk
        · have s1 := (HT.out.1.trans (Turns.of_below (F := ofM q Rc) (on HBF.out HB2.out))).size
          rcases k3 k hk with (q1 | q1) | q1
          · exact .inl (.inl q1)
          · exact HT.out.2 k q1
          · exact .inr (by omega)
      case measure =>
        have := HI.out
        omega
    · obtain rfl : i = N := by omega
      have hqI : ¬ (i : Int) < (i : Int) := by omega
      go_wp2_with fail
      refine wp_region_held_drew (S := fun v => v.cell? ⟨q, 0, none⟩ = some (.pointer (some ⟨g.p, 0, none⟩)) ∧ v.cell? ⟨q, 1, none⟩ = some (.int .i64 (i : Int))) (by kernel_rfl) (by rw [HWE.out]; exact ⟨k0, k1⟩) (fun hHeld => ?_)
      rw [HWE.out] at hHeld ⊢
      refine wpAnyH_take (i := 0) (v := ?_) rfl (by kernel_rfl) (by kernel_rfl) (by kernel_rfl) (fun _ _ _ h => h) (Or.inl ⟨by rfl, ?_⟩) (by assumption) ?_
      case refine_2 => (intro w hSw; (try dsimp only at hSw); go_simp; (try with_reducible rfl))
      (try simp only [Act.put, List.getElem_toArray, List.getElem_cons_succ, List.getElem_cons_zero, List.setIfInBounds_toArray, List.set_cons_zero, List.set_cons_succ])
      refine wpAnyH_take (i := 1) (v := ?_) rfl (by kernel_rfl) (by kernel_rfl) (by kernel_rfl) (fun _ _ _ h => h) (Or.inl ⟨by rfl, ?_⟩) (by assumption) ?_
      case refine_2 => (intro w hSw; (try dsimp only at hSw); go_simp; (try with_reducible rfl))
      (try simp only [Act.put, List.getElem_toArray, List.getElem_cons_succ, List.getElem_cons_zero, List.setIfInBounds_toArray, List.set_cons_zero, List.set_cons_succ])
      refine wpAnyH_take (i := 2) (v := ?_) rfl (by kernel_rfl) (by kernel_rfl) (by kernel_rfl) (fun _ _ _ h => h) (Or.inl ⟨by rfl, ?_⟩) (by assumption) ?_
      case refine_2 => (intro w hSw; (try dsimp only at hSw); go_simp; (try with_reducible rfl))
      (try simp only [Act.put, List.getElem_toArray, List.getElem_cons_succ, List.getElem_cons_zero, List.setIfInBounds_toArray, List.set_cons_zero, List.set_cons_succ])
      refine wpAnyH_take (i := 3) (v := ?_) rfl (by kernel_rfl) (by kernel_rfl) (by kernel_rfl) (fun _ _ _ h => h) (Or.inl ⟨by rfl, ?_⟩) (by assumption) ?_
      case refine_2 => (intro w hSw; (try dsimp only at hSw); go_simp; (try with_reducible rfl))
      (try simp only [Act.put, List.getElem_toArray, List.getElem_cons_succ, List.getElem_cons_zero, List.setIfInBounds_toArray, List.set_cons_zero, List.set_cons_succ])
      refine wpAnyH_take (i := 4) (v := ?_) rfl (by kernel_rfl) (by kernel_rfl) (by kernel_rfl) (fun _ _ _ h => h) (Or.inl ⟨by rfl, ?_⟩) (by assumption) ?_
      case refine_2 => (intro w hSw; (try dsimp only at hSw); go_simp; (try with_reducible rfl))
      (try simp only [Act.put, List.getElem_toArray, List.getElem_cons_succ, List.getElem_cons_zero, List.setIfInBounds_toArray, List.set_cons_zero, List.set_cons_succ])
      refine wpAnyH_take (i := 5) (v := ?_) rfl (by kernel_rfl) (by kernel_rfl) (by kernel_rfl) (fun _ _ _ h => h) (Or.inl ⟨by rfl, ?_⟩) (by assumption) ?_
      case refine_2 => (intro w hSw; (try dsimp only at hSw); go_simp; (try with_reducible rfl))
      (try simp only [Act.put, List.getElem_toArray, List.getElem_cons_succ, List.getElem_cons_zero, List.setIfInBounds_toArray, List.set_cons_zero, List.set_cons_succ])
      refine wpAnyH_take (i := 6) (v := ?_) rfl (by kernel_rfl) (by kernel_rfl) (by kernel_rfl) (fun _ _ _ h => h) (Or.inl ⟨by rfl, ?_⟩) (by assumption) ?_
      case refine_2 => (intro w hSw; (try dsimp only at hSw); go_simp; (try with_reducible rfl))
      (try simp only [Act.put, List.getElem_toArray, List.getElem_cons_succ, List.getElem_cons_zero, List.setIfInBounds_toArray, List.set_cons_zero, List.set_cons_succ])
      refine wpAnyH_take (i := 7) (v := ?_) rfl (by kernel_rfl) (by kernel_rfl) (by kernel_rfl) (fun _ _ _ h => h) (Or.inl ⟨by rfl, ?_⟩) (by assumption) ?_
      case refine_2 => (intro w hSw; (try dsimp only at hSw); go_simp; (try with_reducible rfl))
      (try simp only [Act.put, List.getElem_toArray, List.getElem_cons_succ, List.getElem_cons_zero, List.setIfInBounds_toArray, List.set_cons_zero, List.set_cons_succ])
      refine wpAnyH_take (i := 8) (v := ?_) rfl (by kernel_rfl) (by kernel_rfl) (by kernel_rfl) (fun _ _ _ h => h) (Or.inl ⟨by rfl, ?_⟩) (by assumption) ?_
      case refine_2 => (intro w hSw; (try dsimp only at hSw); go_simp; (try with_reducible rfl))
      (try simp only [Act.put, List.getElem_toArray, List.getElem_cons_succ, List.getElem_cons_zero, List.setIfInBounds_toArray, List.set_cons_zero, List.set_cons_succ])
      refine wpAnyH_ready (rs := [9]) (by kernel_rfl) (by simp) ?_
      refine AllReadyH.cons rfl (fun K hK => ?_) AllReadyH.nil
      go_simp
      refine hL.mono ?_
      rintro ed W1 ⟨rfl, hw⟩
      subst W1
      refine hK.out _ _ ⟨k0, k1⟩ (fun hHeld => ?_)
      clear hK K
      refine wpAnyH_take (i := 10) (v := ?_) rfl (by kernel_rfl) (by kernel_rfl) (by kernel_rfl) (fun _ _ _ h => h) (Or.inl ⟨by rfl, ?_⟩) (by assumption) ?_
      case refine_2 => (intro w hSw; (try dsimp only at hSw); go_simp; (try with_reducible rfl))
      (try simp only [Act.put, List.getElem_toArray, List.getElem_cons_succ, List.getElem_cons_zero, List.setIfInBounds_toArray, List.set_cons_zero, List.set_cons_succ])
      refine wpAnyH_done (by kernel_rfl) ?_ _
      clear hHeld
      go_wp2_with fail
      go_ret
      refine ⟨rfl, R1, x1, n1, c1, ⟨?_, Nat.le_refl _⟩, HT.out.1.trans (Turns.of_below HBE.out), HT.out.2⟩
      rw [HN.out] at HME
      exact HME.out

end

end Go.Proofs.YtdlajpjigddbhaaGreat.Mo

/-
  Package monitor: at, Map, Epoch: of the last map, and of none.
  Conditions: none.
-/
namespace Go.Proofs.YtdlajpjigddbhaaGreat.Mo
open Go.RowKit Wi By Fl Px At
set_option linter.unusedVariables false
set_option linter.unusedSimpArgs false
set_option maxRecDepth 100000

section
variable {w : World} {B q : Nat} {g : Ln} {st : Nd} {r : Nat} {cs : List Ch} {m : Mp} {Rc : Value} {x : Option Addr} {n c : Nat}

theorem at_none (h : MoAt w B q g st r cs m Rc x n c) (i : Int) (hi : i < 0 ∨ m.ep < i) : Calls Tryz.prog 36 #[.pointer (some ⟨q, 1, none⟩), .int .i64 i] w fun e w' => e = .returned (.tuple #[vM 0 noP none 0 0, .bool false]) ∧ Below w.heap.size w w' := by
  have bA := al w (.cells #[.int .i64 0, .int .i64 0, .int .i64 0, .int .i64 0, .int .i64 0, .slice none 0 0] 56)
  have k3 : (w.alloc (.cells #[.int .i64 0, .int .i64 0, .int .i64 0, .int .i64 0, .int .i64 0, .slice none 0 0] 56)).cell? ⟨q, 3, none⟩ = some (.int .i64 m.ep) := cell_heap (h.below bA).obj rfl
  clear h
  obtain ⟨ep, ⟨pk, pm, pg, pd⟩, L⟩ := m
  dsimp only at k3 hi
  by_cases h0 : i < 0
  · go_enter Tryz.func36, Tryz.ntmps36
    go_wp2_with fail
    refine bodyPost_ret (v := .tuple #[vM 0 noP none 0 0, .bool false]) ?_ rfl ?_
    · rw [At.results_cell2 rfl]
      unfold vM noP
      go_simp
    · refine ⟨rfl, ?_⟩
      repeat (first | with_reducible exact bA | (with_reducible refine Below.setCell ?_ (by first | (simp; done) | (simp; omega) | omega) _) | (with_reducible refine Below.alloc ?_ (by first | (simp; done) | (simp; omega) | omega) _))
  · have h1 : ep < i := by omega
    clear hi
    go_enter Tryz.func36, Tryz.ntmps36
    go_wp2_with fail
    refine bodyPost_ret (v := .tuple #[vM 0 noP none 0 0, .bool false]) ?_ rfl ?_
    · rw [At.results_cell2 rfl]
      unfold vM noP
      go_simp
    · refine ⟨rfl, ?_⟩
      repeat (first | with_reducible exact bA | (with_reducible refine Below.setCell ?_ (by first | (simp; done) | (simp; omega) | omega) _) | (with_reducible refine Below.alloc ?_ (by first | (simp; done) | (simp; omega) | omega) _))

set_option maxHeartbeats 1600000 in
theorem at_last (h : MoAt w B q g st r cs m Rc x n c) (h0 : 0 ≤ m.ep) (hn : n ≤ 1000) : Calls Tryz.prog 36 #[.pointer (some ⟨q, 1, none⟩), .int .i64 m.ep] w fun e w' => ∃ y cy, e = .returned (.tuple #[vM m.ep m.pool y n cy, .bool true]) ∧ Hid (Below w.heap.size w w' ∧ At.Os w' y n cy m.osds ∧ ∀ a, y = some a → w.heap.size ≤ a.block ∧ Tb w' a.block 35) := by
  have bA := al w (.cells #[.int .i64 0, .int .i64 0, .int .i64 0, .int .i64 0, .int .i64 0, .slice none 0 0] 56)
  have resA := heap_alloc_new w (.cells #[.int .i64 0, .int .i64 0, .int .i64 0, .int .i64 0, .int .i64 0, .slice none 0 0] 56)
  obtain ⟨wA, hwA⟩ : ∃ wA, wA = w.alloc (.cells #[.int .i64 0, .int .i64 0, .int .i64 0, .int .i64 0, .int .i64 0, .slice none 0 0] 56) := ⟨_, rfl⟩
  rw [← hwA] at bA resA
  have hA := h.below bA
  have a0 : wA.cell? ⟨q, 3, none⟩ = some (.int .i64 m.ep) := cell_heap hA.obj rfl
  have a1 : wA.cell? ⟨q, 4, none⟩ = some (.int .i64 m.pool.k) := cell_heap hA.obj rfl
  have a2 : wA.cell? ⟨q, 5, none⟩ = some (.int .i64 m.pool.m) := cell_heap hA.obj rfl
  have a3 : wA.cell? ⟨q, 6, none⟩ = some (.int .i64 m.pool.pgs) := cell_heap hA.obj rfl
  have a4 : wA.cell? ⟨q, 7, none⟩ = some (.int .i64 m.pool.dom) := cell_heap hA.obj rfl
  have a5 : wA.cell? ⟨q, 8, none⟩ = some (.slice x n c) := cell_heap hA.obj rfl
  have hCl := fun (W : World) (b : Below wA.heap.size wA W) => clone_any (B := W.heap.size) (hA.os.below b) hn (Nat.le_refl _)
  have HX := hid (And.intro bA resA)
  have HN := hid (show m.osds.length ≤ 1000 by rw [h.os.len]; exact hn)
  have hwlt : w.heap.size < wA.heap.size := (Array.getElem?_eq_some_iff.1 resA).1
  clear h hn bA resA hA
  subst hwA
  obtain ⟨ep, ⟨pk, pm, pg, pd⟩, L⟩ := m
  dsimp only at h0 a0 a1 a2 a3 a4 a5 hCl ⊢
  have hz : ¬ ep < 0 := by omega
  have hz2 : ¬ ep < ep := by omega
  have bM := al (w.alloc (.cells #[.int .i64 0, .int .i64 0, .int .i64 0, .int .i64 0, .int .i64 0, .slice none 0 0] 56)) (.cells #[.int .i64 ep, .int .i64 pk, .int .i64 pm, .int .i64 pg, .int .i64 pd, .slice x n c] 56)
  have hCl1 := hCl _ bM
  have HB1 := hid (on HX.out.1 bM)
  clear hCl bM HX
  go_enter Tryz.func36, Tryz.ntmps36
  go_wp2_with (
     go_at_call 53; refine hCl1.mono ?_; rintro e w2 ⟨y, cy, rfl, H2⟩; clear hCl1
     have hb2 := H2.out.2.1
     have s0 := keep hb2 (b := w.heap.size) (o := 0) (x := .int .i64 0) (by first | assumption | go_simp)
     have s1 := keep hb2 (b := w.heap.size) (o := 1) (x := .int .i64 0) (by first | assumption | go_simp)
     have s2 := keep hb2 (b := w.heap.size) (o := 2) (x := .int .i64 0) (by first | assumption | go_simp)
     have s3 := keep hb2 (b := w.heap.size) (o := 3) (x := .int .i64 0) (by first | assumption | go_simp)
     have s4 := keep hb2 (b := w.heap.size) (o := 4) (x := .int .i64 0) (by first | assumption | go_simp)
     have s5 := keep hb2 (b := w.heap.size) (o := 5) (x := .slice none 0 0) (by first | assumption | go_simp)
     have f0 := keepf hb2 (b := w.heap.size) (o := 0) (by first | (simp <;> omega) | exact cell_lt' (a := ⟨w.heap.size, 0, none⟩) (by assumption) | (simp; exact cell_lt' (a := ⟨w.heap.size, 0, none⟩) (by assumption))) (by first | assumption | go_simp)
     have f1 := keepf hb2 (b := w.heap.size) (o := 1) (by first | (simp <;> omega) | exact cell_lt' (a := ⟨w.heap.size, 1, none⟩) (by assumption) | (simp; exact cell_lt' (a := ⟨w.heap.size, 1, none⟩) (by assumption))) (by first | assumption | go_simp)
     have f2 := keepf hb2 (b := w.heap.size) (o := 2) (by first | (simp <;> omega) | exact cell_lt' (a := ⟨w.heap.size, 2, none⟩) (by assumption) | (simp; exact cell_lt' (a := ⟨w.heap.size, 2, none⟩) (by assumption))) (by first | assumption | go_simp)
     have f3 := keepf hb2 (b := w.heap.size) (o := 3) (by first | (simp <;> omega) | exact cell_lt' (a := ⟨w.heap.size, 3, none⟩) (by assumption) | (simp; exact cell_lt' (a := ⟨w.heap.size, 3, none⟩) (by assumption))) (by first | assumption | go_simp)
     have f4 := keepf hb2 (b := w.heap.size) (o := 4) (by first | (simp <;> omega) | exact cell_lt' (a := ⟨w.heap.size, 4, none⟩) (by assumption) | (simp; exact cell_lt' (a := ⟨w.heap.size, 4, none⟩) (by assumption))) (by first | assumption | go_simp)
     have f5 := keepf hb2 (b := w.heap.size) (o := 5) (by first | (simp <;> omega) | exact cell_lt' (a := ⟨w.heap.size, 5, none⟩) (by assumption) | (simp; exact cell_lt' (a := ⟨w.heap.size, 5, none⟩) (by assumption))) (by first | assumption | go_simp)
     have b0 := keep hb2 (b := w.heap.size + 1) (o := 0) (x := .int .i64 ep) (by first | assumption | go_simp)
     have b1 := keep hb2 (b := w.heap.size + 1) (o := 1) (x := .int .i64 pk) (by first | assumption | go_simp)
     have b2 := keep hb2 (b := w.heap.size + 1) (o := 2) (x := .int .i64 pm) (by first | assumption | go_simp)
     have b3 := keep hb2 (b := w.heap.size + 1) (o := 3) (x := .int .i64 pg) (by first | assumption | go_simp)
     have b4 := keep hb2 (b := w.heap.size + 1) (o := 4) (x := .int .i64 pd) (by first | assumption | go_simp)
     have b5 := keep hb2 (b := w.heap.size + 1) (o := 5) (x := .slice x n c) (by first | assumption | go_simp)
     have v0 := keepf hb2 (b := w.heap.size + 1) (o := 0) (by first | (simp <;> omega) | exact cell_lt' (a := ⟨w.heap.size + 1, 0, none⟩) (by assumption) | (simp; exact cell_lt' (a := ⟨w.heap.size + 1, 0, none⟩) (by assumption))) (by first | assumption | go_simp)
     have v1 := keepf hb2 (b := w.heap.size + 1) (o := 1) (by first | (simp <;> omega) | exact cell_lt' (a := ⟨w.heap.size + 1, 1, none⟩) (by assumption) | (simp; exact cell_lt' (a := ⟨w.heap.size + 1, 1, none⟩) (by assumption))) (by first | assumption | go_simp)
     have v2 := keepf hb2 (b := w.heap.size + 1) (o := 2) (by first | (simp <;> omega) | exact cell_lt' (a := ⟨w.heap.size + 1, 2, none⟩) (by assumption) | (simp; exact cell_lt' (a := ⟨w.heap.size + 1, 2, none⟩) (by assumption))) (by first | assumption | go_simp)
     have v3 := keepf hb2 (b := w.heap.size + 1) (o := 3) (by first | (simp <;> omega) | exact cell_lt' (a := ⟨w.heap.size + 1, 3, none⟩) (by assumption) | (simp; exact cell_lt' (a := ⟨w.heap.size + 1, 3, none⟩) (by assumption))) (by first | assumption | go_simp)
     have v4 := keepf hb2 (b := w.heap.size + 1) (o := 4) (by first | (simp <;> omega) | exact cell_lt' (a := ⟨w.heap.size + 1, 4, none⟩) (by assumption) | (simp; exact cell_lt' (a := ⟨w.heap.size + 1, 4, none⟩) (by assumption))) (by first | assumption | go_simp)
     have v5 := keepf hb2 (b := w.heap.size + 1) (o := 5) (by first | (simp <;> omega) | exact cell_lt' (a := ⟨w.heap.size + 1, 5, none⟩) (by assumption) | (simp; exact cell_lt' (a := ⟨w.heap.size + 1, 5, none⟩) (by assumption))) (by first | assumption | go_simp)
     have B2 := on HB1.out hb2
     have lw2 : w.heap.size < w2.heap.size := cell_lt' s0
     clear hb2)
  refine bodyPost_ret (v := .tuple #[.agg #[.int .i64 ep, .int .i64 pk, .int .i64 pm, .int .i64 pg, .int .i64 pd, .slice y n cy], .bool true]) ?_ rfl ?_
  · rw [At.results_cell2 rfl]
    go_simp
  · refine ⟨y, cy, rfl, ?_, ?_⟩
    · repeat (first | with_reducible exact B2 | (with_reducible refine Below.setCell ?_ (by first | (simp; done) | (simp; omega) | omega) _) | (with_reducible refine Below.alloc ?_ (by first | (simp; done) | (simp; omega) | omega) _))
    have T1 : Turns (fun k => k = w.heap.size ∨ k = w.heap.size + 1) w2 _ := ((((((((Turns.refl (fun k => k = w.heap.size ∨ k = w.heap.size + 1) w2).setCell (p := ⟨w.heap.size + 1, 5, none⟩) (.inl (.inr rfl)) (.slice y n cy)).setCell (p := ⟨w.heap.size, 0, none⟩) (.inl (.inl rfl)) (.int .i64 ep)).setCell (p := ⟨w.heap.size, 1, none⟩) (.inl (.inl rfl)) (.int .i64 pk)).setCell (p := ⟨w.heap.size, 2, none⟩) (.inl (.inl rfl)) (.int .i64 pm)).setCell (p := ⟨w.heap.size, 3, none⟩) (.inl (.inl rfl)) (.int .i64 pg)).setCell (p := ⟨w.heap.size, 4, none⟩) (.inl (.inl rfl)) (.int .i64 pd)).setCell (p := ⟨w.heap.size, 5, none⟩) (.inl (.inl rfl)) (.slice y n cy))
    have hO := H2.out.1
    have hbk : ∀ a, y = some a → w.heap.size + 2 ≤ a.block ∧ Tb w2 a.block 35 := fun a ha => by
      obtain ⟨x0, c9, ee, _, _, h3⟩ := hO.form
      injection ee with ee _ _
      subst ee
      obtain ⟨g9, rfl, h4, _⟩ := h3 a ha
      simp at h4
      refine ⟨h4, (hO.tb (g := g9) ?_).2⟩
      rw [ha]
      simp [Value.ownBlock]
    refine ⟨(own_os hO (by have := HN.out; omega)).turns T1 (fun h0 a ha e => ?_), fun a ha => ⟨by have := (hbk a ha).1; omega, ?_⟩⟩
    · have e4 : a.block = w.heap.size ∨ a.block = w.heap.size + 1 := e
      have := (hbk a ha).1
      omega
    · exact tb_turns (hbk a ha).2 T1 (fun e => by
        have e4 : a.block = w.heap.size ∨ a.block = w.heap.size + 1 := e
        have := (hbk a ha).1
        omega)

theorem cell_past {w : World} {a j : Nat} {cs : Array Value} {t : TypeId} (h : w.heap[a]? = some (.cells cs t (0, 0))) (hv : cs.size ≤ j) : w.cell? ⟨a, j, none⟩ = none := by
  have e : cs[j]? = none := by simp [hv]
  simp only [World.cell?, h]
  simpa using hv

theorem os_not_map {W : World} {b : Nat} {i0 i1 i2 i3 i4 : Int} {ys : Option Addr} {yn yc : Nat} {t : TypeId} {x : Option Addr} {n c : Nat} {L : List Osd} (h : W.heap[b]? = some (.cells #[.int .i64 i0, .int .i64 i1, .int .i64 i2, .int .i64 i3, .int .i64 i4, .slice ys yn yc] t (0, 0))) (hos : At.Os W x n c L) (h0 : n ≠ 0) (a : Addr) (ha : x = some a) : a.block ≠ b := fun e => by
  rcases hos.row with q | ⟨b', o, q1, q2, q3⟩
  · exact h0 q
  · rw [q1] at ha
    injection ha with ha
    have e2 : b' = b := by rw [← e, ← ha]
    subst e2
    have hl := hos.len
    obtain ⟨d, hd⟩ : ∃ d, L[0]? = some d := ⟨L[0]'(by omega), List.getElem?_eq_getElem (by omega)⟩
    have k1 := q3 0 d hd 1 (.bool d.up) rfl
    rcases Nat.lt_or_ge (o + 0 * 8 + 1) 6 with q4 | q4
    · have q5 : o = 0 ∨ o = 1 ∨ o = 2 ∨ o = 3 ∨ o = 4 := by omega
      rcases q5 with rfl | rfl | rfl | rfl | rfl
      · have := (cell_heap h (j := 1) rfl).symm.trans k1
        simp at this
      · have := (cell_heap h (j := 2) rfl).symm.trans k1
        simp at this
      · have := (cell_heap h (j := 3) rfl).symm.trans k1
        simp at this
      · have := (cell_heap h (j := 4) rfl).symm.trans k1
        simp at this
      · have := (cell_heap h (j := 5) rfl).symm.trans k1
        simp at this
    · have e5 := cell_past h (j := o + 0 * 8 + 1) (by simp; omega)
      rw [e5] at k1
      cases k1

end

/- A monitor's own call that lets its maps come up to its decrees. -/
def Upto (w w' : World) (B q : Nat) (g : Ln) (st : Nd) (p : Pool) (Rc : Value) : Prop := ∃ R' x' n' c', MoK w' B q g st p st.dec.length R' x' n' c' ∧ Turns (ofM q Rc) w w' ∧ ∀ k, R'.ownBlock = some k → ofM q Rc k ∨ w.heap.size ≤ k

section
variable {w : World} {B q : Nat} {g : Ln} {st : Nd} {r : Nat} {cs : List Ch} {m : Mp} {Rc : Value} {x : Option Addr} {n c : Nat} {p : Pool}

theorem ofM_no {N : Nat} (hlt : q < N) (hcl : ∀ k, Rc.ownBlock = some k → k < N) : ¬ ofM q Rc N := fun e => by
  rcases e with e | e
  · omega
  · have := hcl _ e
    omega

theorem MoK.below {w' : World} (h : MoK w B q g st p r Rc x n c) (b : Below w.heap.size w w') : MoK w' B q g st p r Rc x n c := ⟨h.mo.below b, h.le⟩

theorem mepoch_any (h : MoK w B q g st p r Rc x n c) (hk : p.k ≤ 9223372036854775807) (hp : 0 < p.k) :
    Calls Tryz.prog 10 #[.pointer (some ⟨q, 0, none⟩)] w fun e w' => e = .returned (.int .i64 (chainOf ⟨0, p, []⟩ st.dec).2.ep) ∧ Hid (Upto w w' B q g st p Rc) := by
  have hM := mmade_yes h.mo (by rw [chain_pool]; exact hp)
  have hK := known_any h hk
  obtain ⟨ee, hee⟩ : ∃ ee, ee = (chainOf ⟨0, p, []⟩ st.dec).2.ep := ⟨_, rfl⟩
  rw [← hee]
  have HEE := hid hee
  clear h hk hp hee
  go_enter Tryz.func10, Tryz.ntmps10
  go_wp2_with (first
    | (
       go_at_call 27; refine hM.mono ?_; rintro e w' ⟨rfl, hw⟩; subst w'; clear hM)
    | (
       go_at_call 28; refine hK.mono ?_; rintro e w1 ⟨rfl, H1⟩; clear hK
       have k3 : w1.cell? ⟨q, 3, none⟩ = some (.int .i64 ee) := by
         rw [HEE.out]
         obtain ⟨R1, x1, n1, c1, k1, _⟩ := H1.out
         have := k1.mo.obj
         rw [List.take_length] at this
         exact cell_heap this rfl))
  go_ret
  exact ⟨rfl, H1.out⟩

/- What Map writes lies apart. -/
theorem map_end {wA w1 w2 w3 : World} (hlt : q < w.heap.size) (hcl : ∀ k, Rc.ownBlock = some k → k < w.heap.size) (bA : Below w.heap.size w wA) (hsz : wA.heap.size = w.heap.size + 1) (H1 : Upto wA w1 B q g st p Rc) (b2 : Below w1.heap.size w1 w2) (t3 : Turns (fun k => k = w.heap.size) w2 w3) (i0 i1 i2 i3 i4 : Int) (ys : Option Addr) (yn yc : Nat) (hr : w2.heap[w.heap.size]? = some (.cells #[.int .i64 i0, .int .i64 i1, .int .i64 i2, .int .i64 i3, .int .i64 i4, .slice ys yn yc] 56 (0, 0))) (hf : ∀ k, fp g k → k < w.heap.size) : Upto w w3 B q g st p Rc := by
  obtain ⟨R1, x1, n1, c1, k1, k2, k3⟩ := H1
  have hM2 := k1.mo.below b2
  have hT : Turns (ofM q Rc) w w2 := (((Turns.of_below (F := ofM q Rc) bA).trans k2).trans (Turns.of_below b2))
  refine ⟨R1, x1, n1, c1, ⟨hM2.turns t3 (fun k hk e => by have e3 : k = w.heap.size := e; have := hf k hk; omega) (fun e => by have e3 : q = w.heap.size := e; omega) (fun k hk e => ?_) (fun h0 a ha e => os_not_map hr hM2.os h0 a ha e) (fun k hk tb => by have e3 : k = w.heap.size := hk; subst e3; have := tb.same (⟨_, _, hr⟩ : Tb w2 _ 56); revert this; decide), k1.le⟩, hT.more t3 (fun k hk => .inr (by have e3 : k = w.heap.size := hk; omega)), fun k hk => ?_⟩
  · have e3 : k = w.heap.size := e
    rcases k3 k hk with (q1 | q1) | q1
    · omega
    · have := hcl k q1
      omega
    · omega
  · rcases k3 k hk with q1 | q1
    · exact .inl q1
    · exact .inr (by omega)

set_option maxHeartbeats 1600000 in
theorem mmap_last (h : MoK w B q g st p r Rc x n c) (hk : p.k ≤ 9223372036854775807) (hp : 0 < p.k) (ep : Int) (P : Pool) (L : List Osd) (hm : (chainOf ⟨0, p, []⟩ st.dec).2 = ⟨ep, P, L⟩) (h0 : 0 ≤ ep) (hL : L.length ≤ 1000) :
    Calls Tryz.prog 19 #[.pointer (some ⟨q, 0, none⟩), .int .i64 ep] w fun e w' => ∃ y yn cy, e = .returned (.tuple #[vM ep P y yn cy, .bool true]) ∧ Hid (Upto w w' B q g st p Rc ∧ At.Os w' y yn cy L ∧ ∀ a, y = some a → w.heap.size ≤ a.block ∧ Tb w' a.block 35) := by
  have bA := al w (.cells #[.int .i64 0, .int .i64 0, .int .i64 0, .int .i64 0, .int .i64 0, .slice none 0 0] 56)
  have resA := heap_alloc_new w (.cells #[.int .i64 0, .int .i64 0, .int .i64 0, .int .i64 0, .int .i64 0, .slice none 0 0] 56)
  have sA : (w.alloc (.cells #[.int .i64 0, .int .i64 0, .int .i64 0, .int .i64 0, .int .i64 0, .slice none 0 0] 56)).heap.size = w.heap.size + 1 := by simp
  have hA := h.below bA
  have hM := mmade_yes hA.mo (by rw [chain_pool]; exact hp)
  have hK := known_any hA hk
  have HX := hid (And.intro bA (And.intro resA sA))
  have HL1 := hid (And.intro h.mo.lt (And.intro (fun (k : Nat) (hk : Rc.ownBlock = some k) => (h.mo.chs.tb hk).2.lt) (fun (k : Nat) (hk : fp g k) => (h.mo.node.u8 k hk).1)))
  have HE := hid (And.intro hm (And.intro h0 hL))
  clear h hk hp bA resA sA hA hm h0 hL
  obtain ⟨pk, pm, pg, pd⟩ := P
  unfold vM
  dsimp only
  go_enter Tryz.func19, Tryz.ntmps19
  go_wp2_with (first
    | (
       go_at_call 27; refine hM.mono ?_; rintro e w' ⟨rfl, hw⟩; subst w'; clear hM)
    | (
       go_at_call 28; refine hK.mono ?_; rintro e w1 ⟨rfl, H1⟩; clear hK
       obtain ⟨R1, x1, n1, c1, k1, k2, k3⟩ := H1.out
       have k4 := k1.mo
       rw [List.take_length, HE.out.1] at k4
       have hAt := at_last k4 HE.out.2.1 (by have := k4.os.len; have := HE.out.2.2; dsimp only at *; omega)
       have res1 := (k2.block w.heap.size (by have := HX.out.2.2; omega) (ofM_no HL1.out.1 HL1.out.2.1)).trans HX.out.2.1
       have HR1 := hid res1
       unfold vM at hAt
       dsimp only at hAt
       clear k1 k2 k3 k4 res1)
    | (
       go_at_call 36; refine hAt.mono ?_; rintro e w2 ⟨y, cy, rfl, H2⟩; clear hAt
       have res2 := heap_keep H2.out.1 HR1.out
       have s0 : w2.cell? ⟨w.heap.size, 0, none⟩ = some (.int .i64 0) := cell_heap res2 rfl
       have f0 := fr_heap res2 0
       have s1 : w2.cell? ⟨w.heap.size, 1, none⟩ = some (.int .i64 0) := cell_heap res2 rfl
       have f1 := fr_heap res2 1
       have s2 : w2.cell? ⟨w.heap.size, 2, none⟩ = some (.int .i64 0) := cell_heap res2 rfl
       have f2 := fr_heap res2 2
       have s3 : w2.cell? ⟨w.heap.size, 3, none⟩ = some (.int .i64 0) := cell_heap res2 rfl
       have f3 := fr_heap res2 3
       have s4 : w2.cell? ⟨w.heap.size, 4, none⟩ = some (.int .i64 0) := cell_heap res2 rfl
       have f4 := fr_heap res2 4
       have s5 : w2.cell? ⟨w.heap.size, 5, none⟩ = some (.slice none 0 0) := cell_heap res2 rfl
       have f5 := fr_heap res2 5
       have HR2 := hid res2
       clear res2))
  refine bodyPost_ret (v := .tuple #[.agg #[.int .i64 ep, .int .i64 pk, .int .i64 pm, .int .i64 pg, .int .i64 pd, .slice y n1 cy], .bool true]) ?_ rfl ?_
  · rw [At.results_cell2 rfl]
    go_simp
  · have T3 := put6_turns w2 w.heap.size (.int .i64 ep) (.int .i64 pk) (.int .i64 pm) (.int .i64 pg) (.int .i64 pd) (.slice y n1 cy)
    refine ⟨y, n1, cy, rfl, map_end HL1.out.1 HL1.out.2.1 HX.out.1 HX.out.2.2 H1.out H2.out.1 T3 0 0 0 0 0 none 0 0 HR2.out HL1.out.2.2, H2.out.2.1.turns T3 (fun h0 a ha e => os_not_map HR2.out H2.out.2.1 h0 a ha e), fun a ha => ?_⟩
    obtain ⟨u1, u2⟩ := H2.out.2.2 a ha
    have s1 : w.heap.size + 1 ≤ w1.heap.size := by obtain ⟨_, _, _, _, _, k2, _⟩ := H1.out; have := k2.size; have := HX.out.2.2; omega
    exact ⟨by omega, tb_turns u2 T3 (fun e => by have e3 : a.block = w.heap.size := e; omega)⟩

set_option maxHeartbeats 1600000 in
theorem mmap_none (h : MoK w B q g st p r Rc x n c) (hk : p.k ≤ 9223372036854775807) (hp : 0 < p.k) (i : Int) (hi : i < 0 ∨ (chainOf ⟨0, p, []⟩ st.dec).2.ep < i) :
    Calls Tryz.prog 19 #[.pointer (some ⟨q, 0, none⟩), .int .i64 i] w fun e w' => e = .returned (.tuple #[vM 0 noP none 0 0, .bool false]) ∧ Hid (Upto w w' B q g st p Rc) := by
  have bA := al w (.cells #[.int .i64 0, .int .i64 0, .int .i64 0, .int .i64 0, .int .i64 0, .slice none 0 0] 56)
  have resA := heap_alloc_new w (.cells #[.int .i64 0, .int .i64 0, .int .i64 0, .int .i64 0, .int .i64 0, .slice none 0 0] 56)
  have sA : (w.alloc (.cells #[.int .i64 0, .int .i64 0, .int .i64 0, .int .i64 0, .int .i64 0, .slice none 0 0] 56)).heap.size = w.heap.size + 1 := by simp
  have hA := h.below bA
  have hM := mmade_yes hA.mo (by rw [chain_pool]; exact hp)
  have hK := known_any hA hk
  have HX := hid (And.intro bA (And.intro resA sA))
  have HL1 := hid (And.intro h.mo.lt (And.intro (fun (k : Nat) (hk : Rc.ownBlock = some k) => (h.mo.chs.tb hk).2.lt) (fun (k : Nat) (hk : fp g k) => (h.mo.node.u8 k hk).1)))
  have HI := hid hi
  clear h hk hp bA resA sA hA hi
  go_enter Tryz.func19, Tryz.ntmps19
  go_wp2_with (first
    | (
       go_at_call 27; refine hM.mono ?_; rintro e w' ⟨rfl, hw⟩; subst w'; clear hM)
    | (
       go_at_call 28; refine hK.mono ?_; rintro e w1 ⟨rfl, H1⟩; clear hK
       obtain ⟨R1, x1, n1, c1, k1, k2, k3⟩ := H1.out
       have k4 := k1.mo
       rw [List.take_length] at k4
       have hAt := at_none k4 i HI.out
       have res1 := (k2.block w.heap.size (by have := HX.out.2.2; omega) (ofM_no HL1.out.1 HL1.out.2.1)).trans HX.out.2.1
       have HR1 := hid res1
       unfold vM noP at hAt
       dsimp only at hAt
       clear k1 k2 k3 k4 res1)
    | (
       go_at_call 36; refine hAt.mono ?_; rintro e w2 ⟨rfl, hb2⟩; clear hAt
       have res2 := heap_keep hb2 HR1.out
       have s0 : w2.cell? ⟨w.heap.size, 0, none⟩ = some (.int .i64 0) := cell_heap res2 rfl
       have f0 := fr_heap res2 0
       have s1 : w2.cell? ⟨w.heap.size, 1, none⟩ = some (.int .i64 0) := cell_heap res2 rfl
       have f1 := fr_heap res2 1
       have s2 : w2.cell? ⟨w.heap.size, 2, none⟩ = some (.int .i64 0) := cell_heap res2 rfl
       have f2 := fr_heap res2 2
       have s3 : w2.cell? ⟨w.heap.size, 3, none⟩ = some (.int .i64 0) := cell_heap res2 rfl
       have f3 := fr_heap res2 3
       have s4 : w2.cell? ⟨w.heap.size, 4, none⟩ = some (.int .i64 0) := cell_heap res2 rfl
       have f4 := fr_heap res2 4
       have s5 : w2.cell? ⟨w.heap.size, 5, none⟩ = some (.slice none 0 0) := cell_heap res2 rfl
       have f5 := fr_heap res2 5
       have HR2 := hid (And.intro res2 hb2)
       clear res2 hb2))
  refine bodyPost_ret (v := .tuple #[vM 0 noP none 0 0, .bool false]) ?_ rfl ?_
  · rw [At.results_cell2 rfl]
    unfold vM noP
    go_simp
  · have T3 := put6_turns w2 w.heap.size (.int .i64 0) (.int .i64 0) (.int .i64 0) (.int .i64 0) (.int .i64 0) (.slice none 0 0)
    exact ⟨rfl, map_end HL1.out.1 HL1.out.2.1 HX.out.1 HX.out.2.2 H1.out HR2.out.2 T3 0 0 0 0 0 none 0 0 HR2.out.1 HL1.out.2.2⟩

end

end Go.Proofs.YtdlajpjigddbhaaGreat.Mo

/-
  Package monitor: New.
  Conditions: none.
-/
namespace Go.Proofs.YtdlajpjigddbhaaGreat.Mo
open Go.RowKit Wi By Fl Px At
set_option linter.unusedVariables false
set_option linter.unusedSimpArgs false
set_option maxRecDepth 100000

theorem mnew_bad (id n : Int) (p : Pool) (w : World) (h : n < 1 ∨ 7 < n ∨ id < 0 ∨ n ≤ id) : Calls Tryz.prog 17 #[.int .i64 id, .int .i64 n, vP p] w fun e w' => e = .returned (.tuple #[.pointer none, .int .i64 1]) ∧ Below w.heap.size w w' := by
  have hN := fun W => Px.new_no id n W h
  clear h
  obtain ⟨k, m, g, d⟩ := p
  unfold vP
  dsimp only
  have bA := al w (.cells #[.int .i64 k, .int .i64 m, .int .i64 g, .int .i64 d] 49)
  go_enter Tryz.func17, Tryz.ntmps17
  go_wp2_with (go_at_call 33; refine (hN _).mono ?_; rintro e w' ⟨rfl, hw⟩; subst w'; clear hN)
  go_ret2
  exact ⟨rfl, bA⟩

theorem mnew_pool (id n : Nat) (p : Pool) (w : World) (h1 : 1 ≤ n) (h2 : n ≤ 7) (h3 : id < n) (hk : p.k ≤ 9223372036854775807) (hp : poolB p = false) : Calls Tryz.prog 17 #[.int .i64 (id : Int), .int .i64 (n : Int), vP p] w fun e w' => e = .returned (.tuple #[.pointer none, .int .i64 1]) ∧ Below w.heap.size w w' := by
  have hN := fun W => Px.new_yes id n W h1 h2 h3
  have hA := fun W => At.new_no p W hk hp
  clear hp hk h1 h2 h3
  obtain ⟨k, m, g, d⟩ := p
  unfold vP vM noP at *
  dsimp only at hA ⊢
  have bA := al w (.cells #[.int .i64 k, .int .i64 m, .int .i64 g, .int .i64 d] 49)
  go_enter Tryz.func17, Tryz.ntmps17
  go_wp2_with (first
    | (
       go_at_call 33; refine (hN _).mono ?_; rintro e w1 ⟨rfl, H1⟩; clear hN
       have hb1 := H1.out.1
       have k0 := keep hb1 (b := w.heap.size) (o := 0) (x := .int .i64 k) (by first | assumption | go_simp)
       have k1 := keep hb1 (b := w.heap.size) (o := 1) (x := .int .i64 m) (by first | assumption | go_simp)
       have k2 := keep hb1 (b := w.heap.size) (o := 2) (x := .int .i64 g) (by first | assumption | go_simp)
       have k3 := keep hb1 (b := w.heap.size) (o := 3) (x := .int .i64 d) (by first | assumption | go_simp)
       have B1 := on bA hb1; clear hb1)
    | (
       go_at_call 34; refine (hA _).mono ?_; rintro e w2 ⟨rfl, hb2⟩; clear hA
       have B2 := on B1 hb2; clear hb2))
  go_ret2
  exact ⟨rfl, on B2 (al _ _)⟩

set_option maxHeartbeats 1600000 in
theorem mnew_yes (id n : Nat) (p : Pool) (w : World) (h1 : 1 ≤ n) (h2 : n ≤ 7) (h3 : id < n) (hk : p.k ≤ 9223372036854775807) (hp : poolB p = true) : Calls Tryz.prog 17 #[.int .i64 (id : Int), .int .i64 (n : Int), vP p] w fun e w' => ∃ q, e = .returned (.tuple #[.pointer (some ⟨q, 0, none⟩), .int .i64 0]) ∧ Hid (Below w.heap.size w w' ∧ ∃ g, MoAt w' (w.heap.size + 1) q g (fresh id n) 0 [] ⟨0, p, []⟩ (.slice none 0 0) none 0 0 ∧ gnb g = 0) := by
  have hN := fun W => Px.new_yes id n W h1 h2 h3
  have hA := fun W => At.new_yes p W hk hp
  clear hp hk h1 h2 h3
  obtain ⟨k, m, g, d⟩ := p
  unfold vP vM at *
  dsimp only at hA ⊢
  have bA := al w (.cells #[.int .i64 k, .int .i64 m, .int .i64 g, .int .i64 d] 49)
  have sA : (w.alloc (.cells #[.int .i64 k, .int .i64 m, .int .i64 g, .int .i64 d] 49)).heap.size = w.heap.size + 1 := by simp
  have HBA := hid (And.intro bA sA)
  clear bA sA
  go_enter Tryz.func17, Tryz.ntmps17
  go_wp2_with (first
    | (
       go_at_call 33; refine (hN _).mono ?_; rintro e w1 ⟨rfl, H1⟩; clear hN
       have hb1 := H1.out.1
       have k0 := keep hb1 (b := w.heap.size) (o := 0) (x := .int .i64 k) (by first | assumption | go_simp)
       have k1 := keep hb1 (b := w.heap.size) (o := 1) (x := .int .i64 m) (by first | assumption | go_simp)
       have k2 := keep hb1 (b := w.heap.size) (o := 2) (x := .int .i64 g) (by first | assumption | go_simp)
       have k3 := keep hb1 (b := w.heap.size) (o := 3) (x := .int .i64 d) (by first | assumption | go_simp)
       have HB1 := hid (on HBA.out.1 hb1); clear hb1)
    | (
       go_at_call 34; refine (hA _).mono ?_; rintro e w2 ⟨rfl, hb2⟩; clear hA
       have HB2 := hid hb2; clear hb2))
  go_ret2
  obtain ⟨_, g1, e1, k1, n1⟩ := H1.out
  rw [HBA.out.2] at e1 k1
  have b3 := al w2 (.cells #[.int .i64 0, .int .i64 k, .int .i64 m, .int .i64 g, .int .i64 d, .slice none 0 0] 56)
  have b4 := al (w2.alloc (.cells #[.int .i64 0, .int .i64 k, .int .i64 m, .int .i64 g, .int .i64 d, .slice none 0 0] 56)) (.cells #[.pointer (some ⟨w.heap.size + 1 + 1, 0, none⟩), .int .i64 0, .slice none 0 0, .int .i64 0, .int .i64 k, .int .i64 m, .int .i64 g, .int .i64 d, .slice none 0 0] 67)
  have kk := (k1.below HB2.out).below b3
  have hlow : w.heap.size + 1 ≤ w2.heap.size := by
    have q1 := HB1.out.size
    have q2 := HB2.out.size
    have q3 := (k1.u8 _ (.inl rfl)).1
    have := k1.low _ (.inl rfl)
    omega
  refine ⟨_, rfl, on (on HB1.out HB2.out) (on b3 b4), g1, ⟨?_, kk.below b4, Own.nil _ _ _ _ _, os_none _, by simp; omega, fun hf => ?_, (fun k hk => by cases hk), (fun _ a ha => by cases ha)⟩, n1⟩
  · rw [e1]
    have e2 : w2.heap.size + 1 = (w2.alloc (.cells #[.int .i64 0, .int .i64 k, .int .i64 m, .int .i64 g, .int .i64 d, .slice none 0 0] 56)).heap.size := by simp
    rw [e2]
    exact heap_alloc_new _ _
  · have := (kk.u8 _ hf).1
    simp at this

end Go.Proofs.YtdlajpjigddbhaaGreat.Mo

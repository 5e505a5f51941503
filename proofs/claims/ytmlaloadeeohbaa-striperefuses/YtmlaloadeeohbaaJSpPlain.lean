/-
  12 texts of this proof, one behind the other: SpPlain, SpTurn, SpCopy, SpSmall, SpDeal, SpGath, SpJoin, SpTouch, SpRef, SpSome, SpAwake, SpItem.
-/
import Derived.Test.YtmlaloadeeohbaaCdPlain
import Derived.Test.YtmlaloadeeohbaaJCdInv
import Derived.Laws.CopyOwn
import Derived.Deep.OwnRows
import Derived.Test.YtmlaloadeeohbaaCdSmall
import Derived.Test.YtmlaloadeeohbaaByHk
import Derived.Deep.Cut
import Derived.Deep.RegionHeld3
import Derived.OwnWalk
import Derived.Deep.QuietTactic
import Derived.BigQuiet
import Derived.Test.YtmlaloadeeohbaaCdRefEnc
import Derived.Deep.Slices
/-
  Stripes, plain: how many a shard has, which byte lies where, and the way back.
  Conditions: none.
-/
namespace Go.Proofs.Ytmlaloadeeohbaa
open Gf
set_option linter.unusedVariables false

def stN (k n : Nat) : Nat := (n + 16 * k - 1) / (16 * k)

theorem stN_lt {k n s : Nat} (hk : 1 ≤ k) : s < stN k n ↔ s * (16 * k) < n := by
  unfold stN
  rw [Nat.lt_iff_add_one_le, Nat.le_div_iff_mul_le (by omega), Nat.add_mul, Nat.one_mul]
  omega

theorem stN_all {k n : Nat} (hk : 1 ≤ k) : n ≤ stN k n * (16 * k) := by
  exact Nat.le_of_not_lt fun h => Nat.lt_irrefl _ ((stN_lt hk).2 h)

theorem stN_le {k n : Nat} (hk : 1 ≤ k) : stN k n ≤ n := by
  refine Nat.le_of_not_lt fun h => ?_
  have h1 := (stN_lt hk).1 h
  have h2 : n * 1 ≤ n * (16 * k) := Nat.mul_le_mul_left n (by omega)
  omega

theorem stN_all' {k n : Nat} (hk : 1 ≤ k) : n ≤ k * (16 * stN k n) := by
  have := stN_all (n := n) hk
  rwa [show stN k n * (16 * k) = k * (16 * stN k n) by rw [Nat.mul_comm, Nat.mul_comm 16 k, Nat.mul_assoc]] at this

/- Where byte 'at' of shard i stands in the object. -/
def posO (k i a : Nat) : Nat := (a / 16 * k + i) * 16 + a % 16

theorem posO_unit {k i a : Nat} (hi : i < k) : posO k i a / 16 = a / 16 * k + i ∧ posO k i a % 16 = a % 16 := by
  unfold posO; omega

theorem posO_shard {k i a : Nat} (hi : i < k) : posO k i a / 16 % k = i := by
  rw [(posO_unit hi).1, Nat.mul_comm, Nat.mul_add_mod, Nat.mod_eq_of_lt hi]

theorem posO_at {k i a : Nat} (hi : i < k) : posO k i a / 16 / k * 16 + posO k i a % 16 = a := by
  rw [(posO_unit hi).1, (posO_unit hi).2, Nat.mul_comm (a / 16) k, Nat.mul_add_div (by omega), Nat.div_eq_of_lt hi]
  omega

theorem posO_back (k p : Nat) : posO k (p / 16 % k) (p / 16 / k * 16 + p % 16) = p := by
  unfold posO
  have h1 : (p / 16 / k * 16 + p % 16) / 16 = p / 16 / k := by omega
  have h2 : (p / 16 / k * 16 + p % 16) % 16 = p % 16 := by omega
  have h3 : p / 16 / k * k + p / 16 % k = p / 16 := by
    have := Nat.div_add_mod (p / 16) k
    rw [Nat.mul_comm] at this
    exact this
  rw [h1, h2, h3]
  omega

theorem at_lt {k p s : Nat} (hk : 1 ≤ k) (hp : p < k * (16 * s)) : p / 16 / k * 16 + p % 16 < 16 * s := by
  have h1 : p / 16 < s * k := by
    have : k * (16 * s) = 16 * (s * k) := by rw [Nat.mul_comm s k, ← Nat.mul_assoc, ← Nat.mul_assoc, Nat.mul_comm k 16]
    omega
  have h2 : p / 16 / k < s := (Nat.div_lt_iff_lt_mul (by omega)).2 h1
  omega

theorem posO_lt {k i a s : Nat} (hi : i < k) (ha : a < 16 * s) : posO k i a < k * (16 * s) := by
  have h1 : a / 16 + 1 ≤ s := by omega
  have h2 : (a / 16 + 1) * k ≤ s * k := Nat.mul_le_mul_right k h1
  rw [Nat.add_mul, Nat.one_mul] at h2
  have h3 : k * (16 * s) = 16 * (s * k) := by rw [Nat.mul_comm s k, ← Nat.mul_assoc, ← Nat.mul_assoc, Nat.mul_comm k 16]
  unfold posO
  omega

/- An object's data shards; the bytes of data shards. -/
def dealF (k n : Nat) (b : Nat → Nat) : Nat → Nat → Nat := fun i a => if posO k i a < n then b (posO k i a) else 0
def gathF (k : Nat) (f : Nat → Nat → Nat) : Nat → Nat := fun p => f (p / 16 % k) (p / 16 / k * 16 + p % 16)

theorem dealF_lt {k n : Nat} {b : Nat → Nat} (hb : ∀ i, b i < 256) (i a : Nat) : dealF k n b i a < 256 := by
  unfold dealF
  split
  · exact hb _
  · omega

theorem gathF_lt {k : Nat} {f : Nat → Nat → Nat} (hf : ∀ r j, f r j < 256) (p : Nat) : gathF k f p < 256 := hf _ _

theorem gath_deal (k n : Nat) (b : Nat → Nat) (p : Nat) : gathF k (dealF k n b) p = if p < n then b p else 0 := by
  unfold gathF dealF
  rw [posO_back]

theorem deal_gath {k n i a : Nat} (f : Nat → Nat → Nat) (hi : i < k) : dealF k n (gathF k f) i a = if posO k i a < n then f i a else 0 := by
  show (if posO k i a < n then f (posO k i a / 16 % k) (posO k i a / 16 / k * 16 + posO k i a % 16) else 0) = _
  rw [posO_shard hi, posO_at hi]

theorem dealF_congr {k n : Nat} {b b' : Nat → Nat} (h : ∀ p, p < n → b p = b' p) (i a : Nat) : dealF k n b i a = dealF k n b' i a := by
  unfold dealF
  split
  · exact h _ (by assumption)
  · rfl

/- Of shards whose bytes behind the end are all 0: they are dealt out of what they tell. -/
theorem deal_back {k n s : Nat} {f : Nat → Nat → Nat} (h0 : ∀ p, n ≤ p → p < k * (16 * s) → gathF k f p = 0) {i a : Nat} (hi : i < k) (ha : a < 16 * s) : dealF k n (gathF k f) i a = f i a := by
  rw [deal_gath f hi]
  split
  · rfl
  · have h := h0 (posO k i a) (by omega) (posO_lt hi ha)
    unfold gathF at h
    rw [posO_shard hi, posO_at hi] at h
    exact h.symm

/- As far as units are dealt out. -/
def dealTo (k n : Nat) (b : Nat → Nat) (u : Nat) : Nat → Nat → Nat := fun i a => if a / 16 * k + i < u then dealF k n b i a else 0

theorem dealTo_lt {k n u : Nat} {b : Nat → Nat} (hb : ∀ i, b i < 256) (i a : Nat) : dealTo k n b u i a < 256 := by
  unfold dealTo
  split
  · exact dealF_lt hb i a
  · omega

theorem dealTo_end {k n u s : Nat} {b : Nat → Nat} (hu : n ≤ u * 16) {i a : Nat} (hi : i < k) : dealTo k n b u i a = dealF k n b i a := by
  unfold dealTo
  split
  · rfl
  · unfold dealF
    rw [if_neg]
    have := (posO_unit (a := a) hi).1
    omega

theorem dealTo_zero {k n i a : Nat} {b : Nat → Nat} : dealTo k n b 0 i a = 0 := by
  unfold dealTo
  rw [if_neg (by omega)]

/- The next unit. -/
theorem unit_of {k i a u : Nat} (hi : i < k) (e : a / 16 * k + i = u) : i = u % k ∧ a / 16 = u / k := by
  subst e
  constructor
  · rw [Nat.mul_comm, Nat.mul_add_mod, Nat.mod_eq_of_lt hi]
  · rw [Nat.mul_comm, Nat.mul_add_div (by omega), Nat.div_eq_of_lt hi]; omega

theorem unit_is {k u a : Nat} (e : a / 16 = u / k) : a / 16 * k + u % k = u := by
  rw [e]
  have := Nat.div_add_mod u k
  rw [Nat.mul_comm] at this
  exact this

theorem dealTo_next {k n u : Nat} {b : Nat → Nat} {i a : Nat} (hi : i < k) :
    dealTo k n b (u + 1) i a = if i = u % k then (if u / k * 16 ≤ a ∧ a < u / k * 16 + min 16 (n - u * 16) then b (u * 16 + (a - u / k * 16)) else dealTo k n b u i a) else dealTo k n b u i a := by
  by_cases e : a / 16 * k + i = u
  · obtain ⟨e1, e2⟩ := unit_of hi e
    rw [if_pos e1]
    have hp := posO_unit (a := a) hi
    have hl : dealTo k n b (u + 1) i a = dealF k n b i a := by unfold dealTo; rw [if_pos (by omega)]
    have hr : dealTo k n b u i a = 0 := by unfold dealTo; rw [if_neg (by omega)]
    rw [hl, hr]
    unfold dealF
    have hpe : posO k i a = u * 16 + a % 16 := by unfold posO; rw [e]
    by_cases h : posO k i a < n
    · rw [if_pos h, if_pos ⟨by omega, by omega⟩, hpe]
      congr 1
      omega
    · rw [if_neg h, if_neg (by omega)]
  · have hs : dealTo k n b (u + 1) i a = dealTo k n b u i a := by
      unfold dealTo
      by_cases h : a / 16 * k + i < u
      · rw [if_pos h, if_pos (by omega)]
      · rw [if_neg h, if_neg (by omega)]
    rw [hs]
    split
    · rename_i e1
      rw [if_neg]
      rintro ⟨h1, h2⟩
      refine e ?_
      rw [e1]
      exact unit_is (by omega)
    · rfl

/- As far as bytes are gathered: the shards ahead of i, and of shard i the bytes ahead of a. -/
def gathTo (k : Nat) (f : Nat → Nat → Nat) (i a : Nat) : Nat → Nat := fun p => if p / 16 % k < i ∨ (p / 16 % k = i ∧ p / 16 / k * 16 < a) then gathF k f p else 0

theorem gathTo_lt {k : Nat} {f : Nat → Nat → Nat} (hf : ∀ r j, f r j < 256) (i a p : Nat) : gathTo k f i a p < 256 := by
  unfold gathTo
  split
  · exact gathF_lt hf p
  · omega

theorem gathTo_zero {k : Nat} {f : Nat → Nat → Nat} (p : Nat) : gathTo k f 0 0 p = 0 := by
  unfold gathTo
  rw [if_neg (by omega)]

theorem gathTo_row {k s i : Nat} {f : Nat → Nat → Nat} (hk : 1 ≤ k) {p : Nat} (hp : p < k * (16 * s)) : gathTo k f i (16 * s) p = gathTo k f (i + 1) 0 p := by
  have h := at_lt hk hp
  unfold gathTo
  by_cases e : p / 16 % k < i ∨ (p / 16 % k = i ∧ p / 16 / k * 16 < 16 * s)
  · rw [if_pos e, if_pos (by omega)]
  · rw [if_neg e, if_neg (by omega)]

theorem gathTo_end {k : Nat} {f : Nat → Nat → Nat} (hk : 1 ≤ k) (p : Nat) : gathTo k f k 0 p = gathF k f p := by
  unfold gathTo
  rw [if_pos (.inl (Nat.mod_lt _ (by omega)))]

theorem gathTo_next {k i t : Nat} {f : Nat → Nat → Nat} (hi : i < k) (p : Nat) :
    gathTo k f i (t * 16 + 16) p = if t * 16 * k + i * 16 ≤ p ∧ p < t * 16 * k + i * 16 + 16 then f i (t * 16 + (p - (t * 16 * k + i * 16))) else gathTo k f i (t * 16) p := by
  have hm : t * 16 * k = t * k * 16 := by rw [Nat.mul_assoc, Nat.mul_comm 16 k, ← Nat.mul_assoc]
  by_cases h : t * 16 * k + i * 16 ≤ p ∧ p < t * 16 * k + i * 16 + 16
  · rw [if_pos h]
    have h1 : p / 16 = t * k + i := by omega
    have h2 : p / 16 % k = i := by rw [h1, Nat.mul_comm, Nat.mul_add_mod, Nat.mod_eq_of_lt hi]
    have h3 : p / 16 / k = t := by rw [h1, Nat.mul_comm, Nat.mul_add_div (by omega), Nat.div_eq_of_lt hi]; omega
    unfold gathTo gathF
    rw [if_pos (.inr ⟨h2, by omega⟩), h2, h3]
    congr 1
    omega
  · rw [if_neg h]
    unfold gathTo
    by_cases e : p / 16 % k < i ∨ (p / 16 % k = i ∧ p / 16 / k * 16 < t * 16)
    · rw [if_pos e, if_pos (by omega)]
    · rw [if_neg e, if_neg]
      rintro (h1 | ⟨h1, h2⟩)
      · exact e (.inl h1)
      · have h3 : p / 16 / k = t := by
          by_cases h4 : p / 16 / k * 16 < t * 16
          · exact absurd (.inr ⟨h1, h4⟩) e
          · omega
        have h4 := Nat.div_add_mod (p / 16) k
        rw [h3, h1, Nat.mul_comm] at h4
        exact h (by omega)

end Go.Proofs.Ytmlaloadeeohbaa

/-
  An object of which a byte is turned: which data shard turns, and what of the codeword, plainly.
  Conditions: none.
-/
namespace Go.Proofs.Ytmlaloadeeohbaa
open Gf
set_option linter.unusedVariables false

def turnB (f : Nat → Nat) (a v : Nat) : Nat → Nat := fun j => if j = a then v else f j

theorem turnB_lt {f : Nat → Nat} {a v : Nat} (hf : ∀ i, f i < 256) (hv : v < 256) (j : Nat) : turnB f a v j < 256 := by
  unfold turnB
  split
  · exact hv
  · exact hf j

theorem deal_turn {k n a v : Nat} {f : Nat → Nat} {r : Nat} (hr : r < k) (hne : r ≠ a / 16 % k) (j : Nat) : dealF k n (turnB f a v) r j = dealF k n f r j := by
  unfold dealF turnB
  split
  · rw [if_neg]
    intro h
    have := posO_shard (a := j) hr
    rw [h] at this
    exact hne this.symm
  · rfl

theorem turned_stripe {k m n a v L s : Nat} {f : Nat → Nat} (hf : ∀ i, f i < 256) (hv : v < 256) (h1 : 1 ≤ k) (hs : s = k + m) (r j : Nat) (hr : r < s) :
    applyF k m (a / 16 % k) (encF k m (dealF k n f)) (encF k m (dealF k n (turnB f a v)) (a / 16 % k)) r j = encF k m (dealF k n (turnB f a v)) r j := by
  have hX := dealF_lt (k := k) (n := n) hf
  have hX' := dealF_lt (k := k) (n := n) (turnB_lt (a := a) hf hv)
  have hi : a / 16 % k < k := Nat.mod_lt _ (by omega)
  generalize ht : a / 16 % k = i at hi
  have hY : ∀ j, encF k m (dealF k n (turnB f a v)) i j = dealF k n (turnB f a v) i j := fun j => encF_data hX' hi
  have hother : ∀ r, r < k → r ≠ i → ∀ j, dealF k n (turnB f a v) r j = dealF k n f r j := fun r hr hne j => deal_turn hr (by rw [ht]; exact hne) j
  unfold applyF
  by_cases hrk : r < k
  · rw [if_pos hrk]
    by_cases e : r = i
    · rw [if_pos e, e]
    · rw [if_neg e, encF_data hX hrk, encF_data hX' hrk, hother r hrk e]
  · rw [if_neg hrk]
    have h2 : encF k m (dealF k n (turnB f a v)) r j = encF k m (turnF (dealF k n f) i (dealF k n (turnB f a v) i)) r j := encF_congr fun q hq => by
      unfold turnF
      by_cases e : q = i
      · rw [if_pos e, e]
      · rw [if_neg e, hother q hq e]
    rw [h2, encF_turn hX (fun j => hX' i j) hi]
    unfold deltaF
    rw [show k + (r - k) = r by omega, encF_data hX hi, hY]

end Go.Proofs.Ytmlaloadeeohbaa

/-
  copy into a row of one's own; a list of rows of one's own that are written; cuts of bytes.
  Conditions: the bytes that are read lie in memory.
-/
namespace Go.Proofs.Ytmlaloadeeohbaa
open Go.RowKit Gf
set_option linter.unusedVariables false
set_option linter.unusedSimpArgs false
set_option maxRecDepth 100000

theorem hid {P : Prop} (h : P) : Hid P := h

def byteV (f : Nat → Nat) : Nat → Value := fun j => .int .u8 (f j : Int)

theorem copy_into (w : World) (g off dLen dCap n c N : Nat) (ad : Addr) (cur F : Nat → Nat) (hg : w.rowIs g 5 N (byteV cur)) (hn : n ≤ dLen) (hfit : off + n ≤ N) (hsrc : ∀ j, j < n → w.cell? (ad.add j) = some (.int .u8 (F j : Int))) :
    ∃ w', (Builtin.copy_ #[22, 22] 3 #[.slice (some ⟨g, off, none⟩) dLen dCap, .slice (some ad) n c]).run Try.prog w = .ok (.int .i64 (n : Int)) w' ∧ Touch g w w' ∧
      w'.rowIs g 5 N (byteV fun j => if off ≤ j ∧ j < off + n then F (j - off) else cur j) := by
  obtain ⟨c0, hb, hs, hc⟩ := hg
  have hsz : (Try.prog.info? 5).map (·.size) = some 1 := by kernel_rfl
  have hlen : ((List.range n).map fun j => Value.int .u8 (F j : Int)).length = n := by simp
  have hrun := run_copy_row (P := Try.prog) w 22 22 3 5 g off dLen dCap ad n c c0 5 ((List.range n).map fun j => Value.int .u8 (F j : Int)) Try.underlying22 hsz hb (by rw [hlen]; exact (Nat.min_eq_left hn).symm)
    (fun j v hj => by
      have hjn : j < n := by
        have := (List.getElem?_eq_some_iff.1 hj).1
        rwa [hlen] at this
      have e : v = .int .u8 (F j : Int) := by simp [hjn] at hj; exact hj.symm
      rw [e]
      exact hsrc j hjn) (by rw [hlen, hs]; exact hfit) (fun v hv => by
      simp at hv
      obtain ⟨j, _, rfl⟩ := hv
      rfl)
  rw [hlen] at hrun
  refine ⟨_, hrun, ⟨rfl, rfl, rfl, by simp [World.setRow], fun k hk => setRow_other w g k _ hk⟩, _, setRow_heap w g c0 _ _ _ hb, by simp [hs]; omega, fun i hi => ?_⟩
  have hc0 : ∀ i, i < N → c0.toList[i]? = some (byteV cur i) := fun i hi => by rw [Array.getElem?_toList]; exact hc i hi
  have hl0 : c0.toList.length = N := by simpa using hs
  have ht : (c0.toList.take off).length = off := by simp; omega
  rw [List.getElem?_toArray, List.append_assoc]
  show _ = some (Value.int .u8 ((if off ≤ i ∧ i < off + n then F (i - off) else cur i : Nat) : Int))
  by_cases h1 : i < off
  · rw [List.getElem?_append_left (by omega), List.getElem?_take_of_lt h1, hc0 i hi, if_neg (by omega)]
    rfl
  · rw [List.getElem?_append_right (by omega), ht]
    by_cases h2 : i < off + n
    · rw [List.getElem?_append_left (by rw [hlen]; omega), if_pos ⟨by omega, h2⟩]
      simp [show i - off < n by omega]
    · rw [List.getElem?_append_right (by rw [hlen]; omega), hlen, List.getElem?_drop, show off + n + (i - off - n) = i by omega, hc0 i hi, if_neg (by omega)]
      rfl

/- A copy as one step of a region that draws its order. -/
theorem st_copy {P : Program} {w w' : World} {ops : Array Oper} {o : Oper} {a : Act} {K : Act → World → Prop} {Q : Exit → Act → World → Prop} {v' : Value} (hg : Region.wanted o (yielded ops a.tmps) = true) (s x : Operand) (t : TypeId)
    (ho : o.op = .call { callee := .builtin .copy, args := #[s, x], argTypes := #[t, t] }) (v1 v2 : Value) (hs : a.eval s = v1) (hx : a.eval x = v2) (hr : (Builtin.copy_ #[t, t] o.type #[v1, v2]).run P w = .ok v' w')
    (h : K (a.put o.dst v') w') : if Region.wanted o (yielded ops a.tmps) = true then Oper.wp P o a w K Q else K (a.put o.dst undef) w := by
  rw [if_pos hg]
  unfold Oper.wp execOp
  simp only [ho, resolve, invoke, builtin, Sem.run_bind, Sem.run_pure, Result.andThen_ok, List.map_toArray, List.map_cons, List.map_nil, hs, hx, hr]
  exact h

/- Cuts of bytes. -/
theorem belem_row : Try.prog.underlying 22 = some (.slice (Try.prog.elem 22)) := by kernel_rfl
theorem belem_is : Try.prog.elem 22 = 5 := by kernel_rfl
theorem bsize_byte (w : World) : (sizeOf 5).run Try.prog w = .ok 1 w := by kernel_rfl

theorem bcut_from (g o m c d : Nat) (w : World) (h1 : d ≤ m) (h2 : d < c) :
    (Instr.slice 22 (.slice (some ⟨g, o, none⟩) m c) (some (.int .i64 (d : Int))) none none).run Try.prog w = .ok (.slice (some ⟨g, o + d, none⟩) (m - d) (c - d)) w := by
  rw [run_slice_l w 22 _ _ _ belem_row .i64 (d : Int) (by omega) (by omega), belem_is, bsize_byte]
  simp only [Result.andThen, sliced, Int.toNat_natCast, Nat.mul_one, Option.map]
  rw [if_neg (by omega)]
  have hadd : (⟨g, o, none⟩ : Addr).add d = ⟨g, o + d, none⟩ := by unfold Addr.add; split <;> simp_all
  rw [hadd]

theorem bcut_to (a : Addr) (m c d : Nat) (w : World) (h : d ≤ c) :
    (Instr.slice 22 (.slice (some a) m c) none (some (.int .i64 (d : Int))) none).run Try.prog w = .ok (.slice (some a) d c) w := by
  rw [run_slice_h w 22 _ _ _ belem_row .i64 (d : Int) (by omega) (by omega), belem_is, bsize_byte]
  simp only [Result.andThen, sliced, Int.toNat_natCast, Nat.mul_one, Option.map, Nat.sub_zero]
  have hadd : a.add 0 = a := by unfold Addr.add; obtain ⟨b, o, s⟩ := a; split <;> simp_all
  split
  · rfl
  · rw [hadd]

theorem bcut_mid (g o m c l h : Nat) (w : World) (h1 : l < h) (h2 : h ≤ c) :
    (Instr.slice 22 (.slice (some ⟨g, o, none⟩) m c) (some (.int .i64 (l : Int))) (some (.int .i64 (h : Int))) none).run Try.prog w = .ok (.slice (some ⟨g, o + l, none⟩) (h - l) (c - l)) w := by
  rw [run_slice_lh w 22 _ _ _ belem_row .i64 .i64 (l : Int) (h : Int) (by omega) (by omega) (by omega), belem_is, bsize_byte]
  simp only [Result.andThen, sliced, Int.toNat_natCast, Nat.mul_one, Option.map]
  rw [if_neg (by omega)]
  have hadd : (⟨g, o, none⟩ : Addr).add l = ⟨g, o + l, none⟩ := by unfold Addr.add; split <;> simp_all
  rw [hadd]

theorem bcut_max (g k m c : Nat) (w : World) (h : k ≤ c) :
    (Instr.slice 22 (.slice (some ⟨g, 0, none⟩) m c) none (some (.int .i64 (k : Int))) (some (.int .i64 (k : Int)))).run Try.prog w = .ok (.slice (some ⟨g, 0, none⟩) k k) w := by
  rw [run_slice_hm w 22 _ _ _ belem_row .i64 .i64 (k : Int) (k : Int) (by omega) (by omega) (by omega), belem_is, bsize_byte]
  simp only [Result.andThen, sliced, Int.toNat_natCast, Nat.zero_mul, Nat.sub_zero]
  have : (if k = 0 then some (⟨g, 0, none⟩ : Addr) else (some (⟨g, 0, none⟩ : Addr)).map (·.add 0)) = some ⟨g, 0, none⟩ := by
    split
    · rfl
    · simp [Addr.add]
  rw [this]

/- From a place on, the end too. -/
theorem bcut_end (g m d : Nat) (h1 : d ≤ m) : ∃ a, (∀ w : World, (Instr.slice 22 (.slice (some ⟨g, 0, none⟩) m m) (some (.int .i64 (d : Int))) none none).run Try.prog w = .ok (.slice (some a) (m - d) (m - d)) w) ∧ (d < m → a = ⟨g, d, none⟩) := by
  by_cases e : d < m
  · refine ⟨⟨g, d, none⟩, fun w => ?_, fun _ => rfl⟩
    have := bcut_from g 0 m m d w h1 e
    rwa [Nat.zero_add] at this
  · obtain rfl : d = m := by omega
    refine ⟨⟨g, 0, none⟩, fun w => ?_, fun h => by omega⟩
    rw [run_slice_l w 22 _ _ _ belem_row .i64 (d : Int) (by omega) (by omega), belem_is, bsize_byte]
    simp [Result.andThen, sliced]

/- A copy of bytes behind nothing: a row of one's own. -/
theorem copy_own (w : World) (ad : Addr) (n c : Nat) (f : Nat → Nat) (hl : RowAt w (some ad) n f) (hn : n ≤ 140737488351232) :
    ∃ g cy w', (Builtin.append_ #[22, 22] 22 #[.slice (some ⟨w.heap.size, 0, none⟩) 0 0, .slice (some ad) n c]).run Try.prog (w.alloc (.cells #[] 5)) = .ok (.slice (some ⟨g, 0, none⟩) n cy) w' ∧ Below w.heap.size w w' ∧
      w.heap.size ≤ g ∧ g < w'.heap.size ∧ n ≤ cy ∧ (∀ j, w'.frozen? ⟨g, j, none⟩ = false) ∧ ∀ j, j < n → w'.cell? ⟨g, j, none⟩ = some (.int .u8 (f j : Int)) := by
  obtain ⟨i0, hi, hz0, hz1, hz2⟩ := info_parts info_byte
  have hown := empty_bytes w
  obtain ⟨v', w', hr, h2, h3, h4⟩ := run_append_own (P := Try.prog) (w.alloc (.cells #[] 5)) w.heap.size 22 22 5 i0 (.int .u8 0) 1 1 Try.underlying22 hi hz0 hz1 hz2 rfl (by decide) _ 0 [] hown
      ad n c (bytesOf f n) (by simp [bytesOf]) (fun j u hj => by
        have hjm : j < n := by
          have := (List.getElem?_eq_some_iff.1 hj).1
          simpa [bytesOf] using this
        have e : u = .int .u8 (f j : Int) := by simp [bytesOf, hjm] at hj; exact hj.symm
        rcases hl with hl | ⟨b, o, hx, hb, hc⟩
        · omega
        · injection hx with hx
          subst hx
          rw [e, add_at]
          exact ((Below.refl w.heap.size w).alloc (Nat.le_refl _) _ |>.cell (by exact hb)).trans (hc j hjm)) (fun u hu => by
        simp [bytesOf] at hu
        obtain ⟨j, _, rfl⟩ := hu
        rfl) (by unfold maxLen; omega) (by omega) (by simp)
  rw [Nat.zero_add, List.nil_append] at h2
  rcases h2.2 with ⟨hv, _⟩ | ⟨g, cy, cur, hv, hg, hh, hcy, _⟩
  · have := h4.1 hv
    simp at this
  · have ho := h2
    subst hv
    refine ⟨g, cy, w', hr, ((Below.refl w.heap.size w).alloc (Nat.le_refl _) _).grown h3 (by simp) (fun k hk => (hown.lt k hk).1), hg, (Array.getElem?_eq_some_iff.1 hh).1, hcy, fun j => ho.frozenAt j, fun j hj => ?_⟩
    rw [ho.cellAt j (by omega)]
    simp [bytesOf, hj]

/- Rows of one's own, each in a block of its own, that are written. -/
structure Deal (w0 w : World) (k L : Nat) (F : Nat → Nat → Nat) : Prop where
  below : Below w0.heap.size w0 w
  size : w.heap.size = w0.heap.size + 1 + k
  top : w.rowIs w0.heap.size 22 k (fun r => .slice (some ⟨w0.heap.size + 1 + r, 0, none⟩) L L)
  row : ∀ r, r < k → w.rowIs (w0.heap.size + 1 + r) 5 L (byteV (F r))
  lt : ∀ r j, F r j < 256

theorem Deal.of_made {w wr : World} {k L : Nat} (h : Made w wr k L k) : Deal w wr k L (fun _ _ => 0) :=
  ⟨h.below, h.size, h.top.congr (fun r hr => by rw [if_pos hr]), fun r hr => (h.done r hr).congr (fun j hj => rfl), fun _ _ => by omega⟩

theorem Deal.congr {w0 w : World} {k L : Nat} {F G : Nat → Nat → Nat} (h : Deal w0 w k L F) (e : ∀ r, r < k → ∀ j, j < L → F r j = G r j) (l : ∀ r j, G r j < 256) : Deal w0 w k L G :=
  ⟨h.below, h.size, h.top, fun r hr => (h.row r hr).congr (fun j hj => by unfold byteV; rw [e r hr j hj]), l⟩

theorem Deal.drew {w0 w : World} {k L : Nat} {F : Nat → Nat → Nat} (h : Deal w0 w k L F) : Deal w0 w.drew k L F :=
  ⟨h.below.drew, h.size, h.top, h.row, h.lt⟩

theorem Deal.put {w0 w w' : World} {k L i : Nat} {F : Nat → Nat → Nat} {f' : Nat → Nat} (h : Deal w0 w k L F) (hi : i < k) (t : Touch (w0.heap.size + 1 + i) w w') (hr : w'.rowIs (w0.heap.size + 1 + i) 5 L (byteV f')) (hf : ∀ j, f' j < 256) :
    Deal w0 w' k L (fun r j => if r = i then f' j else F r j) :=
  ⟨h.below.trans (t.below (by omega)), t.size.trans h.size, h.top.of_block (t.block _ (by omega)), fun r hrk => by
    by_cases e : r = i
    · subst e; exact hr.congr (fun j hj => by simp [byteV])
    · exact ((h.row r hrk).of_block (t.block _ (by omega))).congr (fun j hj => by simp [byteV, e]), fun r j => by
    split
    · exact hf j
    · exact h.lt r j⟩

theorem Deal.grid {w0 w : World} {k L : Nat} {F : Nat → Nat → Nat} (h : Deal w0 w k L F) : IsGrid w (some ⟨w0.heap.size, 0, none⟩) k (fun r => some ⟨w0.heap.size + 1 + r, 0, none⟩) (fun _ => L) (fun _ => L) F :=
  ⟨.inr ⟨w0.heap.size, 0, rfl, h.top.lt, fun r hr => by rw [Nat.zero_add]; exact h.top.cell hr⟩, fun r hr => .inr ⟨_, 0, rfl, (h.row r hr).lt, fun j hj => by rw [Nat.zero_add]; exact (h.row r hr).cell hj⟩, h.lt⟩

end Go.Proofs.Ytmlaloadeeohbaa

/-
  What the small functions of package stripe and the document's Length do: contracts over plain numbers.
  Conditions: rows that are looked at lie in memory.
-/
namespace Go.Proofs.Ytmlaloadeeohbaa
open Go.RowKit Gf
set_option linter.unusedVariables false
set_option linter.unusedSimpArgs false
set_option maxRecDepth 100000

theorem iscode_yes (a b : Int) (w : World) (h : CauchyN a b) : Calls Try.prog 21 #[.int .i64 a, .int .i64 b] w fun e w' => e = .returned (.bool true) ∧ w' = w := by
  unfold CauchyN at h
  have h1 : 1 ≤ a := h.1
  have h2 : 1 ≤ b := h.2.1
  have h4 : a ≤ 255 - b := by omega
  have h5 : 0 ≤ 255 - b := by omega
  have h6 : 255 - b ≤ 255 := by omega
  clear h
  go_enter Try.func21, Try.ntmps21
  go_wp2_with fail
  go_ret
  exact ⟨rfl, rfl⟩

theorem iscode_no (a b : Int) (w : World) (hb : b ≤ 9223372036854775807) (h : ¬ CauchyN a b) : Calls Try.prog 21 #[.int .i64 a, .int .i64 b] w fun e w' => e = .returned (.bool false) ∧ w' = w := by
  unfold CauchyN at h
  by_cases h1 : 1 ≤ a
  · by_cases h2 : 1 ≤ b
    · have h4 : ¬ (a ≤ 255 - b) := by omega
      have h5 : -9223372036854775808 ≤ 255 - b := by omega
      have h6 : 255 - b ≤ 255 := by omega
      clear h
      go_enter Try.func21, Try.ntmps21
      go_wp2_with fail
      go_ret
      exact ⟨rfl, rfl⟩
    · clear h
      go_enter Try.func21, Try.ntmps21
      go_wp2_with fail
      go_ret
      exact ⟨rfl, rfl⟩
  · clear h
    go_enter Try.func21, Try.ntmps21
    go_wp2_with fail
    go_ret
    exact ⟨rfl, rfl⟩

theorem stripes_any (k n : Nat) (w : World) (h1 : 1 ≤ k) (hk : k ≤ 1000) (hn : n ≤ 100000) : Calls Try.prog 20 #[.int .i64 k, .int .i64 n] w fun e w' => e = .returned (.int .i64 (stN k n : Int)) ∧ w' = w := by
  obtain ⟨p, hp⟩ : ∃ p, p = 16 * k := ⟨_, rfl⟩
  have hpi : (k : Int) * 16 = (p : Int) := by omega
  obtain ⟨r, hr⟩ : ∃ r, r = n + p - 1 := ⟨_, rfl⟩
  obtain ⟨q, hq⟩ : ∃ q, q = n + p := ⟨_, rfl⟩
  have hqi : (n : Int) + (p : Int) = (q : Int) := by omega
  have hri : (q : Int) - 1 = (r : Int) := by omega
  obtain ⟨s, hs⟩ : ∃ s, s = stN k n := ⟨_, rfl⟩
  have hd : (r : Int).tdiv (p : Int) = (s : Int) := by
    rw [Int.tdiv_eq_ediv_of_nonneg (by omega), hs]
    unfold stN
    rw [← hp, ← hr]
    exact rfl
  have hs5 : s ≤ 100000 := by rw [hs]; exact Nat.le_trans (stN_le h1) hn
  have hp0 : (p : Int) ≠ 0 := by omega
  have hp5 : p ≤ 16000 := by omega
  have hq5 : q ≤ 116000 := by omega
  have hr5 : r ≤ 116000 := by omega
  rw [← hs]
  clear hp hr hq hs h1
  go_enter Try.func20, Try.ntmps20
  go_wp2_with fail
  go_ret
  exact ⟨rfl, rfl⟩

/- Length. -/
def lenE (k n : Int) : Int := if k < 1 ∨ 254 < k ∨ n < 0 then 1 else if 4096 < n then 3 else 0

theorem length_arg (k n : Int) (w : World) (h : k < 1 ∨ 254 < k ∨ n < 0) : Calls Try.prog 8 #[.int .i64 k, .int .i64 n] w fun e w' => e = .returned (.tuple #[.int .i64 0, .int .i64 1]) ∧ w' = w := by
  by_cases h1 : k < 1
  · clear h
    go_enter Try.func8, Try.ntmps8
    go_wp2_with fail
    go_ret2
    exact ⟨rfl, rfl⟩
  · by_cases h2 : 254 < k
    · clear h
      go_enter Try.func8, Try.ntmps8
      go_wp2_with fail
      go_ret2
      exact ⟨rfl, rfl⟩
    · have h3 : n < 0 := by omega
      clear h
      go_enter Try.func8, Try.ntmps8
      go_wp2_with fail
      go_ret2
      exact ⟨rfl, rfl⟩

theorem length_long (k n : Int) (w : World) (h1 : ¬ (k < 1)) (h2 : ¬ (254 < k)) (h3 : ¬ (n < 0)) (h4 : 4096 < n) : Calls Try.prog 8 #[.int .i64 k, .int .i64 n] w fun e w' => e = .returned (.tuple #[.int .i64 0, .int .i64 3]) ∧ w' = w := by
  go_enter Try.func8, Try.ntmps8
  go_wp2_with fail
  go_ret2
  exact ⟨rfl, rfl⟩

theorem length_yes (k n : Nat) (w : World) (h1 : 1 ≤ k) (h2 : k ≤ 254) (hn : n ≤ 4096) : Calls Try.prog 8 #[.int .i64 k, .int .i64 n] w fun e w' => e = .returned (.tuple #[.int .i64 ((16 * stN k n : Nat) : Int), .int .i64 0]) ∧ w' = w := by
  have hst := stripes_any k n w h1 (by omega) (by omega)
  have hs5 : stN k n ≤ 4096 := Nat.le_trans (stN_le h1) hn
  obtain ⟨p, hp⟩ : ∃ p, p = 16 * stN k n := ⟨_, rfl⟩
  have hpi : (stN k n : Int) * 16 = (p : Int) := by omega
  rw [← hp]
  have hp5 : p ≤ 65536 := by omega
  clear hp
  generalize stN k n = s at hst hpi hs5
  have g1 : ¬ ((k : Int) < 1) := by omega
  have g2 : ¬ ((254 : Int) < (k : Int)) := by omega
  have g3 : ¬ ((n : Int) < 0) := by omega
  have g4 : ¬ ((4096 : Int) < (n : Int)) := by omega
  go_enter Try.func8, Try.ntmps8
  go_wp2_with (go_at_call 20; refine hst.mono ?_; rintro e w' ⟨rfl, rfl⟩; clear hst)
  go_ret2
  exact ⟨rfl, rfl⟩

/- Are bytes all 0? -/
theorem noughts_zero (x : Option Addr) (c : Nat) (w : World) : Calls Try.prog 27 #[.slice x 0 c] w fun e w' => e = .returned (.bool true) ∧ w' = w := by
  go_enter Try.func27, Try.ntmps27
  go_wp2_with fail
  refine wp_loop_rounds 1 ?_
  rw [rounds_succ]
  go_wp2_with fail
  go_ret
  exact ⟨rfl, rfl⟩

set_option maxHeartbeats 400000 in
set_option maxRecDepth 100000 in
theorem noughts_any (x : Option Addr) (n c : Nat) (t : Bool) (f : Nat → Nat) (w : World) (hn : n ≤ 140737488351232) (h : RowAt w x n f) (hy : (∀ i, i < n → f i = 0) → t = true) (hx : ∀ i, i < n → f i ≠ 0 → t = false) :
    Calls Try.prog 27 #[.slice x n c] w fun e w' => e = .returned (.bool t) ∧ w' = w := by
  by_cases h0 : n = 0
  · subst h0
    rw [hy (fun i hi => by omega)]
    exact noughts_zero x c w
  · rcases h with h | ⟨b, o, rfl, _, h⟩
    · exact absurd h h0
    · go_enter Try.func27, Try.ntmps27
      go_wp2_with fail
      go_loopw [7] (fun i wr => ∃ k : Nat, k ≤ n ∧ i = .int .i64 k ∧ wr = w ∧ Hid (∀ i, i < k → f i = 0)) (fun i _ => n - (intOf i).toNat)
      case atStart => exact ⟨0, by omega, rfl, rfl, fun r hr => by omega⟩
      case round =>
        obtain ⟨k, hk, rfl, rfl, HA⟩ := hrel
        by_cases hlt : k < n
        · have hc := h k hlt
          have hkn : (k : Int) < (n : Int) := by omega
          by_cases e : f k = 0
          · have g : ((f k : Int) != 0) = false := by rw [e]; simp
            have HA2 : Hid (∀ i, i < k + 1 → f i = 0) := fun r hr => by
              by_cases e2 : r = k
              · subst e2; exact e
              · exact HA.out r (by omega)
            clear h hy hx HA e
            go_wp2_with fail
            go_roundw
            case rel => exact ⟨k + 1, by omega, by go_num, trivial, HA2⟩
            case measure => simp [intOf]; omega
          · have g : ((f k : Int) != 0) = true := by simp; omega
            have HZ : Hid (t = false) := hx k hlt e
            clear h hy hx HA e
            go_wp2_with fail
            go_ret
            exact ⟨by rw [HZ.out]; rfl, rfl⟩
        · have hk2 : k = n := by omega
          subst hk2
          have HZ : Hid (t = true) := hy HA.out
          clear h hy hx HA
          go_wp2_with fail
          go_ret
          exact ⟨by rw [HZ.out]; rfl, rfl⟩

/- Are the shards that one has of a length? -/
set_option maxHeartbeats 400000 in
set_option maxRecDepth 100000 in
theorem arelong_any (b o hb hd n c ch l : Nat) (t : Bool) (A : Nat → Option Addr) (L C : Nat → Nat) (f : Nat → Nat → Nat) (h : Nat → Bool) (w : World) (hn : n ≤ 1000) (h0 : 0 < n)
    (hG : IsGrid w (some ⟨b, o, none⟩) n A L C f) (hH : BoolsAt w (some ⟨hb, hd, none⟩) n h) (hy : (∀ i, i < n → h i = true → L i = l) → t = true) (hx : ∀ i, i < n → h i = true → L i ≠ l → t = false) :
    Calls Try.prog 25 #[.int .i64 l, .slice (some ⟨b, o, none⟩) n c, .slice (some ⟨hb, hd, none⟩) n ch] w fun e w' => e = .returned (.bool t) ∧ w' = w := by
  have hT : ∀ i, i < n → w.cell? ⟨b, o + i, none⟩ = some (.slice (A i) (L i) (C i)) := fun i hi => grid_tops hG hi
  have hB : ∀ i, i < n → w.cell? ⟨hb, hd + i, none⟩ = some (.bool (h i)) := by
    rcases hH with q | ⟨b', o', e1, _, e3⟩
    · omega
    · injection e1 with e1
      injection e1 with e1 e2 _
      subst e1; subst e2
      exact e3
  clear hG hH
  go_enter Try.func25, Try.ntmps25
  go_wp2_with fail
  go_loopw [11] (fun i wr => ∃ k : Nat, k ≤ n ∧ i = .int .i64 k ∧ wr = w ∧ Hid (∀ i, i < k → h i = true → L i = l)) (fun i _ => n - (intOf i).toNat)
  case atStart => exact ⟨0, by omega, rfl, rfl, fun r hr => by omega⟩
  case round =>
    obtain ⟨k, hk, rfl, rfl, HA⟩ := hrel
    by_cases hlt : k < n
    · have hc := hB k hlt
      have ht := hT k hlt
      have hkn : (k : Int) < (n : Int) := by omega
      cases e0 : h k with
      | false =>
        rw [e0] at hc
        have HA2 : Hid (∀ i, i < k + 1 → h i = true → L i = l) := fun r hr q => by
          by_cases e2 : r = k
          · subst e2; rw [e0] at q; cases q
          · exact HA.out r (by omega) q
        clear hB hT hy hx HA e0
        go_wp2_with fail
        go_roundw
        case rel => exact ⟨k + 1, by omega, by go_num, trivial, HA2⟩
        case measure => simp [intOf]; omega
      | true =>
        rw [e0] at hc
        by_cases e : L k = l
        · have g : ((L k : Int) != (l : Int)) = false := by rw [e]; simp
          have HA2 : Hid (∀ i, i < k + 1 → h i = true → L i = l) := fun r hr q => by
            by_cases e2 : r = k
            · subst e2; exact e
            · exact HA.out r (by omega) q
          clear hB hT hy hx HA e e0
          go_wp2_with fail
          go_roundw
          case rel => exact ⟨k + 1, by omega, by go_num, trivial, HA2⟩
          case measure => simp [intOf]; omega
        · have g : ((L k : Int) != (l : Int)) = true := by simp; omega
          have HZ : Hid (t = false) := hx k hlt e0 e
          clear hB hT hy hx HA e e0
          go_wp2_with fail
          go_ret
          exact ⟨by rw [HZ.out]; rfl, rfl⟩
    · have hk2 : k = n := by omega
      subst hk2
      have HZ : Hid (t = true) := hy HA.out
      clear hB hT hy hx HA
      go_wp2_with fail
      go_ret
      exact ⟨by rw [HZ.out]; rfl, rfl⟩

end Go.Proofs.Ytmlaloadeeohbaa

/-
  What dealt and Split of package stripe do: contracts over plain numbers.
  Conditions: the bytes lie in memory.
-/
namespace Go.Proofs.Ytmlaloadeeohbaa
open Go.RowKit Gf
set_option linter.unusedVariables false
set_option linter.unusedSimpArgs false
set_option maxRecDepth 100000

theorem deal_step {w0 w w' : World} {k L n u : Nat} {f : Nat → Nat} (hf : ∀ i, f i < 256) (h1 : 1 ≤ k) (h : Deal w0 w k L (dealTo k n f u)) (t : Touch (w0.heap.size + 1 + u % k) w w')
    (hr : w'.rowIs (w0.heap.size + 1 + u % k) 5 L (byteV fun j => if u / k * 16 ≤ j ∧ j < u / k * 16 + min 16 (n - u * 16) then f (u * 16 + (j - u / k * 16)) else dealTo k n f u (u % k) j)) :
    Deal w0 w' k L (dealTo k n f (u + 1)) :=
  (h.put (Nat.mod_lt _ (by omega)) t hr (fun j => by
    split
    · exact hf _
    · exact dealTo_lt hf _ _)).congr (fun r hrk j hj => by
    rw [dealTo_next hrk]
    split
    · rename_i e
      rw [e]
    · rfl) (dealTo_lt hf)

set_option maxHeartbeats 400000 in
set_option maxRecDepth 100000 in
theorem dealt_any (k n c : Nat) (x : Option Addr) (f : Nat → Nat) (w : World) (h1 : 1 ≤ k) (hk : k ≤ 254) (hn : n ≤ 4096) (hc : n ≤ c) (hf : ∀ i, f i < 256) (hx : RowAt w x n f) :
    Calls Try.prog 23 #[.int .i64 k, .slice x n c] w fun e w' => e = .returned (.slice (some ⟨w.heap.size, 0, none⟩) k k) ∧ Deal w w' k (16 * stN k n) (dealF k n f) := by
  have hst : ∀ v, Calls Try.prog 20 #[.int .i64 k, .int .i64 n] v fun e w' => e = .returned (.int .i64 (stN k n : Int)) ∧ w' = v := fun v => stripes_any k n v h1 (by omega) (by omega)
  have hs5 : stN k n ≤ 4096 := Nat.le_trans (stN_le h1) hn
  obtain ⟨S, hS⟩ : ∃ S, S = stN k n := ⟨_, rfl⟩
  obtain ⟨L, hL⟩ : ∃ L, L = 16 * S := ⟨_, rfl⟩
  rw [← hS] at hst hs5 ⊢
  rw [← hL]
  have HS : Hid (S = stN k n ∧ L = 16 * S) := ⟨hS, hL⟩
  have hLi : (S : Int) * 16 = (L : Int) := by omega
  have hL5 : L ≤ 65536 := by omega
  have hmk := run_make_row' (P := Try.prog) 28 22 (.slice none 0 0) 24 Try.underlying28 info_row rfl .i64 .i64 k (by omega) (by omega)
  have HX : Hid (RowAt w x n f) := hx
  have HF : Hid (∀ i, f i < 256) := hf
  have hk1 : 1 ≤ k := h1
  clear hS hL hx hf h1
  go_enter Try.func23, Try.ntmps23
  go_wp2_with fail
  clear hmk
  go_loopw [13] (fun i wr => ∃ r : Nat, r ≤ k ∧ i = .int .i64 r ∧ Hid (Made w wr k L r)) (fun i _ => k - (intOf i).toNat)
  case atStart => exact ⟨0, by omega, rfl, made_start w k L⟩
  case round =>
    obtain ⟨r, hr, rfl, HW⟩ := hrel
    by_cases hlt : r < k
    · have hmk2 := run_make_row' (P := Try.prog) 22 5 (.int .u8 0) 1 Try.underlying22 info_byte rfl .i64 .i64 L (by omega) (by omega)
      have hz : (r : Int) < (k : Int) := by omega
      have hst1 : ∀ o, (wr.alloc o).cell? ⟨w.heap.size, r, none⟩ = some (.slice none 0 0) := fun o => by
        have := (HW.out.top.alloc o).cell hlt
        simpa using this
      have hst2 : ∀ o, (wr.alloc o).frozen? ⟨w.heap.size, r, none⟩ = false := fun o => (HW.out.top.alloc o).frozen r
      have HN : Hid (Made w ((wr.alloc (.cells (madeCells #[.int .u8 0] L) 5)).setCell ⟨w.heap.size, r, none⟩ (.slice (some ⟨wr.heap.size, 0, none⟩) L L)) k L (r + 1)) := made_step HW.out
      clear HW
      go_wp2_with (go_at_call 20; refine (hst _).mono ?_; rintro e w' ⟨rfl, rfl⟩)
      go_roundw
      case rel => exact ⟨r + 1, by omega, by go_num, HN⟩
      case measure => simp [intOf]; omega
    · have hk2 : r = k := by omega
      subst hk2
      have HD0 : Hid (Deal w wr r L (dealTo r n f 0)) := (Deal.of_made HW.out).congr (fun _ _ _ _ => dealTo_zero.symm) (dealTo_lt HF.out)
      clear HW hst
      obtain ⟨wo, hwo⟩ : ∃ wo, wo = wr := ⟨_, rfl⟩
      subst hwo
      go_wp2_with fail
      go_loopw [7] (fun i wr => ∃ u : Nat, u ≤ n ∧ i = .int .i64 u ∧ Hid (Deal w wr r L (dealTo r n f u))) (fun i _ => n - (intOf i).toNat)
      case atStart => exact ⟨0, by omega, rfl, HD0⟩
      case round =>
        clear HD0
        obtain ⟨u, hu, rfl, HW⟩ := hrel
        obtain ⟨du, hdu⟩ : ∃ du, du = u * 16 := ⟨_, rfl⟩
        have hdui : (u : Int) * 16 = (du : Int) := by omega
        by_cases hlt : du < n
        · have hdn : (du : Int) < (n : Int) := by omega
          rcases HX.out with h0 | ⟨b, o, rfl, hb, hcell⟩
          · omega
          obtain ⟨rn, hrn⟩ : ∃ rn, rn = n - du := ⟨_, rfl⟩
          obtain ⟨rc, hrc⟩ : ∃ rc, rc = c - du := ⟨_, rfl⟩
          obtain ⟨od, hod⟩ : ∃ od, od = o + du := ⟨_, rfl⟩
          have hc1 : ∀ v : World, (Instr.slice 22 (.slice (some ⟨b, o, none⟩) n c) (some (.int .i64 (du : Int))) none none).run Try.prog v = .ok (.slice (some ⟨b, od, none⟩) rn rc) v := fun v => by
            rw [hod, hrn, hrc]; exact bcut_from b o n c du v (by omega) (by omega)
          have HB := hid (show b < w.heap.size ∧ (∀ i, i < n → w.cell? ⟨b, o + i, none⟩ = some (.int .u8 (f i : Int))) from ⟨hb, hcell⟩)
          have HDU := hid (show du = u * 16 ∧ rn = n - du ∧ rc = c - du ∧ od = o + du from ⟨hdu, hrn, hrc, hod⟩)
          clear hb hcell hdu hrn hrc hod
          go_upto_region 11 with fail
          obtain ⟨hb, hcell⟩ := HB.out
          obtain ⟨hdu, hrn, hrc, hod⟩ := HDU.out
          obtain ⟨i, hi⟩ : ∃ i, i = u % r := ⟨_, rfl⟩
          obtain ⟨q, hq⟩ : ∃ q, q = u / r := ⟨_, rfl⟩
          obtain ⟨d, hd⟩ : ∃ d, d = q * 16 := ⟨_, rfl⟩
          obtain ⟨m, hm⟩ : ∃ m, m = min 16 (n - du) := ⟨_, rfl⟩
          have hii : (u : Int).tmod (r : Int) = (i : Int) := by rw [Int.tmod_eq_emod_of_nonneg (by omega), hi]; exact rfl
          have hqi : (u : Int).tdiv (r : Int) = (q : Int) := by rw [Int.tdiv_eq_ediv_of_nonneg (by omega), hq]; exact rfl
          have hdi : (q : Int) * 16 = (d : Int) := by omega
          have hir : i < r := by rw [hi]; exact Nat.mod_lt _ (by omega)
          have hiri : (i : Int) < (r : Int) := by omega
          have hr0 : (r : Int) ≠ 0 := by omega
          have hr00 : ¬ (r = 0) := by omega
          have hqS : q < S := by
            rw [HS.out.1, stN_lt hk1]
            have e1 : q * (16 * r) = q * r * 16 := by rw [Nat.mul_comm 16 r, ← Nat.mul_assoc, Nat.mul_right_comm]
            have e2 : q * r ≤ u := by rw [hq]; exact Nat.div_mul_le_self u r
            omega
          have hq5 : q ≤ 4096 := by omega
          have hd5 : d ≤ 65536 := by omega
          have hwq : IntKind.i64.wrap (q : Int) = (q : Int) := by rw [IntKind.wrap_i64]; omega
          have hwd : IntKind.i64.wrap (d : Int) = (d : Int) := by rw [IntKind.wrap_i64]; omega
          have hdL : d + 16 ≤ L := by have := HS.out.2; omega
          have hm16 : m ≤ 16 := by omega
          have hmn : du + m ≤ n := by omega
          have hbc : (if (rn : Int) < 16 then (rn : Int) else 16) = (m : Int) := by split <;> omega
          have hmrc : m ≤ rc := by omega
          obtain ⟨ld, hld⟩ : ∃ ld, ld = L - d := ⟨_, rfl⟩
          obtain ⟨g, hg⟩ : ∃ g, g = w.heap.size + 1 + i := ⟨_, rfl⟩
          have hc2 : ∀ v : World, (Instr.slice 22 (.slice (some ⟨g, 0, none⟩) L L) (some (.int .i64 (d : Int))) none none).run Try.prog v = .ok (.slice (some ⟨g, d, none⟩) ld ld) v := fun v => by
            have := bcut_from g 0 L L d v (by omega) (by omega)
            rwa [Nat.zero_add, ← hld] at this
          have hc3 : ∀ v : World, (Instr.slice 22 (.slice (some ⟨b, od, none⟩) rn rc) none (some (.int .i64 (m : Int))) none).run Try.prog v = .ok (.slice (some ⟨b, od, none⟩) m rc) v := fun v => bcut_to _ rn rc m v (by omega)
          have hS : wr.drew.cell? ⟨w.heap.size, i, none⟩ = some (.slice (some ⟨g, 0, none⟩) L L) := by rw [hg]; exact HW.out.top.cell hir
          have hD := HW.out.drew
          have hbel : Below w.heap.size w wr.drew := hD.below
          obtain ⟨w5, hrun, t5, hr5⟩ := copy_into wr.drew g d ld ld m rc L ⟨b, od, none⟩ (dealTo r n f u i) (fun j => f (du + j)) (by rw [hg]; exact hD.row i hir) (by omega) (by omega) (fun j hj => by
            rw [add_at, hod, Nat.add_assoc]
            exact (hbel.cell (by exact hb)).trans (hcell (du + j) (by omega)))
          have hD5 : Deal w w5 r L (dealTo r n f (u + 1)) := by
            refine deal_step HF.out hk1 hD (by rw [← hi, ← hg]; exact t5) ?_
            rw [← hi, ← hg, ← hq, ← hd, ← hdu, ← hm]
            exact hr5
          have HD5 : Hid (Deal w w5 r L (dealTo r n f (u + 1))) := hD5
          have hu1 : u + 1 ≤ n := by omega
          have hu5 : u ≤ 4096 := by omega
          have hS5 : w5.cell? ⟨w.heap.size, i, none⟩ = some (.slice (some ⟨g, 0, none⟩) L L) := by rw [hg]; exact hD5.top.cell hir
          clear hD hD5 hbel t5 hr5 HW hcell hi hq hd hm hrn hrc hld hg hod hdu HB HDU HF hb
          have HRUN := hid hrun
          clear hrun
          refine wp_region_held_drew (S := fun v => v.cell? ⟨w.heap.size, i, none⟩ = some (.slice (some ⟨g, 0, none⟩) L L)) (by kernel_rfl) hS (fun hHeld => ?_)
          refine By.hk 0 ?_
          refine By.hk 1 ?_
          refine By.hk 2 ?_
          refine By.hk 3 ?_
          refine By.hk 4 ?_
          refine By.hk 5 ?_
          refine By.hk 6 ?_
          refine By.hk 7 ?_
          refine By.hk 8 ?_
          refine By.hk 9 ?_
          refine By.hk 10 ?_
          refine By.hk 11 ?_
          refine By.hk 12 ?_
          refine By.hk 13 ?_
          refine By.hk 14 ?_
          refine By.hk 15 ?_
          clear hbc
          refine wpAnyH_ready (rs := [16]) (by kernel_rfl) (by simp) ?_
          refine AllReadyH.cons rfl (fun K hK => ?_) AllReadyH.nil
          refine st_copy rfl _ _ 22 rfl _ _ rfl rfl HRUN.out ?_
          (try simp only [Act.put, List.getElem_toArray, List.getElem_cons_succ, List.getElem_cons_zero, List.setIfInBounds_toArray, List.set_cons_zero, List.set_cons_succ])
          refine hK.out _ _ hS5 (fun hHeld => ?_)
          clear hK K
          refine wpAnyH_done (by kernel_rfl) ?_ _
          go_wp2_with fail
          go_roundw
          case rel => exact ⟨u + 1, hu1, by go_num, HD5⟩
          case measure => simp [intOf]; omega
        · have hdn : ¬ ((du : Int) < (n : Int)) := by omega
          have HD : Hid (Deal w wr r L (dealF r n f)) := HW.out.congr (fun i hi j _ => dealTo_end (s := 0) (by omega) hi) (dealF_lt HF.out)
          clear HW hdu
          go_wp2_with fail
          go_ret
          exact ⟨rfl, HD.out⟩

/- Split. -/
theorem split_code (a b : Int) (x : Option Addr) (n c : Nat) (w : World) (hb : b ≤ 9223372036854775807) (h : ¬ CauchyN a b) :
    Calls Try.prog 12 #[.int .i64 a, .int .i64 b, .slice x n c] w fun e w' => e = .returned (.tuple #[.slice none 0 0, .int .i64 1]) ∧ w' = w := by
  have hc := iscode_no a b w hb h
  clear h
  go_enter Try.func12, Try.ntmps12
  go_wp2_with (go_at_call 21; refine hc.mono ?_; rintro e w' ⟨rfl, rfl⟩; clear hc)
  go_ret2
  exact ⟨rfl, rfl⟩

theorem split_long (a b : Int) (x : Option Addr) (n c : Nat) (w : World) (h : CauchyN a b) (hn : 4096 < n) :
    Calls Try.prog 12 #[.int .i64 a, .int .i64 b, .slice x n c] w fun e w' => e = .returned (.tuple #[.slice none 0 0, .int .i64 3]) ∧ w' = w := by
  have hc := iscode_yes a b w h
  have hni : (4096 : Int) < (n : Int) := by omega
  clear h
  go_enter Try.func12, Try.ntmps12
  go_wp2_with (go_at_call 21; refine hc.mono ?_; rintro e w' ⟨rfl, rfl⟩; clear hc)
  go_ret2
  exact ⟨rfl, rfl⟩

set_option maxHeartbeats 400000 in
set_option maxRecDepth 100000 in
theorem split_yes (k m n c : Nat) (x : Option Addr) (f : Nat → Nat) (w : World) (h1 : 1 ≤ k) (h2 : 1 ≤ m) (h3 : k + m ≤ 255) (hn : n ≤ 4096) (hc : n ≤ c) (hf : ∀ i, f i < 256) (hx : RowAt w x n f) :
    Calls Try.prog 12 #[.int .i64 k, .int .i64 m, .slice x n c] w fun e w' => ∃ w1 A1 C1, Below w.heap.size w w1 ∧ e = .returned (.tuple #[.slice (some ⟨w1.heap.size, 0, none⟩) (k + m) (k + m), .int .i64 0]) ∧
      Build w1 w' (k + m) (k + m) A1 (fun _ => 16 * stN k n) C1 (encF k m (dealF k n f)) := by
  have hcd := iscode_yes k m w (nat_code h1 h2 h3)
  have hd := dealt_any k n c x f w h1 (by omega) hn hc hf hx
  have hs5 : stN k n ≤ 4096 := Nat.le_trans (stN_le h1) hn
  have henc : ∀ v, Deal w v k (16 * stN k n) (dealF k n f) → Calls Try.prog 22 #[.int .i64 k, .int .i64 m, .slice (some ⟨w.heap.size, 0, none⟩) k k] v fun e w' => ∃ w1 A1 C1, Below v.heap.size v w1 ∧ e = .returned (.tuple #[.slice (some ⟨w1.heap.size, 0, none⟩) (k + m) (k + m), .int .i64 0]) ∧ Build w1 w' (k + m) (k + m) A1 (fun _ => 16 * stN k n) C1 (encF k m (dealF k n f)) := fun v hv =>
    encode_yes k m (16 * stN k n) w.heap.size 0 k _ _ _ v h1 h2 h3 (by omega) hv.grid
  generalize 16 * stN k n = L at hd henc
  obtain ⟨s, hs⟩ : ∃ s, s = k + m := ⟨_, rfl⟩
  rw [← hs]
  simp only [← hs] at henc
  have hni : ¬ ((4096 : Int) < (n : Int)) := by omega
  generalize dealF k n f = X at hd henc
  clear h1 h2 h3 hf hx hs hc hs5
  go_enter Try.func12, Try.ntmps12
  go_wp2_with (first
    | (go_at_call 21; refine hcd.mono ?_; rintro e w' ⟨rfl, rfl⟩; clear hcd)
    | (go_at_call 23; refine hd.mono ?_; rintro e x1 ⟨rfl, hD⟩; clear hd)
    | (go_at_call 22; refine (henc _ hD).mono ?_; rintro e x2 ⟨w1, A1, C1, hb1, rfl, hB1⟩; clear henc))
  go_ret2
  exact ⟨w1, A1, C1, hD.below.trans (hb1.mono hD.below.size), rfl, hB1⟩

end Go.Proofs.Ytmlaloadeeohbaa

/-
  What gathered of package stripe does: a contract over plain numbers.
  Conditions: the data shards lie in memory, one at least, equally long.
-/
namespace Go.Proofs.Ytmlaloadeeohbaa
open Go.RowKit Gf
set_option linter.unusedVariables false
set_option linter.unusedSimpArgs false
set_option maxRecDepth 100000

structure Gath (w0 w : World) (N : Nat) (F : Nat → Nat) : Prop where
  below : Below w0.heap.size w0 w
  row : w.rowIs w0.heap.size 5 N (byteV F)

theorem Gath.congr {w0 w : World} {N : Nat} {F G : Nat → Nat} (h : Gath w0 w N F) (e : ∀ p, p < N → F p = G p) : Gath w0 w N G :=
  ⟨h.below, h.row.congr (fun p hp => by unfold byteV; rw [e p hp])⟩

set_option maxHeartbeats 400000 in
set_option maxRecDepth 100000 in
theorem gathered_any (b o k s c : Nat) (A : Nat → Option Addr) (C : Nat → Nat) (f : Nat → Nat → Nat) (w : World) (h1 : 1 ≤ k) (hk : k ≤ 254) (hs : s ≤ 4096) (hC : ∀ i, i < k → 16 * s ≤ C i) (h : IsGrid w (some ⟨b, o, none⟩) k A (fun _ => 16 * s) C f) :
    Calls Try.prog 26 #[.slice (some ⟨b, o, none⟩) k c] w fun e w' => e = .returned (.slice (some ⟨w.heap.size, 0, none⟩) (k * (16 * s)) (k * (16 * s))) ∧ Gath w w' (k * (16 * s)) (gathF k f) := by
  obtain ⟨L, hL⟩ : ∃ L, L = 16 * s := ⟨_, rfl⟩
  obtain ⟨N, hN⟩ : ∃ N, N = k * L := ⟨_, rfl⟩
  rw [← hL] at hC h ⊢
  rw [← hN]
  have hNi : (k : Int) * (L : Int) = (N : Int) := by rw [hN]; exact (Int.natCast_mul _ _).symm
  have hL5 : L ≤ 65536 := by omega
  have hN5 : N ≤ 254 * 65536 := by rw [hN]; exact Nat.mul_le_mul hk hL5
  have hmk := run_make_row' (P := Try.prog) 22 5 (.int .u8 0) 1 Try.underlying22 info_byte rfl .i64 .i64 N (by omega) (by omega)
  have hc0 : w.cell? ⟨b, o, none⟩ = some (.slice (A 0) L (C 0)) := grid_tops h (r := 0) (by omega)
  have h0k : (0 : Int) < (k : Int) := by omega
  obtain ⟨_, _, e', hbw⟩ := grid_some h (by omega)
  have HG : Hid (IsGrid w (some ⟨b, o, none⟩) k A (fun _ => L) C f ∧ (∀ i, i < k → L ≤ C i) ∧ b < w.heap.size) := ⟨h, hC, by injection e' with e'; injection e' with e' _ _; omega⟩
  have HN : Hid (L = 16 * s ∧ N = k * L ∧ 1 ≤ k) := ⟨hL, hN, h1⟩
  have HG0 : Hid (Gath w (w.alloc (.cells (madeCells #[.int .u8 0] N) 5)) N (gathTo k f 0 0)) :=
    ⟨(Below.refl _ _).alloc (Nat.le_refl _) _, (World.rowIs_made w (.int .u8 0) N 5).congr (fun p _ => by unfold byteV; rw [gathTo_zero]; rfl)⟩
  clear h hC hL hN h1 e' hbw hs
  go_enter Try.func26, Try.ntmps26
  go_wp2_with fail
  clear hmk
  go_loopw [17] (fun i wr => ∃ r : Nat, r ≤ k ∧ i = .int .i64 r ∧ Hid (Gath w wr N (gathTo k f r 0))) (fun i _ => k - (intOf i).toNat)
  case atStart => exact ⟨0, by omega, rfl, HG0⟩
  case round =>
    clear HG0
    obtain ⟨i, hi, rfl, HW⟩ := hrel
    by_cases hlt : i < k
    · have hik : (i : Int) < (k : Int) := by omega
      have t1 : wr.cell? ⟨b, o + i, none⟩ = some (.slice (A i) L (C i)) := grid_tops (HG.out.1.below HW.out.below) hlt
      obtain ⟨AI, hAI⟩ : ∃ AI, AI = A i := ⟨_, rfl⟩
      obtain ⟨CI, hCI⟩ : ∃ CI, CI = C i := ⟨_, rfl⟩
      rw [← hAI, ← hCI] at t1
      have HR : Hid (RowAt w AI L (f i) ∧ L ≤ CI) := ⟨by rw [hAI]; exact HG.out.1.2.1 i hlt, by rw [hCI]; exact HG.out.2.1 i hlt⟩
      obtain ⟨wo, hwo⟩ : ∃ wo, wo = wr := ⟨_, rfl⟩
      subst hwo
      clear hAI hCI
      go_wp2_with fail
      clear t1
      go_loopw [6] (fun i' wr => ∃ t : Nat, t ≤ s ∧ i' = .int .i64 ((t * 16 : Nat) : Int) ∧ Hid (Gath w wr N (gathTo k f i (t * 16)))) (fun i' _ => L - (intOf i').toNat)
      case atStart => exact ⟨0, by omega, rfl, by rw [Nat.zero_mul]; exact HW⟩
      case round =>
        clear HW
        obtain ⟨t, ht, rfl, HW⟩ := hrel
        obtain ⟨a, ha⟩ : ∃ a, a = t * 16 := ⟨_, rfl⟩
        rw [← ha]
        rw [← ha] at HW
        have HA := hid ha
        by_cases hlt2 : t < s
        · have haL : (a : Int) < (L : Int) := by have := HN.out.1; omega
          have hab : a + 16 ≤ L := by have := HN.out.1; omega
          clear ha
          go_upto_region 8 with fail
          obtain ⟨hR, hCI⟩ := HR.out
          rcases hR with h0 | ⟨g, og, rfl, hg, hcell⟩
          · omega
          obtain ⟨x, hx⟩ : ∃ x, x = a * k := ⟨_, rfl⟩
          obtain ⟨y, hy⟩ : ∃ y, y = i * 16 := ⟨_, rfl⟩
          obtain ⟨p, hp⟩ : ∃ p, p = x + y := ⟨_, rfl⟩
          obtain ⟨z, hz⟩ : ∃ z, z = a + 16 := ⟨_, rfl⟩
          have hxi : (a : Int) * (k : Int) = (x : Int) := by rw [hx]; exact (Int.natCast_mul _ _).symm
          have hyi : (i : Int) * 16 = (y : Int) := by omega
          have hpi : (x : Int) + (y : Int) = (p : Int) := by omega
          have hzi : (a : Int) + 16 = (z : Int) := by omega
          have hpN : p + 16 ≤ N := by
            have e1 : (a + 16) * k ≤ L * k := Nat.mul_le_mul_right k hab
            have e2 : (a + 16) * k = x + 16 * k := by rw [hx, Nat.add_mul]
            have e3 : N = L * k := by rw [HN.out.2.1, Nat.mul_comm]
            omega
          have hwx : IntKind.i64.wrap (x : Int) = (x : Int) := by rw [IntKind.wrap_i64]; omega
          have hwy : IntKind.i64.wrap (y : Int) = (y : Int) := by rw [IntKind.wrap_i64]; omega
          have hwp : IntKind.i64.wrap (p : Int) = (p : Int) := by rw [IntKind.wrap_i64]; omega
          have hwz : IntKind.i64.wrap (z : Int) = (z : Int) := by rw [IntKind.wrap_i64]; omega
          obtain ⟨nd, hnd⟩ : ∃ nd, nd = N - p := ⟨_, rfl⟩
          obtain ⟨cd, hcd⟩ : ∃ cd, cd = CI - a := ⟨_, rfl⟩
          obtain ⟨oa, hoa⟩ : ∃ oa, oa = og + a := ⟨_, rfl⟩
          have hc1 : ∀ v : World, (Instr.slice 22 (.slice (some ⟨w.heap.size, 0, none⟩) N N) (some (.int .i64 (p : Int))) none none).run Try.prog v = .ok (.slice (some ⟨w.heap.size, p, none⟩) nd nd) v := fun v => by
            have := bcut_from w.heap.size 0 N N p v (by omega) (by omega)
            rwa [Nat.zero_add, ← hnd] at this
          have hc2 : ∀ v : World, (Instr.slice 22 (.slice (some ⟨g, og, none⟩) L CI) (some (.int .i64 (a : Int))) (some (.int .i64 (z : Int))) none).run Try.prog v = .ok (.slice (some ⟨g, oa, none⟩) 16 cd) v := fun v => by
            have := bcut_mid g og L CI a z v (by omega) (by omega)
            rwa [← hoa, ← hcd, show z - a = 16 by omega] at this
          obtain ⟨w5, hrun, t5, hr5⟩ := copy_into wr.drew w.heap.size p nd nd 16 cd N ⟨g, oa, none⟩ (gathTo k f i a) (fun j => f i (a + j)) HW.out.row (by omega) (by omega) (fun j hj => by
            rw [add_at, hoa, Nat.add_assoc]
            exact (HW.out.below.drew.cell (by exact hg)).trans (hcell (a + j) (by omega)))
          have HG5 : Hid (Gath w w5 N (gathTo k f i (z))) := by
            refine ⟨HW.out.below.drew.trans (t5.below (Nat.le_refl _)), hr5.congr (fun q hq => ?_)⟩
            unfold byteV
            have e0 := HA.out
            have := gathTo_next (t := t) (f := f) hlt q
            rw [← e0, ← hx, ← hy, ← hp, ← hz] at this
            rw [this]
          have hz16 : z = (t + 1) * 16 := by have := HA.out; omega
          have hzb : Hid (z = (t + 1) * 16 ∧ t + 1 ≤ s ∧ a + 16 = z) := ⟨hz16, by omega, hz.symm⟩
          clear t5 hr5 HW hcell hx hy hp hz hnd hcd hoa hg hz16 HA hCI
          have HRUN := hid hrun
          clear hrun
          have hpN2 : p ≤ N := by omega
          refine wp_region_held_drew (S := fun v => True) (by kernel_rfl) trivial (fun hHeld => ?_)
          refine By.hk 0 ?_
          refine By.hk 1 ?_
          refine By.hk 2 ?_
          refine By.hk 3 ?_
          refine By.hk 4 ?_
          refine By.hk 5 ?_
          refine By.hk 6 ?_
          refine By.hk 7 ?_
          refine By.hk 8 ?_
          refine By.hk 9 ?_
          refine By.hk 10 ?_
          refine By.hk 11 ?_
          refine By.hk 12 ?_
          refine By.hk 13 ?_
          refine wpAnyH_ready (rs := [14]) (by kernel_rfl) (by simp) ?_
          refine AllReadyH.cons rfl (fun K hK => ?_) AllReadyH.nil
          refine st_copy rfl _ _ 22 rfl _ _ rfl rfl HRUN.out ?_
          (try simp only [Act.put, List.getElem_toArray, List.getElem_cons_succ, List.getElem_cons_zero, List.setIfInBounds_toArray, List.set_cons_zero, List.set_cons_succ])
          refine hK.out _ _ trivial (fun hHeld => ?_)
          clear hK K
          refine wpAnyH_done (by kernel_rfl) ?_ _
          clear hxi hyi hpi hc1 hc2
          go_wp2_with fail
          go_roundw
          case rel =>
            refine ⟨t + 1, hzb.out.2.1, ?_, by rw [← hzb.out.1]; exact HG5⟩
            rw [← hzb.out.1]
          case measure => have := hzb.out; simp [intOf]; omega
        · obtain rfl : t = s := by omega
          have haL : ¬ ((a : Int) < (L : Int)) := by have := HN.out.1; omega
          have HG6 : Hid (Gath w wr N (gathTo k f (i + 1) 0)) := HW.out.congr (fun p hp => by
            have e1 := HN.out
            rw [ha, Nat.mul_comm]
            exact gathTo_row e1.2.2 (by rw [e1.2.1, e1.1] at hp; exact hp))
          clear ha HW
          go_wp2_with fail
          go_roundw
          case rel => exact ⟨i + 1, by omega, by go_num, HG6⟩
          case measure => simp [intOf]; omega
    · obtain rfl : i = k := by omega
      have HG6 : Hid (Gath w wr N (gathF i f)) := HW.out.congr (fun p hp => gathTo_end HN.out.2.2 p)
      clear HW
      go_wp2_with fail
      go_ret
      exact ⟨rfl, HG6.out⟩

end Go.Proofs.Ytmlaloadeeohbaa

/-
  What Join of package stripe does: contracts over plain numbers.
  Conditions: the shards lie in memory.
-/
namespace Go.Proofs.Ytmlaloadeeohbaa
open Go.RowKit Gf
set_option linter.unusedVariables false
set_option linter.unusedSimpArgs false
set_option maxRecDepth 100000

theorem join_code (a b n : Int) (x y : Option Addr) (ns cs nh ch : Nat) (w : World) (hb : b ≤ 9223372036854775807) (h : ¬ CauchyN a b) :
    Calls Try.prog 15 #[.int .i64 a, .int .i64 b, .int .i64 n, .slice x ns cs, .slice y nh ch] w fun e w' => e = .returned (.tuple #[.slice none 0 0, .int .i64 1]) ∧ w' = w := by
  have hc := iscode_no a b w hb h
  clear h
  go_enter Try.func15, Try.ntmps15
  go_wp2_with (go_at_call 21; refine hc.mono ?_; rintro e w' ⟨rfl, rfl⟩; clear hc)
  go_ret2
  exact ⟨rfl, rfl⟩

theorem join_len (k m : Nat) (n : Int) (x y : Option Addr) (ns cs nh ch : Nat) (w : World) (h1 : 1 ≤ k) (h2 : 1 ≤ m) (h3 : k + m ≤ 255) (hx : ns ≠ k + m ∨ nh ≠ k + m) :
    Calls Try.prog 15 #[.int .i64 k, .int .i64 m, .int .i64 n, .slice x ns cs, .slice y nh ch] w fun e w' => e = .returned (.tuple #[.slice none 0 0, .int .i64 1]) ∧ w' = w := by
  have hc := iscode_yes k m w (nat_code h1 h2 h3)
  obtain ⟨s, hs⟩ : ∃ s, s = k + m := ⟨_, rfl⟩
  have hsi : (k : Int) + (m : Int) = (s : Int) := by omega
  have hs5 : s ≤ 255 := by omega
  by_cases e : ns = s
  · subst e
    have g0 : ((ns : Int) != (ns : Int)) = false := by simp
    have g1 : ((nh : Int) != (ns : Int)) = true := by simp; omega
    clear h1 h2 h3 hs hx
    go_enter Try.func15, Try.ntmps15
    go_wp2_with (go_at_call 21; refine hc.mono ?_; rintro e w' ⟨rfl, rfl⟩; clear hc)
    go_ret2
    exact ⟨rfl, rfl⟩
  · have g1 : ((ns : Int) != (s : Int)) = true := by simp; omega
    clear h1 h2 h3 hs hx e
    go_enter Try.func15, Try.ntmps15
    go_wp2_with (go_at_call 21; refine hc.mono ?_; rintro e w' ⟨rfl, rfl⟩; clear hc)
    go_ret2
    exact ⟨rfl, rfl⟩

theorem join_arg (k m : Nat) (n z : Int) (x y : Option Addr) (cs ch : Nat) (w : World) (h1 : 1 ≤ k) (h2 : 1 ≤ m) (h3 : k + m ≤ 255) (hz : z ≠ 0)
    (hl : Calls Try.prog 8 #[.int .i64 k, .int .i64 n] w fun e w' => e = .returned (.tuple #[.int .i64 0, .int .i64 z]) ∧ w' = w) :
    Calls Try.prog 15 #[.int .i64 k, .int .i64 m, .int .i64 n, .slice x (k + m) cs, .slice y (k + m) ch] w fun e w' => e = .returned (.tuple #[.slice none 0 0, .int .i64 z]) ∧ w' = w := by
  have hc := iscode_yes k m w (nat_code h1 h2 h3)
  obtain ⟨s, hs⟩ : ∃ s, s = k + m := ⟨_, rfl⟩
  have hsi : (k : Int) + (m : Int) = (s : Int) := by omega
  have hs5 : s ≤ 255 := by omega
  rw [← hs]
  have g0 : ((s : Int) != (s : Int)) = false := by simp
  have g : (z != 0) = true := by simp [hz]
  clear h1 h2 h3 hs hz
  go_enter Try.func15, Try.ntmps15
  go_wp2_with (first
    | (go_at_call 21; refine hc.mono ?_; rintro e w' ⟨rfl, rfl⟩; clear hc)
    | (go_at_call 8; refine hl.mono ?_; rintro e w' ⟨rfl, rfl⟩; clear hl))
  go_ret2
  exact ⟨rfl, rfl⟩

theorem join_bad (k m n b o hb hd cs ch : Nat) (A : Nat → Option Addr) (L C : Nat → Nat) (f : Nat → Nat → Nat) (h : Nat → Bool) (w : World) (h1 : 1 ≤ k) (h2 : 1 ≤ m) (h3 : k + m ≤ 255) (hn : n ≤ 4096)
    (hG : IsGrid w (some ⟨b, o, none⟩) (k + m) A L C f) (hH : BoolsAt w (some ⟨hb, hd, none⟩) (k + m) h) (hx : ¬ ∀ i, i < k + m → h i = true → L i = 16 * stN k n) :
    Calls Try.prog 15 #[.int .i64 k, .int .i64 m, .int .i64 n, .slice (some ⟨b, o, none⟩) (k + m) cs, .slice (some ⟨hb, hd, none⟩) (k + m) ch] w fun e w' => e = .returned (.tuple #[.slice none 0 0, .int .i64 8]) ∧ w' = w := by
  have hc := iscode_yes k m w (nat_code h1 h2 h3)
  have hl := length_yes k n w h1 (by omega) hn
  have ha : Calls Try.prog 25 #[.int .i64 ((16 * stN k n : Nat) : Int), .slice (some ⟨b, o, none⟩) (k + m) cs, .slice (some ⟨hb, hd, none⟩) (k + m) ch] w fun e w' => e = .returned (.bool false) ∧ w' = w :=
    arelong_any b o hb hd (k + m) cs ch _ false A L C f h w (by omega) (by omega) hG hH (fun q => absurd q hx) (fun _ _ _ _ => rfl)
  generalize ((16 * stN k n : Nat) : Int) = l at hl ha
  obtain ⟨s, hs⟩ : ∃ s, s = k + m := ⟨_, rfl⟩
  have hsi : (k : Int) + (m : Int) = (s : Int) := by omega
  have hs5 : s ≤ 255 := by omega
  rw [← hs] at ha ⊢
  have g0 : ((s : Int) != (s : Int)) = false := by simp
  clear h1 h2 h3 hs hG hH hx
  go_enter Try.func15, Try.ntmps15
  go_wp2_with (first
    | (go_at_call 21; refine hc.mono ?_; rintro e w' ⟨rfl, rfl⟩; clear hc)
    | (go_at_call 8; refine hl.mono ?_; rintro e w' ⟨rfl, rfl⟩; clear hl)
    | (go_at_call 25; refine ha.mono ?_; rintro e w' ⟨rfl, rfl⟩; clear ha))
  go_ret2
  exact ⟨rfl, rfl⟩

theorem arelong_yes (k n b o hb hd N cs ch : Nat) (A : Nat → Option Addr) (L C : Nat → Nat) (f : Nat → Nat → Nat) (h : Nat → Bool) (w : World) (hN : N ≤ 255) (h0 : 0 < N)
    (hG : IsGrid w (some ⟨b, o, none⟩) N A L C f) (hH : BoolsAt w (some ⟨hb, hd, none⟩) N h) (hx : ∀ i, i < N → h i = true → L i = 16 * stN k n) :
    Calls Try.prog 25 #[.int .i64 ((16 * stN k n : Nat) : Int), .slice (some ⟨b, o, none⟩) N cs, .slice (some ⟨hb, hd, none⟩) N ch] w fun e w' => e = .returned (.bool true) ∧ w' = w :=
  arelong_any b o hb hd N cs ch _ true A L C f h w (by omega) h0 hG hH (fun _ => rfl) (fun i hi q q2 => absurd (hx i hi q) q2)

set_option maxHeartbeats 400000 in
set_option maxRecDepth 100000 in
theorem join_few (k m n b o hb hd cs ch c : Nat) (A : Nat → Option Addr) (L C : Nat → Nat) (f : Nat → Nat → Nat) (h : Nat → Bool) (g : Nat → Nat) (w : World) (h1 : 1 ≤ k) (h2 : 1 ≤ m) (h3 : k + m ≤ 255) (hn : n ≤ 4096)
    (hG : IsGrid w (some ⟨b, o, none⟩) (k + m) A L C f) (hH : BoolsAt w (some ⟨hb, hd, none⟩) (k + m) h) (hx : ∀ i, i < k + m → h i = true → L i = 16 * stN k n) (hP : Plc h (k + m) c g) (hck : c < k) :
    Calls Try.prog 15 #[.int .i64 k, .int .i64 m, .int .i64 n, .slice (some ⟨b, o, none⟩) (k + m) cs, .slice (some ⟨hb, hd, none⟩) (k + m) ch] w fun e w' => e = .returned (.tuple #[.slice none 0 0, .int .i64 4]) ∧ Below w.heap.size w w' := by
  have hc := iscode_yes k m w (nat_code h1 h2 h3)
  have hl := length_yes k n w h1 (by omega) hn
  have ha := arelong_yes k n b o hb hd (k + m) cs ch A L C f h w (by omega) (by omega) hG hH hx
  have hE : ∀ r, r < c → L (g r) = 16 * stN k n := fun r hr => hx _ (hP.lt r hr) (hP.has r hr)
  have hdc := decode_few k m b o hb hd cs ch c A L C f h g w h1 h2 h3 hG hH hP (fun r hr => by show L (g r) = L (g 0); rw [hE r hr, hE 0 (by omega)]) hck
  generalize ((16 * stN k n : Nat) : Int) = l at hl ha
  obtain ⟨s, hs⟩ : ∃ s, s = k + m := ⟨_, rfl⟩
  have hsi : (k : Int) + (m : Int) = (s : Int) := by omega
  have hs5 : s ≤ 255 := by omega
  rw [← hs] at ha hdc ⊢
  have g0 : ((s : Int) != (s : Int)) = false := by simp
  clear h1 h2 h3 hs hG hH hx hE hP hck
  go_enter Try.func15, Try.ntmps15
  go_wp2_with (first
    | (go_at_call 21; refine hc.mono ?_; rintro e w' ⟨rfl, rfl⟩; clear hc)
    | (go_at_call 8; refine hl.mono ?_; rintro e w' ⟨rfl, rfl⟩; clear hl)
    | (go_at_call 25; refine ha.mono ?_; rintro e w' ⟨rfl, rfl⟩; clear ha)
    | (go_at_call 17; refine hdc.mono ?_; rintro e x1 ⟨rfl, hb1⟩; clear hdc))
  go_ret2
  exact ⟨rfl, hb1⟩

/- Which bytes are told. -/
def toldF (k m : Nat) (g : Nat → Nat) (f : Nat → Nat → Nat) : Nat → Nat := gathF k (decF k m g (fun r => f (g r)))

theorem toldF_lt {k m : Nat} {g : Nat → Nat} {f : Nat → Nat → Nat} (hf : ∀ r j, f r j < 256) (p : Nat) : toldF k m g f p < 256 := gathF_lt (decF_lt (fun r j => hf _ j)) p

/- A cut of bytes from a place on, to be read. -/
theorem gath_tail {w0 w : World} {N n : Nat} {F : Nat → Nat} {a : Addr} (h : Gath w0 w N F) (hn : n ≤ N) (ha : n < N → a = ⟨w0.heap.size, n, none⟩) : RowAt w (some a) (N - n) (fun p => F (n + p)) := by
  by_cases e : n < N
  · rw [ha e]
    exact .inr ⟨w0.heap.size, n, rfl, h.row.lt, fun i hi => h.row.cell (by omega)⟩
  · exact .inl (by omega)

set_option maxHeartbeats 1000000 in
set_option maxRecDepth 100000 in
theorem join_yes (k m n b o hb hd cs ch c : Nat) (A : Nat → Option Addr) (L C : Nat → Nat) (f : Nat → Nat → Nat) (h : Nat → Bool) (g : Nat → Nat) (w : World) (h1 : 1 ≤ k) (h2 : 1 ≤ m) (h3 : k + m ≤ 255) (hn : n ≤ 4096)
    (hG : IsGrid w (some ⟨b, o, none⟩) (k + m) A L C f) (hH : BoolsAt w (some ⟨hb, hd, none⟩) (k + m) h) (hx : ∀ i, i < k + m → h i = true → L i = 16 * stN k n) (hP : Plc h (k + m) c g) (hck : k ≤ c)
    (hy : (∀ p, n ≤ p → p < k * (16 * stN k n) → toldF k m g f p = 0)) :
    Calls Try.prog 15 #[.int .i64 k, .int .i64 m, .int .i64 n, .slice (some ⟨b, o, none⟩) (k + m) cs, .slice (some ⟨hb, hd, none⟩) (k + m) ch] w fun e w' => Below w.heap.size w w' ∧ ∃ G, e = .returned (.tuple #[.slice (some ⟨G, 0, none⟩) n n, .int .i64 0]) ∧ RowAt w' (some ⟨G, 0, none⟩) n (toldF k m g f) := by
  have hc := iscode_yes k m w (nat_code h1 h2 h3)
  have hl := length_yes k n w h1 (by omega) hn
  have ha := arelong_yes k n b o hb hd (k + m) cs ch A L C f h w (by omega) (by omega) hG hH hx
  have hE : ∀ r, r < c → L (g r) = 16 * stN k n := fun r hr => hx _ (hP.lt r hr) (hP.has r hr)
  have hS5 : stN k n ≤ 4096 := Nat.le_trans (stN_le h1) hn
  have hnN : n ≤ k * (16 * stN k n) := stN_all' h1
  have hN5 : k * (16 * stN k n) ≤ 255 * 65536 := Nat.mul_le_mul (by omega) (by omega)
  have hT := toldF_lt (k := k) (m := m) (g := g) hG.2.2
  have hdc := decode_cap k m (16 * stN k n) b o hb hd cs ch c A L C f h g w h1 h2 h3 (by omega) hG hH hP hE hck
  have hga : ∀ (w1 v : World) A1, Build w1 v (k + m) (k + m) A1 (fun _ => 16 * stN k n) (fun _ => 16 * stN k n) (decF k m g (fun r => f (g r))) → Calls Try.prog 26 #[.slice (some ⟨w1.heap.size, 0, none⟩) k (k + m)] v fun e w' => e = .returned (.slice (some ⟨v.heap.size, 0, none⟩) (k * (16 * stN k n)) (k * (16 * stN k n))) ∧ Gath v w' (k * (16 * stN k n)) (toldF k m g f) := fun w1 v A1 hB =>
    gathered_any w1.heap.size 0 k (stN k n) (k + m) A1 _ _ v h1 (by omega) hS5 (fun _ _ => Nat.le_refl _) (hB.grid.take (by omega))
  obtain ⟨T, hTT⟩ : ∃ T, T = toldF k m g f := ⟨_, rfl⟩
  rw [← hTT] at hy hT
  simp only [← hTT] at hga
  rw [← hTT]
  generalize hl' : 16 * stN k n = l at hl ha hdc hga hy hnN hN5
  obtain ⟨N, hN⟩ : ∃ N, N = k * l := ⟨_, rfl⟩
  rw [← hN] at hy hnN hN5
  simp only [← hN] at hga
  obtain ⟨s, hs⟩ : ∃ s, s = k + m := ⟨_, rfl⟩
  have hsi : (k : Int) + (m : Int) = (s : Int) := by omega
  have hs5 : s ≤ 255 := by omega
  rw [← hs] at ha hdc ⊢
  simp only [← hs] at hga
  have hks : k ≤ s := by omega
  have hcut : ∀ (v w1 : World), (Instr.slice 28 (.slice (some ⟨w1.heap.size, 0, none⟩) s s) none (some (.int .i64 (k : Int))) none).run Try.prog v = .ok (.slice (some ⟨w1.heap.size, 0, none⟩) k s) v := fun v w1 => cut_to w1.heap.size 0 s s k v hks
  have hno : ∀ (v w' : World) a, Gath v w' N T → (n < N → a = ⟨v.heap.size, n, none⟩) → Calls Try.prog 27 #[.slice (some a) (N - n) (N - n)] w' fun e w'' => e = .returned (.bool true) ∧ w'' = w' := fun v w' a hv hav =>
    noughts_any (some a) (N - n) (N - n) true (fun p => T (n + p)) w' (by omega) (gath_tail hv hnN hav) (fun _ => rfl) (fun i hi q => absurd (hy (n + i) (by omega) (by omega)) q)
  have hend : ∀ gb, ∃ a, (∀ w : World, (Instr.slice 22 (.slice (some ⟨gb, 0, none⟩) N N) (some (.int .i64 (n : Int))) none none).run Try.prog w = .ok (.slice (some a) (N - n) (N - n)) w) ∧ (n < N → a = ⟨gb, n, none⟩) := fun gb => bcut_end gb N n hnN
  have hmax : ∀ gb (v : World), (Instr.slice 22 (.slice (some ⟨gb, 0, none⟩) N N) none (some (.int .i64 (n : Int))) (some (.int .i64 (n : Int)))).run Try.prog v = .ok (.slice (some ⟨gb, 0, none⟩) n n) v := fun gb v => bcut_max gb n N N v hnN
  obtain ⟨dn, hdn⟩ : ∃ dn, dn = N - n := ⟨_, rfl⟩
  simp only [← hdn] at hno hend
  have HN : Hid (n ≤ N) := hnN
  have g0 : ((s : Int) != (s : Int)) = false := by simp
  clear h1 h2 h3 hs hG hH hx hE hP hck hy hTT hl' hN hT hdn hnN hks hS5
  go_enter Try.func15, Try.ntmps15
  go_wp2_with (first
    | (go_at_call 21; refine hc.mono ?_; rintro e w' ⟨rfl, rfl⟩; clear hc)
    | (go_at_call 8; refine hl.mono ?_; rintro e w' ⟨rfl, rfl⟩; clear hl)
    | (go_at_call 25; refine ha.mono ?_; rintro e w' ⟨rfl, rfl⟩; clear ha)
    | (go_at_call 17; refine hdc.mono ?_; rintro e x1 ⟨w1, A1, hb1, rfl, hB1⟩; clear hdc; have hcut1 := fun v => hcut v w1; clear hcut)
    | (go_at_call 26; refine (hga w1 _ A1 hB1).mono ?_; rintro e x2 ⟨rfl, hG2⟩; clear hga; have HB := hid (hb1.trans ((hB1.below.trans (hG2.below.mono hB1.below.size)).mono hb1.size)); obtain ⟨a2, hend2, ha2⟩ := hend x1.heap.size; clear hend; have hno2 := hno _ _ a2 hG2 ha2; clear hno ha2; have HG2 := hid hG2; have hmax2 := hmax x1.heap.size; clear hmax hb1 hB1 hG2)
    | (go_at_call 27; refine hno2.mono ?_; rintro e x3 ⟨rfl, rfl⟩; clear hno2))
  go_ret2
  exact ⟨HB.out, x1.heap.size, rfl, .inr ⟨x1.heap.size, 0, rfl, HG2.out.row.lt, fun i hi => by rw [Nat.zero_add]; exact HG2.out.row.cell (by have := HN.out; omega)⟩⟩

set_option maxHeartbeats 1000000 in
set_option maxRecDepth 100000 in
theorem join_wrong (k m n b o hb hd cs ch c : Nat) (A : Nat → Option Addr) (L C : Nat → Nat) (f : Nat → Nat → Nat) (h : Nat → Bool) (g : Nat → Nat) (w : World) (h1 : 1 ≤ k) (h2 : 1 ≤ m) (h3 : k + m ≤ 255) (hn : n ≤ 4096)
    (hG : IsGrid w (some ⟨b, o, none⟩) (k + m) A L C f) (hH : BoolsAt w (some ⟨hb, hd, none⟩) (k + m) h) (hx : ∀ i, i < k + m → h i = true → L i = 16 * stN k n) (hP : Plc h (k + m) c g) (hck : k ≤ c)
    (hy : ¬ (∀ p, n ≤ p → p < k * (16 * stN k n) → toldF k m g f p = 0)) :
    Calls Try.prog 15 #[.int .i64 k, .int .i64 m, .int .i64 n, .slice (some ⟨b, o, none⟩) (k + m) cs, .slice (some ⟨hb, hd, none⟩) (k + m) ch] w fun e w' => Below w.heap.size w w' ∧ e = .returned (.tuple #[.slice none 0 0, .int .i64 8]) := by
  have hc := iscode_yes k m w (nat_code h1 h2 h3)
  have hl := length_yes k n w h1 (by omega) hn
  have ha := arelong_yes k n b o hb hd (k + m) cs ch A L C f h w (by omega) (by omega) hG hH hx
  have hE : ∀ r, r < c → L (g r) = 16 * stN k n := fun r hr => hx _ (hP.lt r hr) (hP.has r hr)
  have hS5 : stN k n ≤ 4096 := Nat.le_trans (stN_le h1) hn
  have hnN : n ≤ k * (16 * stN k n) := stN_all' h1
  have hN5 : k * (16 * stN k n) ≤ 255 * 65536 := Nat.mul_le_mul (by omega) (by omega)
  have hT := toldF_lt (k := k) (m := m) (g := g) hG.2.2
  have hdc := decode_cap k m (16 * stN k n) b o hb hd cs ch c A L C f h g w h1 h2 h3 (by omega) hG hH hP hE hck
  have hga : ∀ (w1 v : World) A1, Build w1 v (k + m) (k + m) A1 (fun _ => 16 * stN k n) (fun _ => 16 * stN k n) (decF k m g (fun r => f (g r))) → Calls Try.prog 26 #[.slice (some ⟨w1.heap.size, 0, none⟩) k (k + m)] v fun e w' => e = .returned (.slice (some ⟨v.heap.size, 0, none⟩) (k * (16 * stN k n)) (k * (16 * stN k n))) ∧ Gath v w' (k * (16 * stN k n)) (toldF k m g f) := fun w1 v A1 hB =>
    gathered_any w1.heap.size 0 k (stN k n) (k + m) A1 _ _ v h1 (by omega) hS5 (fun _ _ => Nat.le_refl _) (hB.grid.take (by omega))
  obtain ⟨T, hTT⟩ : ∃ T, T = toldF k m g f := ⟨_, rfl⟩
  rw [← hTT] at hy hT
  simp only [← hTT] at hga
  generalize hl' : 16 * stN k n = l at hl ha hdc hga hy hnN hN5
  obtain ⟨N, hN⟩ : ∃ N, N = k * l := ⟨_, rfl⟩
  rw [← hN] at hy hnN hN5
  simp only [← hN] at hga
  obtain ⟨s, hs⟩ : ∃ s, s = k + m := ⟨_, rfl⟩
  have hsi : (k : Int) + (m : Int) = (s : Int) := by omega
  have hs5 : s ≤ 255 := by omega
  rw [← hs] at ha hdc ⊢
  simp only [← hs] at hga
  have hks : k ≤ s := by omega
  have hcut : ∀ (v w1 : World), (Instr.slice 28 (.slice (some ⟨w1.heap.size, 0, none⟩) s s) none (some (.int .i64 (k : Int))) none).run Try.prog v = .ok (.slice (some ⟨w1.heap.size, 0, none⟩) k s) v := fun v w1 => cut_to w1.heap.size 0 s s k v hks
  have hno : ∀ (v w' : World) a, Gath v w' N T → (n < N → a = ⟨v.heap.size, n, none⟩) → Calls Try.prog 27 #[.slice (some a) (N - n) (N - n)] w' fun e w'' => e = .returned (.bool false) ∧ w'' = w' := fun v w' a hv hav =>
    noughts_any (some a) (N - n) (N - n) false (fun p => T (n + p)) w' (by omega) (gath_tail hv hnN hav) (fun q => absurd (fun p q1 q2 => by have := q (p - n) (by omega); rwa [show n + (p - n) = p by omega] at this) hy) (fun _ _ _ => rfl)
  have hend : ∀ gb, ∃ a, (∀ w : World, (Instr.slice 22 (.slice (some ⟨gb, 0, none⟩) N N) (some (.int .i64 (n : Int))) none none).run Try.prog w = .ok (.slice (some a) (N - n) (N - n)) w) ∧ (n < N → a = ⟨gb, n, none⟩) := fun gb => bcut_end gb N n hnN
  have hmax : ∀ gb (v : World), (Instr.slice 22 (.slice (some ⟨gb, 0, none⟩) N N) none (some (.int .i64 (n : Int))) (some (.int .i64 (n : Int)))).run Try.prog v = .ok (.slice (some ⟨gb, 0, none⟩) n n) v := fun gb v => bcut_max gb n N N v hnN
  obtain ⟨dn, hdn⟩ : ∃ dn, dn = N - n := ⟨_, rfl⟩
  simp only [← hdn] at hno hend
  have HN : Hid (n ≤ N) := hnN
  have g0 : ((s : Int) != (s : Int)) = false := by simp
  clear h1 h2 h3 hs hG hH hx hE hP hck hy hTT hl' hN hT hdn hnN hks hS5
  go_enter Try.func15, Try.ntmps15
  go_wp2_with (first
    | (go_at_call 21; refine hc.mono ?_; rintro e w' ⟨rfl, rfl⟩; clear hc)
    | (go_at_call 8; refine hl.mono ?_; rintro e w' ⟨rfl, rfl⟩; clear hl)
    | (go_at_call 25; refine ha.mono ?_; rintro e w' ⟨rfl, rfl⟩; clear ha)
    | (go_at_call 17; refine hdc.mono ?_; rintro e x1 ⟨w1, A1, hb1, rfl, hB1⟩; clear hdc; have hcut1 := fun v => hcut v w1; clear hcut)
    | (go_at_call 26; refine (hga w1 _ A1 hB1).mono ?_; rintro e x2 ⟨rfl, hG2⟩; clear hga; have HB := hid (hb1.trans ((hB1.below.trans (hG2.below.mono hB1.below.size)).mono hb1.size)); obtain ⟨a2, hend2, ha2⟩ := hend x1.heap.size; clear hend; have hno2 := hno _ _ a2 hG2 ha2; clear hno ha2; have HG2 := hid hG2; have hmax2 := hmax x1.heap.size; clear hmax hb1 hB1 hG2)
    | (go_at_call 27; refine hno2.mono ?_; rintro e x3 ⟨rfl, rfl⟩; clear hno2))
  go_ret2
  exact ⟨HB.out, rfl⟩

end Go.Proofs.Ytmlaloadeeohbaa

/-
  What Touched of package stripe and the document's Length do: contracts over plain numbers.
  Conditions: none.
-/
namespace Go.Proofs.Ytmlaloadeeohbaa
open Go.RowKit Gf
set_option linter.unusedVariables false
set_option linter.unusedSimpArgs false
set_option maxRecDepth 100000

theorem rlength_arg (k n : Int) (w : World) (h : k < 1 ∨ 254 < k ∨ n < 0) : Calls Try.prog 9 #[.int .i64 k, .int .i64 n] w fun e w' => e = .returned (.tuple #[.int .i64 0, .int .i64 1]) ∧ w' = w := by
  by_cases h1 : k < 1
  · clear h
    go_enter Try.func9, Try.ntmps9
    go_wp2_with fail
    go_ret2
    exact ⟨rfl, rfl⟩
  · by_cases h2 : 254 < k
    · clear h
      go_enter Try.func9, Try.ntmps9
      go_wp2_with fail
      go_ret2
      exact ⟨rfl, rfl⟩
    · have h3 : n < 0 := by omega
      clear h
      go_enter Try.func9, Try.ntmps9
      go_wp2_with fail
      go_ret2
      exact ⟨rfl, rfl⟩

theorem rlength_long (k n : Int) (w : World) (h1 : ¬ (k < 1)) (h2 : ¬ (254 < k)) (h3 : ¬ (n < 0)) (h4 : 4096 < n) : Calls Try.prog 9 #[.int .i64 k, .int .i64 n] w fun e w' => e = .returned (.tuple #[.int .i64 0, .int .i64 3]) ∧ w' = w := by
  go_enter Try.func9, Try.ntmps9
  go_wp2_with fail
  go_ret2
  exact ⟨rfl, rfl⟩

set_option maxHeartbeats 400000 in
set_option maxRecDepth 100000 in
theorem rlength_yes (k n : Nat) (w : World) (h1 : 1 ≤ k) (h2 : k ≤ 254) (hn : n ≤ 4096) : Calls Try.prog 9 #[.int .i64 k, .int .i64 n] w fun e w' => e = .returned (.tuple #[.int .i64 ((16 * stN k n : Nat) : Int), .int .i64 0]) ∧ w' = w := by
  have hs5 : stN k n ≤ 4096 := Nat.le_trans (stN_le h1) hn
  have HL : Hid (∀ s, s < stN k n ↔ s * (16 * k) < n) := fun s => stN_lt h1
  obtain ⟨S, hS⟩ : ∃ S, S = stN k n := ⟨_, rfl⟩
  rw [← hS] at hs5 ⊢
  have HL2 : Hid (∀ s, s < S ↔ s * (16 * k) < n) := by rw [hS]; exact HL
  obtain ⟨r, hr⟩ : ∃ r, r = 16 * S := ⟨_, rfl⟩
  have hri : (S : Int) * 16 = (r : Int) := by omega
  have hr5 : r ≤ 65536 := by omega
  rw [← hr]
  have g1 : ¬ ((k : Int) < 1) := by omega
  have g2 : ¬ ((254 : Int) < (k : Int)) := by omega
  have g3 : ¬ ((n : Int) < 0) := by omega
  have g4 : ¬ ((4096 : Int) < (n : Int)) := by omega
  clear hS HL hr
  go_enter Try.func9, Try.ntmps9
  go_wp2_with fail
  go_loopw [6] (fun i wr => ∃ s : Nat, s ≤ S ∧ i = .int .i64 s ∧ wr = w) (fun i _ => S - (intOf i).toNat)
  case atStart => exact ⟨0, by omega, rfl, rfl⟩
  case round =>
    obtain ⟨s, hs, rfl, rfl⟩ := hrel
    obtain ⟨p, hp⟩ : ∃ p, p = s * k := ⟨_, rfl⟩
    obtain ⟨q, hq⟩ : ∃ q, q = p * 16 := ⟨_, rfl⟩
    have hpi : (s : Int) * (k : Int) = (p : Int) := by rw [hp]; exact (Int.natCast_mul _ _).symm
    have hqi : (p : Int) * 16 = (q : Int) := by omega
    have hp5 : p ≤ 4096 * 254 := by rw [hp]; exact Nat.mul_le_mul (by omega) h2
    have hq5 : q ≤ 4096 * 254 * 16 := by omega
    have he : s * (16 * k) = q := by rw [hq, hp, Nat.mul_comm 16 k, ← Nat.mul_assoc]
    by_cases hlt : s < S
    · have hqn : (q : Int) < (n : Int) := by
        have := (HL2.out s).1 hlt
        omega
      clear hp hq he HL2
      go_wp2_with fail
      go_roundw
      case rel => exact ⟨s + 1, by omega, by go_num, trivial⟩
      case measure => simp [intOf]; omega
    · have hqn : ¬ ((q : Int) < (n : Int)) := fun h => hlt ((HL2.out s).2 (by omega))
      obtain rfl : s = S := by omega
      clear hp hq he HL2
      go_wp2_with fail
      go_ret2
      exact ⟨rfl, rfl⟩

/- Touched. -/
theorem touched_arg (k n a l : Int) (x : Int) (w : World) (hx : ∀ v : World, Calls Try.prog 8 #[.int .i64 k, .int .i64 n] v fun e w' => e = .returned (.tuple #[.int .i64 0, .int .i64 x]) ∧ w' = v) (h0 : x ≠ 0) :
    Calls Try.prog 18 #[.int .i64 k, .int .i64 n, .int .i64 a, .int .i64 l] w fun e w' => e = .returned (.tuple #[.int .i64 0, .int .i64 0, .int .i64 x]) ∧ w' = w := by
  have g : (x != 0) = true := by simp [h0]
  clear h0
  go_enter Try.func18, Try.ntmps18
  go_wp2_with (go_at_call 8; refine (hx _).mono ?_; rintro e w' ⟨rfl, rfl⟩; clear hx)
  go_ret3
  exact ⟨rfl, rfl⟩

theorem touched_no (k n : Nat) (a l : Int) (w : World) (h1 : 1 ≤ k) (h2 : k ≤ 254) (hn : n ≤ 4096) (hl : l ≤ 9223372036854775807) (h : a < 0 ∨ l < 0 ∨ n - l < a) :
    Calls Try.prog 18 #[.int .i64 k, .int .i64 n, .int .i64 a, .int .i64 l] w fun e w' => e = .returned (.tuple #[.int .i64 0, .int .i64 0, .int .i64 1]) ∧ w' = w := by
  have hx := length_yes k n w h1 h2 hn
  generalize ((16 * stN k n : Nat) : Int) = L at hx
  by_cases c1 : a < 0
  · clear h
    go_enter Try.func18, Try.ntmps18
    go_wp2_with (go_at_call 8; refine hx.mono ?_; rintro e w' ⟨rfl, rfl⟩; clear hx)
    go_ret3
    exact ⟨rfl, rfl⟩
  · by_cases c2 : l < 0
    · clear h
      go_enter Try.func18, Try.ntmps18
      go_wp2_with (go_at_call 8; refine hx.mono ?_; rintro e w' ⟨rfl, rfl⟩; clear hx)
      go_ret3
      exact ⟨rfl, rfl⟩
    · have c3 : (n : Int) - l < a := by omega
      have c4 : -9223372036854775808 ≤ (n : Int) - l := by omega
      have c5 : (n : Int) - l ≤ 9223372036854775807 := by omega
      clear h
      go_enter Try.func18, Try.ntmps18
      go_wp2_with (go_at_call 8; refine hx.mono ?_; rintro e w' ⟨rfl, rfl⟩; clear hx)
      go_ret3
      exact ⟨rfl, rfl⟩

theorem touched_none (k n a : Nat) (w : World) (h1 : 1 ≤ k) (h2 : k ≤ 254) (hn : n ≤ 4096) (h : a ≤ n) :
    Calls Try.prog 18 #[.int .i64 k, .int .i64 n, .int .i64 a, .int .i64 0] w fun e w' => e = .returned (.tuple #[.int .i64 0, .int .i64 0, .int .i64 0]) ∧ w' = w := by
  have hx := length_yes k n w h1 h2 hn
  generalize ((16 * stN k n : Nat) : Int) = L at hx
  have c1 : ¬ ((a : Int) < 0) := by omega
  have c3 : ¬ ((n : Int) < (a : Int)) := by omega
  clear h
  go_enter Try.func18, Try.ntmps18
  go_wp2_with (go_at_call 8; refine hx.mono ?_; rintro e w' ⟨rfl, rfl⟩; clear hx)
  go_ret3
  exact ⟨rfl, rfl⟩

set_option maxHeartbeats 400000 in
set_option maxRecDepth 100000 in
theorem touched_yes (k n a l : Nat) (w : World) (h1 : 1 ≤ k) (h2 : k ≤ 254) (hn : n ≤ 4096) (hl : 0 < l) (h : a + l ≤ n) :
    Calls Try.prog 18 #[.int .i64 k, .int .i64 n, .int .i64 a, .int .i64 l] w fun e w' => e = .returned (.tuple #[.int .i64 ((a / (16 * k) : Nat) : Int), .int .i64 (stN k (a + l) : Int), .int .i64 0]) ∧ ∃ m, w' = w.drewN m := by
  have hx := length_yes k n w h1 h2 hn
  generalize ((16 * stN k n : Nat) : Int) = L at hx
  obtain ⟨t, ht⟩ : ∃ t, t = a + l := ⟨_, rfl⟩
  have hst : ∀ v, Calls Try.prog 20 #[.int .i64 k, .int .i64 t] v fun e w' => e = .returned (.int .i64 (stN k t : Int)) ∧ w' = v := fun v => stripes_any k t v h1 (by omega) (by omega)
  rw [← ht]
  generalize stN k t = T at hst
  have c1 : ¬ ((a : Int) < 0) := by omega
  have c2 : ¬ ((l : Int) < 0) := by omega
  have c3 : ¬ ((n : Int) - (l : Int) < (a : Int)) := by omega
  have c4 : 0 ≤ (n : Int) - (l : Int) := by omega
  have c5 : (n : Int) - (l : Int) ≤ 4096 := by omega
  have c6 : ((l : Int) == 0) = false := by simp; omega
  have hti : (a : Int) + (l : Int) = (t : Int) := by omega
  obtain ⟨p, hp⟩ : ∃ p, p = 16 * k := ⟨_, rfl⟩
  have hpi : (k : Int) * 16 = (p : Int) := by omega
  obtain ⟨s, hs⟩ : ∃ s, s = a / (16 * k) := ⟨_, rfl⟩
  have hd : (a : Int).tdiv (p : Int) = (s : Int) := by
    rw [Int.tdiv_eq_ediv_of_nonneg (by omega), hs, ← hp]
    exact rfl
  have hs5 : s ≤ 4096 := by rw [hs]; exact Nat.le_trans (Nat.div_le_self _ _) (by omega)
  have hp0 : (p : Int) ≠ 0 := by omega
  have hp5 : p ≤ 16000 := by omega
  have ht5 : t ≤ 4096 := by omega
  have ha5 : a ≤ 4096 := by omega
  have hl5 : l ≤ 4096 := by omega
  rw [← hs]
  clear h ht hp hs h1
  go_enter Try.func18, Try.ntmps18
  go_wp2_with (first
    | (go_at_call 8; refine hx.mono ?_; rintro e w' ⟨rfl, rfl⟩; clear hx)
    | (go_at_call 20; refine (hst _).mono ?_; rintro e w' ⟨rfl, rfl⟩; clear hst))
  go_quiet ((go_at_call 20; exact Calls.quiet_of_same (hst _)))
  go_wp2_with fail
  go_ret3
  exact ⟨rfl, _, rfl⟩

end Go.Proofs.Ytmlaloadeeohbaa

/-
  What the document's Split does: contracts over plain numbers.
  Conditions: the bytes lie in memory.
-/
namespace Go.Proofs.Ytmlaloadeeohbaa
open Go.RowKit Gf
set_option linter.unusedVariables false
set_option linter.unusedSimpArgs false
set_option maxRecDepth 100000

theorem rsplit_code (a b : Int) (x : Option Addr) (n c : Nat) (w : World) (h : ¬ CauchyN a b) :
    Calls Try.prog 13 #[.int .i64 a, .int .i64 b, .slice x n c] w fun e w' => e = .returned (.tuple #[.slice none 0 0, .int .i64 1]) ∧ w' = w := by
  have hc := rcode_no a b w h
  clear h
  go_enter Try.func13, Try.ntmps13
  go_wp2_with (go_at_call 16; refine hc.mono ?_; rintro e w' ⟨rfl, rfl⟩; clear hc)
  go_ret2
  exact ⟨rfl, rfl⟩

theorem rsplit_long (k m : Nat) (x : Option Addr) (n c : Nat) (w : World) (h1 : 1 ≤ k) (h2 : 1 ≤ m) (h3 : k + m ≤ 255) (hn : 4096 < n) :
    Calls Try.prog 13 #[.int .i64 k, .int .i64 m, .slice x n c] w fun e w' => e = .returned (.tuple #[.slice none 0 0, .int .i64 3]) ∧ w' = w := by
  have hc := rcode_yes (k : Int) (m : Int) w ⟨by omega, by omega, by omega⟩
  have hl := rlength_long (k : Int) (n : Int) w (by omega) (by omega) (by omega) (by omega)
  clear h1 h2 h3 hn
  go_enter Try.func13, Try.ntmps13
  go_wp2_with (first
    | (go_at_call 16; refine hc.mono ?_; rintro e w' ⟨rfl, rfl⟩; clear hc)
    | (go_at_call 9; refine hl.mono ?_; rintro e w' ⟨rfl, rfl⟩; clear hl))
  go_ret2
  exact ⟨rfl, rfl⟩

/- A row that is built by append, and has an address. -/
structure RowAd (w wr : World) (R : Value) (j : Nat) (f : Nat → Nat) : Prop where
  of : RowOf w wr R j f
  ad : ∃ g c, R = .slice (some ⟨g, 0, none⟩) j c ∧ w.heap.size ≤ g ∧ j ≤ c ∧ ∃ cur, wr.heap[g]? = some (.cells cur 5 (0, 0))

theorem rowAd_start (w : World) (f : Nat → Nat) : RowAd w (w.alloc (.cells #[] 5)) (.slice (some ⟨w.heap.size, 0, none⟩) 0 0) 0 f :=
  ⟨rowOf_start w f, w.heap.size, 0, rfl, Nat.le_refl _, Nat.le_refl _, _, heap_alloc_new _ _⟩

theorem rowAd_next {w wr w3 : World} {R : Value} {j : Nat} {f : Nat → Nat} (hb : Below w.heap.size w wr) (hb3 : Below w.heap.size wr w3) (ho : w3.ownsRow w.heap.size 5 1 R (j + 1) (bytesOf f (j + 1))) : RowAd w w3 R (j + 1) f := by
  obtain ⟨g, c, h1, h2, _, h4, h5⟩ := own_slice ho (by omega)
  exact ⟨⟨hb.trans hb3, ho⟩, g, c, h1, h2, h4, h5⟩

set_option maxHeartbeats 1000000 in
set_option maxRecDepth 100000 in
theorem rsplit_yes (k m n c : Nat) (x : Option Addr) (f : Nat → Nat) (w : World) (h1 : 1 ≤ k) (h2 : 1 ≤ m) (h3 : k + m ≤ 255) (hn : n ≤ 4096) (hf : ∀ i, f i < 256) (hx : RowAt w x n f) :
    Calls Try.prog 13 #[.int .i64 k, .int .i64 m, .slice x n c] w fun e w' => Below w.heap.size w w' ∧
      ∃ B c2 G1 C1, e = .returned (.tuple #[.slice (some ⟨B, 0, none⟩) (k + m) c2, .int .i64 0]) ∧ Own w.heap.size w' B (k + m) (16 * stN k n) G1 C1 (encF k m (dealF k n f)) := by
  have hc := rcode_yes (k : Int) (m : Int) w ⟨by omega, by omega, by omega⟩
  have hl := rlength_yes k n w h1 (by omega) hn
  have hs5 : stN k n ≤ 4096 := Nat.le_trans (stN_le h1) hn
  have HX : Hid (RowAt w x n f) := hx
  obtain ⟨D, hD⟩ : ∃ D, D = dealF k n f := ⟨_, rfl⟩
  have hDl : ∀ r j, D r j < 256 := by rw [hD]; exact dealF_lt hf
  have HD : Hid ((∀ r j, D r j < 256) ∧ ∀ i a, D i a = if posO k i a < n then f (posO k i a) else 0) := ⟨hDl, fun i a => by rw [hD]; rfl⟩
  have henc : ∀ (v : World) B c0 G C, Own w.heap.size v B k (16 * stN k n) G C D → Calls Try.prog 24 #[.int .i64 k, .int .i64 m, .slice (some ⟨B, 0, none⟩) k c0] v fun e w' => Below v.heap.size v w' ∧
      ∃ B c2 G1 C1, e = .returned (.tuple #[.slice (some ⟨B, 0, none⟩) (k + m) c2, .int .i64 0]) ∧ Own v.heap.size w' B (k + m) (16 * stN k n) G1 C1 (encF k m D) := fun v B c0 G C ho =>
    rencode_yes k m _ B 0 c0 _ C D v h1 h2 h3 (by omega) ho.mat.grid
  rw [← hD]
  obtain ⟨L, hL⟩ : ∃ L, L = 16 * stN k n := ⟨_, rfl⟩
  rw [← hL] at hl ⊢
  simp only [← hL] at henc
  have hL5 : L ≤ 65536 := by omega
  obtain ⟨s, hs⟩ : ∃ s, s = k + m := ⟨_, rfl⟩
  rw [← hs]
  simp only [← hs] at henc
  have hk5 : k ≤ 254 := by omega
  have HA : Hid (∃ G1 C1, Grow w.heap.size w (w.alloc (.cells #[] 22)) (.slice (some ⟨w.heap.size, 0, none⟩) 0 0) 0 L G1 C1 D) := ⟨fun _ => 0, fun _ => 0, grow_start w L _ _ _ hDl⟩
  clear hx hD hDl hL hs h2 h3 hf hs5
  go_enter Try.func13, Try.ntmps13
  go_wp2_with (first
    | (go_at_call 16; refine hc.mono ?_; rintro e w' ⟨rfl, rfl⟩; clear hc)
    | (go_at_call 9; refine hl.mono ?_; rintro e w' ⟨rfl, rfl⟩; clear hl))
  go_loopw [10, 11] (fun V i wr => ∃ q : Nat, q ≤ k ∧ i = .int .i64 q ∧ Hid (∃ G1 C1, Grow w'.heap.size w' wr V q L G1 C1 D)) (fun _ i _ => k - (intOf i).toNat)
  case atStart => exact ⟨0, by omega, rfl, HA⟩
  case round =>
    clear HA
    obtain ⟨q, hq, rfl, HW⟩ := hrel
    obtain ⟨wo, hwo⟩ : ∃ wo, wo = wr := ⟨_, rfl⟩
    subst hwo
    by_cases hlt : q < k
    · have hqk : (q : Int) < (k : Int) := by omega
      have HR0 : Hid (RowAd wo (wo.alloc (.cells #[] 5)) (.slice (some ⟨wo.heap.size, 0, none⟩) 0 0) 0 (D q)) := rowAd_start wo _
      go_wp2_with fail
      go_loopw [12, 13] (fun R i wr => ∃ a : Nat, a ≤ L ∧ i = .int .i64 a ∧ Hid (RowAd wo wr R a (D q))) (fun _ i _ => L - (intOf i).toNat)
      case atStart => exact ⟨0, by omega, rfl, HR0⟩
      case round =>
        clear HR0
        obtain ⟨a, ha, rfl, HR⟩ := hrel
        by_cases hlt2 : a < L
        · have haL : (a : Int) < (L : Int) := by omega
          obtain ⟨a1, ha1⟩ : ∃ a1, a1 = a / 16 := ⟨_, rfl⟩
          obtain ⟨a2, ha2⟩ : ∃ a2, a2 = a % 16 := ⟨_, rfl⟩
          obtain ⟨y1, hy1⟩ : ∃ y1, y1 = a1 * k := ⟨_, rfl⟩
          obtain ⟨y2, hy2⟩ : ∃ y2, y2 = y1 + q := ⟨_, rfl⟩
          obtain ⟨y3, hy3⟩ : ∃ y3, y3 = y2 * 16 := ⟨_, rfl⟩
          obtain ⟨p, hp⟩ : ∃ p, p = y3 + a2 := ⟨_, rfl⟩
          have e1 : (a : Int).tdiv 16 = (a1 : Int) := by rw [Int.tdiv_eq_ediv_of_nonneg (by omega), ha1]; exact rfl
          have e2 : (a : Int).tmod 16 = (a2 : Int) := by rw [Int.tmod_eq_emod_of_nonneg (by omega), ha2]; exact rfl
          have f1 : (a : Int) / 16 = (a1 : Int) := by rw [ha1]; exact rfl
          have f2 : (a : Int) % 16 = (a2 : Int) := by rw [ha2]; exact rfl
          have e3 : (a1 : Int) * (k : Int) = (y1 : Int) := by rw [hy1]; exact (Int.natCast_mul _ _).symm
          have e4 : (y1 : Int) + (q : Int) = (y2 : Int) := by omega
          have e5 : (y2 : Int) * 16 = (y3 : Int) := by omega
          have e6 : (y3 : Int) + (a2 : Int) = (p : Int) := by omega
          have b1 : a1 ≤ 4096 := by omega
          have b2 : a2 ≤ 15 := by omega
          have b3 : y1 ≤ 4096 * 254 := by rw [hy1]; exact Nat.mul_le_mul b1 hk5
          have b4 : y2 ≤ 4097 * 254 := by omega
          have b5 : y3 ≤ 4097 * 254 * 16 := by omega
          have b6 : p ≤ 4098 * 254 * 16 := by omega
          have hpos : posO k q a = p := by unfold posO; rw [← ha1, ← ha2, ← hy1, ← hy2, ← hy3, ← hp]
          have hpush := push_byte wr wo.heap.size u12 a (D q) HR.out.of.own (by omega) HR.out.of.below.size
          by_cases hpn : p < n
          · have hpi : (p : Int) < (n : Int) := by omega
            rcases HX.out with h0 | ⟨xb, xo, rfl, hxb, hcell⟩
            · omega
            · rw [show D q a = f p by rw [HD.out.2, hpos, if_pos hpn]] at hpush
              obtain ⟨R', w3, hrun, ho3, hb3⟩ := hpush
              have k1 : wr.cell? ⟨xb, xo + p, none⟩ = some (.int .u8 (f p : Int)) := by
                obtain ⟨G1, C1, hG⟩ := HW.out
                exact ((hG.below.trans (HR.out.of.below.mono hG.below.size)).cell (by exact hxb)).trans (hcell p hpn)
              have HN : Hid (RowAd wo w3 R' (a + 1) (D q)) := rowAd_next HR.out.of.below hb3 ho3
              clear ho3 hb3 HR ha1 ha2 hy1 hy2 hy3 hp hpos hcell hxb
              go_wp2_with (at_builtin; refine wpList_append_run rfl _ _ 22 rfl _ _ rfl rfl hrun ?_; clear hrun)
              go_roundw
              case rel => exact ⟨a + 1, by omega, by go_num, HN⟩
              case measure => simp [intOf]; omega
          · have hpi : ¬ ((p : Int) < (n : Int)) := by omega
            rw [show D q a = 0 by rw [HD.out.2, hpos, if_neg hpn]] at hpush
            obtain ⟨R', w3, hrun, ho3, hb3⟩ := hpush
            have HN : Hid (RowAd wo w3 R' (a + 1) (D q)) := rowAd_next HR.out.of.below hb3 ho3
            clear ho3 hb3 HR ha1 ha2 hy1 hy2 hy3 hp hpos
            go_wp2_with (at_builtin; refine wpList_append_run rfl _ _ 22 rfl _ _ rfl rfl hrun ?_; clear hrun)
            go_roundw
            case rel => exact ⟨a + 1, by omega, by go_num, HN⟩
            case measure => simp [intOf]; omega
        · obtain rfl : a = L := by omega
          obtain ⟨G1, C1, hG⟩ := HW.out
          obtain ⟨gR, cR, hR, hg1, hcR, hgc⟩ := HR.out.ad
          subst hR
          obtain ⟨V', w3, hrun, G2, C2, hG2⟩ := grow_push_at hG HR.out.of.below (by omega) hg1 hcR hgc HR.out.of.own
          have HN : Hid (∃ G1 C1, Grow w'.heap.size w' w3 V' (q + 1) a G1 C1 D) := ⟨G2, C2, hG2⟩
          clear hG hG2 HR HW hgc
          go_wp2_with (at_builtin; refine wpList_append_run rfl _ _ 28 rfl _ _ rfl rfl hrun ?_; clear hrun)
          go_roundw
          case rel => exact ⟨q + 1, by omega, by go_num, HN⟩
          case measure => simp [intOf]; omega
    · obtain rfl : q = k := by omega
      obtain ⟨G1, C1, hG⟩ := HW.out
      obtain ⟨B, c2, hV, ho⟩ := grow_own hG (by omega)
      subst hV
      have HF : Hid (Below w'.heap.size w' wo) := hG.below
      have he := henc wo B c2 G1 C1 ho
      clear hG HW ho henc
      go_wp2_with (go_at_call 24; refine he.mono ?_; rintro e x2 ⟨hb2, B3, c3, G3, C3, rfl, ho3⟩; clear he)
      go_ret2
      exact ⟨HF.out.trans (hb2.mono HF.out.size), B3, c3, G3, C3, rfl, ho3.base_le HF.out.size⟩

end Go.Proofs.Ytmlaloadeeohbaa

/-
  Which shards one has, as a statement lays them: a list of bools that is written, a list of shards or none that is built by append; and what of them is told.
  Conditions: none.
-/
namespace Go.Proofs.Ytmlaloadeeohbaa
open Go.RowKit Gf
set_option linter.unusedVariables false
set_option linter.unusedSimpArgs false
set_option maxRecDepth 100000

/- Of K shards of an object: its bytes, and 0 behind them. -/
theorem toldF_deal {k m n c : Nat} {f : Nat → Nat} {g : Nat → Nat} {F : Nat → Nat → Nat} (hf : ∀ i, f i < 256) (hF : ∀ r j, F r j < 256) (h1 : 1 ≤ k) (h3 : k + m ≤ 255) (hg : ∀ r, r < k → g r < k + m) (hinj : ∀ r s, r < k → s < k → g r = g s → r = s)
    (h : ∀ r, r < k → ∀ j, j < 16 * stN k n → F (g r) j = encF k m (dealF k n f) (g r) j) {p : Nat} (hp : p < k * (16 * stN k n)) : toldF k m g F p = if p < n then f p else 0 := by
  have hX := dealF_lt (k := k) (n := n) hf
  have h0 := at_lt h1 hp
  have hi : p / 16 % k < k := Nat.mod_lt _ (by omega)
  rw [← gath_deal k n f p]
  unfold toldF gathF
  rw [decF_all (X := dealF k n f) hX (fun r j => hF _ j) h3 hg hinj (16 * stN k n) h _ _ h0, encF_data hX hi]

def hadS (h : Nat → Bool) (q : Nat) : Nat → Bool := fun i => if i < q then h i else true

def someV (hd : Nat → Bool) (G C : Nat → Nat) (L : Nat) : Nat → Value := fun r => if hd r then .slice (some ⟨G r, 0, none⟩) L (C r) else .slice none 0 0

structure Some_ (w0 w : World) (s r : Nat) (V : Value) (hd : Nat → Bool) (G C : Nat → Nat) (L : Nat) : Prop where
  below : Below w0.heap.size w0 w
  lt : w0.heap.size < w.heap.size
  have_ : w.rowIs w0.heap.size 4 s (fun j => .bool (if j < r then hd j else false))
  own : w.ownsRow (w0.heap.size + 1) 22 1 V r ((List.range r).map (someV hd G C L))

theorem some_start (w : World) (s L : Nat) (hd : Nat → Bool) (G C : Nat → Nat) :
    Some_ w ((w.alloc (.cells (madeCells #[.bool false] s) 4)).alloc (.cells #[] 22)) s 0 (.slice (some ⟨w.heap.size + 1, 0, none⟩) 0 0) hd G C L := by
  have e1 : (w.alloc (.cells (madeCells #[.bool false] s) 4)).heap.size = w.heap.size + 1 := by simp
  refine ⟨((Below.refl _ _).alloc (Nat.le_refl _) _).alloc (by simp) _, by simp; omega, ((World.rowIs_made w (.bool false) s 4).alloc _).congr (fun j _ => by simp), ?_⟩
  have := empty_cells (w.alloc (.cells (madeCells #[.bool false] s) 4)) 22
  rw [e1] at this
  exact this

/- The bool is written, the shard (or none) laid behind. -/
theorem some_put {w0 w : World} {s r L : Nat} {V u : Value} {hd : Nat → Bool} {G C : Nat → Nat} (h : Some_ w0 w s r V hd G C L) (hr : r < s) (hs : s ≤ 255) (hu : u = someV hd G C L r) :
    ∃ V' w', (Builtin.append_ #[28, 28] 28 #[V, .slice (some ⟨w.heap.size, 0, none⟩) 1 1]).run Try.prog ((w.setCell ⟨w0.heap.size, r, none⟩ (.bool (hd r))).alloc (.cells #[u] 22)) = .ok V' w' ∧
      Some_ w0 w' s (r + 1) V' hd G C L := by
  obtain ⟨i0, hi, hz0, hz1, hz2⟩ := info_parts info_row
  obtain ⟨x, hx⟩ : ∃ x, x = w.setCell ⟨w0.heap.size, r, none⟩ (.bool (hd r)) := ⟨_, rfl⟩
  have t : Touch w0.heap.size w x := by rw [hx]; exact (Touch.refl _ w).setCell (p := ⟨w0.heap.size, r, none⟩) rfl _
  have hrow : x.rowIs w0.heap.size 4 s (fun j => .bool (if j < r + 1 then hd j else false)) := by
    rw [hx]
    refine (h.have_.set r (.bool (hd r))).congr (fun j hj => ?_)
    by_cases e : j = r
    · subst e; simp
    · rw [if_neg e]
      by_cases e2 : j < r
      · rw [if_pos e2, if_pos (by omega)]
      · rw [if_neg e2, if_neg (by omega)]
  have ho : x.ownsRow (w0.heap.size + 1) 22 1 V r ((List.range r).map (someV hd G C L)) := h.own.kept (row := some w0.heap.size) ⟨t.os, t.tape, t.output, Nat.le_of_eq t.size.symm, fun i _ hne => t.block i (fun e => hne (by rw [e]))⟩ (by
    cases hv : V.ownBlock with
    | none => exact .inl rfl
    | some g => exact .inr (by have := (h.own.lt g hv).1; intro e; injection e with e; omega))
  have hsz : x.heap.size = w.heap.size := t.size
  rw [← hx, ← hsz]
  have hbase : w0.heap.size + 1 ≤ x.heap.size := by have := h.lt; omega
  obtain ⟨V', w', hr', h2, h3, h4⟩ := run_append_own (P := Try.prog) (x.alloc (.cells #[u] 22)) (w0.heap.size + 1) 28 28 22 i0 (.slice none 0 0) 1 24 Try.underlying28 hi hz0 hz1 hz2 rfl (by decide) V r _ (ho.alloc _)
    ⟨x.heap.size, 0, none⟩ 1 1 [u] rfl (one_at x _ _) (by
      intro v hv
      have : v = u := by simpa using hv
      rw [this, hu]
      unfold someV
      split <;> rfl) (by unfold maxLen; omega) (by omega) (by simp; omega)
  have hb : Below (w0.heap.size + 1) x w' := ((Below.refl _ x).alloc hbase _).grown h3 (by simp; omega) (fun k hk => (ho.lt k hk).1)
  refine ⟨V', w', hr', (h.below.trans (t.below (Nat.le_refl _))).trans (hb.mono (by omega)), by have := hb.size; have := h.lt; omega, hrow.of_block (hb.block _ (by omega)), ?_⟩
  rw [List.range_succ, List.map_append, List.map_cons, List.map_nil, ← hu]
  exact h2

theorem Some_.bools {w0 w : World} {s : Nat} {V : Value} {hd : Nat → Bool} {G C : Nat → Nat} {L : Nat} (h : Some_ w0 w s s V hd G C L) : BoolsAt w (some ⟨w0.heap.size, 0, none⟩) s hd :=
  .inr ⟨w0.heap.size, 0, rfl, h.lt, fun i hi => by
    rw [Nat.zero_add, h.have_.cell hi, if_pos hi]⟩

def someA (hd : Nat → Bool) (G : Nat → Nat) : Nat → Option Addr := fun r => if hd r then some ⟨G r, 0, none⟩ else none
def someN (hd : Nat → Bool) (C : Nat → Nat) : Nat → Nat := fun r => if hd r then C r else 0

theorem Some_.grid {w0 w : World} {s L b0 B : Nat} {V : Value} {hd : Nat → Bool} {G C : Nat → Nat} {E : Nat → Nat → Nat} (h : Some_ w0 w s s V hd G C L) (h0 : 0 < s) (hO : Own b0 w0 B s L G C E) :
    ∃ g cy, V = .slice (some ⟨g, 0, none⟩) s cy ∧ IsGrid w (some ⟨g, 0, none⟩) s (someA hd G) (someN hd (fun _ => L)) (someN hd C) E := by
  obtain ⟨g, cy, rfl, hg1, hg2, hcy, _⟩ := own_slice h.own h0
  refine ⟨g, cy, rfl, .inr ⟨g, 0, rfl, hg2, fun r hr => ?_⟩, fun r hr => ?_, hO.lt⟩
  · rw [Nat.zero_add, h.own.cellAt r (by omega)]
    simp only [List.getElem?_map, List.getElem?_range hr, Option.map_some]
    unfold someV someA someN
    cases hd r <;> rfl
  · unfold someA someN
    cases e : hd r with
    | false => exact .inl (by simp)
    | true =>
      refine .inr ⟨G r, 0, by simp, Nat.lt_of_lt_of_le (hO.hG r hr).2.1 h.below.size, fun j hj => ?_⟩
      rw [Nat.zero_add]
      exact (h.below.cell (by exact (hO.hG r hr).2.1)).trans (hO.cell r hr j (by simpa using hj))

end Go.Proofs.Ytmlaloadeeohbaa

/-
  What the laws' own awake and light answer.
  Conditions: none.
-/
namespace Go.Proofs.Ytmlaloadeeohbaa
open Go.RowKit Gf
set_option linter.unusedVariables false
set_option linter.unusedSimpArgs false
set_option maxRecDepth 100000

theorem awake_split (w : World) (Z : Array Value) (hZ : Z = madeCells #[.int .u8 0] 20) : Calls Try.prog 12 #[.int .i64 2, .int .i64 1, .slice (some ⟨w.heap.size, 0, none⟩) 20 20] (w.alloc (.cells Z 5)) fun e w' =>
    ∃ w1 A1 C1, Below w.heap.size w w1 ∧ e = .returned (.tuple #[.slice (some ⟨w1.heap.size, 0, none⟩) 3 3, .int .i64 0]) ∧ Below w.heap.size w w' ∧ w'.cell? ⟨w1.heap.size, 0, none⟩ = some (.slice A1 16 C1) := by
  have hr := World.rowIs_made w (.int .u8 0) 20 5
  rw [← hZ] at hr
  have hb : Below w.heap.size w (w.alloc (.cells Z 5)) := (Below.refl _ _).alloc (Nat.le_refl _) _
  refine (split_yes 2 1 20 20 (some ⟨w.heap.size, 0, none⟩) (fun _ => 0) (w.alloc (.cells Z 5)) (by omega) (by omega) (by omega) (by omega) (by omega) (fun _ => by omega) (.inr ⟨w.heap.size, 0, rfl, hr.lt, fun i hi => by rw [Nat.zero_add]; exact hr.cell hi⟩)).mono fun e w' ⟨w1, A1, C1, q1, q2, q3⟩ => ?_
  have h1 : Below w.heap.size w w1 := hb.trans (q1.mono hb.size)
  refine ⟨w1, A1 0, C1 0, h1, q2, h1.trans (q3.below.mono h1.size), ?_⟩
  have := q3.top 0 (by omega)
  rwa [show 16 * stN 2 20 = 16 by decide] at this

set_option maxHeartbeats 400000 in
set_option maxRecDepth 100000 in
theorem awake_any (w : World) : Calls Try.prog 11 #[] w fun e w' => e = .returned (.bool true) ∧ Below w.heap.size w w' := by
  obtain ⟨Z, hZ⟩ : ∃ Z, Z = madeCells #[Value.int .u8 0] 20 := ⟨_, rfl⟩
  have hmk : ∀ v : World, (Instr.makeSlice 22 (.int .i64 20) (.int .i64 20)).run Try.prog v = .ok (.slice (some ⟨v.heap.size, 0, none⟩) 20 20) (v.alloc (.cells Z 5)) := fun v => by
    rw [hZ]
    exact run_make_row' (P := Try.prog) 22 5 (.int .u8 0) 1 Try.underlying22 info_byte rfl .i64 .i64 20 (by omega) (by omega) v
  have hsp := awake_split w Z hZ
  have hln : ∀ v, Calls Try.prog 8 #[.int .i64 2, .int .i64 33] v fun e w' => e = .returned (.tuple #[.int .i64 32, .int .i64 0]) ∧ w' = v := fun v => length_yes 2 33 v (by omega) (by omega) (by omega)
  clear hZ
  go_enter Try.func11, Try.ntmps11
  go_wp2_with (first
    | (go_at_call 12; refine hsp.mono ?_; rintro e x1 ⟨w1, A1, C1, hb1, rfl, hb2, hc⟩; clear hsp)
    | (go_at_call 8; refine (hln _).mono ?_; rintro e w' ⟨rfl, rfl⟩; clear hln))
  go_ret
  exact ⟨rfl, hb2⟩

theorem slight_any (a b : Int) (w : World) : Calls Try.prog 10 #[.int .i64 a, .int .i64 b] w fun e w' => w' = w ∧ ∃ t, e = .returned (.bool t) := by
  by_cases hN : CauchyN a b
  · have hcode := rcode_yes a b w hN
    unfold CauchyN at hN
    obtain ⟨k2, rfl⟩ : ∃ k : Nat, a = k := ⟨a.toNat, by omega⟩
    obtain ⟨m2, rfl⟩ : ∃ m : Nat, b = m := ⟨b.toNat, by omega⟩
    obtain ⟨s, hs⟩ : ∃ s, s = k2 + m2 := ⟨_, rfl⟩
    have hsi : (k2 : Int) + (m2 : Int) = (s : Int) := by omega
    obtain ⟨p, hp⟩ : ∃ p, p = k2 * s := ⟨_, rfl⟩
    have hpi : (k2 : Int) * (s : Int) = (p : Int) := by rw [hp]; exact (Int.natCast_mul _ _).symm
    have hp2 : p ≤ 255 * 255 := by rw [hp]; exact Nat.mul_le_mul (by omega) (by omega)
    have hs5 : s ≤ 255 := by omega
    clear hp hs hN
    go_enter Try.func10, Try.ntmps10
    go_wp2_with (go_at_call 16; refine hcode.mono ?_; rintro e w' ⟨rfl, rfl⟩)
    go_ret
    exact ⟨rfl, _, rfl⟩
  · have hcode := rcode_no a b w hN
    clear hN
    go_enter Try.func10, Try.ntmps10
    go_wp2_with (go_at_call 16; refine hcode.mono ?_; rintro e w' ⟨rfl, rfl⟩)
    go_ret
    exact ⟨rfl, _, rfl⟩

/- A struct of four cells that a law is handed, in its box. -/
theorem box4 (w : World) (v0 v1 v2 v3 : Value) (t : TypeId) : ∃ wb, wb = w.alloc (.cells #[v0, v1, v2, v3] t) ∧ Below w.heap.size w wb ∧ wb.heap.size = w.heap.size + 1 ∧
    ∀ v, Below wb.heap.size wb v → v.cell? ⟨w.heap.size, 0, none⟩ = some v0 ∧ v.cell? ⟨w.heap.size, 1, none⟩ = some v1 ∧ v.cell? ⟨w.heap.size, 2, none⟩ = some v2 ∧ v.cell? ⟨w.heap.size, 3, none⟩ = some v3 := by
  have rb := World.rowIs_alloc w #[v0, v1, v2, v3] t (fun i => if i = 0 then v0 else if i = 1 then v1 else if i = 2 then v2 else v3) (fun i hi => by
    have hi2 : i < 4 := by simpa using hi
    match i, hi2 with
    | 0, _ => rfl
    | 1, _ => rfl
    | 2, _ => rfl
    | 3, _ => rfl)
  have hs : w.heap.size < (w.alloc (.cells #[v0, v1, v2, v3] t)).heap.size := by simp
  exact ⟨_, rfl, (Below.refl _ _).alloc (Nat.le_refl _) _, by simp, fun v hv =>
    ⟨(hv.cell (by exact hs)).trans (rb.cell (i := 0) (by simp)), (hv.cell (by exact hs)).trans (rb.cell (i := 1) (by simp)), (hv.cell (by exact hs)).trans (rb.cell (i := 2) (by simp)), (hv.cell (by exact hs)).trans (rb.cell (i := 3) (by simp))⟩⟩

end Go.Proofs.Ytmlaloadeeohbaa

/-
  What a law is told of a struct with a code, an object and which shards one has, and of two numbers that came in, with their reach.
  Conditions: none.
-/
namespace Go.Proofs.Ytmlaloadeeohbaa
open Go.RowKit Gf Go.ChangeShapes Go.WideShapes Go.Deep
set_option linter.unusedVariables false
set_option linter.unusedSimpArgs false
set_option maxRecDepth 100000

theorem okWide_array {P : Program} {w : World} {base : Nat} {t e : TypeId} {k : Nat} {v : Value} (ht : P.underlying t = some (.array k e)) (h : Value.okWide P w .any base t v) : ∃ cs, v = .agg cs ∧ cs.size = P.cellsOf t := by
  simp only [Value.okWide, ht] at h
  obtain ⟨cs, h1, h2, _⟩ := h
  exact ⟨cs, h1, h2⟩

structure SLostIn (w : World) (K M : Int) (a : Option Addr) (len cap : Nat) (y : Option Addr) (p c : Nat) (f : Nat → Nat) (h : Nat → Bool) : Prop where
  k : (Lit.int .i64 K).wf = true
  m : (Lit.int .i64 M).wf = true
  data : BytesIn w a len cap f
  have_ : BoolsIn w y p c h

section
variable {H : Type} {enc : TypeId × Value → H} {W : World} {base : Nat} {held : Bool} {v : Value} {d : DataW H} {p : List MemPlace}

theorem slost_in (hv : ∃ cs, v = .agg cs ∧ cs.size = Try.prog.cellsOf 35) (h : DataW.Trod enc Try.prog W base (fun _ => true) held 35 v d p) (hw : ∀ x ∈ d.weights Try.prog 35, x ≤ reachBytes) :
    ∃ K M a len cap y q c f g, v = .agg #[.int .i64 K, .int .i64 M, .slice a len cap, .slice y q c] ∧ SLostIn W K M a len cap y q c f g := by
  obtain ⟨cs, rfl, hcs⟩ := hv
  obtain ⟨fuel, hf⟩ := h
  have h4 : Try.prog.cellsOf 35 = 4 := by kernel_rfl
  have c3 : Try.prog.cellsOf 3 = 1 := by kernel_rfl
  have c22 : Try.prog.cellsOf 22 = 1 := by kernel_rfl
  have c31 : Try.prog.cellsOf 33 = 1 := by kernel_rfl
  rw [h4] at hcs
  obtain ⟨xs, n, _, hx, _, hxl, hF⟩ := DataW.trod_struct Try.underlying35 hf
  simp only [Prod.mk.injEq] at hx
  obtain ⟨hd, _⟩ := hx
  subst hd
  obtain ⟨x0, x1, x2, x3, rfl⟩ : ∃ x0 x1 x2 x3, xs = [x0, x1, x2, x3] := by
    match xs, hxl with
    | [x0, x1, x2, x3], _ => exact ⟨x0, x1, x2, x3, rfl⟩
  obtain ⟨e0, e1, e2, e3, rfl⟩ : ∃ e0 e1 e2 e3, cs = #[e0, e1, e2, e3] := by
    obtain ⟨l⟩ := cs
    match l, hcs with
    | [e0, e1, e2, e3], _ => exact ⟨e0, e1, e2, e3, rfl⟩
  have f0' : DataW.trod enc Try.prog W base (fun _ => true) held n 3 (([e0, e1, e2, e3].drop 0).take (Try.prog.cellsOf 3)) = some x0 := hF 0 _ rfl
  rw [c3] at f0'
  have f0 : DataW.trod enc Try.prog W base (fun _ => true) held n 3 [e0] = some x0 := f0'
  have f1' : DataW.trod enc Try.prog W base (fun _ => true) held n 3 (([e0, e1, e2, e3].drop 1).take (Try.prog.cellsOf 3)) = some x1 := hF 1 _ rfl
  rw [c3] at f1'
  have f1 : DataW.trod enc Try.prog W base (fun _ => true) held n 3 [e1] = some x1 := f1'
  have f2' : DataW.trod enc Try.prog W base (fun _ => true) held n 22 (([e0, e1, e2, e3].drop 2).take (Try.prog.cellsOf 22)) = some x2 := hF 2 _ rfl
  rw [c22] at f2'
  have f2 : DataW.trod enc Try.prog W base (fun _ => true) held n 22 [e2] = some x2 := f2'
  have f3' : DataW.trod enc Try.prog W base (fun _ => true) held n 33 (([e0, e1, e2, e3].drop 3).take (Try.prog.cellsOf 33)) = some x3 := hF 3 _ rfl
  rw [c31] at f3'
  have f3 : DataW.trod enc Try.prog W base (fun _ => true) held n 33 [e3] = some x3 := f3'
  obtain ⟨K, k1, _, k3⟩ := DataW.trod_int Try.underlying3 f0
  obtain ⟨M, m1, _, m3⟩ := DataW.trod_int Try.underlying3 f1
  simp only [DataW.weights, Try.underlying35] at hw
  obtain ⟨a, len, cap, f, g1, g2⟩ := bytes_in (d := x2.1) (p := x2.2) f2 (fun x hx => hw x (DataW.weights_mem_each (j := 2) (t := 22) rfl rfl x hx))
  obtain ⟨y, q, c, g, b1, b2⟩ := bools_in (d := x3.1) (p := x3.2) f3 (fun x hx => hw x (DataW.weights_mem_each (j := 3) (t := 33) rfl rfl x hx))
  refine ⟨K, M, a, len, cap, y, q, c, f, g, ?_, k3, m3, g2, b2⟩
  simp at k1 m1 g1 b1
  rw [k1, m1, g1, b1]

theorem stwo_in {v : Value} (hv : ∃ cs, v = .agg cs ∧ cs.size = Try.prog.cellsOf 41) (h : DataW.Trod enc Try.prog W base (fun _ => true) held 41 v d p) :
    ∃ V U : Int, v = .agg #[.int .i64 V, .int .i64 U] ∧ (Lit.int .i64 V).wf = true ∧ (Lit.int .i64 U).wf = true := by
  have a_two : Try.prog.cellsOf 41 = 2 := by kernel_rfl
  have one_cell : Try.prog.cellsOf 3 = 1 := by kernel_rfl
  obtain ⟨cs, rfl, hcs⟩ := hv
  obtain ⟨fuel, hf⟩ := h
  rw [a_two] at hcs
  obtain ⟨e0, e1, rfl⟩ : ∃ e0 e1, cs = #[e0, e1] := by
    obtain ⟨l⟩ := cs
    match l, hcs with
    | [e0, e1], _ => exact ⟨e0, e1, rfl⟩
  change DataW.trod enc Try.prog W base (fun _ => true) held fuel 41 [e0, e1] = some (d, p) at hf
  obtain ⟨xs, n, _, hx, _, hxl, hF⟩ := DataW.trod_array Try.underlying41 hf
  obtain ⟨x0, x1, rfl⟩ : ∃ x0 x1, xs = [x0, x1] := by
    match xs, hxl with
    | [x0, x1], _ => exact ⟨x0, x1, rfl⟩
  have f0' := hF 0 (by omega)
  rw [one_cell] at f0'
  have f0 : DataW.trod enc Try.prog W base (fun _ => true) held n 3 [e0] = some (x0.1, x0.2) := f0'
  have f1' := hF 1 (by omega)
  rw [one_cell] at f1'
  have f1 : DataW.trod enc Try.prog W base (fun _ => true) held n 3 [e1] = some (x1.1, x1.2) := f1'
  obtain ⟨v0, q0, _, z0⟩ := DataW.trod_int Try.underlying3 f0
  obtain ⟨v1, q1, _, z1⟩ := DataW.trod_int Try.underlying3 f1
  simp at q0 q1
  subst q0 q1
  exact ⟨v0, v1, rfl, z0, z1⟩

end

end Go.Proofs.Ytmlaloadeeohbaa

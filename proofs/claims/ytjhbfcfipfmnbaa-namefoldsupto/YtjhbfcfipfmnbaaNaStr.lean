/-
  A text's bytes as plain numbers.
  Conditions: none.
-/
import Derived.Test.YtjhbfcfipfmnbaaNaPlain
import Derived.Test.YtjhbfcfipfmnbaaRows
import Derived.WalkKit
import Derived.Lib.Strings
namespace Go.Proofs.Ytjhbfcfipfmnbaa.Na
set_option linter.unusedVariables false
set_option linter.unusedSimpArgs false

def nat (s : ByteArray) : List Nat := s.data.toList.map UInt8.toNat

theorem nat_length (s : ByteArray) : (nat s).length = s.size := by
  unfold nat
  rw [List.length_map, Array.length_toList]
  rfl

theorem nat_lt (s : ByteArray) : ∀ x ∈ nat s, x < 256 := by
  intro x hx
  obtain ⟨b, _, rfl⟩ := List.mem_map.1 hx
  exact b.toNat_lt

theorem nat_get (s : ByteArray) (i : Nat) (h : i < s.size) : (s[i]'h).toNat = (nat s).getD i 0 := by
  have h1 : i < s.data.toList.length := by rw [Array.length_toList]; exact h
  have e : s.data.toList[i]? = some (s[i]'h) := by
    rw [List.getElem?_eq_getElem h1]
    rfl
  simp [nat, List.getD, e]

theorem nat_get! (s : ByteArray) (i : Nat) : (s.get! i).toNat = (nat s).getD i 0 := by
  by_cases h : i < s.size
  · rw [← nat_get s i h]
    have := get_at s i h
    rw [Nat.add_zero] at this
    rw [this]
  · have h1 : s.get! i = default := by
      have h3 : s.data[i]? = none := Array.getElem?_eq_none (Nat.le_of_not_lt h)
      simp [ByteArray.get!, getElem!_def, h3]
    rw [h1]
    have h2 : (nat s).length ≤ i := by rw [nat_length]; omega
    simp [List.getD, List.getElem?_eq_none h2]
    rfl

theorem getD_drop (l : List Nat) (p k : Nat) : (l.drop p).getD k 0 = l.getD (p + k) 0 := by
  simp [List.getD, List.getElem?_drop]

theorem decode_nat (s : ByteArray) (p : Nat) : Utf8.decode s p = dec ((nat s).drop p) := by
  rw [Lib.decode_at, dec, List.length_drop, nat_length, nat_get!, nat_get!, nat_get!, nat_get!]
  simp only [getD_drop, Nat.add_zero]

theorem nat_inj {s t : ByteArray} (h : nat s = nat t) : s = t := by
  have : s.data.toList = t.data.toList := by
    refine List.map_inj_right (f := UInt8.toNat) ?_ |>.1 h
    intro a b e
    exact UInt8.toNat_inj.1 e
  exact ByteArray.ext (Array.toList_inj.1 this)

theorem nat_toList (s : ByteArray) : s.toList = s.data.toList := ByteArray.toList_eq s

theorem beq_nat (s t : ByteArray) (b : Bool) (h : nat s = nat t ↔ b = true) : (s.toList == t.toList) = b := by
  rw [nat_toList, nat_toList]
  cases b with
  | true =>
    have := nat_inj (h.2 rfl)
    subst this
    simp
  | false =>
    have hne : s.data.toList ≠ t.data.toList := fun e => by
      have := h.1 (by unfold nat; rw [e])
      cases this
    simpa using hne

theorem nat_extract (s : ByteArray) (a b : Nat) : nat (s.extract a b) = ((nat s).take b).drop a := by
  unfold nat
  rw [ByteArray.data_extract, Array.toList_extract]
  simp [List.extract_eq_take_drop, List.map_drop, List.map_take, List.drop_take]

def str (l : List Nat) : ByteArray := ⟨(l.map UInt8.ofNat).toArray⟩

theorem nat_str {l : List Nat} (h : ∀ x ∈ l, x < 256) : nat (str l) = l := by
  unfold nat str
  simp only [List.map_map]
  conv => rhs; rw [← List.map_id l]
  refine List.map_congr_left fun x hx => ?_
  simp [Function.comp, UInt8.toNat_ofNat', Nat.mod_eq_of_lt (h x hx)]

theorem str_nat (s : ByteArray) : str (nat s) = s := nat_inj (nat_str (nat_lt s))

theorem str_size (l : List Nat) : (str l).size = l.length := by
  show (l.map UInt8.ofNat).toArray.size = l.length
  simp

def lessN : List Nat → List Nat → Bool
  | _, [] => false
  | [], _ :: _ => true
  | a :: x, b :: y => decide (a < b) || (a == b && lessN x y)

theorem less_map : ∀ x y : List UInt8, Op.bytesLess x y = lessN (x.map UInt8.toNat) (y.map UInt8.toNat)
  | [], [] => rfl
  | _ :: _, [] => rfl
  | [], _ :: _ => rfl
  | a :: x, b :: y => by
    simp only [Op.bytesLess, List.map_cons, lessN, less_map x y]
    congr 1
    congr 1
    rw [Bool.eq_iff_iff]
    simp [UInt8.toNat_inj]

theorem less_nat (s t : ByteArray) : Op.bytesLess s.toList t.toList = lessN (nat s) (nat t) := by
  rw [nat_toList, nat_toList, less_map]
  rfl

end Go.Proofs.Ytjhbfcfipfmnbaa.Na

/-
  5 texts of this proof, one behind the other: NaPlain, NaStr, NaOrder, NaCalls, NaCount.
-/
import Derived.Lib.DecodeN
import Derived.Test.YtnfflmndejbepaaRows
import Derived.WalkKit
import Derived.Lib.Strings
import Derived.WalkSpells
import Derived.WalkLawsBesides
import Derived.Laws.Strings3
import Derived.Laws.Runes
import Derived.Laws.RangeAny
import Derived.Below
/-
  Texts as runes: how a rune is written, what the decoder tells of any bytes, and that every text is runes one behind the other, up to its end or up to where none is.
  Conditions: none.
-/
namespace Go.Proofs.Ytnfflmndejbepaa.Na
set_option linter.unusedVariables false
set_option linter.unusedSimpArgs false
set_option maxRecDepth 100000

def ok (r : Nat) : Prop := r < 55296 ∨ (57344 ≤ r ∧ r < 1114112)

def encN (r : Nat) : List Nat :=
  if r < 128 then [r]
  else if r < 2048 then [192 + r / 64, 128 + r % 64]
  else if r < 65536 then [224 + r / 4096, 128 + r / 64 % 64, 128 + r % 64]
  else [240 + r / 262144, 128 + r / 4096 % 64, 128 + r / 64 % 64, 128 + r % 64]

def width (r : Nat) : Nat := if r < 128 then 1 else if r < 2048 then 2 else if r < 65536 then 3 else 4

theorem enc_length (r : Nat) : (encN r).length = width r := by
  unfold encN width
  repeat' split
  all_goals rfl

theorem width_pos (r : Nat) : 1 ≤ width r := by unfold width; repeat' split
                                                all_goals omega
theorem width_le (r : Nat) : width r ≤ 4 := by unfold width; repeat' split
                                               all_goals omega

theorem enc_lt {r : Nat} (h : ok r) : ∀ x ∈ encN r, x < 256 := by
  intro x hx
  unfold ok at h
  unfold encN at hx
  repeat' split at hx
  all_goals simp at hx
  all_goals omega

theorem enc_one {r : Nat} (h : r < 128) : encN r = [r] := by simp [encN, h]
theorem enc_two {r : Nat} (h : 128 ≤ r) (h1 : r < 2048) : encN r = [192 + r / 64, 128 + r % 64] := by simp [encN, h1, show ¬ r < 128 by omega]
theorem enc_three {r : Nat} (h : 2048 ≤ r) (h1 : r < 65536) : encN r = [224 + r / 4096, 128 + r / 64 % 64, 128 + r % 64] := by simp [encN, h1, show ¬ r < 128 by omega, show ¬ r < 2048 by omega]
theorem enc_four {r : Nat} (h : 65536 ≤ r) : encN r = [240 + r / 262144, 128 + r / 4096 % 64, 128 + r / 64 % 64, 128 + r % 64] := by simp [encN, show ¬ r < 128 by omega, show ¬ r < 2048 by omega, show ¬ r < 65536 by omega]

def dec (l : List Nat) : Nat × Nat := Lib.decodeN l.length (l.getD 0 0) (l.getD 1 0) (l.getD 2 0) (l.getD 3 0)

theorem dec_enc (r : Nat) (t : List Nat) (h : ok r) : dec (encN r ++ t) = (r, width r) := by
  unfold ok at h
  by_cases h1 : r < 128
  · simp [dec, enc_one h1, Lib.decodeN, h1, width]
  · by_cases h2 : r < 2048
    · rw [enc_two (by omega) h2]
      have e : width r = 2 := by simp [width, h1, h2]
      simp only [dec, List.length_append, List.length_cons, List.length_nil, List.cons_append, List.nil_append, List.getD_cons_zero, List.getD_cons_succ, e]
      unfold Lib.decodeN
      rw [if_neg (by omega), if_pos (by omega), if_pos (by omega)]
      exact Prod.ext (by simp only; omega) rfl
    · by_cases h3 : r < 65536
      · rw [enc_three (by omega) h3]
        have e : width r = 3 := by simp [width, h1, h2, h3]
        simp only [dec, List.length_append, List.length_cons, List.length_nil, List.cons_append, List.nil_append, List.getD_cons_zero, List.getD_cons_succ, e]
        unfold Lib.decodeN
        rw [if_neg (by omega), if_neg (by omega), if_pos (by omega), if_pos (by omega)]
        exact Prod.ext (by simp only; omega) rfl
      · rw [enc_four (by omega)]
        have e : width r = 4 := by simp [width, h1, h2, h3]
        simp only [dec, List.length_append, List.length_cons, List.length_nil, List.cons_append, List.nil_append, List.getD_cons_zero, List.getD_cons_succ, e]
        unfold Lib.decodeN
        rw [if_neg (by omega), if_neg (by omega), if_neg (by omega), if_pos (by omega), if_pos (by omega)]
        exact Prod.ext (by simp only; omega) rfl

theorem enc_ne (r : Nat) : (r, width r) ≠ (65533, 1) := by
  intro h
  injection h with h1 h2
  subst h1
  simp [width] at h2

def bad : Nat × Nat := (65533, 1)

theorem dec_cases (l : List Nat) (hl : l ≠ []) (hb : ∀ x ∈ l, x < 256) : dec l = (65533, 1) ∨ ∃ r t, ok r ∧ l = encN r ++ t := by
  by_cases hbad : dec l = (65533, 1)
  · exact .inl hbad
  · refine .inr ?_
    match l, hl with
    | b0 :: l, _ =>
      have h0 : b0 < 256 := hb b0 (by simp)
      by_cases a1 : b0 < 128
      · exact ⟨b0, l, by unfold ok; omega, by rw [enc_one a1]; rfl⟩
      · match l with
        | [] =>
          exact absurd (by simp only [dec, Lib.decodeN, List.length_cons, List.length_nil, List.getD_cons_zero]; rw [if_neg a1, if_neg (by omega), if_neg (by omega), if_neg (by omega)]) hbad
        | b1 :: l =>
          have h1 : b1 < 256 := hb b1 (by simp)
          by_cases a2 : b0 / 32 = 6 ∧ b1 / 64 = 2 ∧ b0 % 32 * 64 + b1 % 64 ≥ 128
          · refine ⟨b0 % 32 * 64 + b1 % 64, l, by unfold ok; omega, ?_⟩
            rw [enc_two (by omega) (by omega), show 192 + (b0 % 32 * 64 + b1 % 64) / 64 = b0 by omega, show 128 + (b0 % 32 * 64 + b1 % 64) % 64 = b1 by omega]
            rfl
          · match l with
            | [] =>
              refine absurd ?_ hbad
              simp only [dec, Lib.decodeN, List.length_cons, List.length_nil, List.getD_cons_zero, List.getD_cons_succ]
              rw [if_neg a1]
              split
              · rw [if_neg (by omega)]
              · rw [if_neg (by omega), if_neg (by omega)]
            | b2 :: l =>
              have h2 : b2 < 256 := hb b2 (by simp)
              by_cases a3 : b0 / 16 = 14 ∧ b1 / 64 = 2 ∧ b2 / 64 = 2 ∧ b0 % 16 * 4096 + b1 % 64 * 64 + b2 % 64 ≥ 2048 ∧ (b0 % 16 * 4096 + b1 % 64 * 64 + b2 % 64 < 55296 ∨ 57344 ≤ b0 % 16 * 4096 + b1 % 64 * 64 + b2 % 64)
              · refine ⟨b0 % 16 * 4096 + b1 % 64 * 64 + b2 % 64, l, by unfold ok; omega, ?_⟩
                rw [enc_three (by omega) (by omega), show 224 + (b0 % 16 * 4096 + b1 % 64 * 64 + b2 % 64) / 4096 = b0 by omega, show 128 + (b0 % 16 * 4096 + b1 % 64 * 64 + b2 % 64) / 64 % 64 = b1 by omega,
                  show 128 + (b0 % 16 * 4096 + b1 % 64 * 64 + b2 % 64) % 64 = b2 by omega]
                rfl
              · match l with
                | [] =>
                  refine absurd ?_ hbad
                  simp only [dec, Lib.decodeN, List.length_cons, List.length_nil, List.getD_cons_zero, List.getD_cons_succ]
                  rw [if_neg a1]
                  split
                  · rw [if_neg (by omega)]
                  · split
                    · rw [if_neg (by omega)]
                    · rw [if_neg (by omega)]
                | b3 :: l =>
                  have h3 : b3 < 256 := hb b3 (by simp)
                  by_cases a4 : b0 / 8 = 30 ∧ b1 / 64 = 2 ∧ b2 / 64 = 2 ∧ b3 / 64 = 2 ∧ b0 % 8 * 262144 + b1 % 64 * 4096 + b2 % 64 * 64 + b3 % 64 ≥ 65536 ∧ b0 % 8 * 262144 + b1 % 64 * 4096 + b2 % 64 * 64 + b3 % 64 < 1114112
                  · refine ⟨b0 % 8 * 262144 + b1 % 64 * 4096 + b2 % 64 * 64 + b3 % 64, l, by unfold ok; omega, ?_⟩
                    rw [enc_four (by omega), show 240 + (b0 % 8 * 262144 + b1 % 64 * 4096 + b2 % 64 * 64 + b3 % 64) / 262144 = b0 by omega, show 128 + (b0 % 8 * 262144 + b1 % 64 * 4096 + b2 % 64 * 64 + b3 % 64) / 4096 % 64 = b1 by omega,
                      show 128 + (b0 % 8 * 262144 + b1 % 64 * 4096 + b2 % 64 * 64 + b3 % 64) / 64 % 64 = b2 by omega, show 128 + (b0 % 8 * 262144 + b1 % 64 * 4096 + b2 % 64 * 64 + b3 % 64) % 64 = b3 by omega]
                    rfl
                  · refine absurd ?_ hbad
                    simp only [dec, Lib.decodeN, List.length_cons, List.getD_cons_zero, List.getD_cons_succ]
                    rw [if_neg a1]
                    split
                    · rw [if_neg (by omega)]
                    · split
                      · rw [if_neg (by omega)]
                      · split
                        · rw [if_neg (by omega)]
                        · rfl

/- A text: runes, and a rest that is none or begins with no rune. -/
def flat (rs : List Nat) : List Nat := rs.flatMap encN

theorem flat_cons (r : Nat) (rs : List Nat) : flat (r :: rs) = encN r ++ flat rs := rfl
theorem flat_append (a b : List Nat) : flat (a ++ b) = flat a ++ flat b := List.flatMap_append ..

structure Txt (l : List Nat) (rs t : List Nat) : Prop where
  eq : l = flat rs ++ t
  ok : ∀ r ∈ rs, ok r
  rest : t = [] ∨ dec t = (65533, 1)
  lt : ∀ x ∈ l, x < 256

theorem txt_any (l : List Nat) (h : ∀ x ∈ l, x < 256) : ∃ rs t, Txt l rs t := by
  generalize hn : l.length = n
  induction n using Nat.strongRecOn generalizing l with
  | ind n ih =>
    by_cases hl : l = []
    · subst hl
      exact ⟨[], [], ⟨rfl, (fun r hr => by cases hr), .inl rfl, h⟩⟩
    · rcases dec_cases l hl h with hd | ⟨r, t, hr, rfl⟩
      · exact ⟨[], l, ⟨rfl, (fun r hr => by cases hr), .inr hd, h⟩⟩
      · have hw := enc_length r
        have hp := width_pos r
        obtain ⟨rs, t', h1⟩ := ih t.length (by rw [← hn]; simp only [List.length_append]; omega) t (fun x hx => h x (List.mem_append_right _ hx)) rfl
        refine ⟨r :: rs, t', ?_, fun x hx => ?_, h1.rest, h⟩
        · rw [flat_cons, List.append_assoc, ← h1.eq]
        · rcases List.mem_cons.1 hx with rfl | hx
          · exact hr
          · exact h1.ok x hx

def pos (rs : List Nat) (k : Nat) : Nat := (flat (rs.take k)).length

theorem pos_zero (rs : List Nat) : pos rs 0 = 0 := rfl

theorem take_snoc {rs : List Nat} {k : Nat} (hk : k < rs.length) : rs.take (k + 1) = rs.take k ++ [rs.getD k 0] := by
  rw [List.take_add_one, List.getElem?_eq_getElem hk]
  simp [List.getD, List.getElem?_eq_getElem hk]

theorem pos_succ {rs : List Nat} {k : Nat} (hk : k < rs.length) : pos rs (k + 1) = pos rs k + width (rs.getD k 0) := by
  unfold pos
  rw [take_snoc hk, flat_append, List.length_append, flat_cons]
  simp [flat, enc_length]

theorem pos_le (rs : List Nat) (k : Nat) (hk : k ≤ rs.length) : k ≤ pos rs k := by
  induction k with
  | zero => omega
  | succ k ih =>
    have := ih (by omega)
    rw [pos_succ (by omega)]
    have := width_pos (rs.getD k 0)
    omega

theorem pos_all (rs : List Nat) : pos rs rs.length = (flat rs).length := by unfold pos; rw [List.take_length]

theorem Txt.drop {l rs t : List Nat} (h : Txt l rs t) {k : Nat} (hk : k ≤ rs.length) : l.drop (pos rs k) = flat (rs.drop k) ++ t := by
  have e : l = flat (rs.take k) ++ (flat (rs.drop k) ++ t) := by
    rw [h.eq, ← List.append_assoc, ← flat_append, List.take_append_drop]
  rw [e, pos, List.drop_left]

theorem Txt.take {l rs t : List Nat} (h : Txt l rs t) {k : Nat} (hk : k ≤ rs.length) : l.take (pos rs k) = flat (rs.take k) := by
  have e : l = flat (rs.take k) ++ (flat (rs.drop k) ++ t) := by
    rw [h.eq, ← List.append_assoc, ← flat_append, List.take_append_drop]
  rw [e, pos, List.take_left]

theorem drop_head {rs : List Nat} {k : Nat} (hk : k < rs.length) : rs.drop k = rs.getD k 0 :: rs.drop (k + 1) := by
  rw [List.drop_eq_getElem_cons hk]
  simp [List.getD, List.getElem?_eq_getElem hk]

theorem Txt.at {l rs t : List Nat} (h : Txt l rs t) {k : Nat} (hk : k < rs.length) : l.drop (pos rs k) = encN (rs.getD k 0) ++ (flat (rs.drop (k + 1)) ++ t) := by
  rw [h.drop (Nat.le_of_lt hk), drop_head hk, flat_cons, List.append_assoc]

theorem getD_mem {rs : List Nat} {k : Nat} (hk : k < rs.length) : rs.getD k 0 ∈ rs := by
  simp [List.getD, List.getElem?_eq_getElem hk]

theorem Txt.dec {l rs t : List Nat} (h : Txt l rs t) {k : Nat} (hk : k < rs.length) : dec (l.drop (pos rs k)) = (rs.getD k 0, width (rs.getD k 0)) := by
  rw [h.at hk]
  exact dec_enc _ _ (h.ok _ (getD_mem hk))

theorem Txt.len {l rs t : List Nat} (h : Txt l rs t) : l.length = pos rs rs.length + t.length := by
  rw [h.eq, List.length_append, pos_all]

theorem pos_mono {rs : List Nat} {k m : Nat} (h : k ≤ m) (hm : m ≤ rs.length) : pos rs k ≤ pos rs m := by
  induction m with
  | zero => have : k = 0 := by omega
            subst this; exact Nat.le_refl _
  | succ m ih =>
    by_cases e : k = m + 1
    · subst e; exact Nat.le_refl _
    · have := ih (by omega) (by omega)
      rw [pos_succ (by omega)]
      omega

theorem Txt.pos_lt {l rs t : List Nat} (h : Txt l rs t) {k : Nat} (hk : k < rs.length) : pos rs k + width (rs.getD k 0) ≤ l.length := by
  rw [h.len, ← pos_succ hk]
  have := pos_mono (rs := rs) (k := k + 1) (m := rs.length) (by omega) (Nat.le_refl _)
  omega

theorem enc_head_repl (t : List Nat) : dec (239 :: 191 :: 189 :: t) = (65533, 3) := by
  have := dec_enc 65533 t (by unfold ok; omega)
  simpa [encN, width] using this

/- A text's own reading is the only one. -/
theorem dec_nil : dec [] = (0, 1) := rfl

theorem txt_one {l rs t rs' t' : List Nat} (h : Txt l rs t) (h' : Txt l rs' t') : rs = rs' ∧ t = t' := by
  induction rs generalizing l rs' with
  | nil =>
    have e : l = t := by simpa [flat] using h.eq
    subst e
    cases rs' with
    | nil => exact ⟨rfl, by simpa [flat] using h'.eq⟩
    | cons r rs' =>
      have hr := h'.ok r (by simp)
      have e1 : l = encN r ++ (flat rs' ++ t') := by rw [h'.eq, flat_cons, List.append_assoc]
      have hd := dec_enc r (flat rs' ++ t') hr
      rw [← e1] at hd
      rcases h.rest with h0 | h0
      · rw [h0] at e1
        have := congrArg List.length e1
        have := width_pos r
        simp only [List.length_append, List.length_nil, enc_length] at *
        omega
      · rw [hd] at h0
        exact absurd h0 (enc_ne r)
  | cons r rs ih =>
    have hr := h.ok r (by simp)
    have e0 : l = encN r ++ (flat rs ++ t) := by rw [h.eq, flat_cons, List.append_assoc]
    have hd := dec_enc r (flat rs ++ t) hr
    rw [← e0] at hd
    cases rs' with
    | nil =>
      have e : l = t' := by simpa [flat] using h'.eq
      rcases h'.rest with h1 | h1
      · rw [e, h1] at e0
        have := congrArg List.length e0
        have := width_pos r
        simp only [List.length_append, List.length_nil, enc_length] at *
        omega
      · rw [← e, hd] at h1
        exact absurd h1 (enc_ne r)
    | cons r' rs' =>
      have hr' := h'.ok r' (by simp)
      have e1 : l = encN r' ++ (flat rs' ++ t') := by rw [h'.eq, flat_cons, List.append_assoc]
      have hd' := dec_enc r' (flat rs' ++ t') hr'
      rw [← e1, hd] at hd'
      injection hd' with h1 h2
      subst h1
      have e2 : flat rs ++ t = flat rs' ++ t' := List.append_cancel_left (e0.symm.trans e1)
      have := ih (l := flat rs ++ t) (rs' := rs') ⟨rfl, fun x hx => h.ok x (by simp [hx]), h.rest, fun x hx => h.lt x (by rw [e0]; exact List.mem_append_right _ hx)⟩
        ⟨e2, fun x hx => h'.ok x (by simp [hx]), h'.rest, fun x hx => h.lt x (by rw [e0]; exact List.mem_append_right _ hx)⟩
      exact ⟨by rw [this.1], this.2⟩

end Go.Proofs.Ytnfflmndejbepaa.Na

/-
  A text's bytes as plain numbers.
  Conditions: none.
-/
namespace Go.Proofs.Ytnfflmndejbepaa.Na
set_option linter.unusedVariables false
set_option linter.unusedSimpArgs false
set_option maxRecDepth 100000

def nat (s : ByteArray) : List Nat := s.data.toList.map UInt8.toNat

theorem nat_length (s : ByteArray) : (nat s).length = s.size := by
  unfold nat
  rw [List.length_map, Array.length_toList]
  rfl

theorem nat_lt (s : ByteArray) : ∀ x ∈ nat s, x < 256 := by
  intro x hx
  obtain ⟨b, _, rfl⟩ := List.mem_map.1 hx
  exact b.toNat_lt

theorem nat_get (s : ByteArray) (i : Nat) (h : i < s.size) : (s[i]'h).toNat = (nat s).getD i 0 := by
  have h1 : i < s.data.toList.length := by rw [Array.length_toList]; exact h
  have e : s.data.toList[i]? = some (s[i]'h) := by
    rw [List.getElem?_eq_getElem h1]
    rfl
  simp [nat, List.getD, e]

theorem nat_get! (s : ByteArray) (i : Nat) : (s.get! i).toNat = (nat s).getD i 0 := by
  by_cases h : i < s.size
  · rw [← nat_get s i h]
    have := get_at s i h
    rw [Nat.add_zero] at this
    rw [this]
  · have h1 : s.get! i = default := by
      have h3 : s.data[i]? = none := Array.getElem?_eq_none (Nat.le_of_not_lt h)
      simp [ByteArray.get!, getElem!_def, h3]
    rw [h1]
    have h2 : (nat s).length ≤ i := by rw [nat_length]; omega
    simp [List.getD, List.getElem?_eq_none h2]
    rfl

theorem getD_drop (l : List Nat) (p k : Nat) : (l.drop p).getD k 0 = l.getD (p + k) 0 := by
  simp [List.getD, List.getElem?_drop]

theorem decode_nat (s : ByteArray) (p : Nat) : Utf8.decode s p = dec ((nat s).drop p) := by
  rw [Lib.decode_at, dec, List.length_drop, nat_length, nat_get!, nat_get!, nat_get!, nat_get!]
  simp only [getD_drop, Nat.add_zero]

theorem nat_inj {s t : ByteArray} (h : nat s = nat t) : s = t := by
  have : s.data.toList = t.data.toList := by
    refine List.map_inj_right (f := UInt8.toNat) ?_ |>.1 h
    intro a b e
    exact UInt8.toNat_inj.1 e
  exact ByteArray.ext (Array.toList_inj.1 this)

theorem nat_toList (s : ByteArray) : s.toList = s.data.toList := ByteArray.toList_eq s

theorem beq_nat (s t : ByteArray) (b : Bool) (h : nat s = nat t ↔ b = true) : (s.toList == t.toList) = b := by
  rw [nat_toList, nat_toList]
  cases b with
  | true =>
    have := nat_inj (h.2 rfl)
    subst this
    simp
  | false =>
    have hne : s.data.toList ≠ t.data.toList := fun e => by
      have := h.1 (by unfold nat; rw [e])
      cases this
    simpa using hne

theorem nat_extract (s : ByteArray) (a b : Nat) : nat (s.extract a b) = ((nat s).take b).drop a := by
  unfold nat
  rw [ByteArray.data_extract, Array.toList_extract]
  simp [List.extract_eq_take_drop, List.map_drop, List.map_take, List.drop_take]

def str (l : List Nat) : ByteArray := ⟨(l.map UInt8.ofNat).toArray⟩

theorem nat_str {l : List Nat} (h : ∀ x ∈ l, x < 256) : nat (str l) = l := by
  unfold nat str
  simp only [List.map_map]
  conv => rhs; rw [← List.map_id l]
  refine List.map_congr_left fun x hx => ?_
  simp [Function.comp, UInt8.toNat_ofNat', Nat.mod_eq_of_lt (h x hx)]

theorem str_nat (s : ByteArray) : str (nat s) = s := nat_inj (nat_str (nat_lt s))

theorem str_size (l : List Nat) : (str l).size = l.length := by
  show (l.map UInt8.ofNat).toArray.size = l.length
  simp

def lessN : List Nat → List Nat → Bool
  | _, [] => false
  | [], _ :: _ => true
  | a :: x, b :: y => decide (a < b) || (a == b && lessN x y)

theorem less_map : ∀ x y : List UInt8, Op.bytesLess x y = lessN (x.map UInt8.toNat) (y.map UInt8.toNat)
  | [], [] => rfl
  | _ :: _, [] => rfl
  | [], _ :: _ => rfl
  | a :: x, b :: y => by
    simp only [Op.bytesLess, List.map_cons, lessN, less_map x y]
    congr 1
    congr 1
    rw [Bool.eq_iff_iff]
    simp [UInt8.toNat_inj]

theorem less_nat (s t : ByteArray) : Op.bytesLess s.toList t.toList = lessN (nat s) (nat t) := by
  rw [nat_toList, nat_toList, less_map]
  rfl

end Go.Proofs.Ytnfflmndejbepaa.Na

/-
  Texts in order: strictly, wholly, and by their runes just as by their bytes.
  Conditions: none.
-/
namespace Go.Proofs.Ytnfflmndejbepaa.Na
set_option linter.unusedVariables false
set_option linter.unusedSimpArgs false
set_option maxRecDepth 100000

theorem less_cons (a b : Nat) (x y : List Nat) : lessN (a :: x) (b :: y) = true ↔ a < b ∨ (a = b ∧ lessN x y = true) := by
  simp [lessN]

theorem less_irrefl : ∀ x : List Nat, lessN x x = false
  | [] => rfl
  | a :: x => by simp [lessN, less_irrefl x]

theorem less_trans : ∀ x y z : List Nat, lessN x y = true → lessN y z = true → lessN x z = true
  | _, [], _, h, _ => by cases ‹List Nat› <;> simp [lessN] at h
  | _, _ :: _, [], _, h => by simp [lessN] at h
  | [], _ :: _, _ :: _, _, _ => rfl
  | a :: x, b :: y, c :: z, h, k => by
    rw [less_cons] at h k ⊢
    rcases h with h | ⟨h, h'⟩
    · rcases k with k | ⟨k, k'⟩
      · exact .inl (by omega)
      · exact .inl (by omega)
    · rcases k with k | ⟨k, k'⟩
      · exact .inl (by omega)
      · exact .inr ⟨by omega, less_trans x y z h' k'⟩

theorem less_asym (x y : List Nat) (h : lessN x y = true) : lessN y x = false := by
  cases hh : lessN y x with
  | false => rfl
  | true =>
    have := less_trans x y x h hh
    rw [less_irrefl] at this
    cases this

theorem less_total : ∀ x y : List Nat, x ≠ y → lessN x y ≠ lessN y x
  | [], [], h => absurd rfl h
  | [], _ :: _, _ => by simp [lessN]
  | _ :: _, [], _ => by simp [lessN]
  | a :: x, b :: y, h => by
    intro e
    by_cases hab : a < b
    · have h1 : lessN (a :: x) (b :: y) = true := (less_cons ..).2 (.inl hab)
      have h2 := less_asym _ _ h1
      rw [h1, h2] at e
      cases e
    · by_cases hba : b < a
      · have h1 : lessN (b :: y) (a :: x) = true := (less_cons ..).2 (.inl hba)
        have h2 := less_asym _ _ h1
        rw [h1, h2] at e
        cases e
      · obtain rfl : a = b := by omega
        refine less_total x y (fun hx => h (by rw [hx])) ?_
        simpa [lessN] using e

theorem less_left : ∀ x y z : List Nat, lessN (x ++ y) (x ++ z) = lessN y z
  | [], _, _ => rfl
  | a :: x, y, z => by
    simp only [List.cons_append, lessN]
    rw [less_left x y z]
    simp

theorem enc_less {a b : Nat} (ha : ok a) (hb : ok b) (h : a < b) (y z : List Nat) : lessN (encN a ++ y) (encN b ++ z) = true := by
  unfold ok at ha hb
  by_cases a1 : a < 128
  · rw [enc_one a1]
    by_cases b1 : b < 128
    · rw [enc_one b1]; exact (less_cons ..).2 (.inl h)
    · by_cases b2 : b < 2048
      · rw [enc_two (by omega) b2]; exact (less_cons ..).2 (.inl (by omega))
      · by_cases b3 : b < 65536
        · rw [enc_three (by omega) b3]; exact (less_cons ..).2 (.inl (by omega))
        · rw [enc_four (by omega)]; exact (less_cons ..).2 (.inl (by omega))
  · by_cases a2 : a < 2048
    · rw [enc_two (by omega) a2]
      by_cases b2 : b < 2048
      · rw [enc_two (by omega) b2]
        simp only [List.cons_append, List.nil_append, less_cons]
        by_cases e0 : a / 64 < b / 64
        · exact .inl (by omega)
        · exact .inr ⟨by omega, .inl (by omega)⟩
      · by_cases b3 : b < 65536
        · rw [enc_three (by omega) b3]; exact (less_cons ..).2 (.inl (by omega))
        · rw [enc_four (by omega)]; exact (less_cons ..).2 (.inl (by omega))
    · by_cases a3 : a < 65536
      · rw [enc_three (by omega) a3]
        by_cases b3 : b < 65536
        · rw [enc_three (by omega) b3]
          simp only [List.cons_append, List.nil_append, less_cons]
          by_cases e0 : a / 4096 < b / 4096
          · exact .inl (by omega)
          · refine .inr ⟨by omega, ?_⟩
            by_cases e1 : a / 64 % 64 < b / 64 % 64
            · exact .inl (by omega)
            · exact .inr ⟨by omega, .inl (by omega)⟩
        · rw [enc_four (by omega)]; exact (less_cons ..).2 (.inl (by omega))
      · rw [enc_four (by omega), enc_four (by omega)]
        simp only [List.cons_append, List.nil_append, less_cons]
        by_cases e0 : a / 262144 < b / 262144
        · exact .inl (by omega)
        · refine .inr ⟨by omega, ?_⟩
          by_cases e1 : a / 4096 % 64 < b / 4096 % 64
          · exact .inl (by omega)
          · refine .inr ⟨by omega, ?_⟩
            by_cases e2 : a / 64 % 64 < b / 64 % 64
            · exact .inl (by omega)
            · exact .inr ⟨by omega, .inl (by omega)⟩

theorem flat_less : ∀ l k : List Nat, (∀ r ∈ l, ok r) → (∀ r ∈ k, ok r) → lessN (flat l) (flat k) = lessN l k
  | l, [], _, _ => by
    have : flat [] = [] := rfl
    rw [this]
    cases l <;> cases flat _ <;> rfl
  | [], b :: k, _, _ => by
    have h1 := width_pos b
    rw [flat_cons]
    have : flat [] = [] := rfl
    rw [this]
    cases he : encN b with
    | nil =>
      have := enc_length b
      rw [he] at this
      simp at this
      omega
    | cons x t => rfl
  | a :: l, b :: k, hl, hk => by
    have ha := hl a (by simp)
    have hb := hk b (by simp)
    rw [flat_cons, flat_cons]
    by_cases hab : a < b
    · rw [enc_less ha hb hab, (less_cons ..).2 (.inl hab)]
    · by_cases hba : b < a
      · rw [less_asym _ _ (enc_less hb ha hba (flat k) (flat l)), less_asym _ _ ((less_cons b a k l).2 (.inl hba))]
      · obtain rfl : a = b := by omega
        rw [less_left, flat_less l k (fun r hr => hl r (by simp [hr])) (fun r hr => hk r (by simp [hr]))]
        simp [lessN]

theorem less_at : ∀ (l k : List Nat) (i : Nat), i < l.length → i < k.length → (∀ j, j < i → l.getD j 0 = k.getD j 0) → l.getD i 0 ≠ k.getD i 0 → lessN l k = decide (l.getD i 0 < k.getD i 0)
  | [], _, i, h, _, _, _ => by simp at h
  | _ :: _, [], i, _, h, _, _ => by simp at h
  | a :: l, b :: k, 0, _, _, _, h => by
    simp only [List.getD_cons_zero] at h ⊢
    simp [lessN, h]
  | a :: l, b :: k, i + 1, h1, h2, h3, h4 => by
    have h0 := h3 0 (by omega)
    simp only [List.getD_cons_zero] at h0
    subst h0
    simp only [List.getD_cons_succ] at h4 ⊢
    rw [← less_at l k i (by simpa using h1) (by simpa using h2) (fun j hj => by have := h3 (j + 1) (by omega); simpa using this) h4]
    simp [lessN]

theorem less_end : ∀ l k : List Nat, (∀ j, j < l.length → j < k.length → l.getD j 0 = k.getD j 0) → lessN l k = decide (l.length < k.length)
  | [], [], _ => rfl
  | [], _ :: _, _ => by simp [lessN]
  | _ :: _, [], _ => by simp [lessN]
  | a :: l, b :: k, h => by
    have h0 := h 0 (by simp) (by simp)
    simp only [List.getD_cons_zero] at h0
    subst h0
    have := less_end l k (fun j h1 h2 => by have := h (j + 1) (by simpa using h1) (by simpa using h2); simpa using this)
    simp [lessN, this]

end Go.Proofs.Ytnfflmndejbepaa.Na

/-
  Beginnings and ends of texts; whether a rune stands for a byte that is part of none.
  Conditions: none.
-/
namespace Go.Proofs.Ytnfflmndejbepaa.Na
open Go.RowKit
set_option linter.unusedVariables false
set_option linter.unusedSimpArgs false
set_option maxRecDepth 100000

theorem prefixlite_any (s p : ByteArray) (t : Bool) (w : World) (h : (nat s).take p.size = nat p ↔ t = true) :
    Calls Try.prog 99 #[.string s, .string p] w fun e w' => e = .returned (.bool t) ∧ w' = w := by
  have he : p.size ≤ s.size → ((s.extract 0 p.size).toList == p.toList) = t := fun _ => beq_nat _ _ _ (by rw [nat_extract]; exact h)
  have hn : ¬ p.size ≤ s.size → t = false := fun hc => by
    cases t with
    | false => rfl
    | true =>
      have := congrArg List.length (h.2 rfl)
      rw [List.length_take, nat_length, nat_length] at this
      omega
  clear h
  go_enter Try.func99, Try.ntmps99
  go_wp2_with fail
  · rename_i h
    go_ret
    exact ⟨by rw [← he h]; rfl, rfl⟩
  · rename_i h
    go_ret
    exact ⟨by rw [hn h]; rfl, rfl⟩

theorem prefix_any (s p : ByteArray) (t : Bool) (w : World) (h : (nat s).take p.size = nat p ↔ t = true) :
    Calls Try.prog 94 #[.string s, .string p] w fun e w' => e = .returned (.bool t) ∧ w' = w := by
  have c := prefixlite_any s p t w h
  clear h
  go_enter Try.func94, Try.ntmps94
  go_wp2_with (go_at_call 99; refine c.mono ?_; clear c; rintro e w' ⟨rfl, rfl⟩)
  go_ret
  exact ⟨rfl, rfl⟩

theorem suffixlite_any (s p : ByteArray) (t : Bool) (w : World) (hs : s.size ≤ 9223372036854775807) (hp : p.size ≤ s.size → ((nat s).drop (s.size - p.size) = nat p ↔ t = true)) (hn : ¬ p.size ≤ s.size → t = false) :
    Calls Try.prog 100 #[.string s, .string p] w fun e w' => e = .returned (.bool t) ∧ w' = w := by
  have he : p.size ≤ s.size → ((s.extract (s.size - p.size) s.size).toList == p.toList) = t := fun hc => beq_nat _ _ _ (by rw [nat_extract, List.take_of_length_le (by rw [nat_length]; exact Nat.le_refl _)]; exact hp hc)
  have hlo : p.size ≤ s.size → ((s.size : Int) - (p.size : Int) + 9223372036854775808) % 18446744073709551616 - 9223372036854775808 = ((s.size - p.size : Nat) : Int) := fun _ => by omega
  clear hp
  go_enter Try.func100, Try.ntmps100
  go_wp2_with fail
  · have h : p.size ≤ s.size := by assumption
    go_ret
    exact ⟨by rw [← he h]; rfl, rfl⟩
  · have h : ¬ p.size ≤ s.size := by assumption
    go_ret
    exact ⟨by rw [hn h]; rfl, rfl⟩

theorem suffix_any (s p : ByteArray) (t : Bool) (w : World) (hs : s.size ≤ 9223372036854775807) (hp : p.size ≤ s.size → ((nat s).drop (s.size - p.size) = nat p ↔ t = true)) (hn : ¬ p.size ≤ s.size → t = false) :
    Calls Try.prog 95 #[.string s, .string p] w fun e w' => e = .returned (.bool t) ∧ w' = w := by
  have c := suffixlite_any s p t w hs hp hn
  clear hp hn
  go_enter Try.func95, Try.ntmps95
  go_wp2_with (go_at_call 100; refine c.mono ?_; clear c; rintro e w' ⟨rfl, rfl⟩)
  go_ret
  exact ⟨rfl, rfl⟩

theorem nat_repl : nat { data := #[239, 191, 189] } = [239, 191, 189] := by decide

theorem unread_no (s : ByteArray) (r : Nat) (w : World) (h : r ≠ 65533) :
    Calls Try.prog 93 #[.string s, .int .i32 r] w fun e w' => e = .returned (.bool false) ∧ w' = w := by
  have hb : ((r : Int) == 65533) = false := by simp; omega
  clear h
  go_enter Try.func93, Try.ntmps93
  go_wp2_with fail
  go_ret
  exact ⟨rfl, rfl⟩

theorem unread_at (s : ByteArray) (t : Bool) (w : World) (h : (nat s).take 3 = [239, 191, 189] ↔ t = true) :
    Calls Try.prog 93 #[.string s, .int .i32 65533] w fun e w' => e = .returned (.bool !t) ∧ w' = w := by
  have c := prefix_any s { data := #[239, 191, 189] } t w (by rw [nat_repl]; exact h)
  clear h
  go_enter Try.func93, Try.ntmps93
  go_wp2_with (go_at_call 94; refine c.mono ?_; clear c; rintro e w' ⟨rfl, rfl⟩)
  go_ret
  exact ⟨rfl, rfl⟩

end Go.Proofs.Ytnfflmndejbepaa.Na

/-
  Count: how many runes a text has.
  Conditions: the text is at most 2^47 bytes long.
-/
namespace Go.Proofs.Ytnfflmndejbepaa.Na
open Go.RowKit
set_option linter.unusedVariables false
set_option linter.unusedSimpArgs false
set_option maxRecDepth 100000

theorem unread_any (s : ByteArray) (r : Nat) (t : Bool) (w : World) (h : (r = 65533 ∧ (nat s).take 3 ≠ [239, 191, 189]) ↔ t = true) :
    Calls Try.prog 93 #[.string s, .int .i32 r] w fun e w' => e = .returned (.bool t) ∧ w' = w := by
  by_cases hr : r = 65533
  · subst hr
    refine (unread_at s (!t) w ?_).mono fun e w' h => ⟨by rw [h.1]; simp, h.2⟩
    cases t
    · simp at h ⊢; exact h
    · simp at h ⊢; exact h
  · have : t = false := by cases t with
      | false => rfl
      | true => exact absurd (h.2 rfl).1 hr
    subst this
    exact unread_no s r w hr

/- What the next rune is, and where it lies. -/
theorem next_rune {s : ByteArray} {rs t : List Nat} (h : Txt (nat s) rs t) {k : Nat} (hk : k < rs.length) (w : World) :
    ∃ r p q, r = rs.getD k 0 ∧ p = pos rs k ∧ q = pos rs (k + 1) ∧ p < q ∧ q ≤ s.size ∧ r < 1114112 ∧ (∀ ty, (Instr.next (.pointer (some ⟨w.heap.size, 0, none⟩)) true ty).run Try.prog (w.iter s p) = .ok (.tuple #[.bool true, .int .i64 p, .int .i32 r]) (w.iter s q)) ∧
      (nat s).drop p = encN r ++ (flat (rs.drop (k + 1)) ++ t) := by
  have h1 := h.pos_lt hk
  have h2 := width_pos (rs.getD k 0)
  have h3 : ok (rs.getD k 0) := h.ok _ (getD_mem hk)
  unfold ok at h3
  rw [nat_length] at h1
  refine ⟨_, _, _, rfl, rfl, rfl, ?_, ?_, by omega, fun ty => ?_, h.at hk⟩
  · rw [pos_succ hk]; omega
  · rw [pos_succ hk]; omega
  · rw [run_next_any w s (pos rs k) ty (by omega), decode_nat, h.dec hk, pos_succ hk]

theorem next_none {s : ByteArray} {rs t : List Nat} (h : Txt (nat s) rs t) (ht : t = []) (w : World) :
    ∀ ty, (Instr.next (.pointer (some ⟨w.heap.size, 0, none⟩)) true ty).run Try.prog (w.iter s (pos rs rs.length)) = .ok (.tuple #[.bool false]) (w.iter s (pos rs rs.length)) := by
  have h1 := h.len
  subst ht
  rw [nat_length, List.length_nil, Nat.add_zero] at h1
  exact fun ty => run_next_end w s _ ty (by omega)

theorem next_bad {s : ByteArray} {rs t : List Nat} (h : Txt (nat s) rs t) (ht : t ≠ []) (w : World) :
    ∃ p, p < s.size ∧ p = pos rs rs.length ∧ (∀ ty, (Instr.next (.pointer (some ⟨w.heap.size, 0, none⟩)) true ty).run Try.prog (w.iter s p) = .ok (.tuple #[.bool true, .int .i64 p, .int .i32 (65533 : Int)]) (w.iter s (p + 1))) ∧
      (nat s).drop p = t ∧ t.take 3 ≠ [239, 191, 189] := by
  have h1 := h.len
  have h2 : 0 < t.length := List.length_pos_iff.2 ht
  have h3 : dec t = (65533, 1) := h.rest.resolve_left ht
  rw [nat_length] at h1
  have h4 : (nat s).drop (pos rs rs.length) = t := by
    rw [h.drop (Nat.le_refl _), List.drop_length]
    rfl
  refine ⟨_, by omega, rfl, fun ty => ?_, h4, fun h5 => ?_⟩
  · rw [run_next_any w s (pos rs rs.length) ty (by omega), decode_nat, h4, h3]
    rfl
  · have h6 : t = 239 :: 191 :: 189 :: t.drop 3 := by
      conv => lhs; rw [← List.take_append_drop 3 t, h5]
      rfl
    rw [h6, enc_head_repl] at h3
    cases h3

theorem ext_drop (s : ByteArray) (p : Nat) : nat (s.extract p s.size) = (nat s).drop p := by
  rw [nat_extract, List.take_of_length_le (by rw [nat_length]; exact Nat.le_refl _)]

theorem count_any (s : ByteArray) (rs t : List Nat) (n : Nat) (b : Bool) (w : World) (h : Txt (nat s) rs t) (hs : s.size ≤ 140737488355328) (hy : t = [] → n = rs.length ∧ b = true) (hx : t ≠ [] → n = 0 ∧ b = false) :
    Calls Try.prog 83 #[.string s] w fun e w' => e = .returned (.tuple #[.int .i64 n, .bool b]) ∧ Below w.heap.size w w' := by
  have hle := h.len
  rw [nat_length] at hle
  have hpl := pos_le rs rs.length (Nat.le_refl _)
  have hlen : rs.length ≤ s.size := by omega
  generalize hN : rs.length = N at hlen hpl hle
  have HN : Hid (rs.length = N) := hN
  have HX : Hid (Txt (nat s) rs t) := h
  have HY : Hid (t = [] → n = rs.length ∧ b = true) := hy
  have HZ : Hid (t ≠ [] → n = 0 ∧ b = false) := hx
  clear hN h hy hx hle hpl
  go_enter Try.func83, Try.ntmps83
  go_wp2_with fail
  go_loopw [4] (fun v wr => ∃ k : Nat, v = .int .i64 k ∧ k ≤ N ∧ wr = w.iter s (pos rs k)) (fun _ wr => s.size + 1 - wr.iterPos w.heap.size)
  case atStart => exact ⟨0, rfl, Nat.zero_le _, rfl⟩
  case round =>
    obtain ⟨k, rfl, hk, rfl⟩ := hrel
    by_cases hlt : k < N
    · obtain ⟨r, p, q, hr, hp, hq, hpq, hqs, hr2, hnx, hdr⟩ := next_rune HX.out (by rw [HN.out]; exact hlt) w
      have c := unread_any (s.extract p s.size) r false (w.iter s q) (by
        rw [ext_drop, hdr]
        refine ⟨fun hh => ?_, fun hh => by cases hh⟩
        obtain ⟨rfl, hh⟩ := hh
        exact absurd rfl hh)
      rw [← hp]
      have HQ : Hid (q = pos rs (k + 1)) := hq
      have HP : Hid (p < q) := hpq
      have hps : p ≤ s.size := by omega
      clear hdr hr hp hq hpq
      generalize hS1 : s.extract p s.size = S1 at c
      go_wp2_with (go_at_call 93; refine c.mono ?_; clear c; rintro e w' ⟨rfl, rfl⟩)
      go_roundw
      case rel => exact ⟨k + 1, rfl, by omega, by rw [← HQ.out]⟩
      case measure =>
        have := HP.out
        simp
        omega
    · obtain rfl : k = N := by omega
      by_cases ht : t = []
      · have hnx := next_none HX.out ht w
        rw [HN.out] at hnx
        go_wp2_with fail
        go_ret2
        obtain ⟨h1, h2⟩ := HY.out ht
        rw [h1, h2, HN.out]
        exact ⟨rfl, (Below.refl _ _).alloc (Nat.le_refl _) _⟩
      · obtain ⟨p, hps, hp, hnx, hdr, htk⟩ := next_bad HX.out ht w
        rw [HN.out] at hp
        have c := unread_any (s.extract p s.size) 65533 true (w.iter s (p + 1)) (by
          rw [ext_drop, hdr]
          exact ⟨fun _ => rfl, fun _ => ⟨rfl, htk⟩⟩)
        rw [← hp]
        clear hdr htk hp
        generalize hS1 : s.extract p s.size = S1 at c
        go_wp2_with (go_at_call 93; refine c.mono ?_; clear c; rintro e w' ⟨rfl, rfl⟩)
        go_ret2
        obtain ⟨h1, h2⟩ := HZ.out ht
        rw [h1, h2]
        exact ⟨rfl, (Below.refl _ _).alloc (Nat.le_refl _) _⟩

end Go.Proofs.Ytnfflmndejbepaa.Na

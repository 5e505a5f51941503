/-
  Texts as runes: how a rune is written, what the decoder tells of any bytes, and that every text is runes one behind the other, up to its end or up to where none is.
  Conditions: none.
-/
import Derived.Lib.DecodeN
namespace Go.Proofs.Ytjhbfcfipfmnbaa.Na
set_option linter.unusedVariables false
set_option linter.unusedSimpArgs false

def ok (r : Nat) : Prop := r < 55296 ∨ (57344 ≤ r ∧ r < 1114112)

def encN (r : Nat) : List Nat :=
  if r < 128 then [r]
  else if r < 2048 then [192 + r / 64, 128 + r % 64]
  else if r < 65536 then [224 + r / 4096, 128 + r / 64 % 64, 128 + r % 64]
  else [240 + r / 262144, 128 + r / 4096 % 64, 128 + r / 64 % 64, 128 + r % 64]

def width (r : Nat) : Nat := if r < 128 then 1 else if r < 2048 then 2 else if r < 65536 then 3 else 4

theorem enc_length (r : Nat) : (encN r).length = width r := by
  unfold encN width
  repeat' split
  all_goals rfl

theorem width_pos (r : Nat) : 1 ≤ width r := by unfold width; repeat' split
                                                all_goals omega
theorem width_le (r : Nat) : width r ≤ 4 := by unfold width; repeat' split
                                               all_goals omega

theorem enc_lt {r : Nat} (h : ok r) : ∀ x ∈ encN r, x < 256 := by
  intro x hx
  unfold ok at h
  unfold encN at hx
  repeat' split at hx
  all_goals simp at hx
  all_goals omega

theorem enc_one {r : Nat} (h : r < 128) : encN r = [r] := by simp [encN, h]
theorem enc_two {r : Nat} (h : 128 ≤ r) (h1 : r < 2048) : encN r = [192 + r / 64, 128 + r % 64] := by simp [encN, h1, show ¬ r < 128 by omega]
theorem enc_three {r : Nat} (h : 2048 ≤ r) (h1 : r < 65536) : encN r = [224 + r / 4096, 128 + r / 64 % 64, 128 + r % 64] := by simp [encN, h1, show ¬ r < 128 by omega, show ¬ r < 2048 by omega]
theorem enc_four {r : Nat} (h : 65536 ≤ r) : encN r = [240 + r / 262144, 128 + r / 4096 % 64, 128 + r / 64 % 64, 128 + r % 64] := by simp [encN, show ¬ r < 128 by omega, show ¬ r < 2048 by omega, show ¬ r < 65536 by omega]

def dec (l : List Nat) : Nat × Nat := Lib.decodeN l.length (l.getD 0 0) (l.getD 1 0) (l.getD 2 0) (l.getD 3 0)

theorem dec_enc (r : Nat) (t : List Nat) (h : ok r) : dec (encN r ++ t) = (r, width r) := by
  unfold ok at h
  by_cases h1 : r < 128
  · simp [dec, enc_one h1, Lib.decodeN, h1, width]
  · by_cases h2 : r < 2048
    · rw [enc_two (by omega) h2]
      have e : width r = 2 := by simp [width, h1, h2]
      simp only [dec, List.length_append, List.length_cons, List.length_nil, List.cons_append, List.nil_append, List.getD_cons_zero, List.getD_cons_succ, e]
      unfold Lib.decodeN
      rw [if_neg (by omega), if_pos (by omega), if_pos (by omega)]
      exact Prod.ext (by simp only; omega) rfl
    · by_cases h3 : r < 65536
      · rw [enc_three (by omega) h3]
        have e : width r = 3 := by simp [width, h1, h2, h3]
        simp only [dec, List.length_append, List.length_cons, List.length_nil, List.cons_append, List.nil_append, List.getD_cons_zero, List.getD_cons_succ, e]
        unfold Lib.decodeN
        rw [if_neg (by omega), if_neg (by omega), if_pos (by omega), if_pos (by omega)]
        exact Prod.ext (by simp only; omega) rfl
      · rw [enc_four (by omega)]
        have e : width r = 4 := by simp [width, h1, h2, h3]
        simp only [dec, List.length_append, List.length_cons, List.length_nil, List.cons_append, List.nil_append, List.getD_cons_zero, List.getD_cons_succ, e]
        unfold Lib.decodeN
        rw [if_neg (by omega), if_neg (by omega), if_neg (by omega), if_pos (by omega), if_pos (by omega)]
        exact Prod.ext (by simp only; omega) rfl

theorem enc_ne (r : Nat) : (r, width r) ≠ (65533, 1) := by
  intro h
  injection h with h1 h2
  subst h1
  simp [width] at h2

def bad : Nat × Nat := (65533, 1)

theorem dec_cases (l : List Nat) (hl : l ≠ []) (hb : ∀ x ∈ l, x < 256) : dec l = (65533, 1) ∨ ∃ r t, ok r ∧ l = encN r ++ t := by
  by_cases hbad : dec l = (65533, 1)
  · exact .inl hbad
  · refine .inr ?_
    match l, hl with
    | b0 :: l, _ =>
      have h0 : b0 < 256 := hb b0 (by simp)
      by_cases a1 : b0 < 128
      · exact ⟨b0, l, by unfold ok; omega, by rw [enc_one a1]; rfl⟩
      · match l with
        | [] =>
          exact absurd (by simp only [dec, Lib.decodeN, List.length_cons, List.length_nil, List.getD_cons_zero]; rw [if_neg a1, if_neg (by omega), if_neg (by omega), if_neg (by omega)]) hbad
        | b1 :: l =>
          have h1 : b1 < 256 := hb b1 (by simp)
          by_cases a2 : b0 / 32 = 6 ∧ b1 / 64 = 2 ∧ b0 % 32 * 64 + b1 % 64 ≥ 128
          · refine ⟨b0 % 32 * 64 + b1 % 64, l, by unfold ok; omega, ?_⟩
            rw [enc_two (by omega) (by omega), show 192 + (b0 % 32 * 64 + b1 % 64) / 64 = b0 by omega, show 128 + (b0 % 32 * 64 + b1 % 64) % 64 = b1 by omega]
            rfl
          · match l with
            | [] =>
              refine absurd ?_ hbad
              simp only [dec, Lib.decodeN, List.length_cons, List.length_nil, List.getD_cons_zero, List.getD_cons_succ]
              rw [if_neg a1]
              split
              · rw [if_neg (by omega)]
              · rw [if_neg (by omega), if_neg (by omega)]
            | b2 :: l =>
              have h2 : b2 < 256 := hb b2 (by simp)
              by_cases a3 : b0 / 16 = 14 ∧ b1 / 64 = 2 ∧ b2 / 64 = 2 ∧ b0 % 16 * 4096 + b1 % 64 * 64 + b2 % 64 ≥ 2048 ∧ (b0 % 16 * 4096 + b1 % 64 * 64 + b2 % 64 < 55296 ∨ 57344 ≤ b0 % 16 * 4096 + b1 % 64 * 64 + b2 % 64)
              · refine ⟨b0 % 16 * 4096 + b1 % 64 * 64 + b2 % 64, l, by unfold ok; omega, ?_⟩
                rw [enc_three (by omega) (by omega), show 224 + (b0 % 16 * 4096 + b1 % 64 * 64 + b2 % 64) / 4096 = b0 by omega, show 128 + (b0 % 16 * 4096 + b1 % 64 * 64 + b2 % 64) / 64 % 64 = b1 by omega,
                  show 128 + (b0 % 16 * 4096 + b1 % 64 * 64 + b2 % 64) % 64 = b2 by omega]
                rfl
              · match l with
                | [] =>
                  refine absurd ?_ hbad
                  simp only [dec, Lib.decodeN, List.length_cons, List.length_nil, List.getD_cons_zero, List.getD_cons_succ]
                  rw [if_neg a1]
                  split
                  · rw [if_neg (by omega)]
                  · split
                    · rw [if_neg (by omega)]
                    · rw [if_neg (by omega)]
                | b3 :: l =>
                  have h3 : b3 < 256 := hb b3 (by simp)
                  by_cases a4 : b0 / 8 = 30 ∧ b1 / 64 = 2 ∧ b2 / 64 = 2 ∧ b3 / 64 = 2 ∧ b0 % 8 * 262144 + b1 % 64 * 4096 + b2 % 64 * 64 + b3 % 64 ≥ 65536 ∧ b0 % 8 * 262144 + b1 % 64 * 4096 + b2 % 64 * 64 + b3 % 64 < 1114112
                  · refine ⟨b0 % 8 * 262144 + b1 % 64 * 4096 + b2 % 64 * 64 + b3 % 64, l, by unfold ok; omega, ?_⟩
                    rw [enc_four (by omega), show 240 + (b0 % 8 * 262144 + b1 % 64 * 4096 + b2 % 64 * 64 + b3 % 64) / 262144 = b0 by omega, show 128 + (b0 % 8 * 262144 + b1 % 64 * 4096 + b2 % 64 * 64 + b3 % 64) / 4096 % 64 = b1 by omega,
                      show 128 + (b0 % 8 * 262144 + b1 % 64 * 4096 + b2 % 64 * 64 + b3 % 64) / 64 % 64 = b2 by omega, show 128 + (b0 % 8 * 262144 + b1 % 64 * 4096 + b2 % 64 * 64 + b3 % 64) % 64 = b3 by omega]
                    rfl
                  · refine absurd ?_ hbad
                    simp only [dec, Lib.decodeN, List.length_cons, List.getD_cons_zero, List.getD_cons_succ]
                    rw [if_neg a1]
                    split
                    · rw [if_neg (by omega)]
                    · split
                      · rw [if_neg (by omega)]
                      · split
                        · rw [if_neg (by omega)]
                        · rfl

/- A text: runes, and a rest that is none or begins with no rune. -/
def flat (rs : List Nat) : List Nat := rs.flatMap encN

theorem flat_cons (r : Nat) (rs : List Nat) : flat (r :: rs) = encN r ++ flat rs := rfl
theorem flat_append (a b : List Nat) : flat (a ++ b) = flat a ++ flat b := List.flatMap_append ..

structure Txt (l : List Nat) (rs t : List Nat) : Prop where
  eq : l = flat rs ++ t
  ok : ∀ r ∈ rs, ok r
  rest : t = [] ∨ dec t = (65533, 1)
  lt : ∀ x ∈ l, x < 256

theorem txt_any (l : List Nat) (h : ∀ x ∈ l, x < 256) : ∃ rs t, Txt l rs t := by
  generalize hn : l.length = n
  induction n using Nat.strongRecOn generalizing l with
  | ind n ih =>
    by_cases hl : l = []
    · subst hl
      exact ⟨[], [], ⟨rfl, (fun r hr => by cases hr), .inl rfl, h⟩⟩
    · rcases dec_cases l hl h with hd | ⟨r, t, hr, rfl⟩
      · exact ⟨[], l, ⟨rfl, (fun r hr => by cases hr), .inr hd, h⟩⟩
      · have hw := enc_length r
        have hp := width_pos r
        obtain ⟨rs, t', h1⟩ := ih t.length (by rw [← hn]; simp only [List.length_append]; omega) t (fun x hx => h x (List.mem_append_right _ hx)) rfl
        refine ⟨r :: rs, t', ?_, fun x hx => ?_, h1.rest, h⟩
        · rw [flat_cons, List.append_assoc, ← h1.eq]
        · rcases List.mem_cons.1 hx with rfl | hx
          · exact hr
          · exact h1.ok x hx

def pos (rs : List Nat) (k : Nat) : Nat := (flat (rs.take k)).length

theorem pos_zero (rs : List Nat) : pos rs 0 = 0 := rfl

theorem take_snoc {rs : List Nat} {k : Nat} (hk : k < rs.length) : rs.take (k + 1) = rs.take k ++ [rs.getD k 0] := by
  rw [List.take_add_one, List.getElem?_eq_getElem hk]
  simp [List.getD, List.getElem?_eq_getElem hk]

theorem pos_succ {rs : List Nat} {k : Nat} (hk : k < rs.length) : pos rs (k + 1) = pos rs k + width (rs.getD k 0) := by
  unfold pos
  rw [take_snoc hk, flat_append, List.length_append, flat_cons]
  simp [flat, enc_length]

theorem pos_le (rs : List Nat) (k : Nat) (hk : k ≤ rs.length) : k ≤ pos rs k := by
  induction k with
  | zero => omega
  | succ k ih =>
    have := ih (by omega)
    rw [pos_succ (by omega)]
    have := width_pos (rs.getD k 0)
    omega

theorem pos_all (rs : List Nat) : pos rs rs.length = (flat rs).length := by unfold pos; rw [List.take_length]

theorem Txt.drop {l rs t : List Nat} (h : Txt l rs t) {k : Nat} (hk : k ≤ rs.length) : l.drop (pos rs k) = flat (rs.drop k) ++ t := by
  have e : l = flat (rs.take k) ++ (flat (rs.drop k) ++ t) := by
    rw [h.eq, ← List.append_assoc, ← flat_append, List.take_append_drop]
  rw [e, pos, List.drop_left]

theorem Txt.take {l rs t : List Nat} (h : Txt l rs t) {k : Nat} (hk : k ≤ rs.length) : l.take (pos rs k) = flat (rs.take k) := by
  have e : l = flat (rs.take k) ++ (flat (rs.drop k) ++ t) := by
    rw [h.eq, ← List.append_assoc, ← flat_append, List.take_append_drop]
  rw [e, pos, List.take_left]

theorem drop_head {rs : List Nat} {k : Nat} (hk : k < rs.length) : rs.drop k = rs.getD k 0 :: rs.drop (k + 1) := by
  rw [List.drop_eq_getElem_cons hk]
  simp [List.getD, List.getElem?_eq_getElem hk]

theorem Txt.at {l rs t : List Nat} (h : Txt l rs t) {k : Nat} (hk : k < rs.length) : l.drop (pos rs k) = encN (rs.getD k 0) ++ (flat (rs.drop (k + 1)) ++ t) := by
  rw [h.drop (Nat.le_of_lt hk), drop_head hk, flat_cons, List.append_assoc]

theorem getD_mem {rs : List Nat} {k : Nat} (hk : k < rs.length) : rs.getD k 0 ∈ rs := by
  simp [List.getD, List.getElem?_eq_getElem hk]

theorem Txt.dec {l rs t : List Nat} (h : Txt l rs t) {k : Nat} (hk : k < rs.length) : dec (l.drop (pos rs k)) = (rs.getD k 0, width (rs.getD k 0)) := by
  rw [h.at hk]
  exact dec_enc _ _ (h.ok _ (getD_mem hk))

theorem Txt.len {l rs t : List Nat} (h : Txt l rs t) : l.length = pos rs rs.length + t.length := by
  rw [h.eq, List.length_append, pos_all]

theorem pos_mono {rs : List Nat} {k m : Nat} (h : k ≤ m) (hm : m ≤ rs.length) : pos rs k ≤ pos rs m := by
  induction m with
  | zero => have : k = 0 := by omega
            subst this; exact Nat.le_refl _
  | succ m ih =>
    by_cases e : k = m + 1
    · subst e; exact Nat.le_refl _
    · have := ih (by omega) (by omega)
      rw [pos_succ (by omega)]
      omega

theorem Txt.pos_lt {l rs t : List Nat} (h : Txt l rs t) {k : Nat} (hk : k < rs.length) : pos rs k + width (rs.getD k 0) ≤ l.length := by
  rw [h.len, ← pos_succ hk]
  have := pos_mono (rs := rs) (k := k + 1) (m := rs.length) (by omega) (Nat.le_refl _)
  omega

theorem enc_head_repl (t : List Nat) : dec (239 :: 191 :: 189 :: t) = (65533, 3) := by
  have := dec_enc 65533 t (by unfold ok; omega)
  simpa [encN, width] using this

/- A text's own reading is the only one. -/
theorem dec_nil : dec [] = (0, 1) := rfl

theorem txt_one {l rs t rs' t' : List Nat} (h : Txt l rs t) (h' : Txt l rs' t') : rs = rs' ∧ t = t' := by
  induction rs generalizing l rs' with
  | nil =>
    have e : l = t := by simpa [flat] using h.eq
    subst e
    cases rs' with
    | nil => exact ⟨rfl, by simpa [flat] using h'.eq⟩
    | cons r rs' =>
      have hr := h'.ok r (by simp)
      have e1 : l = encN r ++ (flat rs' ++ t') := by rw [h'.eq, flat_cons, List.append_assoc]
      have hd := dec_enc r (flat rs' ++ t') hr
      rw [← e1] at hd
      rcases h.rest with h0 | h0
      · rw [h0] at e1
        have := congrArg List.length e1
        have := width_pos r
        simp only [List.length_append, List.length_nil, enc_length] at *
        omega
      · rw [hd] at h0
        exact absurd h0 (enc_ne r)
  | cons r rs ih =>
    have hr := h.ok r (by simp)
    have e0 : l = encN r ++ (flat rs ++ t) := by rw [h.eq, flat_cons, List.append_assoc]
    have hd := dec_enc r (flat rs ++ t) hr
    rw [← e0] at hd
    cases rs' with
    | nil =>
      have e : l = t' := by simpa [flat] using h'.eq
      rcases h'.rest with h1 | h1
      · rw [e, h1] at e0
        have := congrArg List.length e0
        have := width_pos r
        simp only [List.length_append, List.length_nil, enc_length] at *
        omega
      · rw [← e, hd] at h1
        exact absurd h1 (enc_ne r)
    | cons r' rs' =>
      have hr' := h'.ok r' (by simp)
      have e1 : l = encN r' ++ (flat rs' ++ t') := by rw [h'.eq, flat_cons, List.append_assoc]
      have hd' := dec_enc r' (flat rs' ++ t') hr'
      rw [← e1, hd] at hd'
      injection hd' with h1 h2
      subst h1
      have e2 : flat rs ++ t = flat rs' ++ t' := List.append_cancel_left (e0.symm.trans e1)
      have := ih (l := flat rs ++ t) (rs' := rs') ⟨rfl, fun x hx => h.ok x (by simp [hx]), h.rest, fun x hx => h.lt x (by rw [e0]; exact List.mem_append_right _ hx)⟩
        ⟨e2, fun x hx => h'.ok x (by simp [hx]), h'.rest, fun x hx => h.lt x (by rw [e0]; exact List.mem_append_right _ hx)⟩
      exact ⟨by rw [this.1], this.2⟩

end Go.Proofs.Ytjhbfcfipfmnbaa.Na

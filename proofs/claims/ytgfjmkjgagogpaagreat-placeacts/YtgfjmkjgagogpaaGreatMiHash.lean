/-
  Hash2 and Hash3, the program's and the document's, over plain numbers ('MiPlain').
  Conditions: numbers of 32 bits.
-/
import Derived.Test.YtgfjmkjgagogpaaGreatMiCalls
namespace Go.Proofs.YtgfjmkjgagogpaaGreat.Mi
open Go.RowKit
set_option linter.unusedVariables false

theorem hash2_gen (f : Nat → Nat) (a b A B : Nat) (w : World) (ha : a < 4294967296) (hb : b < 4294967296) (e1 : ((a : Int) + 2654435761) % 4294967296 = (A : Int)) (l1 : A < 4294967296) (l2 : ∀ x, f x < 4294967296) (l3 : B < 4294967296)
    (e2 : bits .xor .u32 (f A : Int) (b : Int) = (B : Int)) (c : ∀ x w, x < 4294967296 → Calls Tryz.prog 42 #[.int .u32 (x : Nat)] w fun e w' => e = .returned (.int .u32 (f x : Nat)) ∧ w' = w) :
    Calls Tryz.prog 27 #[.int .u32 (a : Nat), .int .u32 (b : Nat)] w fun e w' => e = .returned (.int .u32 (f B : Nat)) ∧ w' = w := by
  have l4 := l2 A
  have l5 := l2 B
  go_enter Tryz.func27, Tryz.ntmps27
  go_wp2_with (go_at_call 42; refine (c _ _ (by first | exact l1 | exact l3)).mono ?_; rintro e w' ⟨rfl, rfl⟩)
  go_ret
  exact ⟨rfl, rfl⟩

theorem hash2_any (a b : Nat) (w : World) (ha : a < 4294967296) (hb : b < 4294967296) :
    Calls Tryz.prog 27 #[.int .u32 (a : Nat), .int .u32 (b : Nat)] w fun e w' => e = .returned (.int .u32 (h2 a b : Nat)) ∧ w' = w :=
  hash2_gen mx a b ((a + 2654435761) % 4294967296) (mx ((a + 2654435761) % 4294967296) ^^^ b) w ha hb (by omega) (by omega) mx_lt (xor32 (mx_lt _) hb) (u32_xor_nat _ _ (mx_lt _) hb)
    mix_any

theorem rhash2_gen (f : Nat → Nat) (a b A B : Nat) (w : World) (ha : a < 4294967296) (hb : b < 4294967296) (e1 : ((a : Int) + 2654435761) % 4294967296 = (A : Int)) (l1 : A < 4294967296) (l2 : ∀ x, f x < 4294967296) (l3 : B < 4294967296)
    (e2 : bits .xor .u32 (f A : Int) (b : Int) = (B : Int)) (c : ∀ x w, x < 4294967296 → Calls Tryz.prog 46 #[.int .u32 (x : Nat)] w fun e w' => e = .returned (.int .u32 (f x : Nat)) ∧ w' = w) :
    Calls Tryz.prog 29 #[.int .u32 (a : Nat), .int .u32 (b : Nat)] w fun e w' => e = .returned (.int .u32 (f B : Nat)) ∧ w' = w := by
  have l4 := l2 A
  have l5 := l2 B
  go_enter Tryz.func29, Tryz.ntmps29
  go_wp2_with (go_at_call 46; refine (c _ _ (by first | exact l1 | exact l3)).mono ?_; rintro e w' ⟨rfl, rfl⟩)
  go_ret
  exact ⟨rfl, rfl⟩

theorem rhash2_any (a b : Nat) (w : World) (ha : a < 4294967296) (hb : b < 4294967296) :
    Calls Tryz.prog 29 #[.int .u32 (a : Nat), .int .u32 (b : Nat)] w fun e w' => e = .returned (.int .u32 (h2 a b : Nat)) ∧ w' = w :=
  rhash2_gen mx a b ((a + 2654435761) % 4294967296) (mx ((a + 2654435761) % 4294967296) ^^^ b) w ha hb (by omega) (by omega) mx_lt (xor32 (mx_lt _) hb) (u32_xor_nat _ _ (mx_lt _) hb)
    rmix_any

theorem hash3_gen (a b c A H B R : Nat) (w : World) (ha : a < 4294967296) (hb : b < 4294967296) (hc : c < 4294967296) (e1 : ((c : Int) + 2246822519) % 4294967296 = (A : Int)) (l1 : A < 4294967296) (l2 : H < 4294967296) (l3 : B < 4294967296) (l4 : R < 4294967296)
    (e2 : bits .xor .u32 (H : Int) (A : Int) = (B : Int)) (c1 : ∀ w, Calls Tryz.prog 27 #[.int .u32 (a : Nat), .int .u32 (b : Nat)] w fun e w' => e = .returned (.int .u32 (H : Nat)) ∧ w' = w) (c2 : ∀ w, Calls Tryz.prog 42 #[.int .u32 (B : Nat)] w fun e w' => e = .returned (.int .u32 (R : Nat)) ∧ w' = w) :
    Calls Tryz.prog 124 #[.int .u32 (a : Nat), .int .u32 (b : Nat), .int .u32 (c : Nat)] w fun e w' => e = .returned (.int .u32 (R : Nat)) ∧ w' = w := by
  go_enter Tryz.func124, Tryz.ntmps124
  go_wp2_with (first | (go_at_call 27; refine (c1 _).mono ?_; rintro e w' ⟨rfl, rfl⟩) | (go_at_call 42; refine (c2 _).mono ?_; rintro e w' ⟨rfl, rfl⟩))
  go_ret
  exact ⟨rfl, rfl⟩

theorem hash3_any (a b c : Nat) (w : World) (ha : a < 4294967296) (hb : b < 4294967296) (hc : c < 4294967296) :
    Calls Tryz.prog 124 #[.int .u32 (a : Nat), .int .u32 (b : Nat), .int .u32 (c : Nat)] w fun e w' => e = .returned (.int .u32 (h3 a b c : Nat)) ∧ w' = w :=
  hash3_gen a b c ((c + 2246822519) % 4294967296) (h2 a b) (h2 a b ^^^ ((c + 2246822519) % 4294967296)) (h3 a b c) w ha hb hc (by omega) (by omega) (h2_lt a b) (xor32 (h2_lt a b) (by omega)) (h3_lt a b c) (u32_xor_nat _ _ (h2_lt a b) (by omega))
    (fun w => hash2_any a b w ha hb) (fun w => mix_any _ w (xor32 (h2_lt a b) (by omega)))

theorem rhash3_gen (a b c A H B R : Nat) (w : World) (ha : a < 4294967296) (hb : b < 4294967296) (hc : c < 4294967296) (e1 : ((c : Int) + 2246822519) % 4294967296 = (A : Int)) (l1 : A < 4294967296) (l2 : H < 4294967296) (l3 : B < 4294967296) (l4 : R < 4294967296)
    (e2 : bits .xor .u32 (H : Int) (A : Int) = (B : Int)) (c1 : ∀ w, Calls Tryz.prog 29 #[.int .u32 (a : Nat), .int .u32 (b : Nat)] w fun e w' => e = .returned (.int .u32 (H : Nat)) ∧ w' = w) (c2 : ∀ w, Calls Tryz.prog 46 #[.int .u32 (B : Nat)] w fun e w' => e = .returned (.int .u32 (R : Nat)) ∧ w' = w) :
    Calls Tryz.prog 113 #[.int .u32 (a : Nat), .int .u32 (b : Nat), .int .u32 (c : Nat)] w fun e w' => e = .returned (.int .u32 (R : Nat)) ∧ w' = w := by
  go_enter Tryz.func113, Tryz.ntmps113
  go_wp2_with (first | (go_at_call 29; refine (c1 _).mono ?_; rintro e w' ⟨rfl, rfl⟩) | (go_at_call 46; refine (c2 _).mono ?_; rintro e w' ⟨rfl, rfl⟩))
  go_ret
  exact ⟨rfl, rfl⟩

theorem rhash3_any (a b c : Nat) (w : World) (ha : a < 4294967296) (hb : b < 4294967296) (hc : c < 4294967296) :
    Calls Tryz.prog 113 #[.int .u32 (a : Nat), .int .u32 (b : Nat), .int .u32 (c : Nat)] w fun e w' => e = .returned (.int .u32 (h3 a b c : Nat)) ∧ w' = w :=
  rhash3_gen a b c ((c + 2246822519) % 4294967296) (h2 a b) (h2 a b ^^^ ((c + 2246822519) % 4294967296)) (h3 a b c) w ha hb hc (by omega) (by omega) (h2_lt a b) (xor32 (h2_lt a b) (by omega)) (h3_lt a b c) (u32_xor_nat _ _ (h2_lt a b) (by omega))
    (fun w => rhash2_any a b w ha hb) (fun w => rmix_any _ w (xor32 (h2_lt a b) (by omega)))

end Go.Proofs.YtgfjmkjgagogpaaGreat.Mi

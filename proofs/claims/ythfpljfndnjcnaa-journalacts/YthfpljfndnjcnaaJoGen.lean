/-
  What the inner greatestGen of package journal does: a contract over plain numbers ('JoPlain').
  Conditions: the sectors lie in memory, one behind the other.
-/
import Derived.Test.YthfpljfndnjcnaaJoMem
namespace Go.Proofs.Ythfpljfndnjcnaa
open Go.RowKit By Dk Su Jo
set_option linter.unusedVariables false
set_option linter.unusedSimpArgs false

/- The greatest generation. -/
structure Top (ok : (Nat → Nat) → Prop) (S : Nat → Nat → Nat) (n G : Nat) : Prop where
  le : ∀ k, k < n → ok (S k) → genS (S k) ≤ G
  is : G = 0 ∨ ∃ k, k < n ∧ ok (S k) ∧ genS (S k) = G

theorem Top.zero (ok : (Nat → Nat) → Prop) (S : Nat → Nat → Nat) : Top ok S 0 0 := ⟨fun k hk => by omega, .inl rfl⟩

theorem Top.no {ok : (Nat → Nat) → Prop} {S : Nat → Nat → Nat} {n G : Nat} (h : Top ok S n G) (hn : ok (S n) → genS (S n) ≤ G) : Top ok S (n + 1) G := by
  refine ⟨fun k hk ho => ?_, ?_⟩
  · by_cases e : k = n
    · subst e; exact hn ho
    · exact h.le k (by omega) ho
  · rcases h.is with e | ⟨k, h1, h2, h3⟩
    · exact .inl e
    · exact .inr ⟨k, by omega, h2, h3⟩

theorem Top.yes {ok : (Nat → Nat) → Prop} {S : Nat → Nat → Nat} {n G : Nat} (h : Top ok S n G) (ho : ok (S n)) (hG : G ≤ genS (S n)) : Top ok S (n + 1) (genS (S n)) := by
  refine ⟨fun k hk hk2 => ?_, .inr ⟨n, by omega, ho, rfl⟩⟩
  by_cases e : k = n
  · subst e; exact Nat.le_refl _
  · have := h.le k (by omega) hk2
    omega

theorem Top.congr {ok ok' : (Nat → Nat) → Prop} {S : Nat → Nat → Nat} {n G : Nat} (h : Top ok S n G) (e : ∀ k, k < n → (ok (S k) ↔ ok' (S k))) : Top ok' S n G :=
  ⟨fun k hk ho => h.le k hk ((e k hk).2 ho), h.is.imp id fun ⟨k, h1, h2, h3⟩ => ⟨k, h1, (e k h1).1 h2, h3⟩⟩

theorem Top.uniq {ok : (Nat → Nat) → Prop} {S : Nat → Nat → Nat} {n G G' : Nat} (h : Top ok S n G) (k : Top ok S n G') : G = G' := by
  have h1 : G ≤ G' := by
    rcases h.is with e | ⟨j, a, b, c⟩
    · omega
    · rw [← c]; exact k.le j a b
  have h2 : G' ≤ G := by
    rcases k.is with e | ⟨j, a, b, c⟩
    · omega
    · rw [← c]; exact h.le j a b
  omega

theorem vs_lt {f : Nat → Nat} (h : ∀ i, f i < 256) (k j : Nat) : vs f k j < 256 := cut_lt (fun i => h _) j

theorem gen_lt {s : Nat → Nat} (h : ∀ i, s i < 256) : genS s < 65536 := by
  have := h 1
  have := h 2
  unfold genS
  omega

/- The sectors from one on, as a list of bytes. -/
structure Rest (w : World) (x : Option Addr) (l c n k : Nat) (F : Nat → Nat) : Prop where
  len : l = 64 * (n - k)
  le : l ≤ c
  row : RowAt w x l (fun i => F (64 * k + i))

theorem Rest.here {w : World} {x : Option Addr} {l c n k : Nat} {F : Nat → Nat} (h : Rest w x l c n k F) (hk : k < n) :
    ∃ b o, x = some ⟨b, o, none⟩ ∧ 64 ≤ l ∧ RowAt w (some ⟨b, o, none⟩) 64 (vs F k) ∧ ∃ x', (∀ v, (Instr.slice 31 (.slice (some ⟨b, o, none⟩) l c) (some (.int .i64 64)) none none).run Try.prog v = .ok (.slice x' (l - 64) (c - 64)) v) ∧ ∀ v, RowAt v (some ⟨b, o, none⟩) l (fun i => F (64 * k + i)) → Rest v x' (l - 64) (c - 64) n (k + 1) F := by
  have hl := h.len
  have hc := h.le
  have h64 : 64 ≤ l := by omega
  have hr := h.row
  rcases hr with h0 | ⟨b, o, rfl, h1, h2⟩
  · omega
  · obtain ⟨x', e1, _, e2⟩ := cut_any b o l c 64 h64 hc
    refine ⟨b, o, rfl, h64, ?_, x', e1, fun v hv => ⟨by omega, by omega, (e2 v _ hv).congr fun i hi => by congr 1; omega⟩⟩
    exact (h.row.take h64).congr fun i hi => by unfold vs cut sec; rw [if_pos hi]

theorem Rest.below {w w' : World} {x : Option Addr} {l c n k : Nat} {F : Nat → Nat} (h : Rest w x l c n k F) (t : Below w.heap.size w w') : Rest w' x l c n k F := ⟨h.len, h.le, h.row.below t⟩

def slLen : Value → Nat
  | .slice _ l _ => l
  | _ => 0

set_option maxHeartbeats 1000000 in
theorem greatest_any (n c l : Nat) (x : Option Addr) (F : Nat → Nat) (w : World) (hF : ∀ i, F i < 256) (hn : n ≤ 4096) (h : Rest w x l c n 0 F) :
    Calls Try.prog 30 #[.slice x l c] w fun e w' => ∃ G : Nat, e = .returned (.int .i64 (G : Int)) ∧ Below w.heap.size w w' ∧ Top OkP (vs F) n G ∧ G < 65536 := by
  have H0 := hid h
  clear h
  go_enter Try.func30, Try.ntmps30
  go_wp2_with fail
  go_loopw [0, 3] (fun s g wr => ∃ (k : Nat) (x : Option Addr) (l c G : Nat), k ≤ n ∧ G < 65536 ∧ s = .slice x l c ∧ g = .int .i64 G ∧ Hid (Rest wr x l c n k F ∧ Top OkP (vs F) k G ∧ Below w.heap.size w wr)) (fun s _ _ => slLen s)
  case atStart => exact ⟨0, x, l, c, 0, by omega, by omega, rfl, rfl, H0.out, Top.zero _ _, Below.refl _ _⟩
  case round =>
    clear H0
    obtain ⟨k, x, l, c, G, hk, hG, rfl, rfl, HR⟩ := hrel
    obtain ⟨hrest, htop, hbel⟩ := HR.out
    by_cases hlt : k < n
    · obtain ⟨b, o, rfl, h64, hrow, x', hcut, hnext⟩ := hrest.here hlt
      have hlc := hrest.le
      have hl0 : (0 : Int) < (l : Int) := by omega
      have hc64 : 64 ≤ c := by omega
      have hkeep : ∀ v, Below wr.heap.size wr v → Hid (Rest v x' (l - 64) (c - 64) n (k + 1) F) := fun v hv => hnext v (hrest.row.below hv)
      have HB := hid hbel
      by_cases hok : OkP (vs F k)
      · have hp := partof_yes b o c (vs F k) wr (vs_lt hF k) hc64 hrow hok
        have hgl := gen_lt (vs_lt hF k)
        have HT1 : G ≤ genS (vs F k) → Hid (Top OkP (vs F) (k + 1) (genS (vs F k))) := fun e => htop.yes hok e
        have HT2 : genS (vs F k) ≤ G → Hid (Top OkP (vs F) (k + 1) G) := fun e => htop.no fun _ => e
        clear hrest htop hbel HR hnext hrow hok
        generalize genS (vs F k) = g at *
        generalize num (vs F k) = N at *
        generalize vs F k 7 = P at *
        generalize lst (vs F k) = L at *
        generalize cnt (vs F k) = M at *
        have HT : Hid (Top OkP (vs F) (k + 1) (if G < g then g else G)) := by
          by_cases e : G < g
          · rw [if_pos e]; exact HT1 (by omega)
          · rw [if_neg e]; exact HT2 (by omega)
        have hG2 : (if G < g then g else G) < 65536 := by split <;> omega
        have hv : (if G < g then (g : Int) else (G : Int)) = ((if G < g then g else G : Nat) : Int) := by split <;> rfl
        have HE := hid (And.intro hG2 hv)
        clear HT1 HT2 hG2 hv
        go_wp2_with (first
          | (go_at_call 44; refine hp.mono ?_; rintro e w1 ⟨y, cy, rfl, hb1, _⟩; clear hp))
        have hb2 : Below wr.heap.size wr (w1.alloc (.cells #[.int .i64 (g : Int), .int .u32 (N : Int), .int .i64 (P : Int), .bool L, .slice (some ⟨y, 9, none⟩) M cy] 79)) := hb1.alloc hb1.size _
        first
          | exact ⟨⟨k + 1, x', l - 64, c - 64, _, hlt, HE.out.1, rfl, by rw [HE.out.2], hkeep _ hb2, HT.out, HB.out.trans (hb2.mono HB.out.size)⟩, by simp only [slLen]; omega⟩
          | (go_roundw
             case rel => exact ⟨k + 1, x', l - 64, c - 64, _, hlt, HE.out.1, rfl, by rw [HE.out.2], hkeep _ hb2, HT.out, HB.out.trans (hb2.mono HB.out.size)⟩
             case measure => simp only [slLen]; omega)
      · have hp := partof_no b o c (vs F k) wr (vs_lt hF k) hc64 hrow hok
        have HT : Hid (Top OkP (vs F) (k + 1) G) := htop.no fun h => absurd h hok
        clear hrest htop hbel HR hnext hrow hok
        unfold noPart at hp
        go_wp2_with (first
          | (go_at_call 44; refine hp.mono ?_; rintro e w1 ⟨rfl, hb1⟩; clear hp))
        have hb2 : Below wr.heap.size wr (w1.alloc (.cells #[.int .i64 0, .int .u32 0, .int .i64 0, .bool false, .slice none 0 0] 79)) := hb1.alloc hb1.size _
        first
          | exact ⟨⟨k + 1, x', l - 64, c - 64, G, hlt, hG, rfl, rfl, hkeep _ hb2, HT.out, HB.out.trans (hb2.mono HB.out.size)⟩, by simp only [slLen]; omega⟩
          | (go_roundw
             case rel => exact ⟨k + 1, x', l - 64, c - 64, G, hlt, hG, rfl, rfl, hkeep _ hb2, HT.out, HB.out.trans (hb2.mono HB.out.size)⟩
             case measure => simp only [slLen]; omega)
    · obtain rfl : k = n := by omega
      have hl0 : l = 0 := by have := hrest.len; omega
      have HT := hid htop
      have HB := hid hbel
      clear hrest htop hbel HR
      subst hl0
      go_wp2_with fail
      go_ret
      exact ⟨G, rfl, HB.out, HT.out, hG⟩

end Go.Proofs.Ythfpljfndnjcnaa

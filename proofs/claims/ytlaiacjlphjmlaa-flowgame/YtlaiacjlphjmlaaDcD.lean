/-
  The document's fields: contracts.
-/
import Derived.Test.YtlaiacjlphjmlaaDcA
namespace Go.Proofs.Ytlaiacjlphjmlaa
open Go.RowKit
set_option linter.unusedVariables false

set_option maxRecDepth 100000 in
set_option maxHeartbeats 4000000 in
theorem dfields_u (pk pn : Int) (ps : ByteArray) (aa : Option Addr) (la ca : Nat) (ao : Option Addr) (lo co : Nat) (nb sk : Bool) (tr : Int) (ar le mo fb : Nat) (w : World) (hk1 : 1 ≤ pk) (hk2 : pk ≤ 9) (hr1 : -9223372036854775808 ≤ pn) (hr2 : pn ≤ 9223372036854775807) (hca : la ≤ ca) (hla : la ≤ 9223372036854775807) (hco : lo ≤ co) (hlo : lo ≤ 9223372036854775807) (hle : le ≤ 2) (hmo : mo ≤ 16) (htr : tr ≤ 9)
    (hnb1 : nb = true → tr = 9) (hnb2 : nb = false → tr = 0) (hnb3 : tr < pn → ¬ 9 < pn → 0 < pn ∧ nb = false) (har1 : sk = true → ar = 1) (har2 : sk = false → ar = 0)
    (H64 : Hid (∀ w, Calls Try.prog 47 #[.int .i64 pk] w fun e w' => e = .returned (.bool false) ∧ w' = w)) (H65 : Hid (∀ w, Calls Try.prog 48 #[.int .i64 pk] w fun e w' => e = .returned (.bool nb) ∧ w' = w)) (H66 : Hid (∀ w, Calls Try.prog 49 #[.int .i64 pk] w fun e w' => e = .returned (.bool sk) ∧ w' = w)) (H67 : Hid (∀ w, Calls Try.prog 50 #[.int .i64 pk] w fun e w' => e = .returned (.tuple #[.int .i64 le, .int .i64 mo]) ∧ w' = w))
    (HF0 : Hid (la = 0 → fb = 0)) (HF1 : Hid (la = 1 → ∃ b o ka kc yk yn ys yl, aa = some ⟨b, o, none⟩ ∧ b < w.heap.size ∧ w.cell? ⟨b, o, none⟩ = some (.int .i64 yk) ∧ w.cell? ⟨b, o + 1, none⟩ = some (.int .i64 yn) ∧ w.cell? ⟨b, o + 2, none⟩ = some (.string ys) ∧ w.cell? ⟨b, o + 3, none⟩ = some (.slice ka yl kc) ∧ ∀ o, Calls Try.prog 51 #[.agg #[.int .i64 yk, .int .i64 yn, .string ys, .slice ka yl kc], .bool false] (w.alloc o) fun e w' => e = .returned (.int .i64 (fb : Nat)) ∧ Below w.heap.size w w'))
    (ge : (ps.toList == []) = true) :
    Calls Try.prog 36 #[.agg #[.int .i64 pk, .string ps, .int .i64 pn, .slice aa la ca, .slice ao lo co]] w fun e w' => e = .returned (.int .i64 ((if pn < 0 ∨ tr < pn then 2 else if la ≠ ar then 1 else if lo < le ∨ mo < lo then 8 else fb : Nat) : Nat)) ∧ Below w.heap.size w w' := by
  by_cases hn1 : pn < 0
  · rw [if_pos (.inl hn1)]
    go_enter Try.func36, Try.ntmps36
    go_wp2_with (first
      | (go_at_call 51; refine (H68.out _).mono ?_; rintro e w3 ⟨rfl, HB⟩; have HB3 : Hid (Below w.heap.size w w3) := HB; clear HB)
      | (go_at_call 50; refine (H67.out _).mono ?_; rintro e w3 ⟨rfl, h3⟩; have h4q := h3.symm; clear h3; subst h4q)
      | (go_at_call 49; refine (H66.out _).mono ?_; rintro e w3 ⟨rfl, h3⟩; have h4q := h3.symm; clear h3; subst h4q)
      | (go_at_call 48; refine (H65.out _).mono ?_; rintro e w3 ⟨rfl, h3⟩; have h4q := h3.symm; clear h3; subst h4q)
      | (go_at_call 35; refine (H31.out _).mono ?_; rintro e w3 ⟨rfl, h3⟩; have h4q := h3.symm; clear h3; subst h4q)
      | (go_at_call 47; refine (H64.out _).mono ?_; rintro e w3 ⟨rfl, h3⟩; have h4q := h3.symm; clear h3; subst h4q))
    go_ret
    exact ⟨rfl, (Below.refl _ _).alloc (Nat.le_refl _) _⟩
  by_cases hn2 : 9 < pn
  · rw [if_pos (.inr (by omega))]
    go_enter Try.func36, Try.ntmps36
    go_wp2_with (first
      | (go_at_call 51; refine (H68.out _).mono ?_; rintro e w3 ⟨rfl, HB⟩; have HB3 : Hid (Below w.heap.size w w3) := HB; clear HB)
      | (go_at_call 50; refine (H67.out _).mono ?_; rintro e w3 ⟨rfl, h3⟩; have h4q := h3.symm; clear h3; subst h4q)
      | (go_at_call 49; refine (H66.out _).mono ?_; rintro e w3 ⟨rfl, h3⟩; have h4q := h3.symm; clear h3; subst h4q)
      | (go_at_call 48; refine (H65.out _).mono ?_; rintro e w3 ⟨rfl, h3⟩; have h4q := h3.symm; clear h3; subst h4q)
      | (go_at_call 35; refine (H31.out _).mono ?_; rintro e w3 ⟨rfl, h3⟩; have h4q := h3.symm; clear h3; subst h4q)
      | (go_at_call 47; refine (H64.out _).mono ?_; rintro e w3 ⟨rfl, h3⟩; have h4q := h3.symm; clear h3; subst h4q))
    go_ret
    exact ⟨rfl, (Below.refl _ _).alloc (Nat.le_refl _) _⟩
  by_cases hn3 : 0 < pn ∧ nb = false
  · obtain ⟨hn4, rfl⟩ := hn3
    rw [if_pos (.inr (by have := hnb2 rfl; omega))]
    go_enter Try.func36, Try.ntmps36
    go_wp2_with (first
      | (go_at_call 51; refine (H68.out _).mono ?_; rintro e w3 ⟨rfl, HB⟩; have HB3 : Hid (Below w.heap.size w w3) := HB; clear HB)
      | (go_at_call 50; refine (H67.out _).mono ?_; rintro e w3 ⟨rfl, h3⟩; have h4q := h3.symm; clear h3; subst h4q)
      | (go_at_call 49; refine (H66.out _).mono ?_; rintro e w3 ⟨rfl, h3⟩; have h4q := h3.symm; clear h3; subst h4q)
      | (go_at_call 48; refine (H65.out _).mono ?_; rintro e w3 ⟨rfl, h3⟩; have h4q := h3.symm; clear h3; subst h4q)
      | (go_at_call 35; refine (H31.out _).mono ?_; rintro e w3 ⟨rfl, h3⟩; have h4q := h3.symm; clear h3; subst h4q)
      | (go_at_call 47; refine (H64.out _).mono ?_; rintro e w3 ⟨rfl, h3⟩; have h4q := h3.symm; clear h3; subst h4q))
    go_ret
    exact ⟨rfl, (Below.refl _ _).alloc (Nat.le_refl _) _⟩
  rw [if_neg (by rintro (h | h); exact hn1 h; exact hn3 (hnb3 h hn2))]
  have hno : pn = 0 ∨ 0 < pn ∧ nb = true := by
    rcases Int.lt_trichotomy pn 0 with h | h | h
    · exact absurd h hn1
    · exact .inl h
    · cases nb with
      | true => exact .inr ⟨h, rfl⟩
      | false => exact absurd ⟨h, rfl⟩ hn3
  clear hnb1 hnb2 hnb3 hn3
  rcases hno with rfl | ⟨hn4, rfl⟩
  · by_cases h4 : la = ar
    case neg =>
      rw [if_pos h4]
      have h4' : ¬ (la : Int) = ar := by omega
      cases sk with
      | true =>
        have har := har1 rfl
        subst har
        go_enter Try.func36, Try.ntmps36
        go_wp2_with (first
          | (go_at_call 51; refine (H68.out _).mono ?_; rintro e w3 ⟨rfl, HB⟩; have HB3 : Hid (Below w.heap.size w w3) := HB; clear HB)
          | (go_at_call 50; refine (H67.out _).mono ?_; rintro e w3 ⟨rfl, h3⟩; have h4q := h3.symm; clear h3; subst h4q)
          | (go_at_call 49; refine (H66.out _).mono ?_; rintro e w3 ⟨rfl, h3⟩; have h4q := h3.symm; clear h3; subst h4q)
          | (go_at_call 48; refine (H65.out _).mono ?_; rintro e w3 ⟨rfl, h3⟩; have h4q := h3.symm; clear h3; subst h4q)
          | (go_at_call 35; refine (H31.out _).mono ?_; rintro e w3 ⟨rfl, h3⟩; have h4q := h3.symm; clear h3; subst h4q)
          | (go_at_call 47; refine (H64.out _).mono ?_; rintro e w3 ⟨rfl, h3⟩; have h4q := h3.symm; clear h3; subst h4q))
        go_ret
        exact ⟨rfl, (Below.refl _ _).alloc (Nat.le_refl _) _⟩
      | false =>
        have har := har2 rfl
        subst har
        go_enter Try.func36, Try.ntmps36
        go_wp2_with (first
          | (go_at_call 51; refine (H68.out _).mono ?_; rintro e w3 ⟨rfl, HB⟩; have HB3 : Hid (Below w.heap.size w w3) := HB; clear HB)
          | (go_at_call 50; refine (H67.out _).mono ?_; rintro e w3 ⟨rfl, h3⟩; have h4q := h3.symm; clear h3; subst h4q)
          | (go_at_call 49; refine (H66.out _).mono ?_; rintro e w3 ⟨rfl, h3⟩; have h4q := h3.symm; clear h3; subst h4q)
          | (go_at_call 48; refine (H65.out _).mono ?_; rintro e w3 ⟨rfl, h3⟩; have h4q := h3.symm; clear h3; subst h4q)
          | (go_at_call 35; refine (H31.out _).mono ?_; rintro e w3 ⟨rfl, h3⟩; have h4q := h3.symm; clear h3; subst h4q)
          | (go_at_call 47; refine (H64.out _).mono ?_; rintro e w3 ⟨rfl, h3⟩; have h4q := h3.symm; clear h3; subst h4q))
        go_ret
        exact ⟨rfl, (Below.refl _ _).alloc (Nat.le_refl _) _⟩
    rw [if_neg (by simpa using h4)]
    subst h4
    cases sk with
    | true =>
      have har := har1 rfl
      subst har
      by_cases h5 : lo < le
      · rw [if_pos (.inl h5)]
        go_enter Try.func36, Try.ntmps36
        go_wp2_with (first
          | (go_at_call 51; refine (H68.out _).mono ?_; rintro e w3 ⟨rfl, HB⟩; have HB3 : Hid (Below w.heap.size w w3) := HB; clear HB)
          | (go_at_call 50; refine (H67.out _).mono ?_; rintro e w3 ⟨rfl, h3⟩; have h4q := h3.symm; clear h3; subst h4q)
          | (go_at_call 49; refine (H66.out _).mono ?_; rintro e w3 ⟨rfl, h3⟩; have h4q := h3.symm; clear h3; subst h4q)
          | (go_at_call 48; refine (H65.out _).mono ?_; rintro e w3 ⟨rfl, h3⟩; have h4q := h3.symm; clear h3; subst h4q)
          | (go_at_call 35; refine (H31.out _).mono ?_; rintro e w3 ⟨rfl, h3⟩; have h4q := h3.symm; clear h3; subst h4q)
          | (go_at_call 47; refine (H64.out _).mono ?_; rintro e w3 ⟨rfl, h3⟩; have h4q := h3.symm; clear h3; subst h4q))
        go_ret
        exact ⟨rfl, (Below.refl _ _).alloc (Nat.le_refl _) _⟩
      by_cases h6 : mo < lo
      · rw [if_pos (.inr h6)]
        go_enter Try.func36, Try.ntmps36
        go_wp2_with (first
          | (go_at_call 51; refine (H68.out _).mono ?_; rintro e w3 ⟨rfl, HB⟩; have HB3 : Hid (Below w.heap.size w w3) := HB; clear HB)
          | (go_at_call 50; refine (H67.out _).mono ?_; rintro e w3 ⟨rfl, h3⟩; have h4q := h3.symm; clear h3; subst h4q)
          | (go_at_call 49; refine (H66.out _).mono ?_; rintro e w3 ⟨rfl, h3⟩; have h4q := h3.symm; clear h3; subst h4q)
          | (go_at_call 48; refine (H65.out _).mono ?_; rintro e w3 ⟨rfl, h3⟩; have h4q := h3.symm; clear h3; subst h4q)
          | (go_at_call 35; refine (H31.out _).mono ?_; rintro e w3 ⟨rfl, h3⟩; have h4q := h3.symm; clear h3; subst h4q)
          | (go_at_call 47; refine (H64.out _).mono ?_; rintro e w3 ⟨rfl, h3⟩; have h4q := h3.symm; clear h3; subst h4q))
        go_ret
        exact ⟨rfl, (Below.refl _ _).alloc (Nat.le_refl _) _⟩
      rw [if_neg (by rintro (h | h); exact h5 h; exact h6 h)]
      obtain ⟨b, o, ka, kc, yk, yn, ys, yl, rfl, hbl, k0, k1, k2, k3, h68⟩ := HF1.out (by trivial)
      have H68 : Hid (∀ o, Calls Try.prog 51 #[.agg #[.int .i64 yk, .int .i64 yn, .string ys, .slice ka yl kc], .bool false] (w.alloc o) fun e w' => e = .returned (.int .i64 (fb : Nat)) ∧ Below w.heap.size w w') := h68
      clear h68
      go_enter Try.func36, Try.ntmps36
      go_wp2_with (first
        | (go_at_call 51; refine (H68.out _).mono ?_; rintro e w3 ⟨rfl, HB⟩; have HB3 : Hid (Below w.heap.size w w3) := HB; clear HB)
        | (go_at_call 50; refine (H67.out _).mono ?_; rintro e w3 ⟨rfl, h3⟩; have h4q := h3.symm; clear h3; subst h4q)
        | (go_at_call 49; refine (H66.out _).mono ?_; rintro e w3 ⟨rfl, h3⟩; have h4q := h3.symm; clear h3; subst h4q)
        | (go_at_call 48; refine (H65.out _).mono ?_; rintro e w3 ⟨rfl, h3⟩; have h4q := h3.symm; clear h3; subst h4q)
        | (go_at_call 35; refine (H31.out _).mono ?_; rintro e w3 ⟨rfl, h3⟩; have h4q := h3.symm; clear h3; subst h4q)
        | (go_at_call 47; refine (H64.out _).mono ?_; rintro e w3 ⟨rfl, h3⟩; have h4q := h3.symm; clear h3; subst h4q))
      go_ret
      exact ⟨rfl, HB3.out⟩
    | false =>
      have har := har2 rfl
      subst har
      by_cases h5 : lo < le
      · rw [if_pos (.inl h5)]
        go_enter Try.func36, Try.ntmps36
        go_wp2_with (first
          | (go_at_call 51; refine (H68.out _).mono ?_; rintro e w3 ⟨rfl, HB⟩; have HB3 : Hid (Below w.heap.size w w3) := HB; clear HB)
          | (go_at_call 50; refine (H67.out _).mono ?_; rintro e w3 ⟨rfl, h3⟩; have h4q := h3.symm; clear h3; subst h4q)
          | (go_at_call 49; refine (H66.out _).mono ?_; rintro e w3 ⟨rfl, h3⟩; have h4q := h3.symm; clear h3; subst h4q)
          | (go_at_call 48; refine (H65.out _).mono ?_; rintro e w3 ⟨rfl, h3⟩; have h4q := h3.symm; clear h3; subst h4q)
          | (go_at_call 35; refine (H31.out _).mono ?_; rintro e w3 ⟨rfl, h3⟩; have h4q := h3.symm; clear h3; subst h4q)
          | (go_at_call 47; refine (H64.out _).mono ?_; rintro e w3 ⟨rfl, h3⟩; have h4q := h3.symm; clear h3; subst h4q))
        go_ret
        exact ⟨rfl, (Below.refl _ _).alloc (Nat.le_refl _) _⟩
      by_cases h6 : mo < lo
      · rw [if_pos (.inr h6)]
        go_enter Try.func36, Try.ntmps36
        go_wp2_with (first
          | (go_at_call 51; refine (H68.out _).mono ?_; rintro e w3 ⟨rfl, HB⟩; have HB3 : Hid (Below w.heap.size w w3) := HB; clear HB)
          | (go_at_call 50; refine (H67.out _).mono ?_; rintro e w3 ⟨rfl, h3⟩; have h4q := h3.symm; clear h3; subst h4q)
          | (go_at_call 49; refine (H66.out _).mono ?_; rintro e w3 ⟨rfl, h3⟩; have h4q := h3.symm; clear h3; subst h4q)
          | (go_at_call 48; refine (H65.out _).mono ?_; rintro e w3 ⟨rfl, h3⟩; have h4q := h3.symm; clear h3; subst h4q)
          | (go_at_call 35; refine (H31.out _).mono ?_; rintro e w3 ⟨rfl, h3⟩; have h4q := h3.symm; clear h3; subst h4q)
          | (go_at_call 47; refine (H64.out _).mono ?_; rintro e w3 ⟨rfl, h3⟩; have h4q := h3.symm; clear h3; subst h4q))
        go_ret
        exact ⟨rfl, (Below.refl _ _).alloc (Nat.le_refl _) _⟩
      rw [if_neg (by rintro (h | h); exact h5 h; exact h6 h)]
      have hfb := HF0.out (by trivial)
      subst hfb
      go_enter Try.func36, Try.ntmps36
      go_wp2_with (first
        | (go_at_call 51; refine (H68.out _).mono ?_; rintro e w3 ⟨rfl, HB⟩; have HB3 : Hid (Below w.heap.size w w3) := HB; clear HB)
        | (go_at_call 50; refine (H67.out _).mono ?_; rintro e w3 ⟨rfl, h3⟩; have h4q := h3.symm; clear h3; subst h4q)
        | (go_at_call 49; refine (H66.out _).mono ?_; rintro e w3 ⟨rfl, h3⟩; have h4q := h3.symm; clear h3; subst h4q)
        | (go_at_call 48; refine (H65.out _).mono ?_; rintro e w3 ⟨rfl, h3⟩; have h4q := h3.symm; clear h3; subst h4q)
        | (go_at_call 35; refine (H31.out _).mono ?_; rintro e w3 ⟨rfl, h3⟩; have h4q := h3.symm; clear h3; subst h4q)
        | (go_at_call 47; refine (H64.out _).mono ?_; rintro e w3 ⟨rfl, h3⟩; have h4q := h3.symm; clear h3; subst h4q))
      go_ret
      exact ⟨rfl, (Below.refl _ _).alloc (Nat.le_refl _) _⟩
  · by_cases h4 : la = ar
    case neg =>
      rw [if_pos h4]
      have h4' : ¬ (la : Int) = ar := by omega
      cases sk with
      | true =>
        have har := har1 rfl
        subst har
        go_enter Try.func36, Try.ntmps36
        go_wp2_with (first
          | (go_at_call 51; refine (H68.out _).mono ?_; rintro e w3 ⟨rfl, HB⟩; have HB3 : Hid (Below w.heap.size w w3) := HB; clear HB)
          | (go_at_call 50; refine (H67.out _).mono ?_; rintro e w3 ⟨rfl, h3⟩; have h4q := h3.symm; clear h3; subst h4q)
          | (go_at_call 49; refine (H66.out _).mono ?_; rintro e w3 ⟨rfl, h3⟩; have h4q := h3.symm; clear h3; subst h4q)
          | (go_at_call 48; refine (H65.out _).mono ?_; rintro e w3 ⟨rfl, h3⟩; have h4q := h3.symm; clear h3; subst h4q)
          | (go_at_call 35; refine (H31.out _).mono ?_; rintro e w3 ⟨rfl, h3⟩; have h4q := h3.symm; clear h3; subst h4q)
          | (go_at_call 47; refine (H64.out _).mono ?_; rintro e w3 ⟨rfl, h3⟩; have h4q := h3.symm; clear h3; subst h4q))
        go_ret
        exact ⟨rfl, (Below.refl _ _).alloc (Nat.le_refl _) _⟩
      | false =>
        have har := har2 rfl
        subst har
        go_enter Try.func36, Try.ntmps36
        go_wp2_with (first
          | (go_at_call 51; refine (H68.out _).mono ?_; rintro e w3 ⟨rfl, HB⟩; have HB3 : Hid (Below w.heap.size w w3) := HB; clear HB)
          | (go_at_call 50; refine (H67.out _).mono ?_; rintro e w3 ⟨rfl, h3⟩; have h4q := h3.symm; clear h3; subst h4q)
          | (go_at_call 49; refine (H66.out _).mono ?_; rintro e w3 ⟨rfl, h3⟩; have h4q := h3.symm; clear h3; subst h4q)
          | (go_at_call 48; refine (H65.out _).mono ?_; rintro e w3 ⟨rfl, h3⟩; have h4q := h3.symm; clear h3; subst h4q)
          | (go_at_call 35; refine (H31.out _).mono ?_; rintro e w3 ⟨rfl, h3⟩; have h4q := h3.symm; clear h3; subst h4q)
          | (go_at_call 47; refine (H64.out _).mono ?_; rintro e w3 ⟨rfl, h3⟩; have h4q := h3.symm; clear h3; subst h4q))
        go_ret
        exact ⟨rfl, (Below.refl _ _).alloc (Nat.le_refl _) _⟩
    rw [if_neg (by simpa using h4)]
    subst h4
    cases sk with
    | true =>
      have har := har1 rfl
      subst har
      by_cases h5 : lo < le
      · rw [if_pos (.inl h5)]
        go_enter Try.func36, Try.ntmps36
        go_wp2_with (first
          | (go_at_call 51; refine (H68.out _).mono ?_; rintro e w3 ⟨rfl, HB⟩; have HB3 : Hid (Below w.heap.size w w3) := HB; clear HB)
          | (go_at_call 50; refine (H67.out _).mono ?_; rintro e w3 ⟨rfl, h3⟩; have h4q := h3.symm; clear h3; subst h4q)
          | (go_at_call 49; refine (H66.out _).mono ?_; rintro e w3 ⟨rfl, h3⟩; have h4q := h3.symm; clear h3; subst h4q)
          | (go_at_call 48; refine (H65.out _).mono ?_; rintro e w3 ⟨rfl, h3⟩; have h4q := h3.symm; clear h3; subst h4q)
          | (go_at_call 35; refine (H31.out _).mono ?_; rintro e w3 ⟨rfl, h3⟩; have h4q := h3.symm; clear h3; subst h4q)
          | (go_at_call 47; refine (H64.out _).mono ?_; rintro e w3 ⟨rfl, h3⟩; have h4q := h3.symm; clear h3; subst h4q))
        go_ret
        exact ⟨rfl, (Below.refl _ _).alloc (Nat.le_refl _) _⟩
      by_cases h6 : mo < lo
      · rw [if_pos (.inr h6)]
        go_enter Try.func36, Try.ntmps36
        go_wp2_with (first
          | (go_at_call 51; refine (H68.out _).mono ?_; rintro e w3 ⟨rfl, HB⟩; have HB3 : Hid (Below w.heap.size w w3) := HB; clear HB)
          | (go_at_call 50; refine (H67.out _).mono ?_; rintro e w3 ⟨rfl, h3⟩; have h4q := h3.symm; clear h3; subst h4q)
          | (go_at_call 49; refine (H66.out _).mono ?_; rintro e w3 ⟨rfl, h3⟩; have h4q := h3.symm; clear h3; subst h4q)
          | (go_at_call 48; refine (H65.out _).mono ?_; rintro e w3 ⟨rfl, h3⟩; have h4q := h3.symm; clear h3; subst h4q)
          | (go_at_call 35; refine (H31.out _).mono ?_; rintro e w3 ⟨rfl, h3⟩; have h4q := h3.symm; clear h3; subst h4q)
          | (go_at_call 47; refine (H64.out _).mono ?_; rintro e w3 ⟨rfl, h3⟩; have h4q := h3.symm; clear h3; subst h4q))
        go_ret
        exact ⟨rfl, (Below.refl _ _).alloc (Nat.le_refl _) _⟩
      rw [if_neg (by rintro (h | h); exact h5 h; exact h6 h)]
      obtain ⟨b, o, ka, kc, yk, yn, ys, yl, rfl, hbl, k0, k1, k2, k3, h68⟩ := HF1.out (by trivial)
      have H68 : Hid (∀ o, Calls Try.prog 51 #[.agg #[.int .i64 yk, .int .i64 yn, .string ys, .slice ka yl kc], .bool false] (w.alloc o) fun e w' => e = .returned (.int .i64 (fb : Nat)) ∧ Below w.heap.size w w') := h68
      clear h68
      go_enter Try.func36, Try.ntmps36
      go_wp2_with (first
        | (go_at_call 51; refine (H68.out _).mono ?_; rintro e w3 ⟨rfl, HB⟩; have HB3 : Hid (Below w.heap.size w w3) := HB; clear HB)
        | (go_at_call 50; refine (H67.out _).mono ?_; rintro e w3 ⟨rfl, h3⟩; have h4q := h3.symm; clear h3; subst h4q)
        | (go_at_call 49; refine (H66.out _).mono ?_; rintro e w3 ⟨rfl, h3⟩; have h4q := h3.symm; clear h3; subst h4q)
        | (go_at_call 48; refine (H65.out _).mono ?_; rintro e w3 ⟨rfl, h3⟩; have h4q := h3.symm; clear h3; subst h4q)
        | (go_at_call 35; refine (H31.out _).mono ?_; rintro e w3 ⟨rfl, h3⟩; have h4q := h3.symm; clear h3; subst h4q)
        | (go_at_call 47; refine (H64.out _).mono ?_; rintro e w3 ⟨rfl, h3⟩; have h4q := h3.symm; clear h3; subst h4q))
      go_ret
      exact ⟨rfl, HB3.out⟩
    | false =>
      have har := har2 rfl
      subst har
      by_cases h5 : lo < le
      · rw [if_pos (.inl h5)]
        go_enter Try.func36, Try.ntmps36
        go_wp2_with (first
          | (go_at_call 51; refine (H68.out _).mono ?_; rintro e w3 ⟨rfl, HB⟩; have HB3 : Hid (Below w.heap.size w w3) := HB; clear HB)
          | (go_at_call 50; refine (H67.out _).mono ?_; rintro e w3 ⟨rfl, h3⟩; have h4q := h3.symm; clear h3; subst h4q)
          | (go_at_call 49; refine (H66.out _).mono ?_; rintro e w3 ⟨rfl, h3⟩; have h4q := h3.symm; clear h3; subst h4q)
          | (go_at_call 48; refine (H65.out _).mono ?_; rintro e w3 ⟨rfl, h3⟩; have h4q := h3.symm; clear h3; subst h4q)
          | (go_at_call 35; refine (H31.out _).mono ?_; rintro e w3 ⟨rfl, h3⟩; have h4q := h3.symm; clear h3; subst h4q)
          | (go_at_call 47; refine (H64.out _).mono ?_; rintro e w3 ⟨rfl, h3⟩; have h4q := h3.symm; clear h3; subst h4q))
        go_ret
        exact ⟨rfl, (Below.refl _ _).alloc (Nat.le_refl _) _⟩
      by_cases h6 : mo < lo
      · rw [if_pos (.inr h6)]
        go_enter Try.func36, Try.ntmps36
        go_wp2_with (first
          | (go_at_call 51; refine (H68.out _).mono ?_; rintro e w3 ⟨rfl, HB⟩; have HB3 : Hid (Below w.heap.size w w3) := HB; clear HB)
          | (go_at_call 50; refine (H67.out _).mono ?_; rintro e w3 ⟨rfl, h3⟩; have h4q := h3.symm; clear h3; subst h4q)
          | (go_at_call 49; refine (H66.out _).mono ?_; rintro e w3 ⟨rfl, h3⟩; have h4q := h3.symm; clear h3; subst h4q)
          | (go_at_call 48; refine (H65.out _).mono ?_; rintro e w3 ⟨rfl, h3⟩; have h4q := h3.symm; clear h3; subst h4q)
          | (go_at_call 35; refine (H31.out _).mono ?_; rintro e w3 ⟨rfl, h3⟩; have h4q := h3.symm; clear h3; subst h4q)
          | (go_at_call 47; refine (H64.out _).mono ?_; rintro e w3 ⟨rfl, h3⟩; have h4q := h3.symm; clear h3; subst h4q))
        go_ret
        exact ⟨rfl, (Below.refl _ _).alloc (Nat.le_refl _) _⟩
      rw [if_neg (by rintro (h | h); exact h5 h; exact h6 h)]
      have hfb := HF0.out (by trivial)
      subst hfb
      go_enter Try.func36, Try.ntmps36
      go_wp2_with (first
        | (go_at_call 51; refine (H68.out _).mono ?_; rintro e w3 ⟨rfl, HB⟩; have HB3 : Hid (Below w.heap.size w w3) := HB; clear HB)
        | (go_at_call 50; refine (H67.out _).mono ?_; rintro e w3 ⟨rfl, h3⟩; have h4q := h3.symm; clear h3; subst h4q)
        | (go_at_call 49; refine (H66.out _).mono ?_; rintro e w3 ⟨rfl, h3⟩; have h4q := h3.symm; clear h3; subst h4q)
        | (go_at_call 48; refine (H65.out _).mono ?_; rintro e w3 ⟨rfl, h3⟩; have h4q := h3.symm; clear h3; subst h4q)
        | (go_at_call 35; refine (H31.out _).mono ?_; rintro e w3 ⟨rfl, h3⟩; have h4q := h3.symm; clear h3; subst h4q)
        | (go_at_call 47; refine (H64.out _).mono ?_; rintro e w3 ⟨rfl, h3⟩; have h4q := h3.symm; clear h3; subst h4q))
      go_ret
      exact ⟨rfl, (Below.refl _ _).alloc (Nat.le_refl _) _⟩
end Go.Proofs.Ytlaiacjlphjmlaa

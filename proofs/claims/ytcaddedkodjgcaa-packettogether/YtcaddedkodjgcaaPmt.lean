/-
  Plain mathematics of layer 2: a number's row, its value, what a row of bytes begins with; numbers that may be below 0. It imports nothing of the program.
-/
import Derived.OpenShut
namespace Go.Proofs.Ytcaddedkodjgcaa.Pack

def byte (n : Nat) : BitVec 8 := BitVec.ofNat 8 n
theorem byte_nat {n : Nat} (h : n < 256) : (byte n).toNat = n := by simp [byte]; omega

/-- A number's row. -/
def rowOf : Nat → Nat → List (BitVec 8)
  | 0, n => [byte n]
  | f + 1, n => if n < 128 then [byte n] else byte (n % 128 + 128) :: rowOf f (n / 128)
def urow (n : Nat) : List (BitVec 8) := rowOf n n

theorem rowOf_enough : ∀ (f g n : Nat), n ≤ f → n ≤ g → rowOf f n = rowOf g n
  | 0, 0, _, _, _ => rfl
  | 0, g + 1, n, hf, _ => by obtain rfl : n = 0 := by omega
                             rfl
  | f + 1, 0, n, _, hg => by obtain rfl : n = 0 := by omega
                             rfl
  | f + 1, g + 1, n, hf, hg => by
    unfold rowOf
    by_cases h : n < 128
    · rw [if_pos h, if_pos h]
    · rw [if_neg h, if_neg h, rowOf_enough f g (n / 128) (by omega) (by omega)]

theorem urow_low {n : Nat} (h : n < 128) : urow n = [byte n] := by
  cases n with
  | zero => rfl
  | succ n => show rowOf (n + 1) (n + 1) = _; rw [rowOf, if_pos h]
theorem urow_high {n : Nat} (h : ¬ n < 128) : urow n = byte (n % 128 + 128) :: urow (n / 128) := by
  cases n with
  | zero => omega
  | succ n => show rowOf (n + 1) (n + 1) = _; rw [rowOf, if_neg h, rowOf_enough n ((n + 1) / 128) _ (by omega) (Nat.le_refl _)]; rfl

theorem urow_pos (n : Nat) : 0 < (urow n).length := by
  by_cases h : n < 128
  · rw [urow_low h]; simp
  · rw [urow_high h]; simp

def val : List (BitVec 8) → Nat
  | [] => 0
  | c :: t => c.toNat % 128 + 128 * val t

/-- Where a row ends; or that a byte is out of range; or that the bytes are short. -/
abbrev Res := Sum Nat Bool
abbrev Res.ok (k : Nat) : Res := Sum.inl k
abbrev Res.range : Res := Sum.inr true
abbrev Res.short : Res := Sum.inr false

/-- Which row bytes begin with, from the byte number i on: where it ends. -/
def rd (i : Nat) : List (BitVec 8) → Res
  | [] => .short
  | c :: t => if (i = 9 ∧ 1 < c.toNat) ∨ (0 < i ∧ c.toNat = 0) then .range else if c.toNat < 128 then .ok (i + 1) else rd (i + 1) t

theorem val_urow (n : Nat) : val (urow n) = n := by
  induction n using Nat.strongRecOn with
  | ind n ih =>
    by_cases h : n < 128
    · rw [urow_low h]; simp only [val]; rw [byte_nat (by omega)]; omega
    · rw [urow_high h]; simp only [val]; rw [ih (n / 128) (by omega), byte_nat (by omega)]; omega

theorem p9 : (128 : Nat) ^ 9 = 9223372036854775808 := rfl
theorem pow9 {i : Nat} (h : i ≤ 9) : ∃ p, 128 ^ i * p = 9223372036854775808 ∧ 0 < p ∧ (i < 9 → ∃ q, p = 128 * q) := by
  refine ⟨128 ^ (9 - i), ?_, Nat.pow_pos (by decide), fun hi => ⟨128 ^ (8 - i), ?_⟩⟩
  · rw [← Nat.pow_add, show i + (9 - i) = 9 by omega]
  · rw [show 9 - i = (8 - i) + 1 by omega, Nat.pow_succ, Nat.mul_comm]

theorem rd_urow (n : Nat) : ∀ i t, i ≤ 9 → n * 128 ^ i < 18446744073709551616 → (0 < i → n ≠ 0) → rd i (urow n ++ t) = .ok (i + (urow n).length) := by
  induction n using Nat.strongRecOn with
  | ind n ih =>
    intro i t hi hn h0
    by_cases h : n < 128
    · rw [urow_low h]
      simp only [List.cons_append, List.nil_append, rd, byte_nat (show n < 256 by omega), h, List.length_cons, List.length_nil, if_true]
      rw [if_neg]
      rintro (⟨rfl, h1⟩ | ⟨h1, h2⟩)
      · have : n * 128 ^ 9 = n * 9223372036854775808 := by rw [p9]
        omega
      · exact h0 h1 h2
    · rw [urow_high h]
      have h9 : i ≠ 9 := by
        rintro rfl
        have : n * 128 ^ 9 = n * 9223372036854775808 := by rw [p9]
        omega
      simp only [List.cons_append, rd, byte_nat (show n % 128 + 128 < 256 by omega), List.length_cons]
      rw [if_neg (by omega), if_neg (by omega), ih (n / 128) (by omega) (i + 1) t (by omega) ?_ (by omega)]
      · congr 1; omega
      · have h1 : n / 128 * 128 ^ (i + 1) = (n / 128 * 128) * 128 ^ i := by rw [Nat.pow_succ]; ac_rfl
        have h2 : (n / 128 * 128) * 128 ^ i ≤ n * 128 ^ i := Nat.mul_le_mul_right _ (by omega)
        omega

theorem rd_cut (n : Nat) : ∀ i k, i ≤ 9 → n * 128 ^ i < 18446744073709551616 → (0 < i → n ≠ 0) → k < (urow n).length → rd i ((urow n).take k) = .short := by
  induction n using Nat.strongRecOn with
  | ind n ih =>
    intro i k hi hn h0 hk
    by_cases h : n < 128
    · rw [urow_low h] at hk ⊢
      have : k = 0 := by simp at hk; omega
      subst this; rfl
    · rw [urow_high h] at hk ⊢
      have h9 : i ≠ 9 := by
        rintro rfl
        have : n * 128 ^ 9 = n * 9223372036854775808 := by rw [p9]
        omega
      cases k with
      | zero => rfl
      | succ k =>
        simp only [List.take_succ_cons, rd, byte_nat (show n % 128 + 128 < 256 by omega)]
        rw [if_neg (by omega), if_neg (by omega), ih (n / 128) (by omega) (i + 1) k (by omega) ?_ (by omega) (by simpa using hk)]
        have h1 : n / 128 * 128 ^ (i + 1) = (n / 128 * 128) * 128 ^ i := by rw [Nat.pow_succ]; ac_rfl
        have h2 : (n / 128 * 128) * 128 ^ i ≤ n * 128 ^ i := Nat.mul_le_mul_right _ (by omega)
        omega

theorem rd_ok : ∀ (l : List (BitVec 8)) (i k : Nat), i ≤ 9 → rd i l = .ok k → ∃ j, k = i + j ∧ 0 < j ∧ j ≤ l.length ∧ k ≤ 10 ∧ urow (val (l.take j)) = l.take j ∧ (0 < i → val (l.take j) ≠ 0) ∧ (val (l.take j) + 1) * 128 ^ i ≤ 18446744073709551616
  | [], i, k, _, h => by cases h
  | c :: t, i, k, hi, h => by
    unfold rd at h
    split at h
    · cases h
    · rename_i h1
      split at h
      · rename_i h2
        cases h
        refine ⟨1, rfl, by omega, by simp, by omega, ?_, ?_, ?_⟩
        · simp only [List.take_succ_cons, List.take_zero, val]
          rw [show c.toNat % 128 + 128 * 0 = c.toNat by omega, urow_low h2]
          simp [byte]
        · intro h0; simp only [List.take_succ_cons, List.take_zero, val]; omega
        · simp only [List.take_succ_cons, List.take_zero, val]
          by_cases h9 : i = 9
          · subst h9
            have : c.toNat ≤ 1 := by omega
            have e : (c.toNat % 128 + 128 * 0 + 1) * 128 ^ 9 = (c.toNat % 128 + 1) * 9223372036854775808 := by rw [p9, Nat.mul_zero, Nat.add_zero]
            rw [e]; omega
          · obtain ⟨p, h3, h4, h5⟩ := pow9 (i := i) hi
            obtain ⟨q, rfl⟩ := h5 (by omega)
            have hq : 0 < q := by omega
            have h6 : (c.toNat % 128 + 128 * 0 + 1) * 128 ^ i ≤ 128 * 128 ^ i := Nat.mul_le_mul_right _ (by omega)
            have h7 : 128 * 128 ^ i * 1 ≤ 128 * 128 ^ i * q := Nat.mul_le_mul_left _ hq
            have h8 : 128 ^ i * (128 * q) = 128 * 128 ^ i * q := by ac_rfl
            omega
      · rename_i h2
        have h9 : i ≠ 9 := by rintro rfl; exact h1 (.inl ⟨rfl, by omega⟩)
        obtain ⟨j, rfl, hj, hjl, hk, hu, hv, hb⟩ := rd_ok t (i + 1) k (by omega) h
        refine ⟨j + 1, by omega, by omega, by simpa using hjl, hk, ?_, ?_, ?_⟩
        · simp only [List.take_succ_cons, val]
          have hv := hv (by omega)
          rw [urow_high (by omega), show (c.toNat % 128 + 128 * val (t.take j)) / 128 = val (t.take j) by omega, hu,
            show (c.toNat % 128 + 128 * val (t.take j)) % 128 + 128 = c.toNat by have := c.isLt; omega]
          simp [byte]
        · intro _; simp only [List.take_succ_cons, val]; have := hv (by omega); omega
        · simp only [List.take_succ_cons, val]
          have h3 : (c.toNat % 128 + 128 * val (t.take j) + 1) * 128 ^ i ≤ (128 * (val (t.take j) + 1)) * 128 ^ i := Nat.mul_le_mul_right _ (by omega)
          have h4 : (128 * (val (t.take j) + 1)) * 128 ^ i = (val (t.take j) + 1) * 128 ^ (i + 1) := by rw [Nat.pow_succ]; ac_rfl
          omega

/-- The answer of a whole row of bytes. -/
theorem rd0_ok {l : List (BitVec 8)} {k : Nat} (h : rd 0 l = .ok k) : 0 < k ∧ k ≤ l.length ∧ k ≤ 10 ∧ urow (val (l.take k)) = l.take k ∧ val (l.take k) < 18446744073709551616 := by
  obtain ⟨j, rfl, h1, h2, h3, h4, _, h5⟩ := rd_ok l 0 k (by omega) h
  rw [Nat.zero_add] at h3 ⊢
  refine ⟨h1, h2, h3, h4, ?_⟩
  simp at h5
  omega
theorem rd0_urow {n : Nat} (t : List (BitVec 8)) (h : n < 18446744073709551616) : rd 0 (urow n ++ t) = .ok (urow n).length := by
  rw [rd_urow n 0 t (by omega) (by omega) (by omega), Nat.zero_add]
theorem rd0_cut {n k : Nat} (h : n < 18446744073709551616) (hk : k < (urow n).length) : rd 0 ((urow n).take k) = .short :=
  rd_cut n 0 k (by omega) (by omega) (by omega) hk

theorem urow_len {n : Nat} (h : n < 18446744073709551616) : (urow n).length ≤ 10 := (rd0_ok (l := urow n ++ []) (rd0_urow [] h)).2.2.1

theorem val_lt : ∀ l : List (BitVec 8), val l < 128 ^ l.length
  | [] => by simp [val]
  | c :: t => by
    have := val_lt t
    simp only [val, List.length_cons, Nat.pow_succ]
    omega

/-- Numbers that may be below 0. -/
def zz (m : Int) : Nat := if m < 0 then (2 * (-1 - m) + 1).toNat else (2 * m).toNat
def unzz (u : Nat) : Int := if u % 2 = 1 then -1 - (u / 2 : Nat) else (u / 2 : Nat)
theorem unzz_zz (m : Int) : unzz (zz m) = m := by unfold unzz zz; split <;> split <;> omega
theorem zz_unzz (u : Nat) : zz (unzz u) = u := by unfold unzz zz; split <;> split <;> omega
theorem zz_lt {m : Int} (h1 : -9223372036854775808 ≤ m) (h2 : m ≤ 9223372036854775807) : zz m < 18446744073709551616 := by unfold zz; split <;> omega

end Go.Proofs.Ytcaddedkodjgcaa.Pack

/-
  Where a point lies when it is turned by a quarter, and when it lies some times as far. Plain mathematics.
-/
import Derived.Test.YtakahpfeajjaaaaKeys
namespace Go.Proofs.Ytakahpfeajjaaaa

theorem turn_turn' (i k a b : Int) : rx ((i + k) % 4).toNat a b = rx (k % 4).toNat (rx (i % 4).toNat a b) (ry (i % 4).toNat a b) ∧ ry ((i + k) % 4).toNat a b = ry (k % 4).toNat (rx (i % 4).toNat a b) (ry (i % 4).toNat a b) := by
  have hi : i % 4 = 0 ∨ i % 4 = 1 ∨ i % 4 = 2 ∨ i % 4 = 3 := by omega
  have hk : k % 4 = 0 ∨ k % 4 = 1 ∨ k % 4 = 2 ∨ k % 4 = 3 := by omega
  have hs : (i + k) % 4 = (i % 4 + k % 4) % 4 := by omega
  rw [hs]
  rcases hi with hi | hi | hi | hi <;> rcases hk with hk | hk | hk | hk <;> rw [hi, hk] <;> simp [rx, ry]
theorem qt_on (a b : Int) (h : ¬ (a = 0 ∧ b = 0)) : qt (-b) a = (qt a b + 1) % 4 := by
  unfold qt
  (repeat' split) <;> omega
theorem home_on (a b : Int) (h : ¬ (a = 0 ∧ b = 0)) : cx (-b) a = cx a b ∧ cy (-b) a = cy a b := by
  have t := turn_turn' 1 (-(qt (-b) a)) a b
  have e : ((1 + -(qt (-b) a)) % 4) = (-(qt a b)) % 4 := by rw [qt_on a b h]; omega
  rw [e] at t
  exact ⟨t.1.symm, t.2.symm⟩

/-- Of 4 k parts: as many to a quarter. -/
theorem even (a b k : Int) (h : ¬ (a = 0 ∧ b = 0)) (k1 : 1 ≤ k) (k2 : k ≤ 16) : pv (-b) a (4 * k) = (pv a b (4 * k) + k) % (4 * k) ∧ 0 ≤ pv a b (4 * k) ∧ pv a b (4 * k) < 4 * k := by
  have hp := pv_of a b (4 * k) (by omega) (by omega) h
  refine ⟨?_, hp.1, by omega⟩
  have hS := hp.2.2.1
  have hdS := hp.2.2.2.1
  have hd := (home a b).2.1
  have q1 := (qt_range a b).1
  have q2 := (qt_range a b).2
  unfold pv
  rw [(home_on a b h).1, (home_on a b h).2, qt_on a b h]
  clear hp
  generalize cx a b = c at *
  generalize cy a b = d at *
  generalize qt a b = q at *
  have key : ∀ p : Int, (p * (c + d) + d) * (4 * k) / (4 * (c + d)) = p * k + d * k / (c + d) := by
    intro p
    have e1 : (p * (c + d) + d) * (4 * k) = 4 * ((p * (c + d) + d) * k) := by rw [← Int.mul_assoc, Int.mul_comm _ 4, Int.mul_assoc]
    rw [e1, Int.mul_ediv_mul_of_pos _ _ (by omega : (0 : Int) < 4)]
    have e2 : (p * (c + d) + d) * k = d * k + (c + d) * (p * k) := by
      rw [Int.add_mul, Int.add_comm, Int.mul_comm p (c + d), Int.mul_assoc]
    rw [e2, Int.add_mul_ediv_left _ _ (by omega), Int.add_comm]
  rw [key, key]
  have r0 : 0 ≤ d * k / (c + d) := Int.ediv_nonneg (Int.mul_nonneg hd (by omega)) (by omega)
  have r1 : d * k / (c + d) < k := Int.ediv_lt_of_lt_mul hS (by rw [Int.mul_comm k]; exact Int.mul_lt_mul_of_pos_right hdS (by omega))
  generalize d * k / (c + d) = r at *
  have hq : q = 0 ∨ q = 1 ∨ q = 2 ∨ q = 3 := by omega
  clear key hS hdS hd
  rcases hq with rfl | rfl | rfl | rfl
  · rw [show ((0 : Int) + 1) % 4 = 1 by decide, Int.emod_eq_of_lt (by omega) (by omega)]; omega
  · rw [show ((1 : Int) + 1) % 4 = 2 by decide, Int.emod_eq_of_lt (by omega) (by omega)]; omega
  · rw [show ((2 : Int) + 1) % 4 = 3 by decide, Int.emod_eq_of_lt (by omega) (by omega)]; omega
  · rw [show ((3 : Int) + 1) % 4 = 0 by decide]
    have : 3 * k + r + k = r + 4 * k := by omega
    rw [this, Int.add_emod_right, Int.emod_eq_of_lt (by omega) (by omega)]; omega

theorem mul_sign {a k : Int} (hk : 0 < k) : (0 < a * k ↔ 0 < a) ∧ (a * k < 0 ↔ a < 0) ∧ (a * k = 0 ↔ a = 0) := by
  rcases Int.lt_trichotomy a 0 with h | h | h
  · have := Int.mul_neg_of_neg_of_pos h hk; omega
  · subst h; simp
  · have := Int.mul_pos h hk; omega
theorem qt_far (a b k : Int) (hk : 0 < k) : qt (a * k) (b * k) = qt a b := by
  have ha := mul_sign (a := a) hk
  have hb := mul_sign (a := b) hk
  unfold qt
  (repeat' split) <;> omega
theorem rot_far : ∀ (j : Nat) (a b k : Int), rx j (a * k) (b * k) = rx j a b * k ∧ ry j (a * k) (b * k) = ry j a b * k
  | 0, _, _, _ => ⟨rfl, rfl⟩
  | j + 1, a, b, k => by
    have := rot_far j (-b) a k
    rw [Int.neg_mul] at this
    exact this
theorem far (a b n k : Int) (hk : 0 < k) : pt (a * k) (b * k) n = pt a b n := by
  have e : pv (a * k) (b * k) n = pv a b n := by
    unfold pv cx cy
    rw [qt_far a b k hk, (rot_far _ a b k).1, (rot_far _ a b k).2, ← Int.add_mul]
    generalize rx ((-(qt a b)) % 4).toNat a b + ry ((-(qt a b)) % 4).toNat a b = S
    generalize ry ((-(qt a b)) % 4).toNat a b = d
    have e1 : (qt a b * (S * k) + d * k) * n = k * ((qt a b * S + d) * n) := by
      rw [← Int.mul_assoc, ← Int.add_mul, Int.mul_comm _ k, Int.mul_assoc]
    have e2 : 4 * (S * k) = k * (4 * S) := by rw [← Int.mul_assoc, Int.mul_comm]
    rw [e1, e2, Int.mul_ediv_mul_of_pos _ _ hk]
  unfold pt
  rw [e]
theorem pt_below (a b n : Int) (h : 1 ≤ n ∧ n ≤ 64) : pt a b n < n := by
  rw [(pt_in h).1]
  by_cases h0 : a = 0 ∧ b = 0
  · obtain ⟨rfl, rfl⟩ := h0; rw [pv_middle]; omega
  · have := (pv_of a b n h.1 h.2 h0).2.1; omega
end Go.Proofs.Ytakahpfeajjaaaa

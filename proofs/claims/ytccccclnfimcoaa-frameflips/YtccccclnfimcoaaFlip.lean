/-
  A byte of what was written, turned.
-/
import Derived.Test.YtccccclnfimcoaaTorn
namespace Go.Proofs.Ytccccclnfimcoaa
open Go.RowKit Crc
set_option linter.unusedVariables false

theorem set_own {w : World} {base g N cap : Nat} {l : Row} (h : Owns w base (.slice (some ⟨g, 0, none⟩) N cap) l) (hN : l.length = N) (k : Nat) (c : BitVec 8) : Owns (w.setCell ⟨g, k, none⟩ (.int .u8 (B c))) base (.slice (some ⟨g, 0, none⟩) N cap) (l.set k c) := by
  subst hN
  have h1 := (World.ownsRow.stored h k (.int .u8 (B c))).1
  show (w.setCell ⟨g, k, none⟩ (.int .u8 (B c))).ownsRow base 5 1 _ (l.set k c).length (bytesV (l.set k c))
  rw [List.length_set, bytesV_set]
  exact h1
theorem own_shape {w : World} {base N : Nat} {v : Value} {l : Row} (h : Owns w base v l) (hN : l.length = N) (hp : 0 < N) : ∃ g cap, v = .slice (some ⟨g, 0, none⟩) N cap ∧ base ≤ g := by
  rcases h.2 with ⟨_, h0⟩ | ⟨g, cap, cur, hv, hb, _⟩
  · omega
  · exact ⟨g, cap, by rw [hv, hN], hb⟩
theorem own_cell {w : World} {base g N cap : Nat} {l : Row} (h : Owns w base (.slice (some ⟨g, 0, none⟩) N cap) l) (hN : l.length = N) {k : Nat} (hk : k < l.length) : w.cell? ⟨g, k, none⟩ = some (.int .u8 (B (nth l k))) ∧ w.frozen? ⟨g, k, none⟩ = false := by
  subst hN
  refine ⟨?_, World.ownsRow.frozenAt h k⟩
  have := World.ownsRow.cellAt h k (by rw [Nat.mul_one]; exact hk)
  rw [this, bytesV_at hk]
theorem split_at {z : List Row} {X : Nat} (h : X < z.length) : z = z.take X ++ z.getD X [] :: z.drop (X + 1) := by
  have e : z.getD X [] = z[X] := by simp [h]
  rw [e, ← List.drop_eq_getElem_cons h, List.take_append_drop]
theorem xor_ne {y b : BitVec 8} (h : b ≠ 0#8) : y ^^^ b ≠ y := by
  intro e
  apply h
  have : y ^^^ (y ^^^ b) = y ^^^ y := by rw [e]
  rwa [← BitVec.xor_assoc, BitVec.xor_self, BitVec.zero_xor] at this
theorem flip_scans {z : List Row} {X j A : Nat} (hz : Light z) (h : X < z.length) (hA : (recds (z.take X)).length = A) (hj : j < 4 + (z.getD X []).length) {b : BitVec 8} (hb : b ≠ 0#8) :
    A + 4 + j < (recds z).length ∧ Scans ((recds z).set (A + 4 + j) (nth (recds z) (A + 4 + j) ^^^ b)) (z.take X) A := by
  have e := split_at h
  have hm : ∀ r ∈ z.take X, r.length < 4294967296 := fun r hr => hz.short r (List.mem_of_mem_take hr)
  have hr : (z.getD X []).length < 4294967296 := hz.short _ (getD_mem h)
  have hn : nth (recds z) (A + (4 + j)) = nth (recd (z.getD X [])) (4 + j) := by
    conv => lhs; rw [e]
    rw [recds_append, recds]
    unfold nth
    rw [List.getD, List.getElem?_append_right (by omega), hA, Nat.add_sub_cancel_left, List.getElem?_append_left (by rw [recd_len]; omega)]
    rfl
  constructor
  · conv => rhs; rw [e]
    rw [recds_append, recds, List.length_append, List.length_append, recd_len, hA]
    omega
  · have hs := scans_turned (a := z.take X) (x := z.getD X []) (b := z.drop (X + 1)) hm hr (k := 4 + j) (by omega) (by omega) (c := nth (recd (z.getD X [])) (4 + j) ^^^ b) (xor_ne hb)
    rw [← e, hA] at hs
    rw [Nat.add_assoc, hn]
    exact hs

end Go.Proofs.Ytccccclnfimcoaa

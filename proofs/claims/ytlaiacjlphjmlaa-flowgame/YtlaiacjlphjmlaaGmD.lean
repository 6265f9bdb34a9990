/-
  The document's own Forks, at a place within a fork: its contract.
-/
import Derived.Test.YtlaiacjlphjmlaaRfF
namespace Go.Proofs.Ytlaiacjlphjmlaa
open Go.RowKit
set_option linter.unusedVariables false

set_option maxRecDepth 100000 in
set_option maxHeartbeats 1600000 in
theorem Forks_at (P : Nat → Prop) (d : Df) (a : Option Addr) (c : Nat) (w : World) (hd : DfV w P d a c) (hz : checkD d = 0) (hg : (goD d).1 = 0) (p : Nat) (hp : p < d.places.length) (hcm : (goD d).2.cm.getD p false = true) (hf : (goD d).2.fk.getD p 0 ≠ 0) :
    Calls Try.prog 24 #[.agg #[.string (ba d.id), .slice a d.places.length c], .int .i64 (p : Nat)] w fun e w' => ∃ g m c, e = .returned (.slice (some ⟨g, 0, none⟩) (m + 1) c) ∧ w'.cell? ⟨g, m, none⟩ = some (.int .i64 ((goD d).2.fk.getD p 0 : Nat)) ∧ m + 1 ≤ c ∧ c ≤ 9223372036854775807 ∧ m ≤ 16 ∧ Below w.heap.size w w' := by
  have hfa := def_facts hz
  have hn : d.places.length ≤ 4096 := hfa.len
  have hF := goD_fin hz hg
  have hch : rowL (goD d).2 p = inn (goD d).2 ((goD d).2.fk.getD p 0) := by unfold rowL; rw [if_pos hcm]; exact chain_eq hF hcm
  have hln : (inn (goD d).2 ((goD d).2.fk.getD p 0)).length = (goD d).2.dp.getD p 0 := by rw [← chain_eq hF hcm]; exact chain_len hF _ _ rfl hcm
  have hdp : (goD d).2.dp.getD p 0 ≤ 16 := getD_mem_le hF.ok.dpl
  have HC : Hid (∀ o, Calls Try.prog 22 #[.agg #[.string (ba d.id), .slice a d.places.length c]] (w.alloc o) fun e w' => ∃ R J E, e = .returned (.tuple #[.slice (some ⟨R, 0, none⟩) d.places.length d.places.length, .slice (some ⟨J, 0, none⟩) d.places.length d.places.length, .int .i64 (E : Int)]) ∧ Below w.heap.size w w' ∧ ∃ g m c, w'.cell? ⟨R, p * 2 + 1, none⟩ = some (.slice (some ⟨g, 0, none⟩) (m + 1) c) ∧ w'.cell? ⟨g, m, none⟩ = some (.int .i64 ((goD d).2.fk.getD p 0 : Nat)) ∧ m + 1 ≤ c ∧ c ≤ 9223372036854775807 ∧ m ≤ 16) := fun o => by
    refine (Rows_any _ d a c (w.alloc o) (hd.kept (kept_below ((Below.refl _ _).alloc (Nat.le_refl _) o))) hz).mono ?_
    rintro e w' ⟨q1, R, J, rfl, _, _, q2⟩
    obtain ⟨ov, hr⟩ := q2 hg
    obtain ⟨v, _, r2, r3, _⟩ := hr.rows p hp
    rw [hch] at r3
    refine ⟨R, J, _, rfl, below_new q1, ?_⟩
    obtain ⟨va, vc, rfl, k1, k2, k3⟩ := r3
    have hl1 : (inn (goD d).2 ((goD d).2.fk.getD p 0)).length = (chain (goD d).2 ((goD d).2.fk.getD p 0)).length + 1 := by unfold inn; rw [if_neg hf]; simp
    rcases k3 with ⟨_, q, _⟩ | ⟨g, rfl, q⟩
    · rw [q] at hl1; simp at hl1
    · refine ⟨g, (chain (goD d).2 ((goD d).2.fk.getD p 0)).length, vc, by rw [r2, hl1], ?_, by omega, k2, by omega⟩
      rw [q _ (by omega)]
      have : (inn (goD d).2 ((goD d).2.fk.getD p 0)).getD (chain (goD d).2 ((goD d).2.fk.getD p 0)).length 0 = (goD d).2.fk.getD p 0 := by
        unfold inn; rw [if_neg hf]; simp [List.getD_eq_getElem?_getD]
      rw [this]
  clear hd hz hfa hF hch hln hdp hcm hf hg
  generalize (goD d).2.fk.getD p 0 = f at *
  generalize d.places.length = n at *
  generalize ba d.id = ds at *
  go_enter Try.func24, Try.ntmps24
  go_wp2_with (go_at_call 22; refine (HC.out _).mono ?_; rintro e w2 ⟨R, J, E, rfl, q1, g, m, c2, x1, x2, x3, x4, x5⟩; have G1 : Hid (Below w.heap.size w w2 ∧ w2.cell? ⟨g, m, none⟩ = some (.int .i64 (f : Nat)) ∧ m + 1 ≤ c2 ∧ c2 ≤ 9223372036854775807 ∧ m ≤ 16) := ⟨q1, x2, x3, x4, x5⟩; have lx := World.block_lt_of_cell? _ _ x1; clear q1 x2 x3 x4 x5)
  go_ret
  exact ⟨g, m, c2, rfl, G1.out.2.1, G1.out.2.2.1, G1.out.2.2.2.1, G1.out.2.2.2.2, G1.out.1⟩
end Go.Proofs.Ytlaiacjlphjmlaa

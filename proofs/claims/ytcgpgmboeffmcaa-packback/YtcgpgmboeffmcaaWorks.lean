/-
  The laws' example: it returns true.
-/
import Derived.Test.YtcgpgmboeffmcaaReads2
import Derived.Test.YtcgpgmboeffmcaaNames
namespace Go.Proofs.Ytcgpgmboeffmcaa
open Go.RowKit Pack

theorem row300 : urow 300 = [172#8, 2#8] := by rw [urow_high (by decide), urow_low (by decide)]; rfl
theorem row3 : urow (zz (-2)) = [3#8] := by rw [urow_low (by decide)]; rfl

theorem cells_new (w : World) (l : List (BitVec 8)) : ∀ i, i < l.length → (w.alloc (.cells (bytesV l).toArray 5)).cell? ⟨w.heap.size, i, none⟩ = some (.int .u8 (B (nth l i))) := by
  intro i hi
  rw [cell_of_row _ w.heap.size i _ 5 (0, 0) (heap_alloc_new w _)]
  simpa using bytesV_at hi

theorem own_new (w : World) (l : List (BitVec 8)) (hm : l.length ≤ maxLen) : Owns (w.alloc (.cells (bytesV l).toArray 5)) w.heap.size (.slice (some ⟨w.heap.size, 0, none⟩) l.length l.length) l := by
  refine ⟨by simp [bytesV_length], .inr ⟨w.heap.size, l.length, (bytesV l).toArray, rfl, Nat.le_refl _, heap_alloc_new w _, Nat.le_refl _, hm, by simp [bytesV_length], ?_⟩⟩
  simp only [Nat.mul_one]
  rw [List.take_of_length_le (by simp [bytesV_length])]

theorem shape {w : World} {base : Nat} {v : Value} {l : List (BitVec 8)} (h : Owns w base v l) (hp : 0 < l.length) : ∃ g cap, v = .slice (some ⟨g, 0, none⟩) l.length cap ∧ l.length ≤ cap ∧ cap ≤ maxLen ∧ base ≤ g ∧ g < w.heap.size := by
  unfold Owns at h
  rcases h.2 with ⟨_, h0⟩ | ⟨g, cap, cur, hv, hb, hg, hnc, hcm, _⟩
  · omega
  · exact ⟨g, cap, hv, hnc, hcm, hb, (Array.getElem?_eq_some_iff.1 hg).1⟩

theorem works_uint (w : World) : Calls Try.prog 12 #[.slice (some ⟨w.heap.size, 0, none⟩) 1 1, .int .u64 300] (w.alloc (.cells #[.int .u8 7] 5)) fun e w' => ∃ v', e = .returned v' ∧ Owns w' w.heap.size v' [7#8, 172#8, 2#8] ∧ Below w.heap.size w w' := by
  refine (uint_any w.heap.size _ [7#8] 300 _ (own_new w [7#8] (by decide)) (base_le (Nat.le_refl _) _) (by decide) (by decide)).mono ?_
  rintro e w' ⟨v', rfl, ho, hB⟩
  rw [row300] at ho
  exact ⟨v', rfl, ho, ((Below.refl _ _).alloc (Nat.le_refl _) _).trans hB⟩

theorem works_int (w0 w : World) (v : Value) (ho : Owns w w0.heap.size v [7#8, 172#8, 2#8]) (hB : Below w0.heap.size w0 w) : Calls Try.prog 14 #[v, .int .i64 (-2)] w fun e w' => ∃ g cap, e = .returned (.slice (some ⟨g, 0, none⟩) 4 cap) ∧ 4 ≤ cap ∧ cap ≤ 9223372036854775807 ∧ ReadsV w' (.slice (some ⟨g, 0, none⟩) 4 cap) [7#8, 172#8, 2#8, 3#8] ∧ Below w0.heap.size w0 w' := by
  refine (int_any w0.heap.size _ _ (-2) _ ho hB.size (by decide) (by decide) (by decide)).mono ?_
  rintro e w' ⟨v', rfl, ho, hB2⟩
  rw [row3] at ho
  obtain ⟨g, cap, rfl, h1, h2, _⟩ := shape ho (by simp)
  rw [maxLen_eq] at h2
  exact ⟨g, cap, rfl, by simpa using h1, h2, ReadsV.of_own ho, hB.trans hB2⟩

theorem works_ru (w0 w : World) (g cap : Nat) (hr : ReadsV w (.slice (some ⟨g, 0, none⟩) 4 cap) [7#8, 172#8, 2#8, 3#8]) (hB : Below w0.heap.size w0 w) : Calls Try.prog 19 #[.slice (some ⟨g, 1, none⟩) 3 (cap - 1)] w fun e w' => ∃ a c, e = .returned (.tuple #[.int .u64 300, .slice a 1 c, .int .i64 0]) ∧ ReadsV w' (.slice a 1 c) [3#8] ∧ Below w0.heap.size w0 w' := by
  have hv : ReadsV w (.slice (some ⟨g, 1, none⟩) 3 (cap - 1)) [172#8, 2#8, 3#8] := by
    obtain ⟨a', c', hv, hn, h1, h2, hr⟩ := hr
    simp only [Value.slice.injEq] at hv
    obtain ⟨rfl, _, rfl⟩ := hv
    simp only [List.length_cons, List.length_nil] at h1
    have := ReadsV.cut hr (k := 1) (h := 4) (m := cap) (fun h => by cases h) (by decide) (by decide) (by omega) h2
    rw [if_neg (by omega)] at this
    simpa [add_plain] using this
  refine (readUint_ok _ _ 2 300 _ hv (by decide) (by decide)).mono ?_
  rintro e w' ⟨a, c, rfl, h1, h2⟩
  exact ⟨a, c, rfl, h1, hB.trans (h2.mono hB.size)⟩

theorem works_ri (w0 w : World) (a : Option Addr) (c : Nat) (hr : ReadsV w (.slice a 1 c) [3#8]) (hB : Below w0.heap.size w0 w) : Calls Try.prog 21 #[.slice a 1 c] w fun e w' => ∃ a c, e = .returned (.tuple #[.int .i64 (-2), .slice a 0 c, .int .i64 0]) ∧ Below w0.heap.size w0 w' := by
  refine (readInt_ok _ _ 1 3 _ hr (by decide) (by decide)).mono ?_
  rintro e w' ⟨a, c, rfl, h1, h2⟩
  exact ⟨a, c, rfl, hB.trans (h2.mono hB.size)⟩

theorem works_rb (w0 w : World) (hB : Below w0.heap.size w0 w) : Calls Try.prog 23 #[.slice (some ⟨w.heap.size, 0, none⟩) 2 2] (w.alloc (.cells #[.int .u8 2, .int .u8 5] 5)) fun e w' => e = .returned (.tuple #[.slice none 0 0, .slice none 0 0, .int .i64 5]) ∧ Below w0.heap.size w0 w' := by
  refine (readBytes_short _ [2#8, 5#8] 1 2 _ (ReadsV.of_own (own_new w [2#8, 5#8] (by decide))) (by decide) (by decide) (by decide)).mono ?_
  rintro e w' ⟨rfl, h2⟩
  exact ⟨rfl, (hB.alloc hB.size _).trans (h2.mono (Nat.le_trans hB.size (base_le (Nat.le_refl _) _)))⟩

set_option maxRecDepth 100000 in
set_option maxHeartbeats 1000000 in
theorem works_any (w : World) : Calls Try.prog 8 #[] w fun e w' => e = .returned (.bool true) ∧ Below w.heap.size w w' := by
  have hn1 : nm ⟨#[97, 49]⟩ = true := by decide
  have hn2 : nm ⟨#[49, 97]⟩ = false := by decide
  go_enter Try.func8, Try.ntmps8
  go_wp2_with (first
    | (go_at_call 12; refine (works_uint _).mono ?_; rintro e w1 ⟨v1, rfl, ho, hB⟩; have HO : Hid (Owns w1 w.heap.size v1 [7#8, 172#8, 2#8]) := ho; have HB1 : Hid (Below w.heap.size w w1) := hB; clear ho hB)
    | (go_at_call 14; refine (works_int w _ _ HO.out HB1.out).mono ?_; rintro e w2 ⟨g, cap, rfl, hc4, hcm, hr, hB⟩; have HR : Hid (ReadsV w2 (.slice (some ⟨g, 0, none⟩) 4 cap) [7#8, 172#8, 2#8, 3#8]) := hr; have HB2 : Hid (Below w.heap.size w w2) := hB; have hc1 : ¬ cap = 1 := (by omega); clear hr hB)
    | (go_at_call 19; refine (works_ru w _ g cap HR.out HB2.out).mono ?_; rintro e w3 ⟨a3, c3, rfl, hr, hB⟩; have HR3 : Hid (ReadsV w3 (.slice a3 1 c3) [3#8]) := hr; have HB3 : Hid (Below w.heap.size w w3) := hB; clear hr hB)
    | (go_at_call 21; refine (works_ri w _ a3 c3 HR3.out HB3.out).mono ?_; rintro e w4 ⟨a4, c4, rfl, hB⟩; have HB4 : Hid (Below w.heap.size w w4) := hB; clear hB)
    | (go_at_call 23; refine (works_rb w _ HB4.out).mono ?_; rintro e w5 ⟨rfl, hB⟩; have HB5 : Hid (Below w.heap.size w w5) := hB; clear hB)
    | (go_at_call 17; refine (name_any _ _ (by decide)).mono ?_; rintro e w6 ⟨rfl, rfl⟩))
  go_ret
  exact ⟨rfl, HB5.out⟩

end Go.Proofs.Ytcgpgmboeffmcaa

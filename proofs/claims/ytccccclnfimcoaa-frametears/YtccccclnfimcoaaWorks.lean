/-
  The laws' works, light, written; SameAll: contracts.
-/
import Derived.Test.YtccccclnfimcoaaScan2
import Derived.Test.YtccccclnfimcoaaPut
namespace Go.Proofs.Ytccccclnfimcoaa
open Go.RowKit Crc
set_option linter.unusedVariables false

theorem scan_is (v : Value) (l : Row) (rs : List Row) (n : Nat) (w : World) (hr : ReadsV w v l) (hl : l.length ≤ 1000000000) (hs : Scans l rs n) : Calls Try.prog 13 #[v] w fun e w' => ∃ a c, e = .returned (.tuple #[.slice a rs.length c, .int .i64 (n : Nat)]) ∧ RowsV w' (.slice a rs.length c) rs ∧ Below w.heap.size w w' :=
  (scan_any v l w hr hl).mono fun e w' ⟨rs', n', a, c, he, hs', hR, hB⟩ => by
    obtain ⟨rfl, rfl⟩ := scans_one hs hs'
    exact ⟨a, c, he, hR, hB⟩
theorem put_is (base N : Nat) (v u : Value) (l s L : Row) (w : World) (ho : Owns w base v l) (hs : ReadsV w u s) (hb : base ≤ w.heap.size) (hl : l.length ≤ 1000000000) (hn : s.length ≤ 1000000000) (hL : l ++ recd s = L) (hN : L.length = N) :
    Calls Try.prog 12 #[v, u] w fun e w' => ∃ a c, e = .returned (.slice a N c) ∧ Owns w' base (.slice a N c) L ∧ Below base w w' :=
  (put_any base v u l s w ho hs hb hl hn).mono fun e w' ⟨v', he, ho', hB⟩ => by
    rw [hL] at ho'
    obtain ⟨a, c, rfl, _⟩ := ReadsV.of_own ho'
    rw [hN] at he ho'
    exact ⟨a, c, he, ho', hB⟩

theorem reads12 (w : World) : ReadsV (w.alloc (.cells #[.int .u8 1, .int .u8 2] 5)) (.slice (some ⟨w.heap.size, 0, none⟩) 2 2) [1#8, 2#8] := by
  refine ⟨_, 2, rfl, (fun h => by cases h), by simp, by unfold maxLen; omega, by unfold maxLen; simp, .inr ⟨w.heap.size, 0, rfl, fun i hi => ?_⟩⟩
  rw [Nat.zero_add, cell_of_row _ w.heap.size i _ 5 (0, 0) (heap_alloc_new w _)]
  match i, hi with
  | 0, _ | 1, _ => rfl
def wA : Row := recd [1#8, 2#8]
def wB : Row := recd [1#8, 2#8] ++ recd []
theorem wA_len : wA.length = 10 := by unfold wA; rw [recd_len]; rfl
theorem wB_len : wB.length = 18 := by unfold wB; rw [List.length_append, recd_len, recd_len]; rfl
theorem wB_scans : Scans (wB ++ [9#8]) [[1#8, 2#8], []] 18 := by
  refine ⟨fun r hr => ?_, ⟨[9#8], ?_, first_short (by simp)⟩, ?_⟩
  · simp at hr
    rcases hr with rfl | rfl <;> simp
  · simp [wB, recds]
  · simp [recds, recd_len]

theorem scan_two (v : Value) (w : World) (hr : ReadsV w v (wB ++ [9#8])) : Calls Try.prog 13 #[v] w fun e w' => ∃ b off c ua uc va vc, e = .returned (.tuple #[.slice (some ⟨b, off, none⟩) 2 c, .int .i64 18]) ∧ w'.cell? ⟨b, off, none⟩ = some (.slice ua 2 uc) ∧ ReadsV w' (.slice ua 2 uc) [1#8, 2#8] ∧ (∀ o, (w'.alloc o).cell? ⟨b, off + 1, none⟩ = some (.slice va 0 vc)) ∧ Below w.heap.size w w' :=
  (scan_is v _ _ 18 w hr (by rw [List.length_append, wB_len]; decide) wB_scans).mono fun e w' ⟨a, c, he, hR, hB⟩ => by
    have hR2 : RowsV w' (.slice a 2 c) [[1#8, 2#8], []] := hR
    obtain ⟨b, off, rfl, hlt, hc⟩ := hR2.cells (by omega)
    obtain ⟨ua, uc, h0, hr0⟩ := hc 0 (by omega)
    obtain ⟨va, vc, h1, _⟩ := hc 1 (by omega)
    exact ⟨b, off, c, ua, uc, va, vc, he, h0, hr0, fun o => (((Below.refl w'.heap.size w').alloc (Nat.le_refl _) o).cell (p := ⟨b, off + 1, none⟩) hlt).trans h1, hB⟩

set_option maxRecDepth 100000 in
set_option maxHeartbeats 1000000 in
theorem works_any (w : World) : Calls Try.prog 9 #[] w fun e w' => e = .returned (.bool true) ∧ Below w.heap.size w w' := by
  go_enter Try.func9, Try.ntmps9
  go_wp2_with (first
    | (go_at_call 11; have := H4; refine (same_yes _ _ [1#8, 2#8] _ (H4.out.1.below ((Below.refl _ _).alloc (Nat.le_refl _) _)) (reads12 _)).mono ?_; rintro e w5 ⟨rfl, hw⟩; have hw2 := hw.symm; clear hw; subst hw2)
    | (go_at_call 13; have := H3; refine (scan_two _ _ (ReadsV.of_own H3.out.1)).mono ?_; rintro e w4 ⟨b4, o4, c4, ua, uc, va, vc, rfl, k0, hr, k1, hB⟩; have H4 : Hid (ReadsV w4 (.slice ua 2 uc) [1#8, 2#8] ∧ Below w.heap.size w w4) := ⟨hr, H3.out.2.trans (hB.mono H3.out.2.size)⟩; clear hr hB H3)
    | (at_builtin; have := H2; refine wpList_append_bytes rfl (.tmp 8) (.tmp 9) 22 rfl w.heap.size Try.underlying22 Try.info5 _ wB rfl (H2.out.1.alloc _) _ [9#8] rfl (reads_one _ 9#8 _) (by rw [wB_len]; decide) (base_le H2.out.2.size _) ?_; intro v3 w3 hown hB; have H3 : Hid (Owns w3 w.heap.size v3 (wB ++ [9#8]) ∧ Below w.heap.size w w3) := ⟨hown, H2.out.2.trans (((Below.refl _ _).alloc H2.out.2.size _).trans hB)⟩; clear hown hB H2)
    | (go_at_call 12; have := H1; refine (put_is w.heap.size 18 _ _ wA [] wB _ H1.out.1 (ReadsV.nil _) H1.out.2.size (by rw [wA_len]; decide) (by decide) rfl wB_len).mono ?_; rintro e w2 ⟨a2, c2, rfl, ho, hB⟩; have H2 : Hid (Owns w2 w.heap.size (.slice a2 18 c2) wB ∧ Below w.heap.size w w2) := ⟨ho, H1.out.2.trans hB⟩; clear ho hB H1)
    | (go_at_call 12; refine (put_is w.heap.size 10 _ _ [] [1#8, 2#8] wA _ (Owns.nil _ _) (reads12 _) (base_le (Nat.le_refl _) _) (by decide) (by decide) rfl wA_len).mono ?_; rintro e w1 ⟨a1, c1, rfl, ho, hB⟩; have H1 : Hid (Owns w1 w.heap.size (.slice a1 10 c1) wA ∧ Below w.heap.size w w1) := ⟨ho, ((Below.refl _ _).alloc (Nat.le_refl _) _).trans hB⟩; clear ho hB))
  go_ret
  exact ⟨rfl, H4.out.2.alloc H4.out.2.size _⟩

end Go.Proofs.Ytccccclnfimcoaa

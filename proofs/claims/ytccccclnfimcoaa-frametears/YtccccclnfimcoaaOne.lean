/-
  The document's One and same: contracts.
-/
import Derived.Test.YtccccclnfimcoaaFirst
import Derived.Test.YtccccclnfimcoaaRefSum
namespace Go.Proofs.Ytccccclnfimcoaa
open Go.RowKit Crc
set_option linter.unusedVariables false

theorem rfour_eq (x : Int) (s : BitVec 32) (w : World) (hx : x = W s) : Calls Try.prog 18 #[.int .u32 x] w fun e w' => ∃ g, e = .returned (.slice (some ⟨g, 0, none⟩) 4 4) ∧ ReadsV w' (.slice (some ⟨g, 0, none⟩) 4 4) (four s) ∧ Below w.heap.size w w' := by
  subst hx
  exact (rfour_any s w).mono fun e w' ⟨g, he, _, hr, hB⟩ => ⟨g, he, hr, hB⟩
theorem W_len' {n : Nat} (h : n < 4294967296) : (n : Int) = W (BitVec.ofNat 32 n) := by
  unfold W; rw [BitVec.toNat_ofNat]; omega

set_option maxRecDepth 100000 in
set_option maxHeartbeats 1000000 in
theorem one_walk (a : Option Addr) (n c : Nat) (s : Row) (w : World) (HR : Hid (ReadsV w (.slice a n c) s)) (HL : Hid (s.length = n)) (hn : n ≤ 1000) :
    Calls Try.prog 10 #[.slice a n c] w fun e w' => ∃ v', e = .returned v' ∧ ReadsV w' v' (recd s) ∧ Below w.heap.size w w' := by
  have HX : Hid ((n : Int) = W (BitVec.ofNat 32 n)) := W_len' (by omega)
  go_enter Try.func10, Try.ntmps10
  go_wp2_with (first
    | (at_builtin; have := H7; refine wpList_append_bytes rfl (.tmp 24) (.tmp 25) 22 rfl w3.heap.size Try.underlying22 Try.info5 _ (size4 s ++ four (sum (size4 s ++ s))) rfl H7.out.1 _ s rfl (H7.out.2.2) (by have := HL.out; have e1 : (size4 s ++ four (sum (size4 s ++ s))).length = 8 := rfl; omega) (H7.out.2.1.size) ?_; intro v8 w8 hown hB; have H8 : Hid (Owns w8 w3.heap.size v8 ((size4 s ++ four (sum (size4 s ++ s))) ++ s) ∧ Below w.heap.size w w8) := ⟨hown, H3.out.2.2.2.trans ((H7.out.2.1.trans hB).mono H3.out.2.2.2.size)⟩; clear hown hB H7)
    | (at_builtin; have := H6; refine wpList_append_bytes rfl (.tmp 19) (.tmp 22) 22 rfl w3.heap.size Try.underlying22 Try.info5 _ (size4 s) rfl H6.out.2.2.1 _ (four (sum (size4 s ++ s))) rfl H6.out.1 (by show 4 + 4 ≤ 140737488355328; decide) (H6.out.2.2.2.size) ?_; intro v7 w7 hown hB; have H7 : Hid (Owns w7 w3.heap.size v7 (size4 s ++ four (sum (size4 s ++ s))) ∧ Below w3.heap.size w3 w7 ∧ ReadsV w7 (.slice a n c) s) := ⟨hown, H6.out.2.2.2.trans hB, H3.out.2.1.below (H6.out.2.2.2.trans hB)⟩; clear hown hB H6)
    | (go_at_call 18; have := H5; refine (rfour_eq _ _ _ rfl).mono ?_; rintro e w6 ⟨g6, rfl, hr, hB⟩; have H6 : Hid (ReadsV w6 (.slice (some ⟨g6, 0, none⟩) 4 4) (four (sum (size4 s ++ s))) ∧ True ∧ Owns w6 w3.heap.size v4 (size4 s) ∧ Below w3.heap.size w3 w6) := ⟨hr, trivial, H5.out.1.below hB, H5.out.2.trans (hB.mono H5.out.2.size)⟩; clear hr hB H5)
    | (go_at_call 19; have := H4; refine (refsum_any _ (size4 s ++ s) _ (ReadsV.of_own (H3.out.1.below H4.out.2)) (by rw [List.length_append, HL.out]; have e1 : (size4 s).length = 4 := rfl; omega)).mono ?_; rintro e w5 ⟨rfl, hB⟩; have H5 : Hid (Owns w5 w3.heap.size v4 (size4 s) ∧ Below w3.heap.size w3 w5) := ⟨H4.out.1.below hB, H4.out.2.trans (hB.mono H4.out.2.size)⟩; clear hB H4)
    | (at_builtin; have := H3; refine wpList_append_bytes rfl (.tmp 16) (.tmp 17) 22 rfl w3.heap.size Try.underlying22 Try.info5 _ [] rfl (Owns.nil _ _) _ (size4 s) rfl H3.out.2.2.1 (by show 0 + 4 ≤ 140737488355328; decide) (Nat.le_refl _) ?_; intro v4 w4 hown hB; have H4 : Hid (Owns w4 w3.heap.size v4 (size4 s) ∧ Below w3.heap.size w3 w4) := ⟨hown, hB⟩; clear hown hB)
    | (at_builtin; have := H2; refine wpList_append_bytes rfl (.tmp 13) (.tmp 14) 22 rfl w1.heap.size Try.underlying22 Try.info5 _ (size4 s) rfl H2.out.1 _ s rfl (H1.out.2.1.below H2.out.2) (by have := HL.out; have e1 : (size4 s).length = 4 := rfl; omega) (H2.out.2.size) ?_; intro v3 w3 hown hB; have H3 : Hid (Owns w3 w1.heap.size v3 (size4 s ++ s) ∧ ReadsV w3 (.slice a n c) s ∧ ReadsV w3 (.slice (some ⟨g1, 0, none⟩) 4 4) (size4 s) ∧ Below w.heap.size w w3) := ⟨hown, H1.out.2.1.below (H2.out.2.trans hB), H1.out.1.below (H2.out.2.trans hB), H1.out.2.2.trans ((H2.out.2.trans hB).mono H1.out.2.2.size)⟩; clear hown hB H2)
    | (at_builtin; have := H1; refine wpList_append_bytes rfl (.tmp 10) (.tmp 11) 22 rfl w1.heap.size Try.underlying22 Try.info5 _ [] rfl (Owns.nil _ _) _ (size4 s) rfl H1.out.1 (by show 0 + 4 ≤ 140737488355328; decide) (Nat.le_refl _) ?_; intro v2 w2 hown hB; have H2 : Hid (Owns w2 w1.heap.size v2 (size4 s) ∧ Below w1.heap.size w1 w2) := ⟨hown, hB⟩; clear hown hB)
    | (go_at_call 18; refine (rfour_eq _ _ _ HX.out).mono ?_; rintro e w1 ⟨g1, rfl, hr, hB⟩; have H1 : Hid (ReadsV w1 (.slice (some ⟨g1, 0, none⟩) 4 4) (size4 s) ∧ ReadsV w1 (.slice a n c) s ∧ Below w.heap.size w w1) := ⟨by unfold size4; rw [HL.out]; exact hr, HR.out.below hB, hB⟩; clear hr hB))
  go_ret
  exact ⟨_, rfl, by have h := ReadsV.of_own H8.out.1; unfold recd; rwa [List.append_assoc] at h, H8.out.2⟩

theorem one_any (v : Value) (s : Row) (w : World) (hr : ReadsV w v s) (hn : s.length ≤ 1000) : Calls Try.prog 10 #[v] w fun e w' => ∃ v', e = .returned v' ∧ ReadsV w' v' (recd s) ∧ Below w.heap.size w w' := by
  obtain ⟨a, c, rfl, _⟩ := id hr
  exact one_walk a s.length c s w hr rfl hn

theorem ret_bool' {a b : Bool} (h : a = b) : Ending.returned (.bool a) = .returned (.bool b) := by rw [h]
theorem prefix_take {l m : Row} : (m.length ≤ l.length ∧ l.take m.length = m) ↔ m <+: l := by
  constructor
  · rintro ⟨_, h⟩
    rw [← h]; exact List.take_prefix _ _
  · intro h
    exact ⟨h.length_le, (List.prefix_iff_eq_take.1 h).symm⟩

set_option maxRecDepth 100000 in
set_option maxHeartbeats 400000 in
theorem begins_any (v u : Value) (l m : Row) (w : World) (hr : ReadsV w v l) (hq : ReadsV w u m) (hl : l.length ≤ 9223372036854775807) (hm : m.length ≤ 9223372036854775807) :
    Calls Try.prog 24 #[v, u] w fun e w' => e = .returned (.bool (decide (m <+: l))) ∧ Below w.heap.size w w' := by
  obtain ⟨a, c, rfl, h1, h2, h3, h4⟩ := id hr
  obtain ⟨b, d, rfl, k1, k2, k3, k4⟩ := id hq
  have e0 : decide (m <+: l) = decide (m.length ≤ l.length ∧ l.take m.length = m) := decide_eq_decide.2 prefix_take.symm
  rw [e0]
  clear e0
  by_cases hle : m.length ≤ l.length
  · have s1 := fun q => convert_str ((hr.front hle).below (below_drewN (Below.refl _ _) q))
    have s2 := fun q => convert_str (hq.below (below_drewN (Below.refl _ _) q))
    have hs := str_same (l.take m.length) m
    have HE : Hid (decide (l.take m.length = m) = decide (m.length ≤ l.length ∧ l.take m.length = m)) := decide_eq_decide.2 ⟨fun h => ⟨hle, h⟩, fun h => h.2⟩
    have hd : decide ((m.length : Int) ≤ (l.length : Int)) = true := decide_eq_true (by omega)
    have hmc : m.length ≤ c := by omega
    clear hr hq h4 k4 h1 k1
    generalize hL : l.length = L at *
    generalize hM : m.length = M at *
    go_enter Try.func24, Try.ntmps24
    go_wp2
    go_quiet (fail)
    go_wp2
    go_ret
    exact ⟨ret_bool' HE.out, below_drewN (Below.refl _ _) _⟩
  · have HE : Hid (false = decide (m.length ≤ l.length ∧ l.take m.length = m)) := (decide_eq_false (fun h => hle h.1)).symm
    have hd : decide ((m.length : Int) ≤ (l.length : Int)) = false := decide_eq_false (by omega)
    clear hr hq h4 k4 h1 k1
    generalize hL : l.length = L at *
    generalize hM : m.length = M at *
    go_enter Try.func24, Try.ntmps24
    go_wp2
    go_quiet (fail)
    go_wp2
    go_ret
    exact ⟨ret_bool' HE.out, below_drewN (Below.refl _ _) _⟩

end Go.Proofs.Ytccccclnfimcoaa

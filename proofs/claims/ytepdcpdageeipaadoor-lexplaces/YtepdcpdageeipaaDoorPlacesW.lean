/-
  The walk of LexPlaces.
-/
import Derived.Test.YtepdcpdageeipaaDoorLists
import Derived.BigQuiet
namespace Go.Proofs.YtepdcpdageeipaaDoor
open Go.RowKit Go.Maps
set_option linter.unusedVariables false

theorem places (s : ByteArray) (h : s.size ≤ 5000) : ((lexOut s).err = 0 ∧ Placed s.data.toList 0 (lexOut s).ws) ∨ ((lexOut s).err ≠ 0 ∧ (lexOut s).ws = [] ∧ (lexOut s).pos < s.size) := by
  unfold lexOut
  by_cases h2 : s.size ≤ 4096
  · rw [if_pos h2]
    have := sp_places s.data.toList s.data.toList 0 rfl (Nat.zero_le _)
    rw [size_list] at this
    exact this
  · rw [if_neg h2]
    exact .inr ⟨by show 6 ≠ 0; decide, rfl, by show 0 < _; omega⟩
theorem Placed.cons {l : Bs} {p : Nat} {ws : List W} {k : Nat} (h : Placed l p (ws.drop k)) (hk : k < ws.length) : p ≤ (ws.getD k noW).pos ∧ (ws.getD k noW).pos < l.length ∧ (ws.getD k noW).pos + (ws.getD k noW).text.length ≤ l.length ∧ (l.drop (ws.getD k noW).pos).take (ws.getD k noW).text.length = (ws.getD k noW).text ∧ ((ws.getD k noW).kind = 1 ∧ (ws.getD k noW).text = [] ∨ (ws.getD k noW).kind ≠ 1 ∧ (ws.getD k noW).text ≠ [] ∧ (ws.getD k noW).n = 0) ∧ (ws.getD k noW).n < 2 ^ 63 ∧ Placed l ((ws.getD k noW).pos + max 1 (ws.getD k noW).text.length) (ws.drop (k + 1)) := by
  rw [List.drop_eq_getElem_cons hk] at h
  have e : ws.getD k noW = ws[k] := by simp [List.getD, List.getElem?_eq_getElem hk]
  rw [e]
  exact h

set_option maxRecDepth 100000 in
set_option maxHeartbeats 400000 in
theorem places_bad (s : ByteArray) (hs : s.size ≤ 5000) (E P : Nat) (hE : E ≠ 0) (hP : P < s.size) (HC : Hid (∀ w, Held w → Calls Tryd.prog 9 #[.string s] w fun e w' => ∃ a cap, e = .returned (.tuple #[.slice a 0 cap, .agg #[.int .i64 E, .int .i64 P]]) ∧ Below w.heap.size w w')) (w : World) (HW : Hid (Held w)) :
    Calls Tryd.prog 4 #[.string s] w fun e w' => e = .returned (.bool true) ∧ Below w.heap.size w w' := by
  have D0 : Hid True := trivial
  go_enter Tryd.func4, Tryd.ntmps4
  go_wp2_with (first
    | (have := D1; go_at_call 8; refine (works_any _ H1.out).mono ?_; rintro e w2 ⟨rfl, HB⟩; have HB2 : Hid (Below w.heap.size w w2) := below_new HB1.out HB; clear HB)
    | (have := D0; go_at_call 9; refine (HC.out _ HW.out).mono ?_; rintro e w1 ⟨a, cap, rfl, HB⟩; have HB1 : Hid (Below w.heap.size w w1) := HB; have H1 : Hid (Held (w1.alloc (.cells #[.int .i64 E, .int .i64 P] 26))) := ((HW.out.below (Nat.le_refl _) HB).new _); have D1 : Hid True := trivial; clear HB D0))
  go_ret
  exact ⟨rfl, HB2.out⟩

set_option maxRecDepth 100000 in
set_option maxHeartbeats 400000 in
theorem places_ok (s : ByteArray) (hs : s.size ≤ 5000) (n : Nat) (ws : List W) (HLn : Hid (ws.length = n)) (hn : n ≤ 4096) (HP : Hid (Placed s.data.toList 0 ws)) (HC : Hid (∀ w, Held w → Calls Tryd.prog 9 #[.string s] w fun e w' => ∃ a cap, e = .returned (.tuple #[.slice a n cap, .agg #[.int .i64 0, .int .i64 0]]) ∧ n ≤ cap ∧ RowV w' a ws ∧ Below w.heap.size w w')) (w : World) (HW : Hid (Held w)) :
    Calls Tryd.prog 4 #[.string s] w fun e w' => e = .returned (.bool true) ∧ Below w.heap.size w w' := by
  go_enter Tryd.func4, Tryd.ntmps4
  go_wp2_with (go_at_call 9; refine (HC.out _ HW.out).mono ?_; rintro e w1 ⟨a, cap, rfl, hcap, hc, HB⟩; have HB1 : Hid (Below w.heap.size w w1) := HB; have HX : Hid (RowV w1 a ws) := hc; clear HB hc HC)
  obtain ⟨w2, hw2⟩ : ∃ w2, w2 = w1.alloc (.cells #[.int .i64 0, .int .i64 0] 26) := ⟨_, rfl⟩
  rw [← hw2]
  have HB2 : Hid (Below w.heap.size w w2) := by rw [hw2]; exact HB1.out.alloc HB1.out.size _
  have HX2 : Hid (RowV w2 a ws) := by
    have := HX.out.below ((Below.refl _ _).alloc (Nat.le_refl _) (.cells #[.int .i64 0, .int .i64 0] 26))
    rw [hw2]; exact this
  clear HX HB1 hw2
  go_loopw [5, 6] (fun v i wr => ∃ k p : Nat, k ≤ n ∧ i = .int .i64 k ∧ v = .int .i64 p ∧ p ≤ 10000 ∧ Hid (Placed s.data.toList p (ws.drop k)) ∧ Hid (Below w2.heap.size w2 wr)) (fun _ i _ => n - (intOf i).toNat)
  case atStart => exact ⟨0, 0, Nat.zero_le _, rfl, rfl, by decide, by rw [List.drop_zero]; exact HP.out, Below.refl _ _⟩
  case round =>
    obtain ⟨k, p, hk, rfl, rfl, hp, HQ, HB⟩ := hrel
    by_cases hlt : k < n
    · obtain ⟨h1, h2, h3, h4, h5, h6, h7⟩ := HQ.out.cons (by rw [HLn.out]; exact hlt)
      obtain ⟨b, rfl, hwa⟩ := HX2.out.below HB.out k (by rw [HLn.out]; exact hlt)
      obtain ⟨c0, c1, c2, c3⟩ := hwa
      have HPl : Hid (Placed s.data.toList ((ws.getD k noW).pos + max 1 (ws.getD k noW).text.length) (ws.drop (k + 1))) := h7
      have hx : s.extract (ws.getD k noW).pos ((ws.getD k noW).pos + (ws.getD k noW).text.length) = ba (ws.getD k noW).text := by
        have e := h4
        rw [List.take_drop] at e
        rw [← ba_of (s.extract _ _), cut_list, e]
      rw [size_list] at h2 h3
      have hz : (ba (ws.getD k noW).text).size = (ws.getD k noW).text.length := ba_size _
      have HK : Hid ((ws.getD k noW).kind = 1 ∧ (ba (ws.getD k noW).text) = ⟨#[]⟩ ∨ (ws.getD k noW).kind ≠ 1 ∧ (ba (ws.getD k noW).text) ≠ ⟨#[]⟩ ∧ (ws.getD k noW).n = 0) := by
        rcases h5 with ⟨k1, k2⟩ | ⟨k1, k2, k3⟩
        · exact .inl ⟨k1, by rw [k2]; rfl⟩
        · refine .inr ⟨k1, fun e => k2 ?_, k3⟩
          have := congrArg (fun (x : ByteArray) => x.data.toList) e
          exact this
      clear h4 h5 h7 HQ
      generalize (ws.getD k noW).text.length = L at *
      generalize ba (ws.getD k noW).text = t at *
      generalize (ws.getD k noW).pos = P at *
      generalize (ws.getD k noW).n = N at *
      generalize (ws.getD k noW).kind = K at *
      go_wp2
      obtain ⟨w3, hw3⟩ : ∃ w3, w3 = wr.alloc (.cells #[.int .i64 K, .string t, .int .i64 N, .int .i64 P] 32) := ⟨_, rfl⟩
      rw [← hw3]
      have k1 : w3.heap[wr.heap.size]? = some (.cells #[.int .i64 K, .string t, .int .i64 N, .int .i64 P] 32) := by rw [hw3, heap_alloc_new]
      have e0 : w3.cell? ⟨wr.heap.size, 0, none⟩ = some (.int .i64 K) := by rw [cell_of_row w3 _ 0 _ 32 (0, 0) k1]; rfl
      have e1 : w3.cell? ⟨wr.heap.size, 1, none⟩ = some (.string t) := by rw [cell_of_row w3 _ 1 _ 32 (0, 0) k1]; rfl
      have e2 : w3.cell? ⟨wr.heap.size, 2, none⟩ = some (.int .i64 N) := by rw [cell_of_row w3 _ 2 _ 32 (0, 0) k1]; rfl
      have e3 : w3.cell? ⟨wr.heap.size, 3, none⟩ = some (.int .i64 P) := by rw [cell_of_row w3 _ 3 _ 32 (0, 0) k1]; rfl
      have HB3 : Hid (Below w2.heap.size w2 w3) := by rw [hw3]; exact HB.out.alloc HB.out.size _
      clear k1 hw3 c0 c1 c2 c3 HB
      generalize wr.heap.size = b3 at *
      have g1 : decide ((P : Int) < p) = false := decide_eq_false (by omega)
      have g2 : decide ((s.size : Int) ≤ P) = false := decide_eq_false (by omega)
      have g3 : decide ((s.size : Int) - P < L) = false := decide_eq_false (by omega)
      have q1 : IntKind.i64.wrap ((s.size : Int) - P) = (s.size : Int) - P := by rw [IntKind.wrap_i64]; omega
      have q2 : IntKind.i64.wrap ((P : Int) + L) = (P : Int) + L := by rw [IntKind.wrap_i64]; omega
      have hsl : ∀ w', (Instr.slice 9 (.string s) (some (.int .i64 P)) (some (.int .i64 ((P : Int) + L))) none).run Tryd.prog w' = .ok (.string t) w' := by
        intro w'
        rw [run_slice_string w' 9 s _ _ _ _ Tryd.underlying9 (by omega) (by omega) (by omega)]
        rw [show ((P : Int)).toNat = P by omega, show ((P : Int) + L).toNat = P + L by omega, hx]
      have HX3 : Hid _ := hx
      clear hx
      go_quiet (fail)
      clear hsl
      rcases HK.out with ⟨rfl, rfl⟩ | ⟨k1, k2, rfl⟩
      · have hL0 : L = 0 := hz.symm
        subst hL0
        have HPm : Hid (Placed s.data.toList (P + 1) (ws.drop (k + 1))) := HPl.out
        clear HK HPl hz
        go_wp2
        go_roundw
        case rel => exact ⟨k + 1, P + 1, by omega, by go_num, by go_num, by omega, HPm.out, below_drewN HB3.out _⟩
        case measure => simp [intOf]; omega
      · have hb : ¬ t.toList = [] := by
          intro e
          apply k2
          rw [Lib.toList_data] at e
          rw [← ba_of t, e]; rfl
        have hb2 : t.toList.isEmpty = false := by simpa using hb
        have hL0 : L ≠ 0 := by
          intro e; apply k2
          rw [e] at hz
          exact ByteArray.ext (Array.eq_empty_of_size_eq_zero hz)
        have HPm : Hid (Placed s.data.toList (P + L) (ws.drop (k + 1))) := by have := HPl.out; rw [Nat.max_eq_right (by omega)] at this; exact this
        have hm : max (1 : Int) L = L := by omega
        clear HK HPl
        go_wp2
        go_roundw
        case rel => exact ⟨k + 1, P + L, by omega, by go_num, by go_num, by omega, HPm.out, below_drewN HB3.out _⟩
        case measure => simp [intOf]; omega
    · have he : k = n := by omega
      subst he
      go_wp2_with (go_at_call 8; refine (works_any _ ((HW.out.below (Nat.le_refl _) HB2.out).below (Nat.le_refl _) HB.out)).mono ?_; rintro e w3 ⟨rfl, HB3⟩; have HB4 : Hid (Below wr.heap.size wr w3) := HB3; clear HB3)
      go_ret
      exact ⟨rfl, (HB2.out.trans (HB.out.mono HB2.out.size)).trans (HB4.out.mono (Nat.le_trans HB2.out.size HB.out.size))⟩
set_option maxRecDepth 100000 in
theorem places_walk (s : ByteArray) (w : World) (w0 : s.size ≤ maxLen) (hw : Held w) : Calls Tryd.prog 4 #[.string s] w fun e w' => e = .returned (.bool true) ∧ Below w.heap.size w w' := by
  by_cases hbig : 5000 < s.size
  · have HW : Hid (Held w) := hw
    unfold maxLen at w0
    clear hw
    go_enter Tryd.func4, Tryd.ntmps4
    go_wp2_with (go_at_call 8; refine (works_any _ HW.out).mono ?_; rintro e w' ⟨rfl, HB⟩)
    go_ret
    exact ⟨rfl, HB⟩
  · rcases places s (by omega) with ⟨h1, h2⟩ | ⟨h1, h2, h3⟩
    · refine places_ok s (by omega) (lexOut s).ws.length (lexOut s).ws rfl ?_ h2 (fun w hw => (split_any s w0 w hw).mono ?_) w hw
      · exact lex_few s
      rintro e w' ⟨v, rfl, hV, hB⟩
      obtain ⟨a, cap, rfl, k1, _, k2⟩ := hV.row
      have hp : (lexOut s).pos = 0 := lex_pos h1
      rw [h1, hp]
      exact ⟨a, cap, rfl, k1, k2, hB⟩
    · refine places_bad s (by omega) _ _ h1 h3 (fun w hw => (split_any s w0 w hw).mono ?_) w hw
      rintro e w' ⟨v, rfl, hV, hB⟩
      rw [h2] at hV
      obtain ⟨a, cap, rfl⟩ := hV.empty
      exact ⟨a, cap, rfl, hB⟩

end Go.Proofs.YtepdcpdageeipaaDoor

/-
  The program's own functions divide, Update and Sum (package crc) return what the plain mathematics says; so does the laws' example.
-/
import Derived.Test.YtcaddedkodjgcaaCbi
import Derived.Test.YtcaddedkodjgcaaPow
import Derived.WalkKit
import Derived.ProofKit
import Derived.WalkLawsBesides
import Derived.Outline
namespace Go.Proofs.Ytcaddedkodjgcaa
open Go.RowKit Crc

set_option maxRecDepth 100000 in
theorem divide_any (c : BitVec 32) (w : World) :
    Calls Try.prog 61 #[.int .u32 (W c)] w fun e w' => e = .returned (.int .u32 (W (iter 8 c))) ∧ w' = w := by
  go_enter Try.func61, Try.ntmps61
  go_wp2
  go_loop [0, 3] (fun r i => ∃ k : Nat, k ≤ 8 ∧ i = .int .i64 k ∧ r = .int .u32 (W (iter k c))) (fun _ i => 8 - (intOf i).toNat)
  case atStart => exact ⟨0, Nat.zero_le _, rfl, rfl⟩
  case round =>
    obtain ⟨k, hk, rfl, rfl⟩ := hrel
    by_cases hlt : k < 8
    · go_wp2
      · go_round
        case rel => exact ⟨k + 1, by omega, by go_num, val_int (odd_W ‹_›)⟩
        case measure => simp [intOf]; omega
      · go_round
        case rel => exact ⟨k + 1, by omega, by go_num, val_int (even_W ‹_›)⟩
        case measure => simp [intOf]; omega
    · have hk8 : k = 8 := by omega
      subst hk8
      go_wp2
      go_ret
      exact ⟨rfl, rfl⟩

theorem upd_snoc (r : BitVec 32) (l : List (BitVec 8)) (k : Nat) (h : k < l.length) : upd r (l.take (k + 1)) = iter 8 (mix (upd r (l.take k)) (nth l k)) := by
  rw [List.take_succ_eq_append_getElem h, upd_append]
  simp [upd, nth, h, eat, mix]

set_option maxRecDepth 100000 in
theorem update_any (s : BitVec 32) (a : Option Addr) (cap : Nat) (l : List (BitVec 8)) (w : World) (hr : Reads w a l) :
    Calls Try.prog 55 #[.int .u32 (W s), .slice a l.length cap] w fun e w' => e = .returned (.int .u32 (W (go s l))) ∧ w' = w := by
  obtain ⟨hm, h⟩ := hr
  unfold maxLen at hm
  have hnot := not_W s
  rcases h with rfl | ⟨b, off, rfl, hc⟩
  · have hn2 := not_W (inv s)
    go_enter Try.func55, Try.ntmps55
    go_wp2
    refine wp_loop_rounds 1 ?_
    rw [rounds_succ]
    go_wp2
    go_ret
    exact ⟨ret_int rfl, rfl⟩
  · go_enter Try.func55, Try.ntmps55
    go_wp2
    go_loop [5, 12] (fun r i => ∃ k : Nat, k ≤ l.length ∧ i = .int .i64 k ∧ r = .int .u32 (W (upd (inv s) (l.take k)))) (fun _ i => l.length - (intOf i).toNat)
    case atStart => exact ⟨0, Nat.zero_le _, rfl, rfl⟩
    case round =>
      obtain ⟨k, hk, rfl, rfl⟩ := hrel
      by_cases hlt : k < l.length
      · have hcell := hc k hlt
        have HS : Hid (upd (inv s) (l.take (k + 1)) = iter 8 (mix (upd (inv s) (l.take k)) (nth l k))) := upd_snoc _ l k hlt
        clear hc
        obtain ⟨hb0, hb1⟩ := B_range (nth l k)
        have hx := mix_W (upd (inv s) (l.take k)) (nth l k)
        go_wp2_with (go_at_call 61; refine (divide_any _ _).mono ?_; rintro e w' ⟨rfl, rfl⟩)
        go_round
        case rel => exact ⟨k + 1, by omega, by go_num, by rw [HS.out]⟩
        case measure => simp [intOf]; omega
      · have hkl : k = l.length := by omega
        subst hkl
        go_wp2
        go_ret
        exact ⟨ret_int (not_W _), rfl⟩

theorem update_zero (a : Option Addr) (cap : Nat) (l : List (BitVec 8)) (w : World) (hr : Reads w a l) :
    Calls Try.prog 55 #[.int .u32 0, .slice a l.length cap] w fun e w' => e = .returned (.int .u32 (W (sum l))) ∧ w' = w := update_any 0#32 a cap l w hr

set_option maxRecDepth 100000 in
theorem sum_any (a : Option Addr) (cap : Nat) (l : List (BitVec 8)) (w : World) (hr : Reads w a l) :
    Calls Try.prog 43 #[.slice a l.length cap] w fun e w' => e = .returned (.int .u32 (W (sum l))) ∧ w' = w := by
  go_enter Try.func43, Try.ntmps43
  go_wp2_with (go_at_call 55; refine (update_zero a cap l _ hr).mono ?_; rintro e w' ⟨rfl, rfl⟩)
  go_ret
  exact ⟨rfl, rfl⟩

/-- The sum of whatever reads as l. -/
theorem sum_row (v : Value) (l : List (BitVec 8)) (w : World) (hr : ReadsV w v l) : Calls Try.prog 43 #[v] w fun e w' => e = .returned (.int .u32 (W (sum l))) ∧ w' = w := by
  obtain ⟨a, cap, rfl, _, _, _, h⟩ := hr
  exact sum_any a cap l w h
theorem update_row (s : BitVec 32) (v : Value) (l : List (BitVec 8)) (w : World) (hr : ReadsV w v l) : Calls Try.prog 55 #[.int .u32 (W s), v] w fun e w' => e = .returned (.int .u32 (W (go s l))) ∧ w' = w := by
  obtain ⟨a, cap, rfl, _, _, _, h⟩ := hr
  exact update_any s a cap l w h

end Go.Proofs.Ytcaddedkodjgcaa

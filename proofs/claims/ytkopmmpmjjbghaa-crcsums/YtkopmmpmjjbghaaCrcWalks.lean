/-
  The program's own functions divide, Update and Sum (package crc) return what the plain mathematics says; so does the laws' example.
-/
import Derived.Test.YtkopmmpmjjbghaaRows
import Derived.Test.YtkopmmpmjjbghaaBits
import Derived.WalkKit
import Derived.ProofKit
import Derived.WalkLawsBesides
import Derived.Outline
namespace Go.Proofs.Ytkopmmpmjjbghaa
open Go.RowKit Crc

theorem divide_any (c : BitVec 32) (w : World) :
    Calls Try.prog 13 #[.int .u32 (W c)] w fun e w' => e = .returned (.int .u32 (W (iter 8 c))) ∧ w' = w := by
  go_enter Try.func13, Try.ntmps13
  go_wp2
  go_loop [0, 3] (fun r i => ∃ k : Nat, k ≤ 8 ∧ i = .int .i64 k ∧ r = .int .u32 (W (iter k c))) (fun _ i => 8 - (intOf i).toNat)
  case atStart => exact ⟨0, Nat.zero_le _, rfl, rfl⟩
  case round =>
    obtain ⟨k, hk, rfl, rfl⟩ := hrel
    by_cases hlt : k < 8
    · go_wp2
      · go_round
        case rel => exact ⟨k + 1, by omega, by go_num, val_int (odd_W ‹_›)⟩
        case measure => simp [intOf]; omega
      · go_round
        case rel => exact ⟨k + 1, by omega, by go_num, val_int (even_W ‹_›)⟩
        case measure => simp [intOf]; omega
    · have hk8 : k = 8 := by omega
      subst hk8
      go_wp2
      go_ret
      exact ⟨rfl, rfl⟩

/-- A slice of bytes that reads as l. -/
def Reads (w : World) (a : Option Addr) (l : List (BitVec 8)) : Prop :=
  l.length ≤ maxLen ∧ (l = [] ∨ ∃ b off, a = some ⟨b, off, none⟩ ∧ ∀ i, i < l.length → w.cell? ⟨b, off + i, none⟩ = some (.int .u8 (B (nth l i))))

theorem upd_snoc (r : BitVec 32) (l : List (BitVec 8)) (k : Nat) (h : k < l.length) : upd r (l.take (k + 1)) = iter 8 (mix (upd r (l.take k)) (nth l k)) := by
  rw [List.take_succ_eq_append_getElem h, upd_append]
  simp [upd, nth, h, eat, mix]

theorem update_any (s : BitVec 32) (a : Option Addr) (cap : Nat) (l : List (BitVec 8)) (w : World) (hr : Reads w a l) :
    Calls Try.prog 11 #[.int .u32 (W s), .slice a l.length cap] w fun e w' => e = .returned (.int .u32 (W (go s l))) ∧ w' = w := by
  obtain ⟨hm, h⟩ := hr
  unfold maxLen at hm
  have hnot := not_W s
  rcases h with rfl | ⟨b, off, rfl, hc⟩
  · have hn2 := not_W (inv s)
    go_enter Try.func11, Try.ntmps11
    go_wp2
    refine wp_loop_rounds 1 ?_
    rw [rounds_succ]
    go_wp2
    go_ret
    exact ⟨ret_int rfl, rfl⟩
  · go_enter Try.func11, Try.ntmps11
    go_wp2
    go_loop [5, 12] (fun r i => ∃ k : Nat, k ≤ l.length ∧ i = .int .i64 k ∧ r = .int .u32 (W (upd (inv s) (l.take k)))) (fun _ i => l.length - (intOf i).toNat)
    case atStart => exact ⟨0, Nat.zero_le _, rfl, rfl⟩
    case round =>
      obtain ⟨k, hk, rfl, rfl⟩ := hrel
      by_cases hlt : k < l.length
      · have hcell := hc k hlt
        have HS : Hid (upd (inv s) (l.take (k + 1)) = iter 8 (mix (upd (inv s) (l.take k)) (nth l k))) := upd_snoc _ l k hlt
        clear hc
        obtain ⟨hb0, hb1⟩ := B_range (nth l k)
        have hx := mix_W (upd (inv s) (l.take k)) (nth l k)
        go_wp2_with (go_at_call 13; refine (divide_any _ _).mono ?_; rintro e w' ⟨rfl, rfl⟩)
        go_round
        case rel => exact ⟨k + 1, by omega, by go_num, by rw [HS.out]⟩
        case measure => simp [intOf]; omega
      · have hkl : k = l.length := by omega
        subst hkl
        go_wp2
        go_ret
        exact ⟨ret_int (not_W _), rfl⟩

theorem update_zero (a : Option Addr) (cap : Nat) (l : List (BitVec 8)) (w : World) (hr : Reads w a l) :
    Calls Try.prog 11 #[.int .u32 0, .slice a l.length cap] w fun e w' => e = .returned (.int .u32 (W (sum l))) ∧ w' = w := update_any 0#32 a cap l w hr

theorem sum_any (a : Option Addr) (cap : Nat) (l : List (BitVec 8)) (w : World) (hr : Reads w a l) :
    Calls Try.prog 9 #[.slice a l.length cap] w fun e w' => e = .returned (.int .u32 (W (sum l))) ∧ w' = w := by
  go_enter Try.func9, Try.ntmps9
  go_wp2_with (go_at_call 11; refine (update_zero a cap l _ hr).mono ?_; rintro e w' ⟨rfl, rfl⟩)
  go_ret
  exact ⟨rfl, rfl⟩

theorem sum_none (w : World) : Calls Try.prog 9 #[.slice none 0 0] w fun e w' => e = .returned (.int .u32 0) ∧ w' = w :=
  sum_any none 0 [] w ⟨by decide, .inl rfl⟩

def nine : List (BitVec 8) := [49#8, 50#8, 51#8, 52#8, 53#8, 54#8, 55#8, 56#8, 57#8]
theorem sum_nine (w : World) (b : Nat) (h : ∀ i, i < 9 → w.cell? ⟨b, i, none⟩ = some (.int .u8 (B (nth nine i)))) :
    Calls Try.prog 9 #[.slice (some ⟨b, 0, none⟩) 9 9] w fun e w' => e = .returned (.int .u32 3421780262) ∧ w' = w := by
  have := sum_any (some ⟨b, 0, none⟩) 9 nine w ⟨by decide, .inr ⟨b, 0, rfl, fun i hi => by rw [Nat.zero_add]; exact h i hi⟩⟩
  rw [show sum nine = 0xcbf43926#32 from works] at this
  exact this

theorem nine_cells (w : World) : ∀ i, i < 9 → (w.alloc (.cells #[.int .u8 49, .int .u8 50, .int .u8 51, .int .u8 52, .int .u8 53, .int .u8 54, .int .u8 55, .int .u8 56, .int .u8 57] 5)).cell? ⟨w.heap.size, i, none⟩ = some (.int .u8 (B (nth nine i))) := by
  intro i hi
  rw [cell_of_row _ w.heap.size i _ 5 (0, 0) (heap_alloc_new w _)]
  match i, hi with
  | 0, _ | 1, _ | 2, _ | 3, _ | 4, _ | 5, _ | 6, _ | 7, _ | 8, _ => rfl

/-- The laws' example: it returns true, and makes one block. -/
theorem works_any (w : World) : Calls Try.prog 8 #[] w fun e w' => e = .returned (.bool true) ∧ Below w.heap.size w w' := by
  go_enter Try.func8, Try.ntmps8
  go_wp2_with (first | (go_at_call 9; refine (sum_none _).mono ?_; rintro e w' ⟨rfl, rfl⟩) | (go_at_call 9; refine (sum_nine _ _ (nine_cells _)).mono ?_; rintro e w' ⟨rfl, rfl⟩))
  go_ret
  exact ⟨rfl, (Below.refl _ _).alloc (Nat.le_refl _) _⟩

end Go.Proofs.Ytkopmmpmjjbghaa

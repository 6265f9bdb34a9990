/-
  The document's One: one contract.
-/
import Derived.Test.YtlfeejjlcclbdaaGreatDoorOne
namespace Go.Proofs.YtlfeejjlcclbdaaGreatDoor
open Go.RowKit Go.Maps
set_option linter.unusedVariables false


theorem tw_on (p : UInt8 → Bool) : ∀ (r : Bs) (k : Nat) (h : k < r.length), k < (r.takeWhile p).length → p r[k] = true
  | [], k, h, _ => by simp at h
  | c :: r, k, h, hk => by
    cases hc : p c with
    | false => simp [List.takeWhile, hc] at hk
    | true =>
      cases k with
      | zero => exact hc
      | succ k =>
        simp only [List.takeWhile, hc, List.length_cons] at hk
        exact tw_on p r k (by simpa using h) (by omega)
theorem tw_off (p : UInt8 → Bool) : ∀ (r : Bs) (h : (r.takeWhile p).length < r.length), p (r[(r.takeWhile p).length]'h) = false
  | [], h => by simp at h
  | c :: r, h => by
    cases hc : p c with
    | false => simp [List.takeWhile, hc]
    | true =>
      have h2 : (r.takeWhile p).length < r.length := by simpa [List.takeWhile, hc] using h
      have := tw_off p r h2
      simpa [List.takeWhile, hc] using this
theorem at_cons {x : ByteArray} {c : UInt8} {r : Bs} (hx : x.data.toList = c :: r) {n : Nat} (h : n < x.size) (h1 : 1 ≤ n) (h2 : n - 1 < r.length) : x[n]'h = r[n - 1]'h2 := by
  rw [at_list h (by rw [size_list]; exact h)]
  simp only [hx]
  rw [List.getElem_cons]
  simp [show n ≠ 0 by omega]
theorem size_cons {x : ByteArray} {c : UInt8} {r : Bs} (hx : x.data.toList = c :: r) : x.size = r.length + 1 := by rw [← size_list, hx]; rfl
theorem at_first {x : ByteArray} {c : UInt8} {r : Bs} (hx : x.data.toList = c :: r) (h : 0 < x.size) : x[0]'h = c := by
  rw [at_list h (by rw [size_list]; exact h)]
  simp only [hx]; rfl
theorem run_of {x : ByteArray} {c : UInt8} {r : Bs} (hx : x.data.toList = c :: r) (p : UInt8 → Bool) : Run x p ((r.takeWhile p).length + 1) := by
  have hz := size_cons hx
  have hl := (List.takeWhile_sublist p (l := r)).length_le
  refine ⟨by omega, by omega, fun n h h1 h2 => ?_, fun h => ?_⟩
  · rw [at_cons hx h h1 (by omega)]
    exact tw_on p r (n - 1) _ (by omega)
  · rw [at_cons hx h (by omega) (by omega)]
    have := tw_off p r (by omega)
    simpa using this
theorem cut_first {x : ByteArray} {c : UInt8} {r : Bs} (hx : x.data.toList = c :: r) (k : Nat) : x.extract 0 ((r.takeWhile (goes k)).length + 1) = ba (c :: r.takeWhile (goes k)) := by
  rw [take_ba, hx, word_take_k]
theorem goes_one : goes 1 = digit := by funext x; rfl
theorem goes_two : goes 2 = nameByte := by funext x; exact Bool.or_comm _ _
theorem goes_threeR : goes 3 = fun _ => false := by funext x; rfl
theorem sign_kind {c : UInt8} (h : sign c = true) : kind c = 3 := by
  unfold sign at h
  rw [List.contains_iff_mem] at h
  simp only [signs, List.mem_cons, List.not_mem_nil, or_false] at h
  rcases h with rfl | rfl | rfl | rfl | rfl | rfl | rfl | rfl | rfl | rfl | rfl <;> decide
theorem sign_other {c : UInt8} (h : kind c ≠ 3) : sign c = false := by
  cases hs : sign c with
  | false => rfl
  | true => exact absurd (sign_kind hs) h
theorem kind_not1 {c : UInt8} (h : kind c ≠ 1) : digit c = false := by
  cases hs : digit c with
  | false => rfl
  | true => exact absurd (by unfold kind; rw [if_pos hs]) h
theorem kind_2 {c : UInt8} (h : kind c = 2) : letter c = true := by
  cases hs : letter c with
  | true => rfl
  | false =>
    unfold kind at h
    rw [hs] at h
    repeat' split at h
    all_goals simp_all
theorem kind_not2 {c : UInt8} (h1 : kind c ≠ 1) (h : kind c ≠ 2) : letter c = false := by
  cases hs : letter c with
  | false => rfl
  | true => exact absurd (by unfold kind; rw [kind_not1 h1, hs]; rfl) h
theorem kind_3 {c : UInt8} (h : kind c = 3) : sign c = true := by
  cases hs : sign c with
  | true => rfl
  | false =>
    unfold kind at h
    rw [hs] at h
    repeat' split at h
    all_goals simp_all
theorem rsign_at {c : UInt8} {b : Bool} (h : sign c = b) : ∀ w, Calls Tryz.prog 57 #[.int .u8 c.toNat] w fun e w' => e = .returned (.bool b) ∧ Below w.heap.size w w' := by subst h; exact rsign_any c
theorem rdigit_at {c : UInt8} {b : Bool} (h : digit c = b) : ∀ w, Calls Tryz.prog 58 #[.int .u8 c.toNat] w fun e w' => e = .returned (.bool b) ∧ w' = w := by subst h; exact rdigit_any c
theorem rletter_at {c : UInt8} {b : Bool} (h : letter c = b) : ∀ w, Calls Tryz.prog 60 #[.int .u8 c.toNat] w fun e w' => e = .returned (.bool b) ∧ w' = w := by subst h; exact rletter_any c
def oneV (o : Got) : Value := if o.err = 0 then gotV o.kind (ba o.text) o.n o.len else lostV o.err o.off
theorem rest_at {x : ByteArray} {c : UInt8} {r : Bs} (hx : x.data.toList = c :: r) (h : (word c r).length < x.size) : headLetter (r.dropWhile (goes (kind c))) = letter (x[(word c r).length]'h) := by
  have hf : From x 0 c r := ⟨by rw [List.drop_zero]; exact hx⟩
  have := hf.letter_on (by rw [Nat.zero_add]; exact h)
  rw [this]
  congr 1
  simp only [Nat.zero_add]
theorem rest_end {x : ByteArray} {c : UInt8} {r : Bs} (hx : x.data.toList = c :: r) (h : (word c r).length = x.size) : headLetter (r.dropWhile (goes (kind c))) = false := by
  have hf : From x 0 c r := ⟨by rw [List.drop_zero]; exact hx⟩
  exact hf.letter_end (by omega)
theorem rone_any {x : ByteArray} {c : UInt8} {r : Bs} (hx : x.data.toList = c :: r) (hm : x.size ≤ 4096) (w : World) : Calls Tryz.prog 39 #[.string x] w fun e w' => e = .returned (oneV (one (c :: r))) ∧ Below w.heap.size w w' := by
  have hz := size_cons hx
  have h0 : 0 < x.size := by omega
  have hc := at_first hx h0
  have hwl := word_len c r
  have hwz : (word c r).length ≤ 4096 := by simp at hwl; omega
  rw [one_cons, oneC]
  by_cases h1 : kind c = 1
  · have hw : word c r = c :: r.takeWhile (goes 1) := by rw [word_of, h1]
    have hrun : Run x digit (word c r).length := by
      have := run_of hx (goes 1)
      rw [goes_one] at this
      rw [hw, goes_one]; exact this
    have hcut : x.extract 0 (word c r).length = ba (word c r) := by rw [hw]; exact cut_first hx 1
    have hs : sign c = false := sign_other (by omega)
    rw [if_pos h1]
    have hl : ∀ (h : (word c r).length < x.size) w, Calls Tryz.prog 60 #[.int .u8 (x[(word c r).length]'h).toNat] w fun e w' => e = .returned (.bool (headLetter (r.dropWhile (goes (kind c))))) ∧ w' = w := fun h => rletter_at (rest_at hx h).symm
    have hru := runsR_of (word c r) (word_digits h1)
    by_cases h2 : 2 ^ 63 ≤ val 0 (word c r)
    · rw [if_pos h2]
      exact one_number x _ c _ h0 hm hc hrun hcut 0 false _ (rsign_at hs) (rdigit_at (kind_digit h1)) (rnumber_great _ _ _ _ rfl hwz hru (by omega)) hl (rest_end hx) w
    · rw [if_neg h2]
      have := one_number x _ c _ h0 hm hc hrun hcut (val 0 (word c r)) true _ (rsign_at hs) (rdigit_at (kind_digit h1)) (rnumber_fits _ _ _ _ rfl hwz hru (by omega)) hl (rest_end hx) w
      cases h3 : headLetter (r.dropWhile (goes (kind c))) with
      | true => rw [h3] at this; exact this
      | false => rw [h3] at this; exact this
  · rw [if_neg h1]
    have hd := kind_not1 h1
    by_cases h2 : kind c = 2
    · have hw : word c r = c :: r.takeWhile (goes 2) := by rw [word_of, h2]
      have hrun : Run x nameByte (word c r).length := by
        have := run_of hx (goes 2)
        rw [goes_two] at this
        rw [hw, goes_two]; exact this
      have hcut : x.extract 0 (word c r).length = ba (word c r) := by rw [hw]; exact cut_first hx 2
      rw [if_pos h2]
      refine one_name x _ c _ h0 hm hc hrun _ ?_ ?_ hcut (rsign_at (sign_other (by omega))) (rdigit_at hd) (rletter_at (kind_2 h2)) w
      · intro h; rw [if_pos h]; rfl
      · intro h; rw [if_neg h]; rfl
    · rw [if_neg h2]
      by_cases h3 : kind c = 3
      · rw [if_pos h3]
        have hw : word c r = [c] := by rw [word_of, h3, goes_threeR]; congr 1; cases r <;> rfl
        rw [hw]
        exact one_sign x _ c h0 hm hc (by rw [take_ba, hx]; rfl) (rsign_at (kind_3 h3)) w
      · rw [if_neg h3]
        exact one_none x c h0 hm hc (rsign_at (sign_other h3)) (rdigit_at hd) (rletter_at (kind_not2 h1 h2)) w
end Go.Proofs.YtlfeejjlcclbdaaGreatDoor

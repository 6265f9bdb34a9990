/-
  The small functions of lex: contracts.
-/
import Derived.Test.YtlfeejjlcclbdaaGreatDoorBase
import Derived.Test.YtlfeejjlcclbdaaGreatDoorLaid
import Derived.Laws.BitsAllLaws
import Derived.OpenShut
import Derived.WalkKit
import Derived.ProofKit
import Derived.WalkLawsBesides
import Derived.Outline
import Derived.ChangeOld
import Derived.OwnWalk
import Derived.Deep.RegionLaw
namespace Go.Proofs.YtlfeejjlcclbdaaGreatDoor
open Go.RowKit
set_option linter.unusedVariables false


set_option maxRecDepth 100000 in
theorem isDigit_any (c : UInt8) (w : World) : Calls Tryz.prog 63 #[.int .u8 c.toNat] w fun e w' => e = .returned (.bool (digit c)) ∧ w' = w := by
  have hb : c.toNat < 256 := UInt8.toNat_lt _
  have HD : Hid (digit c = (decide (48 ≤ c.toNat) && decide (c.toNat ≤ 57))) := rfl
  have HE : Hid (decide (c.toNat ≤ 57) = decide ((c.toNat : Int) ≤ 57)) := decide_eq_decide.2 (by omega)
  generalize c.toNat = n at *
  by_cases h1 : 48 ≤ n
  · go_enter Tryz.func63, Tryz.ntmps63
    go_wp2
    go_ret
    refine ⟨?_, rfl⟩
    rw [HD.out, decide_eq_true h1, HE.out, Bool.true_and]; rfl
  · go_enter Tryz.func63, Tryz.ntmps63
    go_wp2
    go_ret
    refine ⟨?_, rfl⟩
    rw [HD.out, decide_eq_false h1]; rfl
set_option maxRecDepth 100000 in
theorem isLetter_any (c : UInt8) (w : World) : Calls Tryz.prog 50 #[.int .u8 c.toNat] w fun e w' => e = .returned (.bool (letter c)) ∧ w' = w := by
  have hb : c.toNat < 256 := UInt8.toNat_lt _
  have HD : Hid (letter c = (decide (97 ≤ c.toNat) && decide (c.toNat ≤ 122))) := rfl
  have HE : Hid (decide (c.toNat ≤ 122) = decide ((c.toNat : Int) ≤ 122)) := decide_eq_decide.2 (by omega)
  generalize c.toNat = n at *
  by_cases h1 : 97 ≤ n
  · go_enter Tryz.func50, Tryz.ntmps50
    go_wp2
    go_ret
    refine ⟨?_, rfl⟩
    rw [HD.out, decide_eq_true h1, HE.out, Bool.true_and]; rfl
  · go_enter Tryz.func50, Tryz.ntmps50
    go_wp2
    go_ret
    refine ⟨?_, rfl⟩
    rw [HD.out, decide_eq_false h1]; rfl
set_option maxRecDepth 100000 in
theorem rdigit_any (c : UInt8) (w : World) : Calls Tryz.prog 58 #[.int .u8 c.toNat] w fun e w' => e = .returned (.bool (digit c)) ∧ w' = w := by
  have hb : c.toNat < 256 := UInt8.toNat_lt _
  have HD : Hid (digit c = (decide (48 ≤ c.toNat) && decide (c.toNat ≤ 57))) := rfl
  have HE : Hid (decide (c.toNat ≤ 57) = decide ((c.toNat : Int) ≤ 57)) := decide_eq_decide.2 (by omega)
  generalize c.toNat = n at *
  by_cases h1 : 48 ≤ n
  · go_enter Tryz.func58, Tryz.ntmps58
    go_wp2
    go_ret
    refine ⟨?_, rfl⟩
    rw [HD.out, decide_eq_true h1, HE.out, Bool.true_and]; rfl
  · go_enter Tryz.func58, Tryz.ntmps58
    go_wp2
    go_ret
    refine ⟨?_, rfl⟩
    rw [HD.out, decide_eq_false h1]; rfl
set_option maxRecDepth 100000 in
theorem rletter_any (c : UInt8) (w : World) : Calls Tryz.prog 60 #[.int .u8 c.toNat] w fun e w' => e = .returned (.bool (letter c)) ∧ w' = w := by
  have hb : c.toNat < 256 := UInt8.toNat_lt _
  have HD : Hid (letter c = (decide (97 ≤ c.toNat) && decide (c.toNat ≤ 122))) := rfl
  have HE : Hid (decide (c.toNat ≤ 122) = decide ((c.toNat : Int) ≤ 122)) := decide_eq_decide.2 (by omega)
  generalize c.toNat = n at *
  by_cases h1 : 97 ≤ n
  · go_enter Tryz.func60, Tryz.ntmps60
    go_wp2
    go_ret
    refine ⟨?_, rfl⟩
    rw [HD.out, decide_eq_true h1, HE.out, Bool.true_and]; rfl
  · go_enter Tryz.func60, Tryz.ntmps60
    go_wp2
    go_ret
    refine ⟨?_, rfl⟩
    rw [HD.out, decide_eq_false h1]; rfl
set_option maxRecDepth 100000 in
theorem goesOn_any (k : Nat) (hk : k ≤ 3) (c : UInt8) (w : World) : Calls Tryz.prog 65 #[.int .i64 k, .int .u8 c.toNat] w fun e w' => e = .returned (.bool (goes k c)) ∧ w' = w := by
  have HD : Hid (∀ w, Calls Tryz.prog 63 #[.int .u8 c.toNat] w fun e w' => e = .returned (.bool (digit c)) ∧ w' = w) := isDigit_any c
  have HL : Hid (∀ w, Calls Tryz.prog 50 #[.int .u8 c.toNat] w fun e w' => e = .returned (.bool (letter c)) ∧ w' = w) := isLetter_any c
  have hb : c.toNat < 256 := UInt8.toNat_lt _
  have HG : Hid (goes k c = if k = 1 then digit c else if k = 2 then digit c || letter c else false) := rfl
  generalize c.toNat = n at *
  generalize digit c = d at *
  generalize letter c = l at *
  generalize goes k c = g at *
  by_cases h1 : k = 1
  · subst h1
    have := HG.out
    simp at this
    subst this
    clear HG
    go_enter Tryz.func65, Tryz.ntmps65
    go_wp2_with (go_at_call 63; refine (HD.out _).mono ?_; rintro e w' ⟨rfl, rfl⟩)
    go_ret
    exact ⟨rfl, rfl⟩
  · by_cases h2 : k = 2
    · subst h2
      have := HG.out
      simp at this
      subst this
      clear HG h1
      cases d with
      | true =>
        go_enter Tryz.func65, Tryz.ntmps65
        go_wp2_with (go_at_call 63; refine (HD.out _).mono ?_; rintro e w' ⟨rfl, rfl⟩)
        go_ret
        exact ⟨rfl, rfl⟩
      | false =>
        go_enter Tryz.func65, Tryz.ntmps65
        go_wp2_with (first
          | (go_at_call 50; refine (HL.out _).mono ?_; rintro e w' ⟨rfl, rfl⟩)
          | (go_at_call 63; refine (HD.out _).mono ?_; rintro e w' ⟨rfl, rfl⟩))
        go_ret
        exact ⟨rfl, rfl⟩
    · have := HG.out
      rw [if_neg h1, if_neg h2] at this
      subst this
      clear HG
      go_enter Tryz.func65, Tryz.ntmps65
      go_wp2
      go_ret
      exact ⟨rfl, rfl⟩
set_option maxRecDepth 100000 in
theorem fault_any (x p : Int) (w : World) : Calls Tryz.prog 49 #[.int .i64 x, .int .i64 p] w fun e w' => e = .returned (.tuple #[.agg #[.int .i64 0, .string ⟨#[]⟩, .int .i64 0, .int .i64 0], .int .i64 0, .agg #[.int .i64 x, .int .i64 p]]) ∧ Below w.heap.size w w' := by
  go_enter Tryz.func49, Tryz.ntmps49
  go_wp2
  refine bodyPost_ret (v := .tuple #[.agg #[.int .i64 0, .string ⟨#[]⟩, .int .i64 0, .int .i64 0], .int .i64 0, .agg #[.int .i64 x, .int .i64 p]]) (by simp [results, Tryz.results49, go_sem]) rfl ⟨rfl, ?_⟩
  exact ((Below.refl _ _).alloc (Nat.le_refl _) _).alloc (le_alloc _ _) _
theorem index_ge : ∀ (l : List UInt8) (c : UInt8), decide (Lib.indexByte l c ≥ 0) = l.contains c
  | [], c => by simp [Lib.indexByte]
  | x :: r, c => by
    have ih := index_ge r c
    have h1 := Lib.indexByte_ge r c
    by_cases e : x = c
    · subst e; simp [Lib.indexByte]
    · have e2 : ¬ c = x := fun h => e h.symm
      have e3 : (x == c) = false := by simpa using e
      have e4 : (c == x) = false := by simpa using e2
      rw [List.contains_cons, e4, Bool.false_or, ← ih]
      apply decide_eq_decide.2
      show (if x == c then (0 : Int) else if Lib.indexByte r c == -1 then -1 else Lib.indexByte r c + 1) ≥ 0 ↔ _
      rw [e3]
      simp only [Bool.false_eq_true, if_false]
      by_cases h2 : Lib.indexByte r c = -1
      · rw [h2]; decide
      · have h3 : (Lib.indexByte r c == -1) = false := by simpa using h2
        rw [h3]; simp; omega
theorem byte_back (c : UInt8) : ((c.toNat : Int)).toNat.toUInt8 = c := by simp
set_option maxRecDepth 100000 in
theorem indexSign_any (c : UInt8) (w : World) : Calls Tryz.prog 64 #[.string ⟨#[43, 45, 42, 47, 61, 60, 40, 41, 38, 124, 33]⟩, .int .u8 c.toNat] w fun e w' => (∃ i : Int, e = .returned (.int .i64 i) ∧ Hid (decide (i ≥ 0) = sign c)) ∧ w' = w := by
  refine (Tryz.strings_IndexByte _ _ _).mono ?_
  rintro e w' ⟨rfl, rfl⟩
  refine ⟨⟨_, rfl, ?_⟩, rfl⟩
  rw [byte_back]
  exact index_ge _ _
set_option maxRecDepth 100000 in
theorem kindOf_any (c : UInt8) (w : World) : Calls Tryz.prog 46 #[.int .u8 c.toNat] w fun e w' => e = .returned (.int .i64 (kind c)) ∧ w' = w := by
  have HD : Hid (∀ w, Calls Tryz.prog 63 #[.int .u8 c.toNat] w fun e w' => e = .returned (.bool (digit c)) ∧ w' = w) := isDigit_any c
  have HL : Hid (∀ w, Calls Tryz.prog 50 #[.int .u8 c.toNat] w fun e w' => e = .returned (.bool (letter c)) ∧ w' = w) := isLetter_any c
  have HI : Hid (∀ w, Calls Tryz.prog 64 #[.string ⟨#[43, 45, 42, 47, 61, 60, 40, 41, 38, 124, 33]⟩, .int .u8 c.toNat] w fun e w' => (∃ i : Int, e = .returned (.int .i64 i) ∧ Hid (decide (i ≥ 0) = sign c)) ∧ w' = w) := indexSign_any c
  have hb : c.toNat < 256 := UInt8.toNat_lt _
  have HG : Hid (kind c = if digit c then 1 else if letter c then 2 else if sign c then 3 else 0) := rfl
  generalize c.toNat = n at *
  generalize digit c = d at *
  generalize letter c = l at *
  generalize sign c = s at *
  generalize kind c = g at *
  cases d with
  | true =>
    have := HG.out
    simp at this
    subst this
    clear HG
    go_enter Tryz.func46, Tryz.ntmps46
    go_wp2_with (go_at_call 63; refine (HD.out _).mono ?_; rintro e w' ⟨rfl, rfl⟩)
    go_ret
    exact ⟨rfl, rfl⟩
  | false =>
    cases l with
    | true =>
      have := HG.out
      simp at this
      subst this
      clear HG
      go_enter Tryz.func46, Tryz.ntmps46
      go_wp2_with (first
        | (go_at_call 50; refine (HL.out _).mono ?_; rintro e w' ⟨rfl, rfl⟩)
        | (go_at_call 63; refine (HD.out _).mono ?_; rintro e w' ⟨rfl, rfl⟩))
      go_ret
      exact ⟨rfl, rfl⟩
    | false =>
      cases s with
      | true =>
        have := HG.out
        simp at this
        subst this
        clear HG
        go_enter Tryz.func46, Tryz.ntmps46
        go_wp2_with (first
          | (go_at_call 64; refine (HI.out _).mono ?_; rintro e w' ⟨⟨i, rfl, hi⟩, rfl⟩; have hi2 : 0 ≤ i := (by have := hi.out; simpa using this); clear hi)
          | (go_at_call 50; refine (HL.out _).mono ?_; rintro e w' ⟨rfl, rfl⟩)
          | (go_at_call 63; refine (HD.out _).mono ?_; rintro e w' ⟨rfl, rfl⟩))
        go_ret
        exact ⟨rfl, rfl⟩
      | false =>
        have := HG.out
        simp at this
        subst this
        clear HG
        go_enter Tryz.func46, Tryz.ntmps46
        go_wp2_with (first
          | (go_at_call 64; refine (HI.out _).mono ?_; rintro e w' ⟨⟨i, rfl, hi⟩, rfl⟩; have hi2 : i < 0 := (by have := hi.out; simpa using this); clear hi)
          | (go_at_call 50; refine (HL.out _).mono ?_; rintro e w' ⟨rfl, rfl⟩)
          | (go_at_call 63; refine (HD.out _).mono ?_; rintro e w' ⟨rfl, rfl⟩))
        go_ret
        exact ⟨rfl, rfl⟩
set_option maxRecDepth 100000 in
theorem clone_any (s : ByteArray) (w : World) (hlim : s.size ≤ 281474976710656) : Calls Tryz.prog 51 #[.string s] w fun e w' => e = .returned (.string s) ∧ Below w.heap.size w w' := by
  go_enter Tryz.func51, Tryz.ntmps51
  go_wp2_with (go_at_call 68; refine (Tryz.stringslite_Clone _ _ hlim).mono ?_; rintro e w' ⟨rfl, HB⟩)
  go_ret
  exact ⟨rfl, HB⟩
end Go.Proofs.YtlfeejjlcclbdaaGreatDoor

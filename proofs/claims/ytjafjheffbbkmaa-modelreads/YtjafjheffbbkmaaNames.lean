/-
  The program's Name and the document's: both are one function of the text's bytes.
-/
import Derived.Test.YtjafjheffbbkmaaBase
import Derived.Test.YtjafjheffbbkmaaRows
import Derived.Laws.BitsAllLaws
import Derived.OpenShut
import Derived.WalkKit
import Derived.ProofKit
import Derived.WalkLawsBesides
import Derived.Outline
import Derived.ChangeOld
import Derived.OwnWalk
import Derived.Deep.RegionLaw
namespace Go.Proofs.Ytjafjheffbbkmaa
open Go.RowKit



/-- A text's byte. -/
def sb (s : ByteArray) (k : Nat) : Int := if h : k < s.size then ((s[k]'h).toNat : Int) else 0
theorem sb_at {s : ByteArray} {k : Nat} (h : k < s.size) : sb s k = ((s[k]'h).toNat : Int) := dif_pos h
def lt (s : ByteArray) (k : Nat) : Bool := decide (97 ≤ sb s k ∧ sb s k ≤ 122)
def dg (s : ByteArray) (k : Nat) : Bool := decide (48 ≤ sb s k ∧ sb s k ≤ 57)
/-- Is it a name? -/
def Nm (s : ByteArray) : Prop := 0 < s.size ∧ s.size ≤ 32 ∧ lt s 0 = true ∧ ∀ j, j < s.size → (lt s j = true ∨ dg s j = true)
def nm (s : ByteArray) : Bool := decide (0 < s.size) && (decide (s.size ≤ 32) && (lt s 0 && (List.range s.size).all fun j => lt s j || dg s j))
theorem nm_iff (s : ByteArray) : nm s = true ↔ Nm s := by
  unfold nm Nm
  simp only [Bool.and_eq_true, decide_eq_true_eq, List.all_eq_true, List.mem_range, Bool.or_eq_true]
theorem nm_yes {s : ByteArray} (h : Nm s) : nm s = true := (nm_iff s).2 h
theorem nm_no {s : ByteArray} (h : ¬ Nm s) : nm s = false := by
  cases hn : nm s with
  | false => rfl
  | true => exact absurd ((nm_iff s).1 hn) h
theorem ret_yes {s : ByteArray} (h : Nm s) : Ending.returned (.bool true) = .returned (.bool (nm s)) := by rw [nm_yes h]
theorem ret_no {s : ByteArray} (h : ¬ Nm s) : Ending.returned (.bool false) = .returned (.bool (nm s)) := by rw [nm_no h]
set_option maxRecDepth 100000 in
theorem letter_any (x : Int) (w : World) (h0 : 0 ≤ x) (h1 : x ≤ 255) : Calls Try.prog 60 #[.int .u8 x] w fun e w' => e = .returned (.bool (decide (97 ≤ x ∧ x ≤ 122))) ∧ w' = w := by
  go_enter Try.func60, Try.ntmps60
  go_wp2
  · go_ret
    have : 97 ≤ x := by assumption
    exact ⟨by simp [this], rfl⟩
  · go_ret
    refine ⟨?_, rfl⟩
    have : ¬ 97 ≤ x := by omega
    simp [this]
set_option maxRecDepth 100000 in
theorem digit_any (x : Int) (w : World) (h0 : 0 ≤ x) (h1 : x ≤ 255) : Calls Try.prog 61 #[.int .u8 x] w fun e w' => e = .returned (.bool (decide (48 ≤ x ∧ x ≤ 57))) ∧ w' = w := by
  go_enter Try.func61, Try.ntmps61
  go_wp2
  · go_ret
    have : 48 ≤ x := by assumption
    exact ⟨by simp [this], rfl⟩
  · go_ret
    refine ⟨?_, rfl⟩
    have : ¬ 48 ≤ x := by omega
    simp [this]
theorem byte_range (b : UInt8) : 0 ≤ (b.toNat : Int) ∧ (b.toNat : Int) ≤ 255 := by have := b.toNat_lt; omega
theorem letter_s (s : ByteArray) (k : Nat) (h : k < s.size) (w : World) : Calls Try.prog 60 #[.int .u8 ((s[k]'h).toNat : Int)] w fun e w' => e = .returned (.bool (lt s k)) ∧ w' = w := by
  have := letter_any ((s[k]'h).toNat : Int) w (byte_range _).1 (byte_range _).2
  unfold lt
  rw [sb_at h]; exact this
theorem digit_s (s : ByteArray) (k : Nat) (h : k < s.size) (w : World) : Calls Try.prog 61 #[.int .u8 ((s[k]'h).toNat : Int)] w fun e w' => e = .returned (.bool (dg s k)) ∧ w' = w := by
  have := digit_any ((s[k]'h).toNat : Int) w (byte_range _).1 (byte_range _).2
  unfold dg
  rw [sb_at h]; exact this
set_option maxRecDepth 100000 in
set_option maxHeartbeats 1000000 in
theorem name_any (s : ByteArray) (w : World) (hs : s.size ≤ 9223372036854775807) : Calls Try.prog 29 #[.string s] w fun e w' => e = .returned (.bool (nm s)) ∧ w' = w := by
  by_cases h0 : s.size = 0
  · have HE : Hid (¬ Nm s) := by rintro ⟨h, _⟩; omega
    go_enter Try.func29, Try.ntmps29
    go_wp2_with (fail)
    go_ret
    exact ⟨ret_no HE.out, rfl⟩
  by_cases h32 : 32 < s.size
  · have HE : Hid (¬ Nm s) := by rintro ⟨_, h, _⟩; omega
    go_enter Try.func29, Try.ntmps29
    go_wp2_with (fail)
    go_ret
    exact ⟨ret_no HE.out, rfl⟩
  have hp : 0 < s.size := by omega
  have hz : ((s.size : Int) == 0) = false := by rw [beq_eq_false_iff_ne]; omega
  have hz2 : ¬ (32 : Int) < (s.size : Int) := by omega
  by_cases hl : lt s 0 = true
  case neg =>
    have HE : Hid (¬ Nm s) := by rintro ⟨_, _, h, _⟩; exact hl h
    have hl' : lt s 0 = false := by simpa using hl
    clear hl
    go_enter Try.func29, Try.ntmps29
    go_wp2_with (go_at_call 60; refine (letter_s s 0 hp _).mono ?_; rintro e w' ⟨rfl, rfl⟩)
    go_ret
    exact ⟨ret_no HE.out, rfl⟩
  case pos =>
    go_enter Try.func29, Try.ntmps29
    go_wp2_with (go_at_call 60; refine (letter_s s 0 hp _).mono ?_; rintro e w' ⟨rfl, rfl⟩)
    go_loop [20] (fun i => ∃ k : Nat, k ≤ s.size ∧ i = .int .i64 k ∧ Hid (∀ j, j < k → (lt s j = true ∨ dg s j = true))) (fun i => s.size - (intOf i).toNat)
    case atStart => exact ⟨0, Nat.zero_le _, rfl, fun j hj => absurd hj (Nat.not_lt_zero _)⟩
    case round =>
      obtain ⟨k, hk, rfl, HA⟩ := hrel
      have HL : Hid (lt s 0 = true) := hl
      clear hl
      by_cases hlt : k < s.size
      · by_cases h1 : lt s k = true
        · go_wp2_with (go_at_call 60; refine (letter_s s k hlt _).mono ?_; rintro e w' ⟨rfl, rfl⟩)
          go_round
          case rel => exact ⟨k + 1, by omega, by go_num, fun j hj => by rcases Nat.lt_succ_iff_lt_or_eq.1 hj with h | h; exact HA.out j h; rw [h]; exact .inl h1⟩
          case measure => simp [intOf]; omega
        · have h1' : lt s k = false := by simpa using h1
          clear h1
          by_cases h2 : dg s k = true
          · go_wp2_with (first
              | (go_at_call 60; refine (letter_s s k hlt _).mono ?_; rintro e w' ⟨rfl, rfl⟩)
              | (go_at_call 61; refine (digit_s s k hlt _).mono ?_; rintro e w' ⟨rfl, rfl⟩))
            go_round
            case rel => exact ⟨k + 1, by omega, by go_num, fun j hj => by rcases Nat.lt_succ_iff_lt_or_eq.1 hj with h | h; exact HA.out j h; rw [h]; exact .inr h2⟩
            case measure => simp [intOf]; omega
          · have h2' : dg s k = false := by simpa using h2
            clear h2
            have HE : Hid (¬ Nm s) := by rintro ⟨_, _, _, h⟩; rcases h k hlt with h | h; rw [h1'] at h; cases h; rw [h2'] at h; cases h
            go_wp2_with (first
              | (go_at_call 60; refine (letter_s s k hlt _).mono ?_; rintro e w' ⟨rfl, rfl⟩)
              | (go_at_call 61; refine (digit_s s k hlt _).mono ?_; rintro e w' ⟨rfl, rfl⟩))
            go_ret
            exact ⟨ret_no HE.out, rfl⟩
      · have hkn : k = s.size := by omega
        have HE : Hid (Nm s) := ⟨by omega, by omega, HL.out, by rw [← hkn]; exact HA.out⟩
        subst hkn
        go_wp2
        go_ret
        exact ⟨ret_yes HE.out, rfl⟩
theorem nm_of {s : ByteArray} (hp : 0 < s.size) (h32 : s.size ≤ 32) (h0 : 97 ≤ ((s[0]'hp).toNat : Int)) (h : ∀ j, j < s.size → (lt s j = true ∨ dg s j = true)) : Nm s := by
  refine ⟨hp, h32, ?_, h⟩
  rcases h 0 hp with h1 | h1
  · exact h1
  · unfold dg at h1
    rw [sb_at hp] at h1
    simp at h1
    omega
theorem good {s : ByteArray} {k : Nat} (h : k < s.size) (h1 : (48 ≤ ((s[k]'h).toNat : Int) ∧ ((s[k]'h).toNat : Int) ≤ 57) ∨ (97 ≤ ((s[k]'h).toNat : Int) ∧ ((s[k]'h).toNat : Int) ≤ 122)) : lt s k = true ∨ dg s k = true := by
  unfold lt dg; rw [sb_at h]
  rcases h1 with h1 | h1
  · exact .inr (decide_eq_true h1)
  · exact .inl (decide_eq_true h1)
theorem nm_bad {s : ByteArray} {k : Nat} (h : k < s.size) (h1 : ¬ ((48 ≤ ((s[k]'h).toNat : Int) ∧ ((s[k]'h).toNat : Int) ≤ 57) ∨ (97 ≤ ((s[k]'h).toNat : Int) ∧ ((s[k]'h).toNat : Int) ≤ 122))) : ¬ Nm s := by
  rintro ⟨_, _, _, ha⟩
  have := ha k h
  unfold lt dg at this; rw [sb_at h] at this
  rcases this with h2 | h2
  · exact h1 (.inr (of_decide_eq_true h2))
  · exact h1 (.inl (of_decide_eq_true h2))
set_option maxRecDepth 100000 in
set_option maxHeartbeats 1000000 in
theorem rname_any (s : ByteArray) (w : World) (hs : s.size ≤ 9223372036854775807) : Calls Try.prog 31 #[.string s] w fun e w' => e = .returned (.bool (nm s)) ∧ w' = w := by
  by_cases h0 : s.size = 0
  · have HE : Hid (¬ Nm s) := by rintro ⟨h, _⟩; omega
    go_enter Try.func31, Try.ntmps31
    go_wp2
    go_ret
    exact ⟨ret_no HE.out, rfl⟩
  by_cases h32 : 32 < s.size
  · have HE : Hid (¬ Nm s) := by rintro ⟨_, h, _⟩; omega
    go_enter Try.func31, Try.ntmps31
    go_wp2
    go_ret
    exact ⟨ret_no HE.out, rfl⟩
  have hp : 0 < s.size := by omega
  have hz : ((s.size : Int) == 0) = false := by rw [beq_eq_false_iff_ne]; omega
  have hz2 : ¬ (32 : Int) < (s.size : Int) := by omega
  by_cases hl : ((s[0]'hp).toNat : Int) < 97
  case pos =>
    have HE : Hid (¬ Nm s) := by rintro ⟨_, _, h, _⟩; unfold lt at h; rw [sb_at hp] at h; simp at h; omega
    go_enter Try.func31, Try.ntmps31
    go_wp2
    all_goals (go_ret; exact ⟨ret_no HE.out, rfl⟩)
  case neg =>
    have HL : Hid (97 ≤ ((s[0]'hp).toNat : Int)) := by show _ ≤ _; omega
    go_enter Try.func31, Try.ntmps31
    go_wp2
    clear hl
    go_loop [3] (fun i => ∃ k : Nat, k ≤ s.size ∧ i = .int .i64 k ∧ Hid (∀ j, j < k → (lt s j = true ∨ dg s j = true))) (fun i => s.size - (intOf i).toNat)
    case atStart => exact ⟨0, Nat.zero_le _, rfl, fun j hj => absurd hj (Nat.not_lt_zero _)⟩
    case round =>
      obtain ⟨k, hk, rfl, HA⟩ := hrel
      by_cases hlt : k < s.size
      · have hx : ((s[k]'hlt).toNat : Int) < 48 ∨ (48 ≤ ((s[k]'hlt).toNat : Int) ∧ ((s[k]'hlt).toNat : Int) ≤ 57) ∨ (57 < ((s[k]'hlt).toNat : Int) ∧ ((s[k]'hlt).toNat : Int) < 97) ∨ (97 ≤ ((s[k]'hlt).toNat : Int) ∧ ((s[k]'hlt).toNat : Int) ≤ 122) ∨ 122 < ((s[k]'hlt).toNat : Int) := by omega
        rcases hx with hx | ⟨hx, hy⟩ | ⟨hx, hy⟩ | ⟨hx, hy⟩ | hx
        · have HE : Hid (¬ Nm s) := nm_bad hlt (by omega)
          go_wp2
          go_ret
          exact ⟨ret_no HE.out, rfl⟩
        · have HG : Hid (lt s k = true ∨ dg s k = true) := good hlt (by omega)
          go_wp2
          go_round
          case rel => exact ⟨k + 1, by omega, by go_num, fun j hj => by rcases Nat.lt_succ_iff_lt_or_eq.1 hj with h | h; exact HA.out j h; rw [h]; exact HG.out⟩
          case measure => simp [intOf]; omega
        · have HE : Hid (¬ Nm s) := nm_bad hlt (by omega)
          have hd : ¬ (((s[k]'hlt).toNat : Int) ≤ 57) := by omega
          go_wp2
          go_ret
          exact ⟨ret_no HE.out, rfl⟩
        · have HG : Hid (lt s k = true ∨ dg s k = true) := good hlt (by omega)
          go_wp2
          go_round
          case rel => exact ⟨k + 1, by omega, by go_num, fun j hj => by rcases Nat.lt_succ_iff_lt_or_eq.1 hj with h | h; exact HA.out j h; rw [h]; exact HG.out⟩
          case measure => simp [intOf]; omega
        · have HE : Hid (¬ Nm s) := nm_bad hlt (by omega)
          have hd : ¬ (((s[k]'hlt).toNat : Int) ≤ 57) := by omega
          have hd2 : ¬ (((s[k]'hlt).toNat : Int) ≤ 122) := by omega
          go_wp2
          go_ret
          exact ⟨ret_no HE.out, rfl⟩
      · have hkn : k = s.size := by omega
        have HE : Hid (Nm s) := nm_of hp (by omega) HL.out (by rw [← hkn]; exact HA.out)
        subst hkn
        go_wp2
        go_ret
        exact ⟨ret_yes HE.out, rfl⟩
end Go.Proofs.Ytjafjheffbbkmaa

/-
  Plain mathematics of layer 2: a number's row, its value, what a row of bytes begins with; numbers that may be below 0. It imports nothing of the program.
-/
import Derived.OpenShut
import Derived.Test.YtfjphlejhcdbaaaRows
import Derived.Laws.BitsAllLaws
import Derived.WalkKit
import Derived.ProofKit
import Derived.WalkLawsBesides
import Derived.Outline
import Derived.ChangeOld
import Derived.Laws.AppendOwnNone
import Derived.OwnWalk
import Derived.Deep.RegionLaw
import Derived.Laws.BytesString
import Derived.Lib.AppendZerosOnto
import Derived.Laws.CopyOwn
import Derived.Shelf.LaysM
import Derived.Shelf.Strconv.Clone
import Derived.RegionTactic
import Derived.Deep.RegionHeld3
import Derived.Deep.LoopGhost
import Derived.Lib.SliceRun
namespace Go.Proofs.Ytfjphlejhcdbaaa
namespace V.Pack
/-- Where a row ends; or that a byte is out of range; or that the bytes are short. -/
abbrev Res := Sum Nat Bool
abbrev Res.ok (k : Nat) : Res := Sum.inl k
abbrev Res.range : Res := Sum.inr true
abbrev Res.short : Res := Sum.inr false
/-- Which row bytes begin with, from the byte number i on: where it ends. -/
def rd (i : Nat) : List (BitVec 8) → Res
  | [] => .short
  | c :: t => if (i = 9 ∧ 1 < c.toNat) ∨ (0 < i ∧ c.toNat = 0) then .range else if c.toNat < 128 then .ok (i + 1) else rd (i + 1) t
end V.Pack
namespace V
open Go.RowKit Pack


def B (x : BitVec 8) : Int := (x.toNat : Int)
def nth (l : List (BitVec 8)) (k : Nat) : BitVec 8 := l.getD k 0#8
/-- A slice of bytes that reads as l. -/
def Reads (w : World) (a : Option Addr) (l : List (BitVec 8)) : Prop :=
  l.length ≤ maxLen ∧ (l = [] ∨ ∃ b off, a = some ⟨b, off, none⟩ ∧ ∀ i, i < l.length → w.cell? ⟨b, off + i, none⟩ = some (.int .u8 (B (nth l i))))
theorem add_plain (b off i : Nat) : (⟨b, off, none⟩ : Addr).add i = ⟨b, off + i, none⟩ := by unfold Addr.add; split <;> simp_all
theorem Reads.below {w w' : World} {a : Option Addr} {l : List (BitVec 8)} (h : Reads w a l) (hb : Below w.heap.size w w') : Reads w' a l := by
  obtain ⟨hm, h⟩ := h
  refine ⟨hm, ?_⟩
  rcases h with h | ⟨b, off, ha, hc⟩
  · exact .inl h
  · refine .inr ⟨b, off, ha, fun i hi => ?_⟩
    have h1 := hc i hi
    have hlt : b < w.heap.size := World.block_lt_of_cell? w _ h1
    exact (hb.cell (p := ⟨b, off + i, none⟩) hlt).trans h1
def bytesV (l : List (BitVec 8)) : List Value := l.map fun b => .int .u8 (B b)
/-- A slice value that reads as l. -/
def ReadsV (w : World) (v : Value) (l : List (BitVec 8)) : Prop := ∃ a cap, v = .slice a l.length cap ∧ (a = none → cap = 0) ∧ l.length ≤ cap ∧ cap ≤ maxLen ∧ Reads w a l
theorem ReadsV.below {w w' : World} {v : Value} {l : List (BitVec 8)} (h : ReadsV w v l) (hb : Below w.heap.size w w') : ReadsV w' v l := by
  obtain ⟨a, cap, h1, h2, h3, h4, h5⟩ := h
  exact ⟨a, cap, h1, h2, h3, h4, h5.below hb⟩
theorem ReadsV.nil (w : World) : ReadsV w (.slice none 0 0) [] := ⟨none, 0, rfl, fun _ => rfl, Nat.le_refl _, by decide, by decide, .inl rfl⟩
theorem bytesV_at {l : List (BitVec 8)} {j : Nat} (h : j < l.length) : (bytesV l)[j]? = some (.int .u8 (B (nth l j))) := by
  simp [bytesV, nth, h]
/-- A row of the call's own. -/
def Owns (w : World) (base : Nat) (v : Value) (l : List (BitVec 8)) : Prop := w.ownsRow base 5 1 v l.length (bytesV l)
theorem Owns.nil (w : World) (base : Nat) : Owns w base (.slice none 0 0) [] := World.ownsRow_nil _ _ _ _
theorem Owns.alloc {w : World} {base : Nat} {v : Value} {l : List (BitVec 8)} (h : Owns w base v l) (o : Obj) : Owns (w.alloc o) base v l := World.ownsRow.alloc h o
/-- What is owned is read. -/
theorem ReadsV.of_own {w : World} {base : Nat} {v : Value} {l : List (BitVec 8)} (h : Owns w base v l) : ReadsV w v l := by
  unfold Owns at h
  have hh := h
  rcases h.2 with ⟨rfl, h0⟩ | ⟨g, cap, cur, rfl, _, _, hnc, hcm, _, _⟩
  · have : l = [] := List.length_eq_zero_iff.1 h0
    subst this
    exact ReadsV.nil w
  · refine ⟨some ⟨g, 0, none⟩, cap, rfl, (fun h => by cases h), hnc, hcm, by omega, .inr ⟨g, 0, rfl, fun i hi => ?_⟩⟩
    rw [Nat.zero_add, hh.cellAt i (by omega), bytesV_at hi]
theorem base_le {n : Nat} {wr : World} (h : n ≤ wr.heap.size) (o : Obj) : n ≤ (wr.alloc o).heap.size := by
  show n ≤ (wr.heap.push o).size
  rw [Array.size_push]; omega
end V
namespace V
open Go.RowKit Pack


/-- A text's byte. -/
def sb (s : ByteArray) (k : Nat) : Int := if h : k < s.size then ((s[k]'h).toNat : Int) else 0
theorem sb_at {s : ByteArray} {k : Nat} (h : k < s.size) : sb s k = ((s[k]'h).toNat : Int) := dif_pos h
def lt (s : ByteArray) (k : Nat) : Bool := decide (97 ≤ sb s k ∧ sb s k ≤ 122)
def dg (s : ByteArray) (k : Nat) : Bool := decide (48 ≤ sb s k ∧ sb s k ≤ 57)
/-- Is it a name? -/
def Nm (s : ByteArray) : Prop := 0 < s.size ∧ s.size ≤ 32 ∧ lt s 0 = true ∧ ∀ j, j < s.size → (lt s j = true ∨ dg s j = true)
def nm (s : ByteArray) : Bool := decide (0 < s.size) && (decide (s.size ≤ 32) && (lt s 0 && (List.range s.size).all fun j => lt s j || dg s j))
theorem nm_iff (s : ByteArray) : nm s = true ↔ Nm s := by
  unfold nm Nm
  simp only [Bool.and_eq_true, decide_eq_true_eq, List.all_eq_true, List.mem_range, Bool.or_eq_true]
theorem nm_yes {s : ByteArray} (h : Nm s) : nm s = true := (nm_iff s).2 h
theorem nm_no {s : ByteArray} (h : ¬ Nm s) : nm s = false := by
  cases hn : nm s with
  | false => rfl
  | true => exact absurd ((nm_iff s).1 hn) h
theorem ret_yes {s : ByteArray} (h : Nm s) : Ending.returned (.bool true) = .returned (.bool (nm s)) := by rw [nm_yes h]
theorem ret_no {s : ByteArray} (h : ¬ Nm s) : Ending.returned (.bool false) = .returned (.bool (nm s)) := by rw [nm_no h]
set_option maxRecDepth 100000 in
theorem letter_any (x : Int) (w : World) (h0 : 0 ≤ x) (h1 : x ≤ 255) : Calls Try.prog 87 #[.int .u8 x] w fun e w' => e = .returned (.bool (decide (97 ≤ x ∧ x ≤ 122))) ∧ w' = w := by
  go_enter Try.func87, Try.ntmps87
  go_wp2
  · go_ret
    have : 97 ≤ x := by assumption
    exact ⟨by simp [this], rfl⟩
  · go_ret
    refine ⟨?_, rfl⟩
    have : ¬ 97 ≤ x := by omega
    simp [this]
set_option maxRecDepth 100000 in
theorem digit_any (x : Int) (w : World) (h0 : 0 ≤ x) (h1 : x ≤ 255) : Calls Try.prog 88 #[.int .u8 x] w fun e w' => e = .returned (.bool (decide (48 ≤ x ∧ x ≤ 57))) ∧ w' = w := by
  go_enter Try.func88, Try.ntmps88
  go_wp2
  · go_ret
    have : 48 ≤ x := by assumption
    exact ⟨by simp [this], rfl⟩
  · go_ret
    refine ⟨?_, rfl⟩
    have : ¬ 48 ≤ x := by omega
    simp [this]
theorem byte_range (b : UInt8) : 0 ≤ (b.toNat : Int) ∧ (b.toNat : Int) ≤ 255 := by have := b.toNat_lt; omega
theorem letter_s (s : ByteArray) (k : Nat) (h : k < s.size) (w : World) : Calls Try.prog 87 #[.int .u8 ((s[k]'h).toNat : Int)] w fun e w' => e = .returned (.bool (lt s k)) ∧ w' = w := by
  have := letter_any ((s[k]'h).toNat : Int) w (byte_range _).1 (byte_range _).2
  unfold lt
  rw [sb_at h]; exact this
theorem digit_s (s : ByteArray) (k : Nat) (h : k < s.size) (w : World) : Calls Try.prog 88 #[.int .u8 ((s[k]'h).toNat : Int)] w fun e w' => e = .returned (.bool (dg s k)) ∧ w' = w := by
  have := digit_any ((s[k]'h).toNat : Int) w (byte_range _).1 (byte_range _).2
  unfold dg
  rw [sb_at h]; exact this
set_option maxRecDepth 100000 in
set_option maxHeartbeats 1000000 in
theorem name_any (s : ByteArray) (w : World) (hs : s.size ≤ 9223372036854775807) : Calls Try.prog 64 #[.string s] w fun e w' => e = .returned (.bool (nm s)) ∧ w' = w := by
  by_cases h0 : s.size = 0
  · have HE : Hid (¬ Nm s) := by rintro ⟨h, _⟩; omega
    go_enter Try.func64, Try.ntmps64
    go_wp2_with (fail)
    go_ret
    exact ⟨ret_no HE.out, rfl⟩
  by_cases h32 : 32 < s.size
  · have HE : Hid (¬ Nm s) := by rintro ⟨_, h, _⟩; omega
    go_enter Try.func64, Try.ntmps64
    go_wp2_with (fail)
    go_ret
    exact ⟨ret_no HE.out, rfl⟩
  have hp : 0 < s.size := by omega
  have hz : ((s.size : Int) == 0) = false := by rw [beq_eq_false_iff_ne]; omega
  have hz2 : ¬ (32 : Int) < (s.size : Int) := by omega
  by_cases hl : lt s 0 = true
  case neg =>
    have HE : Hid (¬ Nm s) := by rintro ⟨_, _, h, _⟩; exact hl h
    have hl' : lt s 0 = false := by simpa using hl
    clear hl
    go_enter Try.func64, Try.ntmps64
    go_wp2_with (go_at_call 87; refine (letter_s s 0 hp _).mono ?_; rintro e w' ⟨rfl, rfl⟩)
    go_ret
    exact ⟨ret_no HE.out, rfl⟩
  case pos =>
    go_enter Try.func64, Try.ntmps64
    go_wp2_with (go_at_call 87; refine (letter_s s 0 hp _).mono ?_; rintro e w' ⟨rfl, rfl⟩)
    go_loop [20] (fun i => ∃ k : Nat, k ≤ s.size ∧ i = .int .i64 k ∧ Hid (∀ j, j < k → (lt s j = true ∨ dg s j = true))) (fun i => s.size - (intOf i).toNat)
    case atStart => exact ⟨0, Nat.zero_le _, rfl, fun j hj => absurd hj (Nat.not_lt_zero _)⟩
    case round =>
      obtain ⟨k, hk, rfl, HA⟩ := hrel
      have HL : Hid (lt s 0 = true) := hl
      clear hl
      by_cases hlt : k < s.size
      · by_cases h1 : lt s k = true
        · go_wp2_with (go_at_call 87; refine (letter_s s k hlt _).mono ?_; rintro e w' ⟨rfl, rfl⟩)
          go_round
          case rel => exact ⟨k + 1, by omega, by go_num, fun j hj => by rcases Nat.lt_succ_iff_lt_or_eq.1 hj with h | h; exact HA.out j h; rw [h]; exact .inl h1⟩
          case measure => simp [intOf]; omega
        · have h1' : lt s k = false := by simpa using h1
          clear h1
          by_cases h2 : dg s k = true
          · go_wp2_with (first
              | (go_at_call 87; refine (letter_s s k hlt _).mono ?_; rintro e w' ⟨rfl, rfl⟩)
              | (go_at_call 88; refine (digit_s s k hlt _).mono ?_; rintro e w' ⟨rfl, rfl⟩))
            go_round
            case rel => exact ⟨k + 1, by omega, by go_num, fun j hj => by rcases Nat.lt_succ_iff_lt_or_eq.1 hj with h | h; exact HA.out j h; rw [h]; exact .inr h2⟩
            case measure => simp [intOf]; omega
          · have h2' : dg s k = false := by simpa using h2
            clear h2
            have HE : Hid (¬ Nm s) := by rintro ⟨_, _, _, h⟩; rcases h k hlt with h | h; rw [h1'] at h; cases h; rw [h2'] at h; cases h
            go_wp2_with (first
              | (go_at_call 87; refine (letter_s s k hlt _).mono ?_; rintro e w' ⟨rfl, rfl⟩)
              | (go_at_call 88; refine (digit_s s k hlt _).mono ?_; rintro e w' ⟨rfl, rfl⟩))
            go_ret
            exact ⟨ret_no HE.out, rfl⟩
      · have hkn : k = s.size := by omega
        have HE : Hid (Nm s) := ⟨by omega, by omega, HL.out, by rw [← hkn]; exact HA.out⟩
        subst hkn
        go_wp2
        go_ret
        exact ⟨ret_yes HE.out, rfl⟩
theorem nm_of {s : ByteArray} (hp : 0 < s.size) (h32 : s.size ≤ 32) (h0 : 97 ≤ ((s[0]'hp).toNat : Int)) (h : ∀ j, j < s.size → (lt s j = true ∨ dg s j = true)) : Nm s := by
  refine ⟨hp, h32, ?_, h⟩
  rcases h 0 hp with h1 | h1
  · exact h1
  · unfold dg at h1
    rw [sb_at hp] at h1
    simp at h1
    omega
theorem good {s : ByteArray} {k : Nat} (h : k < s.size) (h1 : (48 ≤ ((s[k]'h).toNat : Int) ∧ ((s[k]'h).toNat : Int) ≤ 57) ∨ (97 ≤ ((s[k]'h).toNat : Int) ∧ ((s[k]'h).toNat : Int) ≤ 122)) : lt s k = true ∨ dg s k = true := by
  unfold lt dg; rw [sb_at h]
  rcases h1 with h1 | h1
  · exact .inr (decide_eq_true h1)
  · exact .inl (decide_eq_true h1)
theorem nm_bad {s : ByteArray} {k : Nat} (h : k < s.size) (h1 : ¬ ((48 ≤ ((s[k]'h).toNat : Int) ∧ ((s[k]'h).toNat : Int) ≤ 57) ∨ (97 ≤ ((s[k]'h).toNat : Int) ∧ ((s[k]'h).toNat : Int) ≤ 122))) : ¬ Nm s := by
  rintro ⟨_, _, _, ha⟩
  have := ha k h
  unfold lt dg at this; rw [sb_at h] at this
  rcases this with h2 | h2
  · exact h1 (.inr (of_decide_eq_true h2))
  · exact h1 (.inl (of_decide_eq_true h2))
set_option maxRecDepth 100000 in
set_option maxHeartbeats 1000000 in
theorem rname_any (s : ByteArray) (w : World) (hs : s.size ≤ 9223372036854775807) : Calls Try.prog 31 #[.string s] w fun e w' => e = .returned (.bool (nm s)) ∧ w' = w := by
  by_cases h0 : s.size = 0
  · have HE : Hid (¬ Nm s) := by rintro ⟨h, _⟩; omega
    go_enter Try.func31, Try.ntmps31
    go_wp2
    go_ret
    exact ⟨ret_no HE.out, rfl⟩
  by_cases h32 : 32 < s.size
  · have HE : Hid (¬ Nm s) := by rintro ⟨_, h, _⟩; omega
    go_enter Try.func31, Try.ntmps31
    go_wp2
    go_ret
    exact ⟨ret_no HE.out, rfl⟩
  have hp : 0 < s.size := by omega
  have hz : ((s.size : Int) == 0) = false := by rw [beq_eq_false_iff_ne]; omega
  have hz2 : ¬ (32 : Int) < (s.size : Int) := by omega
  by_cases hl : ((s[0]'hp).toNat : Int) < 97
  case pos =>
    have HE : Hid (¬ Nm s) := by rintro ⟨_, _, h, _⟩; unfold lt at h; rw [sb_at hp] at h; simp at h; omega
    go_enter Try.func31, Try.ntmps31
    go_wp2
    all_goals (go_ret; exact ⟨ret_no HE.out, rfl⟩)
  case neg =>
    have HL : Hid (97 ≤ ((s[0]'hp).toNat : Int)) := by show _ ≤ _; omega
    go_enter Try.func31, Try.ntmps31
    go_wp2
    clear hl
    go_loop [3] (fun i => ∃ k : Nat, k ≤ s.size ∧ i = .int .i64 k ∧ Hid (∀ j, j < k → (lt s j = true ∨ dg s j = true))) (fun i => s.size - (intOf i).toNat)
    case atStart => exact ⟨0, Nat.zero_le _, rfl, fun j hj => absurd hj (Nat.not_lt_zero _)⟩
    case round =>
      obtain ⟨k, hk, rfl, HA⟩ := hrel
      by_cases hlt : k < s.size
      · have hx : ((s[k]'hlt).toNat : Int) < 48 ∨ (48 ≤ ((s[k]'hlt).toNat : Int) ∧ ((s[k]'hlt).toNat : Int) ≤ 57) ∨ (57 < ((s[k]'hlt).toNat : Int) ∧ ((s[k]'hlt).toNat : Int) < 97) ∨ (97 ≤ ((s[k]'hlt).toNat : Int) ∧ ((s[k]'hlt).toNat : Int) ≤ 122) ∨ 122 < ((s[k]'hlt).toNat : Int) := by omega
        rcases hx with hx | ⟨hx, hy⟩ | ⟨hx, hy⟩ | ⟨hx, hy⟩ | hx
        · have HE : Hid (¬ Nm s) := nm_bad hlt (by omega)
          go_wp2
          go_ret
          exact ⟨ret_no HE.out, rfl⟩
        · have HG : Hid (lt s k = true ∨ dg s k = true) := good hlt (by omega)
          go_wp2
          go_round
          case rel => exact ⟨k + 1, by omega, by go_num, fun j hj => by rcases Nat.lt_succ_iff_lt_or_eq.1 hj with h | h; exact HA.out j h; rw [h]; exact HG.out⟩
          case measure => simp [intOf]; omega
        · have HE : Hid (¬ Nm s) := nm_bad hlt (by omega)
          have hd : ¬ (((s[k]'hlt).toNat : Int) ≤ 57) := by omega
          go_wp2
          go_ret
          exact ⟨ret_no HE.out, rfl⟩
        · have HG : Hid (lt s k = true ∨ dg s k = true) := good hlt (by omega)
          go_wp2
          go_round
          case rel => exact ⟨k + 1, by omega, by go_num, fun j hj => by rcases Nat.lt_succ_iff_lt_or_eq.1 hj with h | h; exact HA.out j h; rw [h]; exact HG.out⟩
          case measure => simp [intOf]; omega
        · have HE : Hid (¬ Nm s) := nm_bad hlt (by omega)
          have hd : ¬ (((s[k]'hlt).toNat : Int) ≤ 57) := by omega
          have hd2 : ¬ (((s[k]'hlt).toNat : Int) ≤ 122) := by omega
          go_wp2
          go_ret
          exact ⟨ret_no HE.out, rfl⟩
      · have hkn : k = s.size := by omega
        have HE : Hid (Nm s) := nm_of hp (by omega) HL.out (by rw [← hkn]; exact HA.out)
        subst hkn
        go_wp2
        go_ret
        exact ⟨ret_yes HE.out, rfl⟩
end V
namespace V
open Go.RowKit Pack
set_option linter.unusedVariables false


theorem bless_irr : ∀ x : List UInt8, Op.bytesLess x x = false
  | [] => rfl
  | a :: x => by rw [Op.bytesLess, bless_irr x]; simp
theorem bless_tr : ∀ x y z : List UInt8, Op.bytesLess x y = true → Op.bytesLess y z = true → Op.bytesLess x z = true
  | _, [], _, h, _ => by rw [Op.bytesLess] at h; cases h
  | _, _ :: _, [], _, h => by rw [Op.bytesLess] at h; cases h
  | [], _ :: _, _ :: _, _, _ => rfl
  | a :: x, b :: y, c :: z, h1, h2 => by
    rw [Op.bytesLess] at h1 h2 ⊢
    simp only [Bool.or_eq_true, Bool.and_eq_true, decide_eq_true_eq, beq_iff_eq] at h1 h2 ⊢
    rcases h1 with h1 | ⟨rfl, h1⟩
    · rcases h2 with h2 | ⟨rfl, h2⟩
      · exact .inl (UInt8.lt_trans h1 h2)
      · exact .inl h1
    · rcases h2 with h2 | ⟨rfl, h2⟩
      · exact .inl h2
      · exact .inr ⟨rfl, bless_tr x y z h1 h2⟩
theorem bless_tot : ∀ x y : List UInt8, Op.bytesLess x y = false → Op.bytesLess y x = false → x = y
  | [], [], _, _ => rfl
  | _ :: _, [], _, h => by rw [Op.bytesLess] at h; cases h
  | [], _ :: _, h, _ => by rw [Op.bytesLess] at h; cases h
  | a :: x, b :: y, h1, h2 => by
    rw [Op.bytesLess] at h1 h2
    simp only [Bool.or_eq_false_iff, Bool.and_eq_false_iff, decide_eq_false_iff_not, beq_eq_false_iff_ne] at h1 h2
    have e : a = b := UInt8.le_antisymm (UInt8.not_lt.1 h2.1) (UInt8.not_lt.1 h1.1)
    subst e
    rw [bless_tot x y (by rcases h1.2 with h | h; exact absurd rfl h; exact h) (by rcases h2.2 with h | h; exact absurd rfl h; exact h)]
theorem tl_eq (s : ByteArray) : s.toList = s.data.toList := ByteArray.toList_eq s
theorem ba_ext {s t : ByteArray} (h : s.toList = t.toList) : s = t := by
  rw [tl_eq, tl_eq] at h
  cases s with
  | mk a => cases t with
    | mk b => exact congrArg ByteArray.mk (Array.toList_inj.1 h)
/-- One name ahead of another. -/
def bl (s t : ByteArray) : Bool := Op.bytesLess s.toList t.toList
theorem bl_irr (s : ByteArray) : bl s s = false := bless_irr _
theorem bl_tr {s t u : ByteArray} (h1 : bl s t = true) (h2 : bl t u = true) : bl s u = true := bless_tr _ _ _ h1 h2
theorem bl_tot {s t : ByteArray} (h1 : bl s t = false) (h2 : bl t s = false) : s = t := ba_ext (bless_tot _ _ h1 h2)
theorem bl_ne {s t : ByteArray} (h : bl s t = true) : s ≠ t := fun e => by subst e; rw [bl_irr] at h; cases h
theorem bl_asym {s t : ByteArray} (h : bl s t = true) : bl t s = false := by
  cases h2 : bl t s with
  | false => rfl
  | true => have := bl_tr h h2; rw [bl_irr] at this; cases this
def emp : ByteArray := ⟨#[]⟩
def yesB : ByteArray := ⟨#[121, 101, 115]⟩
def noB : ByteArray := ⟨#[110, 111]⟩
/-- May a text be a variable's name? -/
def isVar (s : ByteArray) : Bool := nm s && (!(s.toList == yesB.toList) && !(s.toList == noB.toList))
theorem isVar_pos {s : ByteArray} (h : isVar s = true) : 0 < s.size ∧ s.size ≤ 32 := by
  unfold isVar at h
  simp only [Bool.and_eq_true] at h
  have := (nm_iff s).1 h.1
  exact ⟨this.1, this.2.1⟩
theorem toList_len (s : ByteArray) : s.toList.length = s.size := by rw [tl_eq]; rfl
theorem emp_bl {s : ByteArray} (h : 0 < s.size) : bl emp s = true := by
  unfold bl
  have e : emp.toList = [] := by rw [tl_eq]; rfl
  rw [e]
  cases hs : s.toList with
  | nil => have := toList_len s; rw [hs] at this; simp at this; omega
  | cons a l => rfl
/-- Names that may be, each behind the one ahead of it. -/
def rise : ByteArray → List ByteArray → Bool
  | _, [] => true
  | a, n :: r => isVar n && (bl a n && rise n r)
/-- Check's answer. -/
def chk (ns : List ByteArray) (vs : List Int) : Nat := if ns.length ≠ vs.length then 1 else if 64 < ns.length then 6 else if rise emp ns = true then 0 else 1
def Srt (ns : List ByteArray) : Prop := ns.Pairwise fun a b => bl a b = true
theorem rise_all : ∀ {a : ByteArray} {ns : List ByteArray}, rise a ns = true → (∀ n ∈ ns, isVar n = true ∧ bl a n = true) ∧ Srt ns
  | a, [], _ => ⟨by simp, List.Pairwise.nil⟩
  | a, n :: r, h => by
    unfold rise at h
    simp only [Bool.and_eq_true] at h
    obtain ⟨h1, h2⟩ := rise_all h.2.2
    refine ⟨fun m hm => ?_, List.pairwise_cons.2 ⟨fun m hm => (h1 m hm).2, h2⟩⟩
    rcases List.mem_cons.1 hm with rfl | hm
    · exact ⟨h.1, h.2.1⟩
    · exact ⟨(h1 m hm).1, bl_tr h.2.1 (h1 m hm).2⟩
theorem rise_of : ∀ {a : ByteArray} {ns : List ByteArray}, (∀ n ∈ ns, isVar n = true ∧ bl a n = true) → Srt ns → rise a ns = true
  | a, [], _, _ => rfl
  | a, n :: r, h1, h2 => by
    have h3 := List.pairwise_cons.1 h2
    unfold rise
    rw [(h1 n (by simp)).1, (h1 n (by simp)).2, rise_of (fun m hm => ⟨(h1 m (by simp [hm])).1, h3.1 m hm⟩) h3.2]
    rfl
theorem chk_ok {ns : List ByteArray} {vs : List Int} (h : chk ns vs = 0) : ns.length = vs.length ∧ ns.length ≤ 64 ∧ rise emp ns = true := by
  unfold chk at h
  split at h
  · cases h
  · split at h
    · cases h
    · split at h
      · rename_i a b c; exact ⟨by omega, by omega, c⟩
      · cases h
theorem chk_of {ns : List ByteArray} {vs : List Int} (h1 : ns.length = vs.length) (h2 : ns.length ≤ 64) (h3 : rise emp ns = true) : chk ns vs = 0 := by
  unfold chk; rw [if_neg (by omega), if_neg (by omega), if_pos h3]
/-- Variables: names with numbers. -/
abbrev VL := List (ByteArray × Int)
def nmsOf (l : VL) : List ByteArray := l.map (·.1)
def valsOf (l : VL) : List Int := l.map (·.2)
theorem nmsOf_len (l : VL) : (nmsOf l).length = l.length := List.length_map ..
theorem valsOf_len (l : VL) : (valsOf l).length = l.length := List.length_map ..
/-- How many names lie ahead of one. -/
def pos : List ByteArray → ByteArray → Nat
  | [], _ => 0
  | m :: r, n => if bl m n = true then pos r n + 1 else 0
theorem pos_eq : ∀ {l : List ByteArray} {n : ByteArray} {k : Nat}, k ≤ l.length → (∀ t, t < k → bl (l.getD t emp) n = true) → (k < l.length → bl (l.getD k emp) n = false) → pos l n = k
  | [], n, k, hk, _, _ => by simp at hk; subst hk; rfl
  | m :: r, n, k, hk, h1, h2 => by
    unfold pos
    cases k with
    | zero =>
      have := h2 (by simp)
      simp at this
      rw [if_neg (by rw [this]; simp)]
    | succ k =>
      have h0 := h1 0 (by omega)
      simp at h0
      rw [if_pos h0, pos_eq (k := k) (by simp at hk; omega) (fun t ht => by simpa using h1 (t + 1) (by omega)) (fun hlt => by simpa using h2 (by simp; omega))]
def fnd (l : List ByteArray) (n : ByteArray) : Bool := decide (pos l n < l.length ∧ l.getD (pos l n) emp = n)
theorem srt_lt {l : List ByteArray} (h : Srt l) {i j : Nat} (hij : i < j) (hj : j < l.length) : bl (l.getD i emp) (l.getD j emp) = true := by
  have := List.pairwise_iff_getElem.1 h i j (by omega) hj hij
  simpa [List.getD_eq_getElem?_getD, List.getElem?_eq_getElem hj, List.getElem?_eq_getElem (show i < l.length by omega)] using this
/-- One put to variables. -/
def putM : VL → ByteArray → Int → VL
  | [], n, x => [(n, x)]
  | (m, y) :: r, n, x => if bl m n = true then (m, y) :: putM r n x else if m = n then (n, x) :: r else (n, x) :: (m, y) :: r
theorem putM_mem : ∀ {l : VL} {n : ByteArray} {x : Int} {p : ByteArray × Int}, p ∈ putM l n x → p = (n, x) ∨ p ∈ l
  | [], n, x, p, h => by simp [putM] at h; exact .inl h
  | (m, y) :: r, n, x, p, h => by
    unfold putM at h
    split at h
    · rcases List.mem_cons.1 h with h | h
      · exact .inr (by simp [h])
      · rcases putM_mem h with h | h
        · exact .inl h
        · exact .inr (by simp [h])
    · split at h
      · rcases List.mem_cons.1 h with h | h
        · exact .inl h
        · exact .inr (by simp [h])
      · rcases List.mem_cons.1 h with h | h
        · exact .inl h
        · exact .inr h
theorem putM_srt : ∀ {l : VL} {n : ByteArray} {x : Int}, Srt (nmsOf l) → Srt (nmsOf (putM l n x))
  | [], n, x, h => by simp [putM, nmsOf, Srt]
  | (m, y) :: r, n, x, h => by
    have h2 := List.pairwise_cons.1 (show (m :: nmsOf r).Pairwise _ from h)
    unfold putM
    split
    · rename_i hb
      refine List.pairwise_cons.2 ⟨fun q hq => ?_, putM_srt h2.2⟩
      obtain ⟨p, hp, rfl⟩ := List.mem_map.1 hq
      rcases putM_mem hp with rfl | hp
      · exact hb
      · exact h2.1 _ (List.mem_map.2 ⟨p, hp, rfl⟩)
    · rename_i hb
      split
      · rename_i e; subst e; exact h
      · rename_i e
        have hn : bl n m = true := by
          cases hnm : bl n m with
          | true => rfl
          | false => exact absurd (bl_tot (by simpa using hb) hnm) e
        refine List.pairwise_cons.2 ⟨fun q hq => ?_, h⟩
        rcases List.mem_cons.1 hq with rfl | hq
        · exact hn
        · exact bl_tr hn (h2.1 _ hq)
theorem putM_len (l : VL) (n : ByteArray) (x : Int) : l.length ≤ (putM l n x).length ∧ (putM l n x).length ≤ l.length + 1 := by
  induction l with
  | nil => simp [putM]
  | cons p r ih =>
    obtain ⟨m, y⟩ := p
    unfold putM
    repeat' split
    all_goals simp
    omega
end V
namespace V
open Go.RowKit Pack


/-- What is left lies where what was read lay. -/
def Near (v u : Value) : Prop := ∀ Q : Nat → Prop, (∀ a n c, v = .slice (some a) n c → Q a.block) → ∀ a n c, u = .slice (some a) n c → Q a.block
theorem Near.trans {v u x : Value} (h1 : Near v u) (h2 : Near u x) : Near v x := fun Q h => h2 Q (h1 Q h)
end V
namespace V
open Go.RowKit Pack


theorem ReadsV.cap {w : World} {a : Option Addr} {n c : Nat} {l : List (BitVec 8)} (h : ReadsV w (.slice a n c) l) : n ≤ c := by
  obtain ⟨_, _, hv, _, h1, _⟩ := h
  simp only [Value.slice.injEq] at hv
  omega
theorem add_block (x : Addr) (m : Nat) : (x.add m).block = x.block := by unfold Addr.add; split <;> rfl
end V
namespace V
open Go.RowKit Pack


theorem Owns.below {w w' : World} {base : Nat} {v : Value} {l : List (BitVec 8)} (h : Owns w base v l) (hb : Below w.heap.size w w') : Owns w' base v l := by
  refine ⟨h.1, ?_⟩
  rcases h.2 with hn | ⟨g, cap, cur, hv, hg, hh, rest⟩
  · exact .inl hn
  · refine .inr ⟨g, cap, cur, hv, hg, ?_, rest⟩
    rw [hb.block g (Array.getElem?_eq_some_iff.1 hh).1]
    exact hh
theorem ReadsV.grown {w w' : World} {g1 o n c g : Nat} {l : List (BitVec 8)} (h : ReadsV w (.slice (some ⟨g1, o, none⟩) n c) l) (hg : w.grownBy w' (some g)) (hne : g1 ≠ g) : ReadsV w' (.slice (some ⟨g1, o, none⟩) n c) l := by
  obtain ⟨a', c', hv, h1, h2, h3, hm, hr⟩ := h
  simp only [Value.slice.injEq] at hv
  obtain ⟨rfl, rfl, rfl⟩ := hv
  refine ⟨_, c, rfl, h1, h2, h3, hm, ?_⟩
  rcases hr with hr | ⟨b, off, hb, hc⟩
  · exact .inl hr
  · refine .inr ⟨b, off, hb, fun i hi => hg.cell (hc i hi) ?_⟩
    cases hb
    exact fun e => hne (Option.some.inj e)
end V
namespace V
open Go.RowKit Pack
set_option linter.unusedVariables false


/-- A slice that reads as the cells l. -/
def Rd (w : World) (v : Value) (l : List Value) : Prop := ∃ a cap, v = .slice a l.length cap ∧ (a = none → cap = 0) ∧ l.length ≤ cap ∧ cap ≤ 9223372036854775807 ∧ (l = [] ∨ ∃ b off, a = some ⟨b, off, none⟩ ∧ b < w.heap.size ∧ ∀ i u, l[i]? = some u → w.cell? ⟨b, off + i, none⟩ = some u)
theorem Rd.below {w w' : World} {v : Value} {l : List Value} (h : Rd w v l) (hb : Below w.heap.size w w') : Rd w' v l := by
  obtain ⟨a, cap, h1, h2, h3, h4, h5⟩ := h
  refine ⟨a, cap, h1, h2, h3, h4, ?_⟩
  rcases h5 with h | ⟨b, off, ha, hlt, hc⟩
  · exact .inl h
  · exact .inr ⟨b, off, ha, Nat.lt_of_lt_of_le hlt hb.size, fun i u hu => (hb.cell (p := ⟨b, off + i, none⟩) hlt).trans (hc i u hu)⟩
theorem size_alloc (w : World) (o : Obj) : (w.alloc o).heap.size = w.heap.size + 1 := by show (w.heap.push o).size = _; rw [Array.size_push]
theorem Rd.alloc {w : World} {v : Value} {l : List Value} (h : Rd w v l) (o : Obj) : Rd (w.alloc o) v l := h.below ((Below.refl _ _).alloc (Nat.le_refl _) o)
theorem Rd.drew {w : World} {v : Value} {l : List Value} (h : Rd w v l) : Rd w.drew v l := h.below (Below.drew (Below.refl _ _))
theorem Rd.nil (w : World) : Rd w (.slice none 0 0) [] := ⟨none, 0, rfl, fun _ => rfl, Nat.le_refl _, by decide, .inl rfl⟩
/-- A row of the call's own, of cells of one type. -/
def Ow (w : World) (base : Nat) (t : TypeId) (v : Value) (l : List Value) : Prop := w.ownsRow base t 1 v l.length l
theorem Ow.nil (w : World) (base : Nat) (t : TypeId) : Ow w base t (.slice none 0 0) [] := World.ownsRow_nil _ _ _ _
theorem Ow.alloc {w : World} {base : Nat} {t : TypeId} {v : Value} {l : List Value} (h : Ow w base t v l) (o : Obj) : Ow (w.alloc o) base t v l := World.ownsRow.alloc h o
theorem Ow.le {w : World} {base base' : Nat} {t : TypeId} {v : Value} {l : List Value} (h : Ow w base t v l) (hb : base' ≤ base) : Ow w base' t v l := by
  refine ⟨h.1, ?_⟩
  rcases h.2 with h2 | ⟨g, cap, cur, h1, h2, h3⟩
  · exact .inl h2
  · exact .inr ⟨g, cap, cur, h1, Nat.le_trans hb h2, h3⟩
theorem Ow.kept {w w' : World} {base : Nat} {t : TypeId} {v : Value} {l : List Value} (h : Ow w base t v l) (hb : ∀ k, v.ownBlock = some k → w'.heap[k]? = w.heap[k]?) : Ow w' base t v l := by
  refine ⟨h.1, ?_⟩
  rcases h.2 with h2 | ⟨g, cap, cur, h1, h2, h3, h4⟩
  · exact .inl h2
  · exact .inr ⟨g, cap, cur, h1, h2, (hb g (by rw [h1]; rfl)).trans h3, h4⟩
theorem Ow.below {w w' : World} {base : Nat} {t : TypeId} {v : Value} {l : List Value} (h : Ow w base t v l) (hb : Below w.heap.size w w') : Ow w' base t v l :=
  h.kept fun k hk => hb.block k (World.ownsRow.lt h k hk).2
theorem Rd.of_own {w : World} {base : Nat} {t : TypeId} {v : Value} {l : List Value} (h : Ow w base t v l) : Rd w v l := by
  have hh := h
  rcases h.2 with ⟨rfl, h0⟩ | ⟨g, cap, cur, rfl, _, hg, hnc, hcm, _, _⟩
  · have : l = [] := List.length_eq_zero_iff.1 h0
    subst this
    exact Rd.nil w
  · refine ⟨_, cap, rfl, (fun h => by cases h), hnc, hcm, .inr ⟨g, 0, rfl, (Array.getElem?_eq_some_iff.1 hg).1, fun i u hu => ?_⟩⟩
    have hi : i < l.length := (List.getElem?_eq_some_iff.1 hu).1
    rw [Nat.zero_add, World.ownsRow.cellAt hh i (by omega), hu]
/-- A new row. -/
theorem Ow.new (w : World) (t : TypeId) (cs : Array Value) (base : Nat) (hb : base ≤ w.heap.size) (hm : cs.size ≤ 9223372036854775807) : Ow (w.alloc (.cells cs t)) base t (.slice (some ⟨w.heap.size, 0, none⟩) cs.size cs.size) cs.toList := by
  have := World.ownsRow_lit (base := base) (e := t) (size := 1) w cs cs.size hb hm (by omega)
  unfold Ow
  rw [Array.length_toList]
  exact this
theorem Rd.at {w : World} {a : Option Addr} {n c : Nat} {l : List Value} (h : Rd w (.slice a n c) l) : n = l.length ∧ n ≤ c ∧ c ≤ 9223372036854775807 ∧ (a = none → c = 0) ∧ ∀ i u, l[i]? = some u → ∃ b off, a = some ⟨b, off, none⟩ ∧ b < w.heap.size ∧ w.cell? ⟨b, off + i, none⟩ = some u := by
  obtain ⟨a', cap, h1, h2, h3, h4, h5⟩ := h
  simp only [Value.slice.injEq] at h1
  obtain ⟨rfl, rfl, rfl⟩ := h1
  refine ⟨rfl, h3, h4, h2, fun i u hu => ?_⟩
  rcases h5 with rfl | ⟨b, off, ha, hlt, hc⟩
  · simp at hu
  · exact ⟨b, off, ha, hlt, hc i u hu⟩
theorem Rd.form {w : World} {v : Value} {l : List Value} (h : Rd w v l) : ∃ a c, v = .slice a l.length c := by
  obtain ⟨a, cap, h1, _⟩ := h
  exact ⟨a, cap, h1⟩
def strsV (ns : List ByteArray) : List Value := ns.map Value.string
def intsV (vs : List Int) : List Value := vs.map (Value.int .i64)
theorem strsV_len (ns : List ByteArray) : (strsV ns).length = ns.length := List.length_map ..
theorem intsV_len (vs : List Int) : (intsV vs).length = vs.length := List.length_map ..
theorem strsV_at {ns : List ByteArray} {i : Nat} (h : i < ns.length) : (strsV ns)[i]? = some (.string (ns.getD i emp)) := by
  simp [strsV, h, List.getD_eq_getElem?_getD]
theorem intsV_at {vs : List Int} {i : Nat} (h : i < vs.length) : (intsV vs)[i]? = some (.int .i64 (vs.getD i 0)) := by
  simp [intsV, h, List.getD_eq_getElem?_getD]
/-- Variables as a value. -/
def RdV (w : World) (v : Value) (ns : List ByteArray) (vs : List Int) : Prop := ∃ sn sv, v = .agg #[sn, sv] ∧ Rd w sn (strsV ns) ∧ Rd w sv (intsV vs)
theorem RdV.below {w w' : World} {v : Value} {ns : List ByteArray} {vs : List Int} (h : RdV w v ns vs) (hb : Below w.heap.size w w') : RdV w' v ns vs := by
  obtain ⟨sn, sv, h1, h2, h3⟩ := h
  exact ⟨sn, sv, h1, h2.below hb, h3.below hb⟩
theorem RdV.nil (w : World) : RdV w (.agg #[.slice none 0 0, .slice none 0 0]) [] [] := ⟨_, _, rfl, Rd.nil w, Rd.nil w⟩
/-- A block of two cells. -/
structure Two (w : World) (p : Nat) (x y : Value) : Prop where
  lt : p < w.heap.size
  c0 : w.cell? ⟨p, 0, none⟩ = some x
  c1 : w.cell? ⟨p, 1, none⟩ = some y
  f0 : w.frozen? ⟨p, 0, none⟩ = false
  f1 : w.frozen? ⟨p, 1, none⟩ = false
theorem Two.new (w : World) (x y : Value) (t : TypeId) : Two (w.alloc (.cells #[x, y] t)) w.heap.size x y := by
  refine ⟨by rw [size_alloc]; omega, ?_, ?_, ?_, ?_⟩
  · rw [cell_of_row _ w.heap.size 0 _ t (0, 0) (heap_alloc_new w _)]; rfl
  · rw [cell_of_row _ w.heap.size 1 _ t (0, 0) (heap_alloc_new w _)]; rfl
  · exact frozen_of_row _ w.heap.size 0 _ t (heap_alloc_new w _)
  · exact frozen_of_row _ w.heap.size 1 _ t (heap_alloc_new w _)
theorem Two.below {w w' : World} {p : Nat} {x y : Value} (h : Two w p x y) (hb : Below w.heap.size w w') : Two w' p x y :=
  ⟨Nat.lt_of_lt_of_le h.lt hb.size, (hb.cell (p := ⟨p, 0, none⟩) h.lt).trans h.c0, (hb.cell (p := ⟨p, 1, none⟩) h.lt).trans h.c1, (hb.frozen (p := ⟨p, 0, none⟩) h.lt).trans h.f0, (hb.frozen (p := ⟨p, 1, none⟩) h.lt).trans h.f1⟩
theorem Two.alloc {w : World} {p : Nat} {x y : Value} (h : Two w p x y) (o : Obj) : Two (w.alloc o) p x y := h.below ((Below.refl _ _).alloc (Nat.le_refl _) o)
end V
namespace V
open Go.RowKit Pack
set_option linter.unusedVariables false


set_option maxRecDepth 100000 in
theorem cnan_any (x : ByteArray) (w : World) : Calls Try.prog 101 #[.string x] w fun e w' => e = .returned (.bool false) ∧ w' = w := by
  go_enter Try.func101, Try.ntmps101
  go_wp2
  go_ret
  exact ⟨by simp, rfl⟩
set_option maxRecDepth 100000 in
theorem snan_any (x : ByteArray) (w : World) : Calls Try.prog 100 #[.string x] w fun e w' => e = .returned (.bool false) ∧ w' = w := by
  go_enter Try.func100, Try.ntmps100
  go_wp2
  go_ret
  exact ⟨by simp, rfl⟩
set_option maxRecDepth 100000 in
theorem less_any (x y : ByteArray) (w : World) : Calls Try.prog 99 #[.string x, .string y] w fun e w' => e = .returned (.bool (bl x y)) ∧ w' = w := by
  go_enter Try.func99, Try.ntmps99
  go_wp2_with (go_at_call 101; refine (cnan_any _ _).mono ?_; rintro e w' ⟨rfl, rfl⟩)
  go_ret
  exact ⟨rfl, rfl⟩
theorem bl_upto {ns : List ByteArray} {x : ByteArray} (hs : Srt ns) {h t : Nat} (hh : h < ns.length) (hb : bl (ns.getD h emp) x = true) (ht : t ≤ h) : bl (ns.getD t emp) x = true := by
  rcases Nat.lt_or_ge t h with hlt | hge
  · exact bl_tr (srt_lt hs hlt hh) hb
  · rw [show t = h by omega]; exact hb
set_option maxRecDepth 100000 in
set_option maxHeartbeats 1000000 in
theorem search_any (ns : List ByteArray) (v : Value) (x : ByteArray) (w : World) (hv : Rd w v (strsV ns)) (hs : Srt ns) (hl : ns.length ≤ 1000000) :
    Calls Try.prog 89 #[v, .string x] w fun e w' => e = .returned (.tuple #[.int .i64 (pos ns x : Nat), .bool (fnd ns x)]) ∧ Below w.heap.size w w' := by
  obtain ⟨a, c, rfl⟩ := hv.form
  obtain ⟨_, hnc, hcm, _, hcell⟩ := hv.at
  rw [strsV_len] at *
  have HC : Hid (∀ i, i < ns.length → ∃ b off, a = some ⟨b, off, none⟩ ∧ b < w.heap.size ∧ w.cell? ⟨b, off + i, none⟩ = some (.string (ns.getD i emp))) := fun i hi => hcell i _ (strsV_at hi)
  have HS : Hid (Srt ns) := hs
  clear hcell hv hs
  generalize hN : ns.length = N at *
  obtain ⟨K, HK⟩ : ∃ K, Hid (pos ns x = K) := ⟨_, rfl⟩
  obtain ⟨F, HF0⟩ : ∃ F, Hid (fnd ns x = F) := ⟨_, rfl⟩
  rw [HK.out, HF0.out]
  go_enter Try.func89, Try.ntmps89
  go_wp2
  go_loopw [7, 8] (fun s7 s8 wr => ∃ lo hi : Nat, s7 = .int .i64 lo ∧ s8 = .int .i64 hi ∧ lo ≤ hi ∧ hi ≤ N ∧ Hid (∀ t, t < lo → bl (ns.getD t emp) x = true) ∧ Hid (hi < N → bl (ns.getD hi emp) x = false) ∧ Hid (Below w.heap.size w wr)) (fun s7 s8 _ => (intOf s8 - intOf s7).toNat)
  case atStart => exact ⟨0, N, rfl, rfl, Nat.zero_le _, Nat.le_refl _, fun t ht => by omega, fun h => by omega, Below.refl _ _⟩
  case round =>
    obtain ⟨lo, hi, rfl, rfl, hlh, hin, H1, H2, HB⟩ := hrel
    by_cases hlt : lo < hi
    · obtain ⟨b, off, rfl, hbw, hc⟩ := HC.out ((lo + hi) / 2) (by omega)
      have cm := (HB.out.cell (p := ⟨b, off + (lo + hi) / 2, none⟩) hbw).trans hc
      clear HC hc
      have HY : Hid (∀ y, y = ns.getD ((lo + hi) / 2) emp → bl y x = true → ∀ t, t < (lo + hi) / 2 + 1 → bl (ns.getD t emp) x = true) := fun y hy hb t ht => by subst hy; exact bl_upto HS.out (by omega) hb (by omega)
      obtain ⟨y, hy⟩ : ∃ y, ns.getD ((lo + hi) / 2) emp = y := ⟨_, rfl⟩
      have HE : Hid (ns.getD ((lo + hi) / 2) emp = y) := hy
      rw [hy] at cm
      clear hy
      have HL : Hid (∀ w, Calls Try.prog 99 #[.string y, .string x] w fun e w' => e = .returned (.bool (bl y x)) ∧ w' = w) := less_any y x
      cases hyx : bl y x with
      | false =>
        rw [hyx] at HL
        have HV : Hid (bl y x = false) := hyx
        clear hyx
        go_wp2_with (go_at_call 99; refine (HL.out _).mono ?_; rintro e w' ⟨rfl, rfl⟩)
        go_roundw
        case rel => exact ⟨lo, (lo + hi) / 2, rfl, by go_num, by omega, by omega, H1, (fun _ => by rw [HE.out]; exact HV.out), HB⟩
        case measure => simp [intOf]; omega
      | true =>
        rw [hyx] at HL
        have HV : Hid (bl y x = true) := hyx
        clear hyx
        go_wp2_with (go_at_call 99; refine (HL.out _).mono ?_; rintro e w' ⟨rfl, rfl⟩)
        go_roundw
        case rel => exact ⟨(lo + hi) / 2 + 1, hi, by go_num, rfl, by omega, by omega, HY.out y HE.out.symm HV.out, H2, HB⟩
        case measure => simp [intOf]; omega
    · have e : hi = lo := by omega
      subst e
      have hp : pos ns x = hi := pos_eq (by omega) H1.out (fun h => H2.out (by omega))
      by_cases hn : hi < N
      · obtain ⟨b, off, rfl, hbw, hc⟩ := HC.out hi hn
        have cm := (HB.out.cell (p := ⟨b, off + hi, none⟩) hbw).trans hc
        have HF : Hid (fnd ns x = decide (ns.getD hi emp = x)) := by
          show fnd ns x = _
          unfold fnd; rw [hp, hN]
          by_cases he : ns.getD hi emp = x
          · rw [decide_eq_true he, decide_eq_true ⟨hn, he⟩]
          · rw [decide_eq_false he, decide_eq_false fun h => he h.2]
        have HKe : Hid (K = hi) := HK.out.symm.trans hp
        obtain ⟨y, hy⟩ : ∃ y, ns.getD hi emp = y := ⟨_, rfl⟩
        have HFe : Hid (F = decide (y = x)) := by show F = _; rw [← hy]; exact HF0.out.symm.trans HF.out
        rw [hy] at cm
        clear hy HC hc H1 H2 hp HF
        have HN2 : Hid (∀ w, Calls Try.prog 100 #[.string y] w fun e w' => e = .returned (.bool false) ∧ w' = w) := snan_any y
        by_cases he : y = x
        · have HFt : Hid (F = true) := HFe.out.trans (decide_eq_true he)
          subst he
          have HD : Hid (Below w.heap.size w wr) := HB.out
          clear HB
          go_wp2_with (go_at_call 100; refine (HN2.out _).mono ?_; rintro e w' ⟨rfl, rfl⟩)
          go_ret2
          exact ⟨by rw [HKe.out, HFt.out]; rfl, HD.out⟩
        · have HFt : Hid (F = false) := HFe.out.trans (decide_eq_false he)
          have hne : (y.toList == x.toList) = false := by
            rw [beq_eq_false_iff_ne]
            exact fun h => he (ba_ext h)
          have HD : Hid (Below w.heap.size w wr) := HB.out
          clear HB
          go_wp2_with (go_at_call 100; refine (HN2.out _).mono ?_; rintro e w' ⟨rfl, rfl⟩)
          go_ret2
          exact ⟨by rw [HKe.out, HFt.out]; rfl, HD.out⟩
      · have HF : Hid (fnd ns x = false) := by
          show fnd ns x = _
          unfold fnd; rw [hp, hN]
          exact decide_eq_false fun h => hn h.1
        have HKe : Hid (K = hi) := HK.out.symm.trans hp
        have HFt : Hid (F = false) := HF0.out.symm.trans HF.out
        clear HC H1 H2 hp HF
        have HD : Hid (Below w.heap.size w wr) := HB.out
        clear HB
        go_wp2
        go_ret2
        exact ⟨by rw [HKe.out, HFt.out]; rfl, HD.out⟩
end V
namespace V
open Go.RowKit Pack
set_option linter.unusedVariables false


theorem yes_tl : yesB.toList = [121, 101, 115] := by rw [tl_eq]; rfl
theorem no_tl : noB.toList = [110, 111] := by rw [tl_eq]; rfl
set_option maxRecDepth 100000 in
theorem variable_any (s : ByteArray) (hs : s.size ≤ 9223372036854775807) (w : World) : Calls Try.prog 46 #[.string s] w fun e w' => e = .returned (.bool (isVar s)) ∧ w' = w := by
  have HN : Hid (∀ w, Calls Try.prog 64 #[.string s] w fun e w' => e = .returned (.bool (nm s)) ∧ w' = w) := fun w => name_any s w hs
  obtain ⟨R, HR⟩ : ∃ R, Hid (isVar s = R) := ⟨_, rfl⟩
  rw [HR.out]
  cases h0 : nm s with
  | false =>
    rw [h0] at HN
    have HE : Hid (R = false) := by show R = _; rw [← HR.out]; unfold isVar; rw [h0]; rfl
    clear h0
    go_enter Try.func46, Try.ntmps46
    go_wp2_with (go_at_call 64; refine (HN.out _).mono ?_; rintro e w' ⟨rfl, rfl⟩)
    go_ret
    exact ⟨by rw [HE.out]; rfl, rfl⟩
  | true =>
    rw [h0] at HN
    cases h1 : (s.toList == yesB.toList) with
    | true =>
      have HE : Hid (R = false) := by show R = _; rw [← HR.out]; unfold isVar; rw [h0, h1]; rfl
      have h2 : (s.toList == [121, 101, 115]) = true := by rw [← yes_tl]; exact h1
      clear h0 h1
      go_enter Try.func46, Try.ntmps46
      go_wp2_with (go_at_call 64; refine (HN.out _).mono ?_; rintro e w' ⟨rfl, rfl⟩)
      go_ret
      exact ⟨by rw [HE.out]; rfl, rfl⟩
    | false =>
      have HE : Hid (R = !(s.toList == noB.toList)) := by show R = _; rw [← HR.out]; unfold isVar; rw [h0, h1]; rfl
      have h2 : (s.toList == [121, 101, 115]) = false := by rw [← yes_tl]; exact h1
      clear h0 h1
      cases h3 : (s.toList == noB.toList) with
      | true =>
        have h4 : (s.toList == [110, 111]) = true := by rw [← no_tl]; exact h3
        rw [h3] at HE
        clear h3
        go_enter Try.func46, Try.ntmps46
        go_wp2_with (go_at_call 64; refine (HN.out _).mono ?_; rintro e w' ⟨rfl, rfl⟩)
        go_ret
        exact ⟨by rw [HE.out]; rfl, rfl⟩
      | false =>
        have h4 : (s.toList == [110, 111]) = false := by rw [← no_tl]; exact h3
        rw [h3] at HE
        clear h3
        go_enter Try.func46, Try.ntmps46
        go_wp2_with (go_at_call 64; refine (HN.out _).mono ?_; rintro e w' ⟨rfl, rfl⟩)
        go_ret
        exact ⟨by rw [HE.out]; rfl, rfl⟩
set_option maxRecDepth 100000 in
theorem pairs_any (a b : Option Addr) (n c m d : Nat) (hn : n ≤ 9223372036854775807) (hm : m ≤ 9223372036854775807) (he : n = m) (w : World) : Calls Try.prog 90 #[.agg #[.slice a n c, .slice b m d]] w fun e w' => e = .returned (.int .i64 n) ∧ Below w.heap.size w w' := by
  subst he
  go_enter Try.func90, Try.ntmps90
  go_wp2
  go_ret
  refine ⟨by simp, (Below.refl _ _).alloc (Nat.le_refl _) _⟩
theorem getD_mem {ns : List ByteArray} {i : Nat} (h : i < ns.length) : ns.getD i emp ∈ ns := by
  rw [List.getD_eq_getElem?_getD, List.getElem?_eq_getElem h]
  exact List.getElem_mem h
theorem rise_drop {ns : List ByteArray} {i : Nat} (hi : i < ns.length) (a : ByteArray) : rise a (ns.drop i) = (isVar (ns.getD i emp) && (bl a (ns.getD i emp) && rise (ns.getD i emp) (ns.drop (i + 1)))) := by
  rw [List.drop_eq_getElem_cons hi, rise, List.getD_eq_getElem?_getD, List.getElem?_eq_getElem hi]; rfl
def ahead (ns : List ByteArray) : Nat → ByteArray
  | 0 => emp
  | i + 1 => ns.getD i emp
theorem leq_bl (x y : ByteArray) : (Op.bytesLess x.toList y.toList || x.toList == y.toList) = !(bl y x) := by
  cases h : bl y x with
  | true =>
    have h1 : Op.bytesLess x.toList y.toList = false := bl_asym h
    rw [h1]
    have : (x.toList == y.toList) = false := by rw [beq_eq_false_iff_ne]; exact fun e => bl_ne h (ba_ext e).symm
    rw [this]; rfl
  | false =>
    cases h1 : Op.bytesLess x.toList y.toList with
    | true => rfl
    | false =>
      have e := bl_tot (s := x) (t := y) h1 h
      subst e
      simp
set_option maxRecDepth 100000 in
set_option maxHeartbeats 1000000 in
theorem Check_any (ns : List ByteArray) (vs : List Int) (v : Value) (w : World) (hv : RdV w v ns vs) (hs : ∀ n ∈ ns, n.size ≤ 9223372036854775807) : Calls Try.prog 27 #[v] w fun e w' => e = .returned (.int .i64 (chk ns vs : Nat)) ∧ Below w.heap.size w w' := by
  obtain ⟨sn, sv, rfl, h1, h2⟩ := hv
  obtain ⟨a, c, rfl⟩ := h1.form
  obtain ⟨b, d, rfl⟩ := h2.form
  obtain ⟨_, hnc, hcm, _, hcell⟩ := h1.at
  obtain ⟨_, hnd, hdm, _, _⟩ := h2.at
  rw [strsV_len] at *
  rw [intsV_len] at *
  have HC : Hid (∀ i, i < ns.length → ∃ b off, a = some ⟨b, off, none⟩ ∧ b < w.heap.size ∧ w.cell? ⟨b, off + i, none⟩ = some (.string (ns.getD i emp))) := fun i hi => hcell i _ (strsV_at hi)
  have HS : Hid (∀ i, i < ns.length → ∀ w, Calls Try.prog 46 #[.string (ns.getD i emp)] w fun e w' => e = .returned (.bool (isVar (ns.getD i emp))) ∧ w' = w) := fun i hi w => variable_any _ (hs _ (getD_mem hi)) w
  obtain ⟨R, HR⟩ : ∃ R, Hid (chk ns vs = R) := ⟨_, rfl⟩
  rw [HR.out]
  clear h1 h2 hcell hs
  by_cases he : ns.length = vs.length
  · by_cases h64 : 64 < ns.length
    · have HE : Hid (R = 6) := by show R = _; rw [← HR.out]; unfold chk; rw [if_neg (by omega), if_pos h64]
      rw [← he]
      clear he HC HS
      generalize ns.length = N at *
      go_enter Try.func27, Try.ntmps27
      go_wp2
      go_ret
      exact ⟨by rw [HE.out]; rfl, (Below.refl _ _).alloc (Nat.le_refl _) _⟩
    · have HE : Hid (rise emp (ns.drop 0) = true → R = 0) := fun h => by rw [← HR.out]; unfold chk; rw [if_neg (by omega), if_neg h64]; exact if_pos h
      have HE2 : Hid (rise emp (ns.drop 0) = false → R = 1) := fun h => by rw [← HR.out]; unfold chk; rw [if_neg (by omega), if_neg h64]; exact if_neg (by rw [show rise emp ns = false from h]; simp)
      rw [← he]
      rw [← he] at hnd
      clear he
      generalize hN : ns.length = N at *
      go_enter Try.func27, Try.ntmps27
      go_wp2
      go_loopw [20, 3] (fun s20 s3 wr => ∃ i : Nat, i ≤ N ∧ s20 = .int .i64 i ∧ s3 = .string (ahead ns i) ∧ Hid (rise emp (ns.drop 0) = rise (ahead ns i) (ns.drop i)) ∧ Hid (Below w.heap.size w wr)) (fun s20 _ _ => N - (intOf s20).toNat)
      case atStart => exact ⟨0, Nat.zero_le _, rfl, rfl, rfl, (Below.refl _ _).alloc (Nat.le_refl _) _⟩
      case round =>
        obtain ⟨i, hi, rfl, rfl, HI, HB⟩ := hrel
        by_cases hlt : i < N
        · obtain ⟨b, off, rfl, hbw, hc⟩ := HC.out i hlt
          have cm := (HB.out.cell (p := ⟨b, off + i, none⟩) hbw).trans hc
          have HV : Hid (∀ w, Calls Try.prog 46 #[.string (ns.getD i emp)] w fun e w' => e = .returned (.bool (isVar (ns.getD i emp))) ∧ w' = w) := HS.out i hlt
          have HI2 : Hid (rise emp (ns.drop 0) = (isVar (ns.getD i emp) && (bl (ahead ns i) (ns.getD i emp) && rise (ns.getD i emp) (ns.drop (i + 1))))) := HI.out.trans (rise_drop (by omega) _)
          have HA : Hid (ahead ns (i + 1) = ns.getD i emp) := rfl
          clear HC HS hc HI
          generalize ns.getD i emp = y at *
          generalize ahead ns i = z at *
          cases hy : isVar y with
          | false =>
            have HE3 : Hid (R = 1) := HE2.out (by rw [HI2.out, hy]; rfl)
            rw [hy] at HV
            have HB2 := HB
            clear hy HI2 HB
            go_wp2_with (go_at_call 46; refine (HV.out _).mono ?_; rintro e w' ⟨rfl, rfl⟩)
            go_ret
            exact ⟨by rw [HE3.out]; rfl, HB2.out⟩
          | true =>
            rw [hy] at HV
            have hlq := leq_bl y z
            cases hz : bl z y with
            | false =>
              have HE3 : Hid (R = 1) := HE2.out (by rw [HI2.out, hy, hz]; rfl)
              rw [hz] at hlq
              have HB2 := HB
              clear hy HI2 hz HB
              go_wp2_with (go_at_call 46; refine (HV.out _).mono ?_; rintro e w' ⟨rfl, rfl⟩)
              go_ret
              exact ⟨by rw [HE3.out]; rfl, HB2.out⟩
            | true =>
              rw [hz] at hlq
              rw [hy, hz, Bool.true_and, Bool.true_and] at HI2
              have HB2 := HB
              clear hy hz HB
              go_wp2_with (go_at_call 46; refine (HV.out _).mono ?_; rintro e w' ⟨rfl, rfl⟩)
              go_roundw
              case rel => exact ⟨i + 1, by omega, by go_num, by rw [HA.out], by rw [HA.out]; exact HI2, HB2⟩
              case measure => simp [intOf]; omega
        · have e : i = N := by omega
          subst e
          have HE3 : Hid (R = 0) := HE.out (by rw [HI.out, List.drop_eq_nil_of_le (by omega)]; rfl)
          have HB2 := HB
          clear HI HC HS HB
          go_wp2
          go_ret
          exact ⟨by rw [HE3.out]; rfl, HB2.out⟩
  · have HE : Hid (R = 1) := by show R = _; rw [← HR.out]; unfold chk; rw [if_pos he]
    have he2 : ¬ ((ns.length : Int) = (vs.length : Int)) := by omega
    clear HC HS
    generalize ns.length = N at *
    generalize vs.length = M at *
    go_enter Try.func27, Try.ntmps27
    go_wp2
    go_ret
    exact ⟨by rw [HE.out]; rfl, (Below.refl _ _).alloc (Nat.le_refl _) _⟩
end V
namespace V
open Go.RowKit Pack
set_option linter.unusedVariables false


/-- 'append(v, x...)', v a row of the call's own, of cells of one type. -/
theorem wpList_append_ow {P : Program} {w : World} {ops : Array Oper} {rest : List Oper} {o : Oper} {a : Act} {Q : Exit → Act → World → Prop} (hgd : o.guard = none) (s x : Operand) (t el : TypeId)
    (ho : o.op = .call { callee := .builtin .append, args := #[s, x], argTypes := #[t, t] })
    (base : Nat) (ht : P.underlying t = some (.slice el)) (z : Value) (k : Nat) (hinfo : (P.info? el).map (fun i => (i.zero, i.size, i.bytes)) = some (some z, 1, k)) (hk : k ≤ 16) (hzc : z.cells.size = 1)
    (v : Value) (l : List Value) (hs : a.eval s = v) (hown : Ow w base el v l)
    (v2 : Value) (l2 : List Value) (hx : a.eval x = v2) (hr : Rd w v2 l2) (h1 : ∀ u ∈ l2, u.oneCell' = true) (hlen : l.length + l2.length ≤ 1000000000000) (hbase : base ≤ w.heap.size)
    (h : ∀ v' w', Ow w' base el v' (l ++ l2) → w.grownBy w' v.ownBlock → wpList P ops Q rest (a.put o.dst v') w') : wpList P ops Q (o :: rest) a w := by
  obtain ⟨i, hi, hz, hsize, hby⟩ := info_parts hinfo
  obtain ⟨ad, cap, rfl, hnil, _, _, hrd⟩ := hr
  cases ad with
  | none =>
    have hl2 : l2 = [] := by
      rcases hrd with h | ⟨_, _, h, _⟩
      · exact h
      · cases h
    subst hl2
    have hc : cap = 0 := hnil rfl
    subst hc
    have hh := h v w (by simpa using hown) ⟨rfl, rfl, rfl, Nat.le_refl _, fun _ _ _ => rfl⟩
    exact wpList_append_own_none hgd s x t ho base el i 1 ht hi v l.length l hs hown hx hh
  | some ad =>
    refine wpList_append_own w hgd s x t ho base el i z 1 k ht hi hz hsize hby hzc (by decide) v l.length l hs hown ad l2.length cap l2 hx (by omega) ?_ h1
      (by unfold maxLen; omega) (Nat.le_trans (Nat.mul_le_mul_left _ hk) (by omega)) hbase ?_
    · intro j u hj
      rcases hrd with h0 | ⟨b, off, hb, _, hc⟩
      · subst h0; simp at hj
      · cases hb
        rw [add_plain]
        exact hc j u hj
    · intro v' w' h1 h2 _
      refine h v' w' ?_ h2
      show w'.ownsRow base el 1 v' (l ++ l2).length (l ++ l2)
      rw [List.length_append]; exact h1
theorem Try.info2 : (Try.prog.info? 2).map (fun i => (i.zero, i.size, i.bytes)) = some (some (.int .i64 0), 1, 8) := by kernel_rfl
theorem Try.info9 : (Try.prog.info? 9).map (fun i => (i.zero, i.size, i.bytes)) = some (some (.string ⟨#[]⟩), 1, 16) := by kernel_rfl
theorem below_row {B : Nat} {w0 w w' : World} {v : Value} {base : Nat} {t : TypeId} {l : List Value} (h : Below B w0 w) (hb : B ≤ w.heap.size) (ho : Ow w base t v l) (hB : B ≤ base) (hg : w.grownBy w' v.ownBlock) : Below B w0 w' :=
  h.grown hg hb fun k hk => Nat.le_trans hB (World.ownsRow.lt ho k hk).1
/-- What a variable has. -/
def getV (l : VL) (x : ByteArray) : Int := if fnd (nmsOf l) x = true then (valsOf l).getD (pos (nmsOf l) x) 0 else 0
theorem fnd_lt {l : VL} {x : ByteArray} (h : fnd (nmsOf l) x = true) : pos (nmsOf l) x < l.length := by
  unfold fnd at h
  have := (of_decide_eq_true h).1
  rwa [nmsOf_len] at this
set_option maxRecDepth 100000 in
set_option maxHeartbeats 1000000 in
theorem Get_any (l : VL) (x : ByteArray) (v : Value) (w : World) (hv : RdV w v (nmsOf l) (valsOf l)) (hs : Srt (nmsOf l)) (hl : l.length ≤ 1000000) : Calls Try.prog 66 #[v, .string x] w fun e w' => e = .returned (.tuple #[.int .i64 (getV l x), .bool (fnd (nmsOf l) x)]) ∧ Below w.heap.size w w' := by
  obtain ⟨sn, sv, rfl, h1, h2⟩ := hv
  have h1' := h1
  have h2' := h2
  obtain ⟨a, c, rfl⟩ := h1.form
  obtain ⟨b, d, rfl⟩ := h2.form
  obtain ⟨_, hnc, hcm, _, _⟩ := h1.at
  obtain ⟨_, hnd, hdm, _, hcell⟩ := h2.at
  rw [strsV_len, nmsOf_len] at *
  rw [intsV_len, valsOf_len] at *
  have HS : Hid (∀ w', Below w.heap.size w w' → Calls Try.prog 89 #[.slice a l.length c, .string x] w' fun e w2 => e = .returned (.tuple #[.int .i64 (pos (nmsOf l) x : Nat), .bool (fnd (nmsOf l) x)]) ∧ Below w'.heap.size w' w2) := fun w' hb => search_any _ _ x w' (h1'.below hb) hs (by rw [nmsOf_len]; exact hl)
  have HP : Hid (∀ w', Calls Try.prog 90 #[.agg #[.slice a l.length c, .slice b l.length d]] w' fun e w2 => e = .returned (.int .i64 l.length) ∧ Below w'.heap.size w' w2) := fun w' => pairs_any a b _ c _ d (by omega) (by omega) rfl w'
  have HB0 : Hid (Below w.heap.size w (w.alloc (.cells #[.slice a l.length c, .slice b l.length d] 28)).drew) := Below.drew ((Below.refl _ _).alloc (Nat.le_refl _) _)
  have HT : Hid (∀ w', Below (w.alloc (.cells #[.slice a l.length c, .slice b l.length d] 28)).heap.size (w.alloc (.cells #[.slice a l.length c, .slice b l.length d] 28)) w' → Two w' w.heap.size (.slice a l.length c) (.slice b l.length d) ∧ Below w.heap.size w w') := fun w' hb => ⟨(Two.new w _ _ 28).below hb, ((Below.refl _ _).alloc (Nat.le_refl _) _).trans (hb.mono (base_le (Nat.le_refl _) _))⟩
  have HG : Hid (fnd (nmsOf l) x = false → getV l x = 0) := fun h => by unfold getV; rw [if_neg (by rw [h]; simp)]
  have HG2 : Hid (fnd (nmsOf l) x = true → pos (nmsOf l) x < l.length ∧ ∃ g off, b = some ⟨g, off, none⟩ ∧ g < w.heap.size ∧ w.cell? ⟨g, off + pos (nmsOf l) x, none⟩ = some (.int .i64 (getV l x))) := fun h => by
    have hp := fnd_lt h
    refine ⟨hp, ?_⟩
    obtain ⟨g, off, h3, h4, h5⟩ := hcell _ _ (intsV_at (vs := valsOf l) (i := pos (nmsOf l) x) (by rw [valsOf_len]; exact hp))
    refine ⟨g, off, h3, h4, ?_⟩
    unfold getV
    rw [if_pos h]
    exact h5
  clear h1 h2 h1' h2' hs hcell
  generalize hN : l.length = N at *
  generalize getV l x = gv at *
  generalize pos (nmsOf l) x = K at *
  generalize fnd (nmsOf l) x = F at *
  go_enter Try.func66, Try.ntmps66
  go_wp2_with fail
  obtain ⟨⟨l1, p0, p1, p2, p3⟩, _⟩ := HT.out _ (Below.refl _ _)
  have HS0 : Hid (Below (w.alloc (.cells #[.slice a N c, .slice b N d] 28)).heap.size (w.alloc (.cells #[.slice a N c, .slice b N d] 28)) (w.alloc (.cells #[.slice a N c, .slice b N d] 28)).drew) := Below.drew (Below.refl _ _)
  go_region_held3 (fun w' => w'.cell? ⟨w.heap.size, 0, none⟩ = some (.slice a N c) ∧ w'.cell? ⟨w.heap.size, 1, none⟩ = some (.slice b N d)) (go_keep) (first
    | (go_at_call 89; have := HB1; refine (HS.out _ HB1.out.2).mono ?_; rintro e w2 ⟨rfl, HB⟩; have HB2 : Hid (Below (w.alloc (.cells #[.slice a N c, .slice b N d] 28)).heap.size (w.alloc (.cells #[.slice a N c, .slice b N d] 28)) w2 ∧ Below w.heap.size w w2) := ⟨HB1.out.1.trans (HB.mono HB1.out.1.size), HB1.out.2.trans (HB.mono HB1.out.2.size)⟩; obtain ⟨⟨l1, p0, p1, p2, p3⟩, _⟩ := HT.out _ HB2.out.1; clear HB)
    | (go_at_call 90; refine (HP.out _).mono ?_; rintro e w1 ⟨rfl, HB⟩; have HB1 : Hid (Below (w.alloc (.cells #[.slice a N c, .slice b N d] 28)).heap.size (w.alloc (.cells #[.slice a N c, .slice b N d] 28)) w1 ∧ Below w.heap.size w w1) := ⟨HS0.out.trans (HB.mono HS0.out.size), HB0.out.trans (HB.mono HB0.out.size)⟩; obtain ⟨⟨l1, p0, p1, p2, p3⟩, _⟩ := HT.out _ HB1.out.1; clear HB))
  cases F with
  | false =>
    have HE : Hid (gv = 0) := HG.out rfl
    go_wp2
    go_ret2
    exact ⟨by rw [HE.out]; rfl, HB2.out.2⟩
  | true =>
    obtain ⟨hK, g, off, rfl, hg, hc⟩ := HG2.out rfl
    have cm := (HB2.out.2.cell (p := ⟨g, off + K, none⟩) hg).trans hc
    clear HG HG2 hc
    go_wp2
    go_ret2
    exact ⟨rfl, HB2.out.2⟩
end V
end Go.Proofs.Ytfjphlejhcdbaaa

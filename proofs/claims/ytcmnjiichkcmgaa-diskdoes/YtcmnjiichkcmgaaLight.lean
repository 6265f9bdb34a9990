/-
  The laws' light: acts that are not more than is waited for.
-/
import Derived.Test.YtcmnjiichkcmgaaOps
namespace Go.Proofs.Ytcmnjiichkcmgaa
open Go.RowKit Go.Maps Go.Sort
set_option linter.unusedVariables false

def sumTo (os : List Do) : Nat → Nat
  | 0 => 0
  | j + 1 => sumTo os j + (os.getD j noDo).b.length
def LightAt (os : List Do) (i : Nat) : Prop := sumTo os (i + 1) ≤ 3000 ∧ (os.getD i noDo).keep.length ≤ 100 ∧ (os.getD i noDo).name.size ≤ 100
def Light (os : List Do) : Prop := os.length ≤ 60 ∧ ∀ i, i < os.length → LightAt os i
def light (os : List Do) : Bool := decide (os.length ≤ 60) && (List.range os.length).all fun i => decide (sumTo os (i + 1) ≤ 3000) && (decide ((os.getD i noDo).keep.length ≤ 100) && decide ((os.getD i noDo).name.size ≤ 100))
theorem light_iff (os : List Do) : light os = true ↔ Light os := by
  unfold light Light LightAt
  simp only [Bool.and_eq_true, decide_eq_true_eq, List.all_eq_true, List.mem_range]
theorem light_yes {os : List Do} (h : Light os) : light os = true := (light_iff os).2 h
theorem light_no {os : List Do} (h : ¬ Light os) : light os = false := by
  cases hn : light os with
  | false => rfl
  | true => exact absurd ((light_iff os).1 hn) h
theorem light_of {os : List Do} (h : light os = true) : Light os := (light_iff os).1 h
theorem ret_light_yes {os : List Do} (h : Light os) : Ending.returned (.bool true) = .returned (.bool (light os)) := by rw [light_yes h]
theorem ret_light_no {os : List Do} (h : ¬ Light os) : Ending.returned (.bool false) = .returned (.bool (light os)) := by rw [light_no h]

set_option maxRecDepth 100000 in
set_option maxHeartbeats 1000000 in
theorem light_any (a : Option Addr) (len cap : Nat) (os : List Do) (w : World) (h : DosV w a len os) :
    Calls Try.prog 8 #[.slice a len cap] w fun e w' => e = .returned (.bool (light os)) ∧ w' = w := by
  obtain ⟨hl, hm, hb⟩ := h
  have hm' : len ≤ 9223372036854775807 := hm
  by_cases h60 : 60 < len
  · have HE : Hid (¬ Light os) := fun h => by have := h.1; omega
    clear hb
    go_enter Try.func8, Try.ntmps8
    go_wp2
    go_ret
    exact ⟨ret_light_no HE.out, rfl⟩
  have HL : Hid (os.length = len) := hl
  have HB : Hid (len = 0 ∨ ∃ b off, a = some ⟨b, off, none⟩ ∧ ∀ i, i < len → DoAt w b (off + i * 4) (os.getD i noDo)) := hb
  clear hl hb hm
  go_enter Try.func8, Try.ntmps8
  go_wp2
  go_loop [3, 4] (fun n i => ∃ j : Nat, j ≤ len ∧ i = .int .i64 j ∧ n = .int .i64 (sumTo os j) ∧ sumTo os j ≤ 3000 ∧ Hid (∀ k, k < j → LightAt os k)) (fun _ i => len - (intOf i).toNat)
  case atStart => exact ⟨0, Nat.zero_le _, rfl, rfl, Nat.zero_le _, fun k hk => absurd hk (Nat.not_lt_zero _)⟩
  case round =>
    obtain ⟨j, hj, rfl, rfl, hs, HA⟩ := hrel
    by_cases hlt : j < len
    · rcases HB.out with h0 | ⟨b, off, rfl, hat⟩
      · omega
      have hat := hat j hlt
      obtain ⟨c0, c1, c2, c3, wk, wn, rb, rk, wb⟩ := hat
      obtain ⟨ab, cb, hvb, _, hbc, hbm, _⟩ := rb
      obtain ⟨ak, ck, hvk, hkm, _⟩ := rk
      rw [hvb] at c2
      rw [hvk] at c3
      clear c0 wk hvb hvk
      have HS : Hid (sumTo os (j + 1) = sumTo os j + (os.getD j noDo).b.length) := rfl
      have HT : Hid (∀ (hx : sumTo os j + (os.getD j noDo).b.length ≤ 3000) (hy : (os.getD j noDo).keep.length ≤ 100) (hz : (os.getD j noDo).name.size ≤ 100), LightAt os j) := fun hx hy hz => ⟨hx, hy, hz⟩
      have HF : Hid (¬ (sumTo os j + (os.getD j noDo).b.length ≤ 3000 ∧ (os.getD j noDo).keep.length ≤ 100 ∧ (os.getD j noDo).name.size ≤ 100) → ¬ Light os) := fun hn h => hn (h.2 j (by rw [HL.out]; exact hlt))
      have hbl : (os.getD j noDo).b.length ≤ 140737488355328 := by unfold reachBytes at wb; omega
      clear wb
      have hkl : (os.getD j noDo).keep.length ≤ 9223372036854775807 := hkm
      have hnl : (os.getD j noDo).name.size ≤ 9223372036854775807 := wn
      clear hbc hbm hkm wn
      generalize (os.getD j noDo).b.length = bl at *
      generalize (os.getD j noDo).keep.length = kl at *
      generalize (os.getD j noDo).name = nam at *
      generalize hsj : sumTo os j = sj at *
      clear hsj
      by_cases t1 : 3000 < sj + bl
      · have HE : Hid (¬ Light os) := HF.out (by omega)
        go_wp2
        go_ret
        exact ⟨ret_light_no HE.out, rfl⟩
      by_cases t2 : 100 < kl
      · have HE : Hid (¬ Light os) := HF.out (by omega)
        go_wp2
        go_ret
        exact ⟨ret_light_no HE.out, rfl⟩
      by_cases t3 : 100 < nam.size
      · have HE : Hid (¬ Light os) := HF.out (by omega)
        go_wp2
        go_ret
        exact ⟨ret_light_no HE.out, rfl⟩
      have HE : Hid (LightAt os j) := HT.out (by omega) (by omega) (by omega)
      go_wp2
      go_round
      case rel => exact ⟨j + 1, by omega, by go_num, by rw [HS.out]; go_num, by rw [HS.out]; omega, fun k hk => by rcases Nat.lt_succ_iff_lt_or_eq.1 hk with h | h; exact HA.out k h; rw [h]; exact HE.out⟩
      case measure => simp [intOf]; omega
    · have hlt' : ¬ (j : Int) < (len : Int) := by omega
      have HE : Hid (Light os) := ⟨by rw [HL.out]; omega, fun i hi => HA.out i (by rw [HL.out] at hi; omega)⟩
      clear hlt
      go_wp2
      go_ret
      exact ⟨ret_light_yes HE.out, rfl⟩

end Go.Proofs.Ytcmnjiichkcmgaa

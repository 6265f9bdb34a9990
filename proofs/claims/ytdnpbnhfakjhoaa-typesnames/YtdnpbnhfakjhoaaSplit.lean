/-
  Split: a contract.
-/
import Derived.Test.YtdnpbnhfakjhoaaWords
namespace Go.Proofs.Ytdnpbnhfakjhoaa
open Go.RowKit Go.Maps
set_option linter.unusedVariables false


/-- What is wrong, and where. -/
def faultV (e p : Nat) : Value := .agg #[.int .i64 e, .int .i64 p]
theorem step_blank {s : ByteArray} {k : Nat} {ws : List W} {o : Out} (h : join ws (sp (s.data.toList.drop k) k) = o) (hlt : k < s.size) (hb : (s[k]'hlt).toNat = 32) : join ws (sp (s.data.toList.drop (k + 1)) (k + 1)) = o := by
  have h2 : k < s.data.toList.length := by rw [size_list]; exact hlt
  rw [← h, drop_at _ _ h2, sp_blank]
  rw [← at_list hlt h2]; exact hb
theorem from_at {s : ByteArray} {k : Nat} (hlt : k < s.size) : From s k (s[k]'hlt) (s.data.toList.drop (k + 1)) := by
  have h2 : k < s.data.toList.length := by rw [size_list]; exact hlt
  exact ⟨by rw [drop_at _ _ h2, at_list hlt h2]⟩
theorem step_word {s : ByteArray} {k : Nat} {ws : List W} {o : Out} (h : join ws (sp (s.data.toList.drop k) k) = o) (c : UInt8) (r : Bs) (hf : From s k c r) (hb : c.toNat ≠ 32) (he : (one (c :: r)).err = 0) : join (ws ++ [⟨(one (c :: r)).kind, (one (c :: r)).text, (one (c :: r)).n, k⟩]) (sp (s.data.toList.drop (k + (one (c :: r)).len)) (k + (one (c :: r)).len)) = o := by
  rw [← h, hf.ls, sp_word k hb he, join_join, ← List.drop_drop, hf.ls]
theorem step_bad {s : ByteArray} {k : Nat} {ws : List W} {o : Out} (h : join ws (sp (s.data.toList.drop k) k) = o) (c : UInt8) (r : Bs) (hf : From s k c r) (hb : c.toNat ≠ 32) (he : (one (c :: r)).err ≠ 0) : o = ⟨[], (one (c :: r)).err, k + (one (c :: r)).off⟩ := by
  rw [← h, hf.ls, sp_fault k hb he]
  simp [join, he]
theorem step_end {s : ByteArray} {ws : List W} {o : Out} (h : join ws (sp (s.data.toList.drop s.size) s.size) = o) : o = ⟨ws, 0, 0⟩ := by
  rw [← h, List.drop_eq_nil_of_le (by rw [size_list]; omega), sp_nil]
  simp [join]
/-- A text's words, or what is wrong with it. -/
def lexOut (s : ByteArray) : Out := if s.size ≤ 4096 then sp s.data.toList 0 else ⟨[], 6, 0⟩
end Go.Proofs.Ytdnpbnhfakjhoaa

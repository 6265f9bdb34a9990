/-
  A text in brackets: its words, its tree.
-/
import Derived.Test.YtlfeejjlcclbdaaDoorBrk
import Derived.Test.YtlfeejjlcclbdaaDoorParse
import Derived.Test.YtlfeejjlcclbdaaDoorOnceW
namespace Go.Proofs.YtlfeejjlcclbdaaDoor
set_option linter.unusedVariables false

def shutB : UInt8 := 41
theorem shut_goes (k : Nat) : goes k shutB = false := by
  unfold goes
  split
  · decide
  · split <;> decide
theorem head_shut (r t : Bs) : headLetter (r ++ shutB :: t) = headLetter r := by
  cases r with
  | nil => show letter shutB = false; decide
  | cons c r => rfl
theorem one_shut (c : UInt8) (r t : Bs) : one (c :: (r ++ shutB :: t)) = one (c :: r) := by
  have h1 : word c (r ++ shutB :: t) = word c r := by unfold word; rw [take_run _ _ (shut_goes _)]
  have h2 := drop_run (goes (kind c)) t (shut_goes (kind c)) r
  rw [one_cons, one_cons, oneC, oneC, h1, h2, head_shut]
theorem sp_shut (l : Bs) (p : Nat) : (sp l p).err = 0 → sp (l ++ [shutB]) p = ⟨(sp l p).ws ++ [⟨3, [41], 0, p + l.length⟩], 0, 0⟩ := by
  refine by_len (P := fun l p => (sp l p).err = 0 → sp (l ++ [shutB]) p = ⟨(sp l p).ws ++ [⟨3, [41], 0, p + l.length⟩], 0, 0⟩) ?_ ?_ ?_ ?_ l p
  · intro p _; rfl
  · intro c r p h ih he
    rw [sp_blank r p h] at he
    rw [List.cons_append, sp_blank _ p h, ih he, sp_blank r p h, List.length_cons, show p + 1 + r.length = p + (r.length + 1) by omega]
  · intro c r p h he h0
    rw [sp_fault p h he] at h0
    exact absurd h0 he
  · intro c r p h he ih h0
    have hl := one_len_pos he
    rw [sp_word p h he] at h0
    rw [List.cons_append, sp_word p h (by rw [one_shut]; exact he), one_shut, ← List.cons_append, List.drop_append_of_le_length hl.2, sp_word p h he]
    generalize hR : sp ((c :: r).drop (one (c :: r)).len) (p + (one (c :: r)).len) = R at *
    have hR0 : R.err = 0 := by
      unfold join at h0
      by_cases h1 : R.err = 0
      · exact h1
      · rw [if_neg h1] at h0; exact absurd h0 h1
    rw [ih hR0]
    have e : p + (one (c :: r)).len + ((c :: r).drop (one (c :: r)).len).length = p + (c :: r).length := by rw [List.length_drop]; omega
    rw [e]
    simp [join, hR0]
theorem sp_open (l : Bs) (p : Nat) (h : (sp l (p + 1)).err = 0) : sp (40 :: l) p = ⟨⟨3, [40], 0, p⟩ :: (sp l (p + 1)).ws, 0, 0⟩ := by
  have h1 : one (40 :: l) = ⟨0, 0, 3, [40], 0, 1⟩ := by
    have hw : word 40 l = [40] := by
      show (40 : UInt8) :: l.takeWhile (goes (kind 40)) = [40]
      have hk : kind 40 = 3 := by decide
      rw [hk]
      cases l with
      | nil => rfl
      | cons x r => rw [List.takeWhile_cons, goes_three]; rfl
    rw [one_cons, oneC]
    have hk : kind 40 = 3 := by decide
    rw [if_neg (by rw [hk]; decide), if_neg (by rw [hk]; decide), if_pos hk, hw]
    rfl
  have h2 := sp_word (c := 40) (r := l) p (by decide) (by rw [h1])
  rw [h1] at h2
  rw [h2]
  show join [⟨3, [40], 0, p⟩] (sp l (p + 1)) = _
  unfold join
  rw [if_pos h]
  rfl
theorem shift_shut (p : Nat) : Shut (W.shift 1) ⟨3, [41], 0, p⟩ := ⟨fun _ => rfl, fun _ => rfl, fun _ => rfl, rfl, rfl⟩
/-- The text in brackets. -/
def inB (s : ByteArray) : ByteArray := ba (40 :: (s.data.toList ++ [shutB]))
theorem brk_words (s : ByteArray) (hs : s.size ≤ 1500) (he : (lexOut s).err = 0) : lexOut (inB s) = ⟨⟨3, [40], 0, 0⟩ :: onto (W.shift 1) ⟨3, [41], 0, 1 + s.data.toList.length⟩ (lexOut s).ws, 0, 0⟩ := by
  have hz : (inB s).size ≤ 4096 := by
    show (40 :: (s.data.toList ++ [shutB])).length ≤ 4096
    simp; omega
  unfold lexOut at he ⊢
  rw [if_pos hz, if_pos (by omega)]
  rw [if_pos (by omega)] at he
  show sp (40 :: (s.data.toList ++ [shutB])) 0 = _
  have h1 := sp_shift 1 s.data.toList 0
  rw [Nat.zero_add] at h1
  have h2 := sp_shut s.data.toList 1 (h1.2.trans he)
  rw [sp_open _ 0 (by rw [Nat.zero_add, h2]), Nat.zero_add, h2, h1.1]
  rfl
theorem lex_of_ok {s : ByteArray} (h : (parseM s).err = 0) : (lexOut s).err = 0 := by
  unfold parseM parseO at h
  by_cases he : (lexOut s).err = 0
  · exact he
  · rw [if_pos he] at h; exact h
theorem tree_of_ok {s : ByteArray} (h : (parseM s).err = 0) : sdM 16 1 (lexOut s).ws = .ok ((parseM s).t, []) ∧ checkM 16 (parseM s).t = 0 := by
  have hl := lex_of_ok h
  have e : parseM s = treeM s.size (lexOut s).ws := by unfold parseM parseO; rw [if_neg (fun h => h hl)]
  rw [e] at h ⊢
  unfold treeM wholeM at h ⊢
  cases hq : sdM 16 1 (lexOut s).ws with
  | error x => obtain ⟨x, r⟩ := x; rw [hq] at h; exact absurd h (sd_err hq)
  | ok x =>
    obtain ⟨x, r⟩ := x
    rw [hq] at h
    cases r with
    | cons v r => exact absurd h (by show ¬ (3 : Nat) = 0; decide)
    | nil =>
      by_cases hc : checkM 16 x = 0
      · show _ = Except.ok ((if checkM 16 x ≠ 0 then (⟨zeroT, checkM 16 x, 0⟩ : Pd) else ⟨x, 0, 0⟩).t, []) ∧ checkM 16 (if checkM 16 x ≠ 0 then (⟨zeroT, checkM 16 x, 0⟩ : Pd) else ⟨x, 0, 0⟩).t = 0
        rw [if_neg (fun h => h hc)]
        exact ⟨rfl, hc⟩
      · exfalso
        have h' : (if checkM 16 x ≠ 0 then (⟨zeroT, checkM 16 x, 0⟩ : Pd) else ⟨x, 0, 0⟩).err = 0 := h
        rw [if_pos hc] at h'
        exact hc h'
theorem brk_parse (s : ByteArray) (hs : s.size ≤ 1500) (h : (parseM s).err = 0) : (parseM (inB s)).err = 6 ∨ ((parseM (inB s)).err = 0 ∧ (parseM (inB s)).t = (parseM s).t) := by
  obtain ⟨h1, h2⟩ := tree_of_ok h
  have hw := brk_words s hs (lex_of_ok h)
  generalize (parseM s).t = t at *
  have e : parseM (inB s) = treeM (inB s).size (⟨3, [40], 0, 0⟩ :: onto (W.shift 1) ⟨3, [41], 0, 1 + s.data.toList.length⟩ (lexOut s).ws) := by
    unfold parseM parseO
    rw [hw]
    rfl
  rw [e]
  generalize (lexOut s).ws = ws at *
  generalize (inB s).size = en
  have hd := (pr_deep (shift_shut (1 + s.data.toList.length)) 15).2 1 ws t [] h1
  generalize hv : (⟨3, [41], 0, 1 + s.data.toList.length⟩ : W) = v at *
  have hop : operandM 16 (⟨3, [40], 0, 0⟩ :: onto (W.shift 1) v ws) = inM (sdM 15 1 (onto (W.shift 1) v ws)) := rfl
  have hsd : sdM 16 1 (⟨3, [40], 0, 0⟩ :: onto (W.shift 1) v ws) = match operandM 16 (⟨3, [40], 0, 0⟩ :: onto (W.shift 1) v ws) with | .error e => .error e | .ok (x, r) => loopM (sdM 15) 1 (r.length + 1) 6 x r := rfl
  unfold treeM wholeM
  rw [hsd, hop]
  rcases hd with ⟨z, hz⟩ | hz
  · rw [hz]; exact .inl rfl
  · rw [hz]
    right
    have hin : inM (.ok (t, onto (W.shift 1) v [])) = .ok (t, []) := by
      show (if v.text = [41] then .ok (t, []) else .error (3, [v]) : Res) = _
      rw [← hv]; rfl
    rw [hin]
    show (if checkM 16 t ≠ 0 then (⟨zeroT, checkM 16 t, 0⟩ : Pd) else ⟨t, 0, 0⟩).err = 0 ∧ (if checkM 16 t ≠ 0 then (⟨zeroT, checkM 16 t, 0⟩ : Pd) else ⟨t, 0, 0⟩).t = t
    rw [if_neg (fun h => h h2)]
    exact ⟨rfl, rfl⟩
end Go.Proofs.YtlfeejjlcclbdaaDoor

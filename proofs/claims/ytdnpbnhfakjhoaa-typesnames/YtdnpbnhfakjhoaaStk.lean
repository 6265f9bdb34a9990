/-
  The scan's stack: a row of the call's own.
-/
import Derived.Test.YtdnpbnhfakjhoaaSpl
import Derived.Test.YtdnpbnhfakjhoaaWords
import Derived.Maps.AppendAt
namespace Go.Proofs.Ytdnpbnhfakjhoaa
open Go.RowKit Go.Maps
set_option linter.unusedVariables false


/-- An open bracket as it lies: how deep, and the levels' slice. -/
abbrev Lay2 := Nat × Value
def flat2 : List Lay2 → List Value
  | [] => []
  | x :: r => .int .i64 x.1 :: x.2 :: flat2 r
theorem flat2_len (l : List Lay2) : (flat2 l).length = l.length * 2 := by
  induction l with
  | nil => rfl
  | cons x r ih => simp [flat2, ih]; omega
theorem flat2_append (l m : List Lay2) : flat2 (l ++ m) = flat2 l ++ flat2 m := by
  induction l with
  | nil => rfl
  | cons x r ih => simp [flat2, ih]
theorem flat2_at (l : List Lay2) {i : Nat} (h : i < l.length) : (flat2 l)[i * 2]? = some (.int .i64 (l.getD i (0, .slice none 0 0)).1) ∧ (flat2 l)[i * 2 + 1]? = some (l.getD i (0, .slice none 0 0)).2 := by
  induction l generalizing i with
  | nil => simp at h
  | cons x r ih =>
    cases i with
    | zero => simp [flat2]
    | succ i =>
      have := ih (i := i) (by simpa using h)
      rw [show (i + 1) * 2 = i * 2 + 2 by omega]
      simpa [flat2] using this
theorem infoO : (Try.prog.info? 73).map (fun i => (i.zero, i.size, i.bytes)) = some (some (.agg #[.int .i64 0, .slice none 0 0]), 2, 32) := by kernel_rfl
/-- A row of the call's own that stays. -/
theorem own_moved {w w' : World} {base e size n : Nat} {v : Value} {xs : List Value} (h : w.ownsRow base e size v n xs) (hb : ∀ g, v.ownBlock = some g → w'.heap[g]? = w.heap[g]?) : w'.ownsRow base e size v n xs := by
  refine ⟨h.1, ?_⟩
  rcases h.2 with hn | ⟨g, cap, cur, hv, hg, hh, rest⟩
  · exact .inl hn
  · exact .inr ⟨g, cap, cur, hv, hg, (hb g (by rw [hv]; rfl)).trans hh, rest⟩
theorem own_below {w w' : World} {base e size n : Nat} {v : Value} {xs : List Value} (h : w.ownsRow base e size v n xs) (hb : Below w.heap.size w w') : w'.ownsRow base e size v n xs :=
  own_moved h fun g hg => hb.block g (World.ownsRow.lt h g hg).2
/-- The last one is cut off. -/
theorem own_pop {w : World} {base e size n cap : Nat} {a : Option Addr} {xs ys : List Value} (h : w.ownsRow base e size (.slice a (n + 1) cap) (n + 1) (xs ++ ys)) (hy : ys.length = size) : w.ownsRow base e size (.slice a n cap) n xs := by
  have h1 := h.1
  rw [List.length_append, Nat.succ_mul] at h1
  have hx : xs.length = n * size := by omega
  refine ⟨hx, ?_⟩
  rcases h.2 with ⟨_, hn⟩ | ⟨g, c, cur, hv, hg, hh, hnc, hcm, hcs, ht⟩
  · exact absurd hn (by omega)
  · injection hv with e1 e2 e3
    subst e1; subst e3
    refine .inr ⟨g, cap, cur, rfl, hg, hh, by omega, hcm, hcs, ?_⟩
    have : (cur.toList.take ((n + 1) * size)).take (n * size) = cur.toList.take (n * size) := by rw [List.take_take, Nat.min_eq_left (by rw [Nat.succ_mul]; omega)]
    rw [← this, ht, List.take_append_of_le_length (by omega), ← hx, List.take_length]
theorem cell_two_new (w : World) (a b : Value) (e : TypeId) : ∀ j u, [a, b][j]? = some u → (w.alloc (.cells #[a, b] e)).cell? ((⟨w.heap.size, 0, none⟩ : Addr).add j) = some u := by
  intro j u hj
  rw [add_plain, Nat.zero_add, cell_of_row _ w.heap.size j _ e (0, 0) (heap_alloc_new w _)]
  match j, hj with
  | 0, hj | 1, hj => simpa using hj
/-- 'stack = append(stack, Open{..})', the struct just laid into a block of its own. -/
theorem wpList_push {ops : Array Oper} {rest : List Oper} {o : Oper} {a : Act} {Q : Exit → Act → World → Prop} {wX : World} (hgd : o.guard = none) (s x : Operand)
    (ho : o.op = .call { callee := .builtin .append, args := #[s, x], argTypes := #[74, 74] }) {base : Nat} {v : Value} {ls : List Lay2} (hO : wX.ownsRow base 73 2 v ls.length (flat2 ls)) (hbase : base ≤ wX.heap.size) (hs : a.eval s = v) (y : Lay2) (hy : y.2.oneCell' = true)
    {B : Nat} (hx : a.eval x = .slice (some ⟨B, 0, none⟩) 1 1) (hB : B = wX.heap.size) (hlen : ls.length ≤ 4096)
    (h : ∀ v' w', w'.ownsRow base 73 2 v' (ls.length + 1) (flat2 (ls ++ [y])) → (wX.alloc (.cells #[.int .i64 y.1, y.2] 73)).grownBy w' v.ownBlock → wpList Try.prog ops Q rest (a.put o.dst v') w') : wpList Try.prog ops Q (o :: rest) a (wX.alloc (.cells #[.int .i64 y.1, y.2] 73)) := by
  subst hB
  obtain ⟨i, hi, hz, hsz, hby⟩ := info_parts infoO
  have hO2 := own_below hO ((Below.refl _ _).alloc (Nat.le_refl _) (.cells #[.int .i64 y.1, y.2] 73))
  refine wpList_append_own_at _ hgd s x 74 ho base 73 i _ 2 32 Try.underlying74 hi hz hsz hby rfl (by decide) v ls.length (flat2 ls) hs hO2 ⟨wX.heap.size, 0, none⟩ 1 1 [.int .i64 y.1, y.2] hx rfl (cell_two_new _ _ _ _) (by intro u hu; simp at hu; rcases hu with rfl | rfl; rfl; exact hy) (by unfold maxLen; omega) (by omega) (by rw [size_alloc]; omega) ?_
  intro v' w' hown hg _ _
  exact h v' w' (by rw [flat2_append]; exact hown) hg
def ints (l : List Nat) : List Value := l.map fun (x : Nat) => Value.int .i64 x
theorem ints_len (l : List Nat) : (ints l).length = l.length := List.length_map ..
/-- Levels as they lie. -/
def LevV (w : World) (base : Nat) (v : Value) (l : List Nat) : Prop := w.ownsRow base 3 1 v l.length (ints l)
theorem LevV.nil (w : World) (base : Nat) : LevV w base (.slice none 0 0) [] := World.ownsRow_nil _ _ _ _
theorem LevV.slice {w : World} {base : Nat} {v : Value} {l : List Nat} (h : LevV w base v l) : ∃ a cap, v = .slice a l.length cap ∧ l.length ≤ cap := by
  rcases h.2 with ⟨rfl, h0⟩ | ⟨g, cap, cur, rfl, _, _, hnc, _⟩
  · exact ⟨none, 0, by rw [h0], by omega⟩
  · exact ⟨_, cap, rfl, hnc⟩
theorem LevV.at {w : World} {base : Nat} {v : Value} {l : List Nat} (h : LevV w base v l) {i : Nat} (hi : i < l.length) : ∃ g cap, v = .slice (some ⟨g, 0, none⟩) l.length cap ∧ w.cell? ⟨g, i, none⟩ = some (.int .i64 (l.getD i 0)) := by
  have hh := h
  rcases h.2 with ⟨rfl, h0⟩ | ⟨g, cap, cur, rfl, _, _, hnc, hcm, _, _⟩
  · omega
  · refine ⟨g, cap, rfl, ?_⟩
    have := World.ownsRow.cellAt hh i (by omega)
    rw [this]
    unfold ints
    rw [List.getElem?_map, List.getElem?_eq_getElem hi, List.getD_eq_getElem?_getD, List.getElem?_eq_getElem hi]
    rfl
end Go.Proofs.Ytdnpbnhfakjhoaa

/-
  Rows of words: as lists; rows that a call makes.
-/
import Derived.Test.YtlfeejjlcclbdaaGreatDoorWordAt
import Derived.Laws.AppendOwnNone
import Derived.Maps.AppendAt
import Derived.BigQuiet
namespace Go.Proofs.YtlfeejjlcclbdaaGreatDoor
open Go.RowKit Go.Maps
set_option linter.unusedVariables false


/-- A slice of words that reads as ws. -/
def WordsV (w : World) (v : Value) (ws : List W) : Prop :=
  ∃ a cap, v = .slice a ws.length cap ∧ ws.length ≤ cap ∧ ws.length ≤ 4096 ∧ (ws = [] ∨ ∃ b, a = some ⟨b, 0, none⟩ ∧ ∀ i, i < ws.length → WAt w b (i * 4) (ws.getD i noW))
theorem WordsV.nil (w : World) : WordsV w (.slice none 0 0) [] := ⟨none, 0, rfl, by decide, by decide, .inl rfl⟩
theorem WordsV.below {w w' : World} {v : Value} {ws : List W} (h : WordsV w v ws) (hb : Below w.heap.size w w') : WordsV w' v ws := by
  obtain ⟨a, cap, h1, h2, h3, h4⟩ := h
  refine ⟨a, cap, h1, h2, h3, ?_⟩
  rcases h4 with h | ⟨b, ha, hc⟩
  · exact .inl h
  · exact .inr ⟨b, ha, fun i hi => (hc i hi).below hb⟩
/-- What lies behind a slice's address. -/
def RowV (w : World) (a : Option Addr) (ws : List W) : Prop := ∀ i, i < ws.length → ∃ b, a = some ⟨b, 0, none⟩ ∧ WAt w b (i * 4) (ws.getD i noW)
theorem RowV.below {w w' : World} {a : Option Addr} {ws : List W} (h : RowV w a ws) (hb : Below w.heap.size w w') : RowV w' a ws := fun i hi => by
  obtain ⟨b, h1, h2⟩ := h i hi
  exact ⟨b, h1, h2.below hb⟩
theorem WordsV.row {w : World} {v : Value} {ws : List W} (h : WordsV w v ws) : ∃ a cap, v = .slice a ws.length cap ∧ ws.length ≤ cap ∧ ws.length ≤ 4096 ∧ RowV w a ws := by
  obtain ⟨a, cap, h1, h2, h3, h4⟩ := h
  refine ⟨a, cap, h1, h2, h3, fun i hi => ?_⟩
  rcases h4 with h | ⟨b, ha, hc⟩
  · subst h; simp at hi
  · exact ⟨b, ha, hc i hi⟩
def flat : List W → List Value
  | [] => []
  | x :: r => .int .i64 x.kind :: .string (ba x.text) :: .int .i64 x.n :: .int .i64 x.pos :: flat r
theorem flat_append (l m : List W) : flat (l ++ m) = flat l ++ flat m := by
  induction l with
  | nil => rfl
  | cons x r ih => simp [flat, ih]
theorem flat_at (l : List W) {i : Nat} (h : i < l.length) : (flat l)[i * 4]? = some (.int .i64 (l.getD i noW).kind) ∧ (flat l)[i * 4 + 1]? = some (.string (ba (l.getD i noW).text)) ∧ (flat l)[i * 4 + 2]? = some (.int .i64 (l.getD i noW).n) ∧ (flat l)[i * 4 + 3]? = some (.int .i64 (l.getD i noW).pos) := by
  induction l generalizing i with
  | nil => simp at h
  | cons x r ih =>
    cases i with
    | zero => simp [flat]
    | succ i =>
      have := ih (i := i) (by simpa using h)
      rw [show (i + 1) * 4 = i * 4 + 4 by omega]
      simpa [flat] using this
/-- A row of words that the call makes. -/
structure Outs (w wr : World) (v : Value) (ws : List W) : Prop where
  own : wr.ownsRow w.heap.size 57 4 v ws.length (flat ws)
  bel : Below w.heap.size w wr
theorem Outs.start (w : World) : Outs w w (.slice none 0 0) [] := ⟨World.ownsRow_nil _ _ _ _, Below.refl _ _⟩
theorem Outs.moved {w wr w' : World} {v : Value} {ws : List W} (h : Outs w wr v ws) (hb : Below wr.heap.size wr w') : Outs w w' v ws := by
  refine ⟨?_, h.bel.trans (hb.mono h.bel.size)⟩
  refine ⟨h.own.1, ?_⟩
  rcases h.own.2 with hn | ⟨g, cap, cur, hv, hg, hh, rest⟩
  · exact .inl hn
  · exact .inr ⟨g, cap, cur, hv, hg, (hb.block g (Array.getElem?_eq_some_iff.1 hh).1).trans hh, rest⟩
theorem Outs.ge {w wr : World} {v : Value} {ws : List W} (h : Outs w wr v ws) : ∀ g, v.ownBlock = some g → w.heap.size ≤ g ∧ g < wr.heap.size := fun g e => World.ownsRow.lt h.own g e
theorem Outs.add {w wr w' : World} {v v' : Value} {ws : List W} {x : W} (h : Outs w wr v ws)
    (ho : w'.ownsRow w.heap.size 57 4 v' (ws.length + 1) (flat ws ++ flat [x])) (hg : wr.grownBy w' v.ownBlock) : Outs w w' v' (ws ++ [x]) :=
  ⟨by rw [flat_append, List.length_append]; exact ho, h.bel.grown hg h.bel.size (fun g e => (h.ge g e).1)⟩
theorem Outs.words {w wr : World} {v : Value} {ws : List W} (h : Outs w wr v ws) (hl : ws.length ≤ 4096) : WordsV wr v ws := by
  have hh := h.own
  rcases h.own.2 with ⟨rfl, h0⟩ | ⟨g, cap, cur, rfl, _, _, hnc, hcm, _, _⟩
  · have : ws = [] := List.length_eq_zero_iff.1 h0
    subst this
    exact WordsV.nil wr
  · refine ⟨some ⟨g, 0, none⟩, cap, rfl, by omega, hl, .inr ⟨g, rfl, fun i hi => ?_⟩⟩
    obtain ⟨f0, f1, f2, f3⟩ := flat_at ws hi
    refine ⟨?_, ?_, ?_, ?_⟩
    · rw [hh.cellAt (i * 4) (by omega), f0]
    · rw [hh.cellAt (i * 4 + 1) (by omega), f1]
    · rw [hh.cellAt (i * 4 + 2) (by omega), f2]
    · rw [hh.cellAt (i * 4 + 3) (by omega), f3]
theorem Outs.words_turned {w wr w' : World} {v : Value} {ws : List W} (h : Outs w wr v ws) (hl : ws.length ≤ 4096) (hb : ∀ g, w.heap.size ≤ g → w'.heap[g]? = wr.heap[g]?) : WordsV w' v ws := by
  obtain ⟨a, cap, h1, h2, h3, h4⟩ := h.words hl
  refine ⟨a, cap, h1, h2, h3, ?_⟩
  rcases h4 with h5 | ⟨b, ha, hc⟩
  · exact .inl h5
  · subst ha h1
    have hg := hb b (h.ge b rfl).1
    exact .inr ⟨b, rfl, fun i hi => ⟨(World.cell?_of_block (a := ⟨b, i * 4, none⟩) hg).trans (hc i hi).c0, (World.cell?_of_block (a := ⟨b, i * 4 + 1, none⟩) hg).trans (hc i hi).c1, (World.cell?_of_block (a := ⟨b, i * 4 + 2, none⟩) hg).trans (hc i hi).c2, (World.cell?_of_block (a := ⟨b, i * 4 + 3, none⟩) hg).trans (hc i hi).c3⟩⟩
theorem add_plain (b off i : Nat) : (⟨b, off, none⟩ : Addr).add i = ⟨b, off + i, none⟩ := by unfold Addr.add; split <;> simp_all
theorem cell_four_new (w : World) (a b c d : Value) (e : TypeId) : ∀ j u, [a, b, c, d][j]? = some u → (w.alloc (.cells #[a, b, c, d] e)).cell? ((⟨w.heap.size, 0, none⟩ : Addr).add j) = some u := by
  intro j u hj
  rw [add_plain, Nat.zero_add, cell_of_row _ w.heap.size j _ e (0, 0) (heap_alloc_new w _)]
  match j, hj with
  | 0, hj | 1, hj | 2, hj | 3, hj => simpa using hj
theorem infoW : (Tryz.prog.info? 57).map (fun i => (i.zero, i.size, i.bytes)) = some (some (.agg #[.int .i64 0, .string ByteArray.empty, .int .i64 0, .int .i64 0]), 4, 40) := by kernel_rfl
theorem info_parts {P : Program} {t : TypeId} {z : Option Value} {a b : Nat} (h : (P.info? t).map (fun i => (i.zero, i.size, i.bytes)) = some (z, a, b)) : ∃ i, P.info? t = some i ∧ i.zero = z ∧ i.size = a ∧ i.bytes = b := by
  obtain ⟨i, hi, he⟩ := Option.map_eq_some_iff.1 h
  simp only [Prod.mk.injEq] at he
  exact ⟨i, hi, he.1, he.2.1, he.2.2⟩
/-- 'words = append(words, word)', the word just laid into a block of its own. -/
theorem wpList_add {ops : Array Oper} {rest : List Oper} {o : Oper} {a : Act} {Q : Exit → Act → World → Prop} {wX : World} (hgd : o.guard = none) (s x : Operand)
    (ho : o.op = .call { callee := .builtin .append, args := #[s, x], argTypes := #[42, 42] }) {w : World} {v : Value} {ws : List W} (hO : Outs w wX v ws) (hs : a.eval s = v) (y : W)
    {B : Nat} (hx : a.eval x = .slice (some ⟨B, 0, none⟩) 1 1) (hB : B = wX.heap.size) (hlen : ws.length ≤ 4096)
    (h : ∀ v' w', Outs w w' v' (ws ++ [y]) → wpList Tryz.prog ops Q rest (a.put o.dst v') w') : wpList Tryz.prog ops Q (o :: rest) a (wX.alloc (.cells #[.int .i64 y.kind, .string (ba y.text), .int .i64 y.n, .int .i64 y.pos] 57)) := by
  subst hB
  obtain ⟨i, hi, hz, hsz, hby⟩ := info_parts infoW
  have hO2 := hO.moved ((Below.refl _ _).alloc (Nat.le_refl _) (.cells #[.int .i64 y.kind, .string (ba y.text), .int .i64 y.n, .int .i64 y.pos] 57))
  refine wpList_append_own_at _ hgd s x 42 ho w.heap.size 57 i _ 4 40 Tryz.underlying42 hi hz hsz hby rfl (by decide) v ws.length (flat ws) hs hO2.own ⟨wX.heap.size, 0, none⟩ 1 1 [.int .i64 y.kind, .string (ba y.text), .int .i64 y.n, .int .i64 y.pos] hx rfl (cell_four_new _ _ _ _ _ _) (by simp [Value.oneCell']) (by unfold maxLen; omega) (by omega) hO2.bel.size ?_
  intro v' w' hown hg _ _
  exact h v' w' (hO2.add hown hg)
end Go.Proofs.YtlfeejjlcclbdaaGreatDoor

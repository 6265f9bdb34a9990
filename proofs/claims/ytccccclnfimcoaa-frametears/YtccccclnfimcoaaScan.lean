/-
  Slices of rows; the program's Scan: a contract.
-/
import Derived.Test.YtccccclnfimcoaaFirst
import Derived.Maps.AppendAt
import Derived.WalkMore
import Derived.ScopeJumps
namespace Go.Proofs.Ytccccclnfimcoaa
open Go.RowKit Crc
set_option linter.unusedVariables false

/-- A slice of rows of bytes that reads as rs. -/
def RowsV (w : World) (v : Value) (rs : List Row) : Prop :=
  ∃ a cap, v = .slice a rs.length cap ∧ (a = none → cap = 0) ∧ rs.length ≤ cap ∧ cap ≤ maxLen ∧ (rs = [] ∨ ∃ b off, a = some ⟨b, off, none⟩ ∧ ∀ i, i < rs.length → ∃ u, w.cell? ⟨b, off + i, none⟩ = some u ∧ ReadsV w u (rs.getD i []))

theorem RowsV.nil (w : World) : RowsV w (.slice none 0 0) [] := ⟨none, 0, rfl, fun _ => rfl, Nat.le_refl _, by decide, .inl rfl⟩
theorem RowsV.below {w w' : World} {v : Value} {rs : List Row} (h : RowsV w v rs) (hb : Below w.heap.size w w') : RowsV w' v rs := by
  obtain ⟨a, cap, h1, h2, h3, h4, h5⟩ := h
  refine ⟨a, cap, h1, h2, h3, h4, ?_⟩
  rcases h5 with h5 | ⟨b, off, ha, hc⟩
  · exact .inl h5
  · refine .inr ⟨b, off, ha, fun i hi => ?_⟩
    obtain ⟨u, hu, hr⟩ := hc i hi
    exact ⟨u, (hb.cell (p := ⟨b, off + i, none⟩) (World.block_lt_of_cell? w _ hu)).trans hu, hr.below hb⟩
theorem RowsV.cells {w : World} {a : Option Addr} {n c : Nat} {rs : List Row} (h : RowsV w (.slice a n c) rs) (hp : 0 < n) : ∃ b off, a = some ⟨b, off, none⟩ ∧ b < w.heap.size ∧ ∀ i, i < n → ∃ ua uc, w.cell? ⟨b, off + i, none⟩ = some (.slice ua (rs.getD i []).length uc) ∧ ReadsV w (.slice ua (rs.getD i []).length uc) (rs.getD i []) := by
  obtain ⟨a', c', hv, _, _, _, hr⟩ := h
  simp only [Value.slice.injEq] at hv
  obtain ⟨rfl, hl, rfl⟩ := hv
  rcases hr with h0 | ⟨b, off, ha, hc⟩
  · subst h0; simp at hl; omega
  · refine ⟨b, off, ha, ?_, fun i hi => ?_⟩
    · obtain ⟨u, hu, _⟩ := hc 0 (by omega)
      exact World.block_lt_of_cell? w _ hu
    · obtain ⟨u, hu, hr⟩ := hc i (by omega)
      obtain ⟨ua, uc, rfl, _⟩ := id hr
      exact ⟨ua, uc, hu, hr⟩
theorem RowsV.len {w : World} {a : Option Addr} {n c : Nat} {rs : List Row} (h : RowsV w (.slice a n c) rs) : rs.length = n ∧ n ≤ c ∧ c ≤ maxLen ∧ (a = none → c = 0) := by
  obtain ⟨a', c', hv, h1, h2, h3, _⟩ := h
  simp only [Value.slice.injEq] at hv
  obtain ⟨rfl, hl, rfl⟩ := hv
  exact ⟨hl.symm, by omega, h3, h1⟩
theorem RowsV.of_own {w : World} {base : Nat} {v : Value} {rs : List Row} {vals : List Value} (h : w.ownsRow base 22 1 v rs.length vals) (hr : ∀ i, i < rs.length → ReadsV w (vals.getD i undef) (rs.getD i [])) : RowsV w v rs := by
  have hh := h
  have hl := h.1
  rcases h.2 with ⟨rfl, h0⟩ | ⟨g, cap, cur, rfl, _, _, hnc, hcm, _, _⟩
  · have : rs = [] := List.length_eq_zero_iff.1 h0
    subst this
    exact RowsV.nil w
  · refine ⟨some ⟨g, 0, none⟩, cap, rfl, (fun h => by cases h), hnc, hcm, .inr ⟨g, 0, rfl, fun i hi => ?_⟩⟩
    refine ⟨vals.getD i undef, ?_, hr i hi⟩
    rw [Nat.zero_add, hh.cellAt i (by omega), List.getD, List.getElem?_eq_getElem (by omega)]
    rfl
theorem RowsV.front {w : World} {a : Option Addr} {n c m : Nat} {rs : List Row} (h : RowsV w (.slice a n c) rs) (hm : m ≤ n) : RowsV w (.slice a m c) (rs.take m) := by
  obtain ⟨a', c', hv, h1, h2, h3, h4⟩ := h
  simp only [Value.slice.injEq] at hv
  obtain ⟨rfl, rfl, rfl⟩ := hv
  have hl : (rs.take m).length = m := by simp; omega
  refine ⟨a, c, by rw [hl], h1, by omega, h3, ?_⟩
  rcases h4 with h0 | ⟨b, off, ha, hc⟩
  · left; rw [h0]; simp
  · right
    refine ⟨b, off, ha, fun i hi => ?_⟩
    rw [hl] at hi
    obtain ⟨u, hu, hr⟩ := hc i (by omega)
    refine ⟨u, hu, ?_⟩
    have : (rs.take m).getD i [] = rs.getD i [] := by simp [List.getD, hi]
    rwa [this]
theorem RowsV.back {w : World} {a : Option Addr} {n c k : Nat} {rs : List Row} (h : RowsV w (.slice a n c) rs) (hk : k ≤ n) : RowsV w (.slice (if c = k then a else a.map (·.add k)) (n - k) (c - k)) (rs.drop k) := by
  obtain ⟨a', c', hv, h1, h2, h3, h4⟩ := h
  simp only [Value.slice.injEq] at hv
  obtain ⟨rfl, rfl, rfl⟩ := hv
  have hl : (rs.drop k).length = rs.length - k := by simp
  refine ⟨_, c - k, by rw [hl], ?_, by omega, by omega, ?_⟩
  · intro e
    split at e
    · omega
    · have := h1 (by cases a with
        | none => rfl
        | some _ => simp at e)
      omega
  · rcases h4 with h0 | ⟨b, off, ha, hc⟩
    · left; rw [h0]; simp
    · by_cases hck : c = k
      · left; exact List.drop_of_length_le (by omega)
      · right
        subst ha
        refine ⟨b, off + k, by rw [if_neg hck]; simp [add_plain], fun i hi => ?_⟩
        rw [hl] at hi
        obtain ⟨u, hu, hr⟩ := hc (k + i) (by omega)
        refine ⟨u, by rw [Nat.add_assoc]; exact hu, ?_⟩
        have : (rs.drop k).getD i [] = rs.getD (k + i) [] := by simp [List.getD]
        rwa [this]

theorem recds_many (rs : List Row) : 8 * rs.length ≤ (recds rs).length := by
  induction rs with
  | nil => simp [recds]
  | cons x rs ih => simp [recds, recd_len]; omega

/-- What holds when Scan has come to byte k. -/
def ScanI (w wr : World) (l : Row) (vr : Value) (k : Nat) : Prop :=
  Below w.heap.size w wr ∧ ∃ (rs : List Row) (vals : List Value) (t : Row), (∀ r ∈ rs, r.length < 4294967296) ∧ l = recds rs ++ t ∧ k = (recds rs).length ∧ wr.ownsRow w.heap.size 22 1 vr rs.length vals ∧ ∀ i, i < rs.length → ReadsV w (vals.getD i undef) (rs.getD i [])
def ScanEnd (w w' : World) (l : Row) (e : Ending) : Prop := ∃ rs n a c, e = .returned (.tuple #[.slice a rs.length c, .int .i64 (n : Nat)]) ∧ Scans l rs n ∧ RowsV w' (.slice a rs.length c) rs ∧ Below w.heap.size w w'

theorem ScanI.start (w : World) (l : Row) : ScanI w w l (.slice none 0 0) 0 := ⟨Below.refl _ _, [], [], l, by simp, by simp [recds], rfl, World.ownsRow_nil _ _ _ _, fun i hi => by simp at hi⟩
theorem ScanI.le {w wr : World} {l : Row} {vr : Value} {k : Nat} (h : ScanI w wr l vr k) : k ≤ l.length := by
  obtain ⟨_, rs, _, t, _, e, hk, _⟩ := h
  rw [e, List.length_append]; omega
theorem ScanI.finish {w wr w' : World} {l : Row} {vr : Value} {k : Nat} (h : ScanI w wr l vr k) (hn : NoFirst (l.drop k)) (hB : Below wr.heap.size wr w') : ScanEnd w w' l (.returned (.tuple #[vr, .int .i64 k])) := by
  obtain ⟨hb, rs, vals, t, hs, e, hk, ho, hr⟩ := h
  have hbw : Below w.heap.size w w' := hb.trans (hB.mono hb.size)
  have ht : l.drop k = t := by rw [e, hk, List.drop_left]
  rw [ht] at hn
  have ho' : w'.ownsRow w.heap.size 22 1 vr rs.length vals := by
    refine ⟨ho.1, ?_⟩
    rcases ho.2 with h | ⟨g, cap, cur, hv, hg, hh, rest⟩
    · exact .inl h
    · exact .inr ⟨g, cap, cur, hv, hg, (hB.block g (Array.getElem?_eq_some_iff.1 hh).1).trans hh, rest⟩
  have hR := RowsV.of_own ho' (fun i hi => (hr i hi).below hbw)
  obtain ⟨a, c, hv, _⟩ := id hR
  subst hv
  exact ⟨rs, k, a, c, rfl, ⟨hs, ⟨t, e, hn⟩, hk⟩, hR, hbw⟩
theorem ScanI.next {w wr w1 w' : World} {l r : Row} {vr v1 vr' : Value} {k : Nat} (h : ScanI w wr l vr k) (hf : First (l.drop k) r) (hr1 : ReadsV w v1 r) (hB : Below w.heap.size w w')
    (ho : ∀ (rs : List Row) (vals : List Value), rs.length = vals.length → wr.ownsRow w.heap.size 22 1 vr rs.length vals → w'.ownsRow w.heap.size 22 1 vr' (rs.length + 1) (vals ++ [v1])) : ScanI w w' l vr' (k + (8 + r.length)) := by
  obtain ⟨hb, rs, vals, t, hs, e, hk, how, hr⟩ := h
  have ht : l.drop k = t := by rw [e, hk, List.drop_left]
  rw [ht] at hf
  obtain ⟨hlt, t', e'⟩ := hf
  have hl : vals.length = rs.length := by have := how.1; omega
  refine ⟨hB, rs ++ [r], vals ++ [v1], t', ?_, ?_, ?_, ?_, ?_⟩
  · intro x hx
    rcases List.mem_append.1 hx with hx | hx
    · exact hs x hx
    · simp at hx; subst hx; exact hlt
  · rw [recds_append, recds_one, e, e', List.append_assoc]
  · rw [recds_append, recds_one, List.length_append, recd_len, hk]
  · have := ho rs vals hl.symm how
    simpa using this
  · intro i hi
    rw [List.length_append] at hi
    by_cases hi2 : i < rs.length
    · have e1 : (vals ++ [v1]).getD i undef = vals.getD i undef := by simp [List.getD, List.getElem?_append_left (show i < vals.length by omega)]
      have e2 : (rs ++ [r]).getD i [] = rs.getD i [] := by simp [List.getD, List.getElem?_append_left hi2]
      rw [e1, e2]; exact hr i hi2
    · have hi3 : i = rs.length := by simp at hi; omega
      have e1 : (vals ++ [v1]).getD i undef = v1 := by subst hi3; rw [← hl]; simp [List.getD]
      have e2 : (rs ++ [r]).getD i [] = r := by subst hi3; simp [List.getD]
      rw [e1, e2]; exact hr1

end Go.Proofs.Ytccccclnfimcoaa

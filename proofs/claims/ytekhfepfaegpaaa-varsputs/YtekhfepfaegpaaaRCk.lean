/-
  light; the document's Check, Texts and Same: contracts.
-/
import Derived.Test.YtekhfepfaegpaaaTake
namespace Go.Proofs.Ytekhfepfaegpaaa
open Go.RowKit Pack
set_option linter.unusedVariables false

def lightM (ns : List ByteArray) (vs : List Int) : Bool := decide (ns.length ≤ 200 ∧ vs.length ≤ 200 ∧ ∀ i, i < ns.length → (ns.getD i emp).size ≤ 60)
theorem light_sz {ns : List ByteArray} {vs : List Int} (h : lightM ns vs = true) : ns.length ≤ 200 ∧ vs.length ≤ 200 ∧ ∀ n ∈ ns, n.size ≤ 60 := by
  unfold lightM at h
  obtain ⟨h1, h2, h3⟩ := of_decide_eq_true h
  refine ⟨h1, h2, fun n hn => ?_⟩
  obtain ⟨i, hi, rfl⟩ := List.getElem_of_mem hn
  have := h3 i hi
  rwa [List.getD_eq_getElem?_getD, List.getElem?_eq_getElem hi] at this
set_option maxRecDepth 100000 in
set_option maxHeartbeats 1000000 in
theorem light_any (ns : List ByteArray) (vs : List Int) (v : Value) (w : World) (hv : RdV w v ns vs) (hs : ∀ n ∈ ns, n.size ≤ 9223372036854775807) : Calls Try.prog 8 #[v] w fun e w' => e = .returned (.bool (lightM ns vs)) ∧ Below w.heap.size w w' := by
  obtain ⟨sn, sv, rfl, h1, h2⟩ := hv
  obtain ⟨a, c, rfl⟩ := h1.form
  obtain ⟨b, d, rfl⟩ := h2.form
  obtain ⟨_, hnc, hcm, _, hcell⟩ := h1.at
  obtain ⟨_, hnd, hdm, _, _⟩ := h2.at
  simp only [strsV_len, intsV_len] at *
  have HC : Hid (∀ i, i < ns.length → ∃ b off, a = some ⟨b, off, none⟩ ∧ b < w.heap.size ∧ w.cell? ⟨b, off + i, none⟩ = some (.string (ns.getD i emp)) ∧ (ns.getD i emp).size ≤ 9223372036854775807) := fun i hi => by
    obtain ⟨b, off, q1, q2, q3⟩ := hcell i _ (strsV_at hi)
    exact ⟨b, off, q1, q2, q3, hs _ (getD_mem hi)⟩
  obtain ⟨R, HR⟩ : ∃ R, Hid (lightM ns vs = R) := ⟨_, rfl⟩
  rw [HR.out]
  have HT : Hid (∀ w', Below (w.alloc (.cells #[.slice a ns.length c, .slice b vs.length d] 25)).heap.size (w.alloc (.cells #[.slice a ns.length c, .slice b vs.length d] 25)) w' → Two w' w.heap.size (.slice a ns.length c) (.slice b vs.length d)) := fun w' hb => (Two.new w _ _ 25).below hb
  clear h1 h2 hcell hs
  by_cases hn : ns.length ≤ 200
  · by_cases hm : vs.length ≤ 200
    · have HY : Hid ((∀ i, i < ns.length → (ns.getD i emp).size ≤ 60) → R = true) := fun h => HR.out.symm.trans (decide_eq_true ⟨hn, hm, h⟩)
      have HN : Hid (∀ i, i < ns.length → 60 < (ns.getD i emp).size → R = false) := fun i hi h => HR.out.symm.trans (decide_eq_false fun q => by have := q.2.2 i hi; omega)
      generalize ns.length = N at *
      generalize vs.length = M at *
      go_enter Try.func8, Try.ntmps8
      go_wp2
      go_loopw [3] (fun s3 wr => ∃ i : Nat, i ≤ N ∧ s3 = .int .i64 i ∧ Hid (∀ t, t < i → (ns.getD t emp).size ≤ 60) ∧ Hid (Below (w.alloc (.cells #[.slice a N c, .slice b M d] 25)).heap.size (w.alloc (.cells #[.slice a N c, .slice b M d] 25)) wr)) (fun s3 _ => N - (intOf s3).toNat)
      case atStart => exact ⟨0, Nat.zero_le _, rfl, fun t ht => by omega, Below.refl _ _⟩
      case round =>
        obtain ⟨i, hi, rfl, HI, HB⟩ := hrel
        obtain ⟨t4, t0, t1, t2, t3⟩ := HT.out _ HB.out
        by_cases hlt : i < N
        · obtain ⟨g, off, rfl, hg, hc, hsz⟩ := HC.out i hlt
          have cm := (HB.out.cell (p := ⟨g, off + i, none⟩) (Nat.lt_of_lt_of_le hg (le_alloc _ _))).trans ((((Below.refl w.heap.size w).alloc (Nat.le_refl _) _).cell (p := ⟨g, off + i, none⟩) hg).trans hc)
          have HN2 : Hid (60 < (ns.getD i emp).size → R = false) := HN.out i hlt
          have HI2 : Hid ((ns.getD i emp).size ≤ 60 → ∀ t, t < i + 1 → (ns.getD t emp).size ≤ 60) := fun h t ht => by
            rcases Nat.lt_or_ge t i with h1 | h1
            · exact HI.out t h1
            · rw [show t = i by omega]; exact h
          have HB2 := HB
          clear HC hc HN HY HI HB
          generalize ns.getD i emp = y at *
          by_cases h60 : y.size ≤ 60
          · have HI3 : Hid _ := HI2.out h60
            clear HI2 HN2
            go_wp2
            go_roundw
            case rel => exact ⟨i + 1, by omega, by go_num, HI3, HB2⟩
            case measure => simp [intOf]; omega
          · have HE : Hid (R = false) := HN2.out (by omega)
            clear HI2 HN2
            go_wp2
            go_ret
            exact ⟨by rw [HE.out]; rfl, ((Below.refl _ _).alloc (Nat.le_refl _) _).trans (HB2.out.mono (le_alloc _ _))⟩
        · have e : i = N := by omega
          have e' : N = i := e.symm
          clear e
          subst e'
          have HE : Hid (R = true) := HY.out HI.out
          have HB2 := HB
          clear HC HN HY HI HB
          go_wp2
          go_ret
          exact ⟨by rw [HE.out]; rfl, ((Below.refl _ _).alloc (Nat.le_refl _) _).trans (HB2.out.mono (le_alloc _ _))⟩
    · have HE : Hid (R = false) := HR.out.symm.trans (decide_eq_false fun h => hm h.2.1)
      clear HC HT
      generalize ns.length = N at *
      generalize vs.length = M at *
      go_enter Try.func8, Try.ntmps8
      go_wp2
      go_ret
      exact ⟨by rw [HE.out]; rfl, (Below.refl _ _).alloc (Nat.le_refl _) _⟩
  · have HE : Hid (R = false) := HR.out.symm.trans (decide_eq_false fun h => hn h.1)
    clear HC HT
    generalize ns.length = N at *
    generalize vs.length = M at *
    go_enter Try.func8, Try.ntmps8
    go_wp2
    go_ret
    exact ⟨by rw [HE.out]; rfl, (Below.refl _ _).alloc (Nat.le_refl _) _⟩
end Go.Proofs.Ytekhfepfaegpaaa

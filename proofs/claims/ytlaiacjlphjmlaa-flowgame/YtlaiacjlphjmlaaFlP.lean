/-
  Layer 12, flow: what a balanced definition's shape tells (12.6).
-/
import Derived.Test.YtlaiacjlphjmlaaFlZ
import Derived.Test.YtlaiacjlphjmlaaFwG
namespace Go.Proofs.Ytlaiacjlphjmlaa
set_option linter.unusedVariables false

theorem place_ok {d : Df} (h : checkD d = 0) {i : Nat} (hi : i < d.places.length) : placeM (d.places.getD i zeroP) i d.places.length = 0 := by
  unfold checkD at h
  split at h
  · cases h
  · split at h
    · cases h
    · split at h
      · cases h
      · have := firstIx_zero h i hi
        rw [Nat.zero_add] at this
        exact this
theorem kind_start {d : Df} (h : checkD d = 0) {i : Nat} (hi : i < d.places.length) : kindP d.places i = 1 ↔ i = 0 := by
  have := place_ok h hi
  unfold placeM at this
  split at this
  · rename_i q; exact absurd this q
  · split at this
    · cases this
    · rename_i q
      have e : decide ((d.places.getD i zeroP).kind = 1) = decide (i = 0) := by
        by_cases h1 : decide ((d.places.getD i zeroP).kind = 1) = decide (i = 0)
        · exact h1
        · exact absurd h1 q
      unfold kindP
      constructor
      · intro hk; rw [decide_eq_true hk] at e; exact of_decide_eq_true e.symm
      · intro hk; rw [decide_eq_true hk] at e; exact of_decide_eq_true e
theorem fields_ok {d : Df} (h : checkD d = 0) {i : Nat} (hi : i < d.places.length) : fieldsM (d.places.getD i zeroP) = 0 := by
  have := place_ok h hi
  unfold placeM at this
  split at this
  · rename_i q; exact absurd this q
  · rename_i q; simpa using q
theorem outs_ok {d : Df} (h : checkD d = 0) {i : Nat} (hi : i < d.places.length) : leastK (kindP d.places i) ≤ (outP d.places i).length ∧ (outP d.places i).length ≤ mostK (kindP d.places i) := by
  have := fields_ok h hi
  unfold fieldsM at this
  unfold kindP outP
  repeat' (split at this)
  all_goals first
    | (cases this; done)
    | skip
  rename_i q
  constructor <;> omega
/-- What a balanced definition's shape tells. -/
structure Bal (ps : List Pl) (n : Nat) (s : Fs) : Prop where
  ok : Fok n s
  come : ∀ i, i < n → s.cm.getD i false = true
  ch : ∀ i, i < n → (s.fk.getD i 0 = 0 ∧ s.dp.getD i 0 = 0) ∨ (s.fk.getD i 0 ≠ 0 ∧ kindP ps (s.fk.getD i 0) = 4 ∧ s.dp.getD i 0 = s.dp.getD (s.fk.getD i 0) 0 + 1)
  jn : ∀ i, i < n → (s.jn.getD i 0 ≠ 0 ↔ kindP ps i = 4)
  join : ∀ i, i < n → kindP ps i = 4 → kindP ps (s.jn.getD i 0) = 5 ∧ s.fk.getD (s.jn.getD i 0) 0 = i
  edge : ∀ i, i < n → ∀ x ∈ outP ps i, s.fk.getD x.to.toNat 0 = nextF ps s i
  j5 : ∀ i, i < n → kindP ps i = 5 → s.fk.getD i 0 ≠ 0 ∧ s.jn.getD (s.fk.getD i 0) 0 = i
  e8 : ∀ i, i < n → kindP ps i = 8 → s.fk.getD i 0 = 0
  z : s.fk.getD 0 0 = 0
theorem of_bal {d : Df} (h : checkD d = 0) (h0 : ofE d = 0) : Bal d.places d.places.length (ofS d) := by
  have hn := (def_facts h).pos
  have hk0 : kindP d.places 0 = 1 := (kind_start h hn).mpr rfl
  have hto : ∀ p, p < d.places.length → ∀ x ∈ outP d.places p, x.to.toNat < d.places.length := fun p hp x hx => (flows_in h p hp x hx).2
  have ht : throughS d.places (beginS d.places.length) = 0 := by
    unfold ofE at h0; rw [if_neg (by omega)] at h0; exact h0
  unfold throughS at ht
  have hg : (goS d.places (d.places.length + 1) 0 (beginS d.places.length)).1 = 0 := by
    split at ht
    · cases ht
    · exact ht
  have hw : wholeS d.places (ofS d) = true := by
    by_cases q : wholeS d.places (ofS d) = false
    · rw [if_pos ⟨hg, q⟩] at ht; cases ht
    · simpa using q
  have hf := Fin.go hk0 hto (d.places.length + 1) 0 _ (Fin.begin hn) (by omega) hg
  have hf' : Fin d.places d.places.length (ofS d).od.length (ofS d).od.length (ofS d) := hf
  clear hf
  generalize ofS d = s at *
  have hb : ∀ i, i < d.places.length → badAt d.places s i = false := fun i hi => by
    unfold wholeS at hw
    rw [List.all_eq_true] at hw
    have := hw i (List.mem_range.mpr hi)
    simpa using this
  have hc : ∀ i, i < d.places.length → s.cm.getD i false = true ∧ (kindP d.places i = 4 → s.jn.getD i 0 ≠ 0) := fun i hi => by
    have := hb i hi
    unfold badAt at this
    rw [Bool.or_eq_false_iff] at this
    refine ⟨by simpa using this.1, fun hk hj => ?_⟩
    rw [decide_eq_true hk, decide_eq_true hj] at this
    exact absurd this.2 (by decide)
  have hlf : ∀ i, i < d.places.length → ∃ j, j < s.od.length ∧ s.od.getD j 0 = i := fun i hi => by
    obtain ⟨j, hj, e⟩ := List.getElem_of_mem ((hf'.mem i).mp (hc i hi).1)
    exact ⟨j, hj, by rw [List.getD_eq_getElem?_getD, List.getElem?_eq_getElem hj]; exact e⟩
  refine ⟨hf'.ok, fun i hi => (hc i hi).1, fun i hi => ?_, fun i hi => ⟨fun q => (hf'.jn i q).1, (hc i hi).2⟩, fun i hi hk => ?_, fun i hi x hx => ?_, fun i hi hk => ?_, fun i hi hk => ?_, hf'.z.2.1⟩
  · rcases hf'.ch i (hc i hi).1 with q | ⟨q1, q2, _, q4⟩
    · exact .inl q
    · exact .inr ⟨q1, q2, q4⟩
  · obtain ⟨_, b, _, e, _⟩ := hf'.jn i ((hc i hi).2 hk)
    exact ⟨b, e⟩
  · obtain ⟨j, hj, rfl⟩ := hlf i hi
    exact ((hf'.left j hj).1 x hx).2
  · obtain ⟨j, hj, rfl⟩ := hlf i hi
    exact (hf'.left j hj).2.1 hk
  · obtain ⟨j, hj, rfl⟩ := hlf i hi
    exact (hf'.left j hj).2.2 hk
end Go.Proofs.Ytlaiacjlphjmlaa

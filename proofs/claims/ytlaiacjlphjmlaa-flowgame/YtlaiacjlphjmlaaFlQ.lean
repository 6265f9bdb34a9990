/-
  Layer 12, flow: the forks about a place, all of them, as the document walks them.
-/
import Derived.Test.YtlaiacjlphjmlaaFlZ
namespace Go.Proofs.Ytlaiacjlphjmlaa
set_option linter.unusedVariables false

def chainF (fk : List Nat) : Nat → Nat → List Nat
  | 0, _ => []
  | k + 1, p => if fk.getD p 0 = 0 then [] else chainF fk k (fk.getD p 0) ++ [fk.getD p 0]
/-- The forks within which a place lies, the outermost first. -/
def chain (s : Fs) (p : Nat) : List Nat := chainF s.fk (s.dp.getD p 0) p
/-- The forks within which what lies within f lies. -/
def inn (s : Fs) (f : Nat) : List Nat := if f = 0 then [] else chain s f ++ [f]
section
variable {ps : List Pl} {n k kj : Nat} {s s' : Fs}
theorem chain_eq (h : Fin ps n k kj s) {i : Nat} (hi : s.cm.getD i false = true) : chain s i = inn s (s.fk.getD i 0) := by
  unfold inn
  rcases h.ch i hi with ⟨h1, h2⟩ | ⟨h1, _, _, h4⟩
  · rw [if_pos h1]; unfold chain; rw [h2]; rfl
  · rw [if_neg h1]
    show chainF s.fk (s.dp.getD i 0) i = _
    rw [h4, chainF, if_neg h1]
    rfl
theorem chain_len (h : Fin ps n k kj s) : ∀ (m i : Nat), s.dp.getD i 0 = m → s.cm.getD i false = true → (chain s i).length = m
  | 0, i, hm, hi => by unfold chain; rw [hm]; rfl
  | m + 1, i, hm, hi => by
    rcases h.ch i hi with ⟨h1, h2⟩ | ⟨h1, h2, h3, h4⟩
    · omega
    · rw [chain_eq h hi]
      unfold inn
      rw [if_neg h1, List.length_append, chain_len h m _ (by omega) h3]
      rfl
theorem inn_len (h : Fin ps n k kj s) {f : Nat} (hg : Good ps s f) : (inn s f).length = deepS s f := by
  unfold inn deepS
  rcases hg with rfl | ⟨h1, _, h3⟩
  · rfl
  · rw [if_neg h1, if_pos h1, List.length_append, chain_len h _ _ rfl h3]; rfl
theorem chain_gro (h : Fin ps n k kj s) (g : Gro s s') : ∀ (m i : Nat), s.dp.getD i 0 = m → s.cm.getD i false = true → chain s' i = chain s i
  | 0, i, hm, hi => by
    have := g.k i hi
    unfold chain; rw [this.2.2, hm]; rfl
  | m + 1, i, hm, hi => by
    obtain ⟨g1, g2, g3⟩ := g.k i hi
    rcases h.ch i hi with ⟨h1, h2⟩ | ⟨h1, h2, h3, h4⟩
    · omega
    · have e := chain_gro h g m (s.fk.getD i 0) (by omega) h3
      have e1 : chain s' i = chain s' (s.fk.getD i 0) ++ [s.fk.getD i 0] := by
        show chainF s'.fk (s'.dp.getD i 0) i = _
        rw [g3, h4, chainF, g2, if_neg h1]
        have : s'.dp.getD (s.fk.getD i 0) 0 = s.dp.getD (s.fk.getD i 0) 0 := (g.k _ h3).2.2
        rw [← this]; rfl
      rw [e1, e, chain_eq h hi]
      unfold inn; rw [if_neg h1]
theorem inn_gro (h : Fin ps n k kj s) (g : Gro s s') {f : Nat} (hg : Good ps s f) : inn s' f = inn s f := by
  unfold inn
  rcases hg with rfl | ⟨h1, _, h3⟩
  · rfl
  · rw [if_neg h1, if_neg h1, chain_gro h g _ _ rfl h3]
theorem inn_inj {f g : Nat} (h : inn s f = inn s g) : f = g := by
  unfold inn at h
  by_cases hf : f = 0
  · by_cases hg : g = 0
    · omega
    · rw [if_pos hf, if_neg hg] at h; simp at h
  · by_cases hg : g = 0
    · rw [if_neg hf, if_pos hg] at h; simp at h
    · rw [if_neg hf, if_neg hg] at h
      have := congrArg List.getLast? h
      simpa using this
theorem inn_last {f : Nat} (h : f ≠ 0) : (inn s f).getLast? = some f := by unfold inn; rw [if_neg h]; simp
theorem inn_drop {f : Nat} (h : f ≠ 0) : (inn s f).dropLast = chain s f := by unfold inn; rw [if_neg h]; simp
theorem inn_nil {f : Nat} : inn s f = [] ↔ f = 0 := by
  unfold inn
  by_cases h : f = 0
  · rw [if_pos h]; exact ⟨fun _ => h, fun _ => rfl⟩
  · rw [if_neg h]; exact ⟨fun q => by simp at q, fun q => absurd q h⟩
end
/-- The forks behind a place; false: it may not stand there. -/
def afterL (k : Int) (p : Nat) (l : List Nat) : List Nat × Bool :=
  if k = 4 then (l ++ [p], true) else if k = 5 then (if l = [] then ([], false) else (l.dropLast, true)) else if k = 8 then ([], decide (l = [])) else (l, true)
/-- What is known behind the walker's leaving, by the document's own words. -/
theorem leave_after {ps : List Pl} {n k : Nat} {s : Fs} (hk0 : kindP ps 0 = 1) (h : Fin ps n k k s) (hnd : s.od.Nodup) (hk : k < s.od.length) {p : Nat} (hp : s.od.getD k 0 = p) :
    ((leaveS ps s p).2.1 = 0 → (afterL (kindP ps p) p (chain s p)).2 = true ∧ (afterL (kindP ps p) p (chain s p)).1 = inn s (leaveS ps s p).1 ∧ Good ps s (leaveS ps s p).1 ∧
      ((kindP ps p ≠ 5 ∧ (leaveS ps s p).2.2 = s) ∨ (kindP ps p = 5 ∧ s.fk.getD p 0 ≠ 0 ∧ s.jn.getD (s.fk.getD p 0) 0 = 0 ∧ (leaveS ps s p).2.2 = ⟨s.fk, s.dp, s.jn.set (s.fk.getD p 0) p, s.cm, s.od⟩))) ∧
    ((leaveS ps s p).2.1 ≠ 0 → (leaveS ps s p).2.1 = 8 ∧ ((afterL (kindP ps p) p (chain s p)).2 = false ∨ (kindP ps p = 5 ∧ s.fk.getD p 0 ≠ 0 ∧ s.jn.getD (s.fk.getD p 0) 0 ≠ 0 ∧ s.jn.getD (s.fk.getD p 0) 0 ≠ p ∧ (afterL (kindP ps p) p (chain s p)).2 = true))) := by
  have hc : s.cm.getD p false = true := by rw [← hp]; exact h.odc hk
  have hch := chain_eq h hc
  have hgf : Good ps s (s.fk.getD p 0) := by
    rcases h.ch p hc with ⟨q, _⟩ | ⟨q1, q2, q3, _⟩
    · exact .inl q
    · exact .inr ⟨q1, q2, q3⟩
  by_cases h8 : kindP ps p = 8
  · by_cases hz : s.fk.getD p 0 = 0
    · have hn : chain s p = [] := by rw [hch, hz]; rfl
      have eL : leaveS ps s p = (0, 0, s) := by unfold leaveS; rw [if_pos h8, if_neg (fun q => q hz), hz]
      have eA : afterL (kindP ps p) p (chain s p) = ([], true) := by unfold afterL; rw [hn, h8, if_neg (by decide), if_neg (by decide), if_pos rfl]; rfl
      rw [eL, eA]
      exact ⟨fun _ => ⟨rfl, rfl, .inl rfl, .inl ⟨by rw [h8]; decide, rfl⟩⟩, fun q => absurd rfl q⟩
    · have eL : leaveS ps s p = (0, 8, s) := by unfold leaveS; rw [if_pos h8, if_pos hz]
      have hnn : ¬ chain s p = [] := by rw [hch]; exact fun q => hz (inn_nil.mp q)
      have eA : (afterL (kindP ps p) p (chain s p)).2 = false := by
        unfold afterL; rw [h8, if_neg (by decide), if_neg (by decide), if_pos rfl]; exact decide_eq_false hnn
      rw [eL, eA]
      exact ⟨fun q => (by cases q), fun _ => ⟨rfl, .inl rfl⟩⟩
  · by_cases h4 : kindP ps p = 4
    · have hp0 : p ≠ 0 := fun e => by rw [e, hk0] at h4; cases h4
      have eL : leaveS ps s p = (p, 0, s) := by unfold leaveS; rw [if_neg h8, if_pos h4]
      have eA : afterL (kindP ps p) p (chain s p) = (chain s p ++ [p], true) := by unfold afterL; rw [if_pos h4]
      rw [eL, eA]
      refine ⟨fun _ => ⟨rfl, ?_, .inr ⟨hp0, h4, hc⟩, .inl ⟨by rw [h4]; decide, rfl⟩⟩, fun q => absurd rfl q⟩
      show chain s p ++ [p] = inn s p
      unfold inn; rw [if_neg hp0]
    · by_cases h5 : kindP ps p = 5
      · by_cases hz : s.fk.getD p 0 = 0
        · have hn : chain s p = [] := by rw [hch, hz]; rfl
          have eL : leaveS ps s p = (0, 8, s) := by unfold leaveS; rw [if_neg h8, if_neg h4, if_pos h5, if_pos (.inl hz)]
          have eA : afterL (kindP ps p) p (chain s p) = ([], false) := by unfold afterL; rw [if_neg h4, if_pos h5, if_pos hn]
          rw [eL, eA]
          exact ⟨fun q => (by cases q), fun _ => ⟨rfl, .inl rfl⟩⟩
        · have hnn : ¬ chain s p = [] := by rw [hch]; exact fun q => hz (inn_nil.mp q)
          have eA : afterL (kindP ps p) p (chain s p) = ((chain s p).dropLast, true) := by unfold afterL; rw [if_neg h4, if_pos h5, if_neg hnn]
          by_cases hj : s.jn.getD (s.fk.getD p 0) 0 = 0
          · have eL : leaveS ps s p = (s.fk.getD (s.fk.getD p 0) 0, 0, ⟨s.fk, s.dp, s.jn.set (s.fk.getD p 0) p, s.cm, s.od⟩) := by
              unfold leaveS; rw [if_neg h8, if_neg h4, if_pos h5, if_neg (fun q => q.elim hz (fun q => q hj))]
            rw [eL, eA]
            refine ⟨fun _ => ⟨rfl, ?_, ?_, .inr ⟨h5, hz, hj, rfl⟩⟩, fun q => absurd rfl q⟩
            · show (chain s p).dropLast = inn s (s.fk.getD (s.fk.getD p 0) 0)
              rw [hch, inn_drop hz, chain_eq h (h.fkc hc)]
            · rcases h.ch _ (h.fkc hc) with ⟨q, _⟩ | ⟨q1, q2, q3, _⟩
              · exact .inl q
              · exact .inr ⟨q1, q2, q3⟩
          · have eL : leaveS ps s p = (0, 8, s) := by unfold leaveS; rw [if_neg h8, if_neg h4, if_pos h5, if_pos (.inr hj)]
            rw [eL, eA]
            refine ⟨fun q => (by cases q), fun _ => ⟨rfl, .inr ⟨h5, hz, hj, fun e => ?_, rfl⟩⟩⟩
            obtain ⟨_, _, _, _, j, j1, j2⟩ := h.jn _ hj
            rw [e, ← hp] at j2
            have hjl : j < s.od.length := by omega
            simp only [List.getD_eq_getElem?_getD, List.getElem?_eq_getElem hjl, List.getElem?_eq_getElem hk, Option.getD_some] at j2
            exact (List.pairwise_iff_getElem.mp hnd j k hjl hk j1) j2
      · have eL : leaveS ps s p = (s.fk.getD p 0, 0, s) := by unfold leaveS; rw [if_neg h8, if_neg h4, if_neg h5]
        have eA : afterL (kindP ps p) p (chain s p) = (chain s p, true) := by unfold afterL; rw [if_neg h4, if_neg h5, if_neg h8]
        rw [eL, eA]
        exact ⟨fun _ => ⟨rfl, hch, hgf, .inl ⟨h5, rfl⟩⟩, fun q => absurd rfl q⟩
/-- No place is come to twice. -/
theorem enter_nodup {ps : List Pl} {n k kj : Nat} {s : Fs} (h : Fin ps n k kj s) (hn : s.od.Nodup) {p f d : Nat} (hc : s.cm.getD p false = false) : (s.enter p f d).od.Nodup := by
  show (s.od ++ [p]).Nodup
  rw [List.nodup_append]
  refine ⟨hn, by simp, fun a ha b hb => ?_⟩
  simp only [List.mem_singleton] at hb
  rintro rfl
  rw [hb, ← h.mem, hc] at ha
  cases ha
end Go.Proofs.Ytlaiacjlphjmlaa

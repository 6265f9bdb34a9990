/-
  Layer 12, flow: what a walk through places keeps, and what a balanced definition is.
-/
import Derived.Test.YtlaiacjlphjmlaaFlM
namespace Go.Proofs.Ytlaiacjlphjmlaa
section
set_option linter.unusedVariables false

theorem set_at {α : Type} {l : List α} {p : Nat} (hp : p < l.length) (x z : α) (i : Nat) : (l.set p x).getD i z = if p = i then x else l.getD i z := by
  simp only [List.getD_eq_getElem?_getD, List.getElem?_set]
  by_cases hk : p = i
  · subst hk; simp [hp]
  · simp [hk]
/-- The fork within which the flows of a place lead. -/
def nextF (ps : List Pl) (s : Fs) (p : Nat) : Nat := if kindP ps p = 4 then p else if kindP ps p = 5 then s.fk.getD (s.fk.getD p 0) 0 else s.fk.getD p 0
/-- What is known stays known. -/
structure Gro (s s' : Fs) : Prop where
  k : ∀ i, s.cm.getD i false = true → s'.cm.getD i false = true ∧ s'.fk.getD i 0 = s.fk.getD i 0 ∧ s'.dp.getD i 0 = s.dp.getD i 0
  od : ∀ j, j < s.od.length → s'.od.getD j 0 = s.od.getD j 0
  len : s.od.length ≤ s'.od.length
theorem Gro.refl (s : Fs) : Gro s s := ⟨fun i h => ⟨h, rfl, rfl⟩, fun j h => rfl, Nat.le_refl _⟩
theorem Gro.trans {a b c : Fs} (h : Gro a b) (g : Gro b c) : Gro a c :=
  ⟨fun i hi => by
    obtain ⟨h1, h2, h3⟩ := h.k i hi
    obtain ⟨g1, g2, g3⟩ := g.k i h1
    exact ⟨g1, g2.trans h2, g3.trans h3⟩, fun j hj => (g.od j (Nat.lt_of_lt_of_le hj h.len)).trans (h.od j hj), Nat.le_trans h.len g.len⟩
def Good (ps : List Pl) (s : Fs) (f : Nat) : Prop := f = 0 ∨ (f ≠ 0 ∧ kindP ps f = 4 ∧ s.cm.getD f false = true)
structure Fin (ps : List Pl) (n k kj : Nat) (s : Fs) : Prop where
  ok : Fok n s
  z : s.cm.getD 0 false = true ∧ s.fk.getD 0 0 = 0 ∧ s.dp.getD 0 0 = 0
  ch : ∀ i, s.cm.getD i false = true → (s.fk.getD i 0 = 0 ∧ s.dp.getD i 0 = 0) ∨ (s.fk.getD i 0 ≠ 0 ∧ kindP ps (s.fk.getD i 0) = 4 ∧ s.cm.getD (s.fk.getD i 0) false = true ∧ s.dp.getD i 0 = s.dp.getD (s.fk.getD i 0) 0 + 1)
  mem : ∀ i, s.cm.getD i false = true ↔ i ∈ s.od
  kle : k ≤ s.od.length
  kjl : kj ≤ s.od.length
  jn : ∀ i, s.jn.getD i 0 ≠ 0 → kindP ps i = 4 ∧ kindP ps (s.jn.getD i 0) = 5 ∧ s.cm.getD (s.jn.getD i 0) false = true ∧ s.fk.getD (s.jn.getD i 0) 0 = i ∧ ∃ j, j < kj ∧ s.od.getD j 0 = s.jn.getD i 0
  left : ∀ j, j < k → (∀ x ∈ outP ps (s.od.getD j 0), s.cm.getD x.to.toNat false = true ∧ s.fk.getD x.to.toNat 0 = nextF ps s (s.od.getD j 0)) ∧ (kindP ps (s.od.getD j 0) = 5 → s.fk.getD (s.od.getD j 0) 0 ≠ 0 ∧ s.jn.getD (s.fk.getD (s.od.getD j 0) 0) 0 = s.od.getD j 0) ∧ (kindP ps (s.od.getD j 0) = 8 → s.fk.getD (s.od.getD j 0) 0 = 0)
theorem Fin.fkc {ps : List Pl} {n k kj : Nat} {s : Fs} (h : Fin ps n k kj s) {i : Nat} (hi : s.cm.getD i false = true) : s.cm.getD (s.fk.getD i 0) false = true := by
  rcases h.ch i hi with ⟨q, _⟩ | ⟨_, _, q, _⟩
  · rw [q]; exact h.z.1
  · exact q
theorem Fin.odc {ps : List Pl} {n k kj : Nat} {s : Fs} (h : Fin ps n k kj s) {j : Nat} (hj : j < s.od.length) : s.cm.getD (s.od.getD j 0) false = true := by
  rw [h.mem, List.getD_eq_getElem?_getD, List.getElem?_eq_getElem hj]
  exact List.getElem_mem hj
theorem next_gro {ps : List Pl} {n k kj : Nat} {s s' : Fs} (h : Fin ps n k kj s) (g : Gro s s') {p : Nat} (hp : s.cm.getD p false = true) : nextF ps s' p = nextF ps s p := by
  unfold nextF
  split
  · rfl
  · split
    · rw [(g.k p hp).2.1, (g.k _ (h.fkc hp)).2.1]
    · exact (g.k p hp).2.1
theorem Fin.enter {ps : List Pl} {n k kj : Nat} {s : Fs} (h : Fin ps n k kj s) {p f : Nat} (hp : p < n) (hf : f < n) (hg : Good ps s f) (hd : deepS s f ≤ 16) (hc : s.cm.getD p false = false) :
    Fin ps n k kj (s.enter p f (deepS s f)) ∧ Gro s (s.enter p f (deepS s f)) ∧ (s.enter p f (deepS s f)).cm.getD p false = true ∧ (s.enter p f (deepS s f)).fk.getD p 0 = f := by
  have hp1 : p < s.fk.length := by rw [h.ok.fk]; exact hp
  have hp2 : p < s.dp.length := by rw [h.ok.dp]; exact hp
  have hp3 : p < s.cm.length := by rw [h.ok.cm]; exact hp
  have ec : ∀ i, (s.enter p f (deepS s f)).cm.getD i false = if p = i then true else s.cm.getD i false := fun i => set_at hp3 true false i
  have ef : ∀ i, (s.enter p f (deepS s f)).fk.getD i 0 = if p = i then f else s.fk.getD i 0 := fun i => set_at hp1 f 0 i
  have ed : ∀ i, (s.enter p f (deepS s f)).dp.getD i 0 = if p = i then deepS s f else s.dp.getD i 0 := fun i => set_at hp2 (deepS s f) 0 i
  have hne : ∀ i, s.cm.getD i false = true → p ≠ i := fun i hi e => by rw [← e, hc] at hi; cases hi
  have hG : Gro s (s.enter p f (deepS s f)) := by
    refine ⟨fun i hi => ?_, fun j hj => ?_, by simp [Fs.enter]⟩
    · rw [ec, ef, ed, if_neg (hne i hi), if_neg (hne i hi), if_neg (hne i hi)]; exact ⟨hi, rfl, rfl⟩
    · show (s.od ++ [p]).getD j 0 = _
      simp only [List.getD_eq_getElem?_getD]
      rw [List.getElem?_append_left hj]
  have hK := h.ok.enter hp hf hd hc
  refine ⟨⟨hK, ?_, fun i hi => ?_, fun i => ?_, Nat.le_trans h.kle hG.len, Nat.le_trans h.kjl hG.len, fun i hi => ?_, fun j hj => ?_⟩, hG, by rw [ec, if_pos rfl], by rw [ef, if_pos rfl]⟩
  · have := hG.k 0 h.z.1
    exact ⟨this.1, this.2.1.trans h.z.2.1, this.2.2.trans h.z.2.2⟩
  · by_cases hpi : p = i
    · subst hpi
      rw [ef, ed, if_pos rfl, if_pos rfl]
      rcases hg with rfl | ⟨g1, g2, g3⟩
      · exact .inl ⟨rfl, by unfold deepS; rw [if_neg (by omega)]⟩
      · refine .inr ⟨g1, g2, (hG.k f g3).1, ?_⟩
        rw [(hG.k f g3).2.2]
        unfold deepS; rw [if_pos g1]
    · rw [ec, if_neg hpi] at hi
      have h1 := hG.k i hi
      rw [h1.2.1, h1.2.2]
      rcases h.ch i hi with q | ⟨q1, q2, q3, q4⟩
      · exact .inl q
      · exact .inr ⟨q1, q2, (hG.k _ q3).1, by rw [(hG.k _ q3).2.2]; exact q4⟩
  · rw [ec]
    show _ ↔ i ∈ s.od ++ [p]
    rw [List.mem_append, List.mem_singleton, ← h.mem]
    by_cases hpi : p = i
    · rw [if_pos hpi]; exact ⟨fun _ => .inr hpi.symm, fun _ => rfl⟩
    · rw [if_neg hpi]; exact ⟨fun q => .inl q, fun q => q.resolve_right fun e => hpi e.symm⟩
  · obtain ⟨j1, j2, j3, j4, j, j5, j6⟩ := h.jn i hi
    have := hG.k _ j3
    exact ⟨j1, j2, this.1, this.2.1.trans j4, j, j5, (hG.od j (Nat.lt_of_lt_of_le j5 h.kjl)).trans j6⟩
  · have hjl := Nat.lt_of_lt_of_le hj h.kle
    have eo := hG.od j hjl
    have hcj := h.odc hjl
    obtain ⟨l1, l2, l3⟩ := h.left j hj
    rw [eo]
    refine ⟨fun x hx => ?_, fun hk => ?_, fun hk => ?_⟩
    · obtain ⟨a1, a2⟩ := l1 x hx
      have := hG.k _ a1
      exact ⟨this.1, by rw [this.2.1, a2, next_gro h hG hcj]⟩
    · rw [(hG.k _ hcj).2.1]; exact l2 hk
    · rw [(hG.k _ hcj).2.1]; exact l3 hk
theorem Fin.lead {ps : List Pl} {n k kj : Nat} {s : Fs} (h : Fin ps n k kj s) {p f : Nat} (hp : p < n) (hf : f < n) (hg : Good ps s f) (h0 : (leadS s p f).1 = 0) :
    Fin ps n k kj (leadS s p f).2 ∧ Gro s (leadS s p f).2 ∧ (leadS s p f).2.cm.getD p false = true ∧ (leadS s p f).2.fk.getD p 0 = f := by
  unfold leadS at h0 ⊢
  by_cases hc : s.cm.getD p false = true
  · rw [if_pos hc] at h0 ⊢
    by_cases hq : s.fk.getD p 0 ≠ f
    · rw [if_pos hq] at h0; cases h0
    · rw [if_neg hq]
      exact ⟨h, Gro.refl s, hc, by simpa using hq⟩
  · rw [if_neg hc] at h0 ⊢
    by_cases hd : 16 < deepS s f
    · rw [if_pos hd] at h0; cases h0
    · rw [if_neg hd]
      exact h.enter hp hf hg (by omega) (by simpa using hc)
theorem good_gro {ps : List Pl} {s s' : Fs} (g : Gro s s') {f : Nat} (h : Good ps s f) : Good ps s' f := by
  rcases h with h | ⟨h1, h2, h3⟩
  · exact .inl h
  · exact .inr ⟨h1, h2, (g.k f h3).1⟩
theorem Fin.leads {ps : List Pl} {n k kj f : Nat} (hf : f < n) : ∀ {l : List Fl} {s : Fs}, Fin ps n k kj s → (∀ x ∈ l, x.to.toNat < n) → Good ps s f → (leadsS f l s).1 = 0 →
    Fin ps n k kj (leadsS f l s).2 ∧ Gro s (leadsS f l s).2 ∧ ∀ x ∈ l, (leadsS f l s).2.cm.getD x.to.toNat false = true ∧ (leadsS f l s).2.fk.getD x.to.toNat 0 = f
  | [], s, h, _, _, _ => ⟨h, Gro.refl s, fun x hx => by cases hx⟩
  | y :: r, s, h, hl, hg, h0 => by
    have hy := hl y (List.mem_cons_self ..)
    unfold leadsS at h0 ⊢
    by_cases hz : (leadS s y.to.toNat f).1 ≠ 0
    · rw [if_pos hz] at h0; exact absurd h0 hz
    · rw [if_neg hz] at h0 ⊢
      obtain ⟨a1, a2, a3, a4⟩ := h.lead hy hf hg (by simpa using hz)
      obtain ⟨b1, b2, b3⟩ := Fin.leads hf a1 (fun x hx => hl x (List.mem_cons_of_mem _ hx)) (good_gro a2 hg) h0
      refine ⟨b1, a2.trans b2, fun x hx => ?_⟩
      rcases List.mem_cons.mp hx with rfl | hx
      · have := b2.k _ a3
        exact ⟨this.1, this.2.1.trans a4⟩
      · exact b3 x hx
end
section
set_option linter.unusedVariables false

theorem Fin.leave {ps : List Pl} {n k : Nat} {s : Fs} (hk0 : kindP ps 0 = 1) (h : Fin ps n k k s) (hk : k < s.od.length) (h0 : (leaveS ps s (s.od.getD k 0)).2.1 = 0) :
    Fin ps n k (k + 1) (leaveS ps s (s.od.getD k 0)).2.2 ∧ Gro s (leaveS ps s (s.od.getD k 0)).2.2 ∧ (leaveS ps s (s.od.getD k 0)).1 = nextF ps s (s.od.getD k 0) ∧ Good ps s (nextF ps s (s.od.getD k 0)) ∧
      (kindP ps (s.od.getD k 0) = 5 → s.fk.getD (s.od.getD k 0) 0 ≠ 0 ∧ (leaveS ps s (s.od.getD k 0)).2.2.jn.getD (s.fk.getD (s.od.getD k 0) 0) 0 = s.od.getD k 0) ∧ (kindP ps (s.od.getD k 0) = 8 → s.fk.getD (s.od.getD k 0) 0 = 0) := by
  have hc := h.odc hk
  have hlt : s.od.getD k 0 < n := by
    rw [List.getD_eq_getElem?_getD, List.getElem?_eq_getElem hk]; exact h.ok.odl _ (List.getElem_mem hk)
  generalize hp : s.od.getD k 0 = p at *
  have hw : Fin ps n k (k + 1) s := ⟨h.ok, h.z, h.ch, h.mem, h.kle, hk, fun i hi => by
    obtain ⟨a, b, c, d, j, e, f⟩ := h.jn i hi
    exact ⟨a, b, c, d, j, by omega, f⟩, h.left⟩
  have hgf : Good ps s (s.fk.getD p 0) := by
    rcases h.ch p hc with ⟨q, _⟩ | ⟨q1, q2, q3, _⟩
    · exact .inl q
    · exact .inr ⟨q1, q2, q3⟩
  unfold leaveS at h0 ⊢
  unfold nextF
  by_cases h8 : kindP ps p = 8
  · rw [if_pos h8] at h0 ⊢
    by_cases hf : s.fk.getD p 0 ≠ 0
    · rw [if_pos hf] at h0; cases h0
    · have n4 : ¬ kindP ps p = 4 := by rw [h8]; decide
      have n5 : ¬ kindP ps p = 5 := by rw [h8]; decide
      rw [if_neg hf, if_neg n4, if_neg n5]
      exact ⟨hw, Gro.refl s, rfl, hgf, fun q => by rw [h8] at q; exact absurd q (by decide), fun _ => by simpa using hf⟩
  · rw [if_neg h8] at h0 ⊢
    by_cases h4 : kindP ps p = 4
    · rw [if_pos h4, if_pos h4]
      refine ⟨hw, Gro.refl s, rfl, .inr ⟨fun e => ?_, h4, hc⟩, fun q => by rw [h4] at q; exact absurd q (by decide), fun q => absurd q h8⟩
      rw [e, hk0] at h4; exact absurd h4 (by decide)
    · rw [if_neg h4] at h0 ⊢
      rw [if_neg h4]
      by_cases h5 : kindP ps p = 5
      · rw [if_pos h5] at h0 ⊢
        rw [if_pos h5]
        by_cases hq : s.fk.getD p 0 = 0 ∨ s.jn.getD (s.fk.getD p 0) 0 ≠ 0
        · rw [if_pos hq] at h0; cases h0
        · rw [if_neg hq]
          have hf0 : s.fk.getD p 0 ≠ 0 := fun e => hq (.inl e)
          have hj0 : s.jn.getD (s.fk.getD p 0) 0 = 0 := by
            by_cases q : s.jn.getD (s.fk.getD p 0) 0 = 0
            · exact q
            · exact absurd (.inr q) hq
          have hfl : s.fk.getD p 0 < s.jn.length := by rw [h.ok.jn]; exact getD_mem_or h.ok.fkl (by omega)
          have ej : ∀ i, (s.jn.set (s.fk.getD p 0) p).getD i 0 = if s.fk.getD p 0 = i then p else s.jn.getD i 0 := fun i => set_at hfl p 0 i
          obtain ⟨g1, g2, g3⟩ : s.fk.getD p 0 ≠ 0 ∧ kindP ps (s.fk.getD p 0) = 4 ∧ s.cm.getD (s.fk.getD p 0) false = true := by
            rcases h.ch p hc with ⟨q, _⟩ | ⟨q1, q2, q3, _⟩
            · exact absurd q hf0
            · exact ⟨q1, q2, q3⟩
          have hok : Fok n ⟨s.fk, s.dp, s.jn.set (s.fk.getD p 0) p, s.cm, s.od⟩ := by
            have := (h.ok.leave ps hlt).1
            unfold leaveS at this
            rw [if_neg h8, if_neg h4, if_pos h5, if_neg hq] at this
            exact this
          refine ⟨⟨hok, h.z, h.ch, h.mem, h.kle, hk, fun i hi => ?_, fun j hj => ?_⟩, ⟨fun i hi => ⟨hi, rfl, rfl⟩, fun j hj => rfl, Nat.le_refl _⟩, rfl, ?_, fun _ => ⟨hf0, by show (s.jn.set (s.fk.getD p 0) p).getD _ 0 = p; rw [ej, if_pos rfl]⟩, fun q => absurd q h8⟩
          · have e := ej i
            have hi2 : (s.jn.set (s.fk.getD p 0) p).getD i 0 ≠ 0 := hi
            show kindP ps i = 4 ∧ kindP ps ((s.jn.set (s.fk.getD p 0) p).getD i 0) = 5 ∧ s.cm.getD ((s.jn.set (s.fk.getD p 0) p).getD i 0) false = true ∧ s.fk.getD ((s.jn.set (s.fk.getD p 0) p).getD i 0) 0 = i ∧ ∃ j, j < k + 1 ∧ s.od.getD j 0 = (s.jn.set (s.fk.getD p 0) p).getD i 0
            rw [e] at hi2 ⊢
            by_cases hif : s.fk.getD p 0 = i
            · rw [if_pos hif]
              exact ⟨by rw [← hif]; exact g2, h5, hc, hif, k, by omega, hp⟩
            · rw [if_neg hif] at hi2 ⊢
              obtain ⟨a, b, c, d, j, e1, e2⟩ := h.jn i hi2
              exact ⟨a, b, c, d, j, by omega, e2⟩
          · obtain ⟨l1, l2, l3⟩ := h.left j hj
            refine ⟨l1, fun q => ?_, l3⟩
            obtain ⟨m1, m2⟩ := l2 q
            refine ⟨m1, ?_⟩
            show (s.jn.set (s.fk.getD p 0) p).getD (s.fk.getD (s.od.getD j 0) 0) 0 = _
            rw [ej]
            by_cases he : s.fk.getD p 0 = s.fk.getD (s.od.getD j 0) 0
            · rw [← he, hj0] at m2
              rw [← m2, hk0] at q
              exact absurd q (by decide)
            · rw [if_neg he]; exact m2
          · rcases h.ch _ g3 with ⟨q, _⟩ | ⟨q1, q2, q3, _⟩
            · exact .inl q
            · exact .inr ⟨q1, q2, q3⟩
      · rw [if_neg h5] at h0 ⊢
        rw [if_neg h5]
        exact ⟨hw, Gro.refl s, rfl, hgf, fun q => absurd q h5, fun q => absurd q h8⟩
theorem lead_jn (s : Fs) (p f : Nat) : (leadS s p f).2.jn = s.jn := by
  unfold leadS
  repeat' split
  all_goals rfl
theorem leads_jn (f : Nat) : ∀ (l : List Fl) (s : Fs), (leadsS f l s).2.jn = s.jn
  | [], s => rfl
  | x :: r, s => by
    unfold leadsS
    split
    · exact lead_jn _ _ _
    · exact (leads_jn f r _).trans (lead_jn _ _ _)
theorem good_same {ps : List Pl} {s s' : Fs} (h : ∀ i, s.cm.getD i false = true → s'.cm.getD i false = true) {f : Nat} (g : Good ps s f) : Good ps s' f := by
  rcases g with g | ⟨g1, g2, g3⟩
  · exact .inl g
  · exact .inr ⟨g1, g2, h f g3⟩
theorem Fin.step {ps : List Pl} {n k : Nat} {s : Fs} (hk0 : kindP ps 0 = 1) (hto : ∀ p, p < n → ∀ x ∈ outP ps p, x.to.toNat < n) (h : Fin ps n k k s) (hk : k < s.od.length) (h0 : (stepS ps s (s.od.getD k 0)).1 = 0) : Fin ps n (k + 1) (k + 1) (stepS ps s (s.od.getD k 0)).2 := by
  have hc := h.odc hk
  have hlt : s.od.getD k 0 < n := by
    rw [List.getD_eq_getElem?_getD, List.getElem?_eq_getElem hk]; exact h.ok.odl _ (List.getElem_mem hk)
  unfold stepS at h0 ⊢
  by_cases hz : (leaveS ps s (s.od.getD k 0)).2.1 ≠ 0
  · rw [if_pos hz] at h0; exact absurd h0 hz
  · rw [if_neg hz] at h0 ⊢
    obtain ⟨a1, a2, a3, a4, a5, a6⟩ := h.leave hk0 hk (by simpa using hz)
    have hfl := (h.ok.leave ps hlt).2
    generalize (leaveS ps s (s.od.getD k 0)).2.2 = s1 at *
    rw [a3] at h0 hfl ⊢
    obtain ⟨b1, b2, b3⟩ := Fin.leads hfl a1 (hto _ hlt) (good_gro a2 a4) h0
    have bj := leads_jn (nextF ps s (s.od.getD k 0)) (outP ps (s.od.getD k 0)) s1
    generalize (leadsS (nextF ps s (s.od.getD k 0)) (outP ps (s.od.getD k 0)) s1).2 = s2 at *
    have hG := a2.trans b2
    have hcp := hG.k _ hc
    have e2 := hG.od k hk
    refine ⟨b1.ok, b1.z, b1.ch, b1.mem, Nat.le_trans hk hG.len, b1.kjl, b1.jn, fun j hj => ?_⟩
    by_cases hjk : j = k
    · subst hjk
      rw [e2]
      refine ⟨fun x hx => ⟨(b3 x hx).1, by rw [(b3 x hx).2, next_gro h hG hc]⟩, fun q => ?_, fun q => ?_⟩
      · rw [hcp.2.1, bj]; exact a5 q
      · rw [hcp.2.1]; exact a6 q
    · exact b1.left j (by omega)
theorem Fin.go {ps : List Pl} {n : Nat} (hk0 : kindP ps 0 = 1) (hto : ∀ p, p < n → ∀ x ∈ outP ps p, x.to.toNat < n) : ∀ (m k : Nat) (s : Fs), Fin ps n k k s → n + 1 ≤ m + k → (goS ps m k s).1 = 0 → Fin ps n (goS ps m k s).2.od.length (goS ps m k s).2.od.length (goS ps m k s).2
  | 0, k, s, h, hm, _ => by have := h.kle; have := h.ok.len; omega
  | m + 1, k, s, h, hm, h0 => by
    unfold goS at h0 ⊢
    by_cases hk : k < s.od.length
    · rw [if_pos hk] at h0 ⊢
      by_cases hz : (stepS ps s (s.od.getD k 0)).1 ≠ 0
      · rw [if_pos hz] at h0; exact absurd h0 hz
      · rw [if_neg hz] at h0 ⊢
        exact Fin.go hk0 hto m (k + 1) _ (h.step hk0 hto hk (by simpa using hz)) (by omega) h0
    · rw [if_neg hk]
      have : k = s.od.length := by have := h.kle; omega
      rw [← this]; exact h
theorem Fin.begin {ps : List Pl} {n : Nat} (hn : 0 < n) : Fin ps n 0 0 (beginS n) := by
  have e1 : ∀ i, (beginS n).cm.getD i false = if 0 = i then true else false := fun i => by
    have := set_at (l := List.replicate n false) (p := 0) (by simpa using hn) true false i
    show ((List.replicate n false).set 0 true).getD i false = _
    rw [this]
    by_cases h : 0 = i
    · rw [if_pos h, if_pos h]
    · rw [if_neg h, if_neg h]; simp [List.getD_eq_getElem?_getD, List.getElem?_replicate]; split <;> rfl
  have e2 : ∀ i, (beginS n).fk.getD i 0 = 0 := fun i => by
    have := set_at (l := List.replicate n 0) (p := 0) (by simpa using hn) 0 0 i
    show ((List.replicate n 0).set 0 0).getD i 0 = _
    rw [this]
    split
    · rfl
    · simp [List.getD_eq_getElem?_getD, List.getElem?_replicate]; split <;> rfl
  have e3 : ∀ i, (beginS n).dp.getD i 0 = 0 := e2
  have e4 : ∀ i, (beginS n).jn.getD i 0 = 0 := fun i => by
    show (List.replicate n 0).getD i 0 = 0
    simp [List.getD_eq_getElem?_getD, List.getElem?_replicate]; split <;> rfl
  refine ⟨Fok.begin hn, ⟨by rw [e1, if_pos rfl], e2 0, e3 0⟩, fun i _ => .inl ⟨e2 i, e3 i⟩, fun i => ?_, Nat.zero_le _, Nat.zero_le _, fun i hi => absurd (e4 i) hi, fun j hj => absurd hj (Nat.not_lt_zero _)⟩
  rw [e1]
  show _ ↔ i ∈ [] ++ [0]
  by_cases h : 0 = i
  · rw [if_pos h]; simp [h.symm]
  · rw [if_neg h]; simp; omega
end
end Go.Proofs.Ytlaiacjlphjmlaa

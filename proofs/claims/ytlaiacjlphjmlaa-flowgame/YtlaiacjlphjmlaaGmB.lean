/-
  Layer 12, flow: what a token that goes on keeps.
-/
import Derived.Test.YtlaiacjlphjmlaaGmA
namespace Go.Proofs.Ytlaiacjlphjmlaa
set_option linter.unusedVariables false

section
variable {ps : List Pl} {n : Nat} {s : Fs} {g : Gm} {fo : Nat → Nat} {ou : Nat → List Nat}
theorem OkP.more {m m' : Nat} {fo' : Nat → Nat} {ou' : Nat → List Nat} {p : Nat} {l : List Nat} (h : OkP s m fo ou p l) (hm : m ≤ m') (hf : ∀ q, q < m → fo' q = fo q ∧ ou' q = ou q) : OkP s m' fo' ou' p l := by
  rcases h with h | ⟨h1, q, h2, h3, h4⟩
  · exact .inl h
  · exact .inr ⟨h1, q, by omega, by rw [(hf q h2).1]; exact h3, by rw [(hf q h2).2]; exact h4⟩
theorem OkP.at {m p p' : Nat} {l : List Nat} (h : OkP s m fo ou p l) (he : s.fk.getD p' 0 = s.fk.getD p 0) : OkP s m fo ou p' l := by
  unfold OkP; rw [he]; exact h
theorem toK_mem {p : Nat} (h : 0 < outN ps p) (b : Nat) : (outP ps p).getD (b % outN ps p) zeroF ∈ outP ps p := by
  have : b % outN ps p < (outP ps p).length := Nat.mod_lt _ h
  rw [List.getD_eq_getElem?_getD, List.getElem?_eq_getElem this]; exact List.getElem_mem this
theorem toK_fk (hb : Bal ps n s) {p : Nat} (hp : p < n) (h : 0 < outN ps p) (b : Nat) : s.fk.getD (toK ps p b) 0 = nextF ps s p := hb.edge p hp _ (toK_mem h b)
theorem toK_lt (hto : ∀ p, p < n → ∀ x ∈ outP ps p, x.to.toNat < n) {p : Nat} (hp : p < n) (h : 0 < outN ps p) (b : Nat) : toK ps p b < n := hto p hp _ (toK_mem h b)
/-- What a definition's places tell that a game leans on. -/
structure Gpl (ps : List Pl) (n : Nat) (s : Fs) : Prop where
  bal : Bal ps n s
  to : ∀ p, p < n → ∀ x ∈ outP ps p, x.to.toNat < n
  out : ∀ p, p < n → kindP ps p ≠ 8 → 0 < outN ps p
theorem Ginv.rest (h : Ginv ps n s g fo ou) {k : Nat} : ∀ t ∈ g.toks.eraseIdx k, t.pos < n ∧ OkP s g.came.length fo ou t.pos t.plays := fun t ht => h.tok t (mem_erase ht)
theorem Ginv.away (h : Ginv ps n s g fo ou) (hb : Bal ps n s) {k : Nat} (hk : k < g.toks.length) (h8 : kindP ps (g.toks.getD k zeroTk).pos = 8) : Ginv ps n s ⟨g.toks.eraseIdx k, g.came⟩ fo ou := by
  obtain ⟨h1, h2⟩ := h.tok _ (getD_memT hk)
  have hn : (g.toks.getD k zeroTk).plays.getLast? = none := h2.none.mpr (hb.e8 _ h1 h8)
  refine ⟨h.rest, h.play, fun q hq => ?_, ?_⟩
  · have hc := cntT_at (g := g) (some q) hk
    rw [if_neg (by rw [hn]; simp)] at hc
    have := h.cnt q hq
    rw [hc] at this
    exact this
  · have hc := cntT_at (g := g) none hk
    have := h.top
    have e1 : cntT ⟨g.toks.eraseIdx k, g.came⟩ none = (g.toks.eraseIdx k).countP (fun t => t.plays.getLast? == none) := rfl
    have e2 : cntO ps ⟨g.toks.eraseIdx k, g.came⟩ fo ou none = cntO ps g fo ou none := rfl
    rw [e1, e2]
    omega
theorem Ginv.goes (h : Ginv ps n s g fo ou) {k p' : Nat} (hk : k < g.toks.length) (hp : p' < n) (hf : s.fk.getD p' 0 = s.fk.getD (g.toks.getD k zeroTk).pos 0) : Ginv ps n s ⟨g.toks.eraseIdx k ++ [⟨p', (g.toks.getD k zeroTk).plays⟩], g.came⟩ fo ou := by
  obtain ⟨h1, h2⟩ := h.tok _ (getD_memT hk)
  have e1 : ∀ x, cntT ⟨g.toks.eraseIdx k ++ [⟨p', (g.toks.getD k zeroTk).plays⟩], g.came⟩ x = cntT g x := fun x => by
    rw [cntT_at x hk]
    unfold cntT
    rw [List.countP_append, List.countP_singleton]
  have e2 : ∀ x, cntO ps ⟨g.toks.eraseIdx k ++ [⟨p', (g.toks.getD k zeroTk).plays⟩], g.came⟩ fo ou x = cntO ps g fo ou x := fun x => rfl
  refine ⟨fun t ht => ?_, h.play, fun q hq => by rw [e1, e2]; exact h.cnt q hq, by rw [e1, e2]; exact h.top⟩
  rcases List.mem_append.mp ht with q | q
  · exact h.rest t q
  · rw [List.mem_singleton] at q; subst q
    exact ⟨hp, h2.at hf⟩
theorem getD_snoc {l : List Nat} {x i : Nat} (h : i < l.length) : (l ++ [x]).getD i 0 = l.getD i 0 := by
  simp only [List.getD_eq_getElem?_getD]; rw [List.getElem?_append_left h]
theorem Ginv.forks (h : Ginv ps n s g fo ou) (hg : Gpl ps n s) (hk0 : kindP ps 0 = 1) {k : Nat} (hk : k < g.toks.length) (h4 : kindP ps (g.toks.getD k zeroTk).pos = 4) :
    Ginv ps n s ⟨g.toks.eraseIdx k ++ (outP ps (g.toks.getD k zeroTk).pos).map (fun x => ⟨x.to.toNat, (g.toks.getD k zeroTk).plays ++ [g.came.length]⟩), g.came ++ [0]⟩ (fun q => if q = g.came.length then (g.toks.getD k zeroTk).pos else fo q) (fun q => if q = g.came.length then (g.toks.getD k zeroTk).plays else ou q) := by
  obtain ⟨h1, h2⟩ := h.tok _ (getD_memT hk)
  have hrest := h.rest (k := k)
  have hct := fun x => cntT_at (g := g) x hk
  generalize g.toks.getD k zeroTk = t at *
  generalize hr : g.toks.eraseIdx k = rest at *
  have hp0 : t.pos ≠ 0 := fun e => by rw [e, hk0] at h4; cases h4
  have hm0 : 0 < outN ps t.pos := hg.out _ h1 (by rw [h4]; decide)
  have hlen : (g.came ++ [0]).length = g.came.length + 1 := by simp
  have hsame : ∀ q, q < g.came.length → (if q = g.came.length then t.pos else fo q) = fo q ∧ (if q = g.came.length then t.plays else ou q) = ou q := fun q hq => by
    rw [if_neg (by omega), if_neg (by omega)]; exact ⟨rfl, rfl⟩
  have hOk : ∀ {p l}, OkP s g.came.length fo ou p l → OkP s (g.came ++ [0]).length (fun q => if q = g.came.length then t.pos else fo q) (fun q => if q = g.came.length then t.plays else ou q) p l := fun q => q.more (by rw [hlen]; omega) hsame
  have eT : ∀ x, cntT ⟨rest ++ (outP ps t.pos).map (fun x => ⟨x.to.toNat, t.plays ++ [g.came.length]⟩), g.came ++ [0]⟩ x = rest.countP (fun t => t.plays.getLast? == x) + (if x = some g.came.length then outN ps t.pos else 0) := fun x => by
    show (rest ++ _).countP _ = _
    rw [List.countP_append]
    congr 1
    by_cases hx : x = some g.came.length
    · rw [if_pos hx, List.countP_eq_length.mpr]
      · simp [outN]
      · intro y hy
        obtain ⟨z, _, rfl⟩ := List.mem_map.mp hy
        rw [beq_opt, hx]; simp
    · rw [if_neg hx, List.countP_eq_zero]
      intro y hy
      obtain ⟨z, _, rfl⟩ := List.mem_map.mp hy
      rw [beq_opt]
      intro q
      apply hx
      rw [← q]; simp
  have eO : ∀ x, cntO ps ⟨rest ++ (outP ps t.pos).map (fun x => ⟨x.to.toNat, t.plays ++ [g.came.length]⟩), g.came ++ [0]⟩ (fun q => if q = g.came.length then t.pos else fo q) (fun q => if q = g.came.length then t.plays else ou q) x = cntO ps g fo ou x + (if (t.plays.getLast? == x) = true then 1 else 0) := fun x => by
    unfold cntO
    show (List.range (g.came ++ [0]).length).countP _ = _
    rw [hlen, List.range_succ, List.countP_append, List.countP_singleton]
    congr 1
    · refine List.countP_congr fun i hi => ?_
      have hi := List.mem_range.mp hi
      unfold opn
      show (((if i = g.came.length then t.plays else ou i).getLast? == x) && decide ((g.came ++ [0]).getD i 0 < outN ps (if i = g.came.length then t.pos else fo i))) = true ↔ _
      rw [if_neg (by omega), if_neg (by omega), getD_snoc hi]
    · have : opn ps ⟨rest ++ (outP ps t.pos).map (fun x => ⟨x.to.toNat, t.plays ++ [g.came.length]⟩), g.came ++ [0]⟩ (fun q => if q = g.came.length then t.pos else fo q) g.came.length = true := by
        unfold opn
        show decide ((g.came ++ [0]).getD g.came.length 0 < outN ps (if g.came.length = g.came.length then t.pos else fo g.came.length)) = true
        rw [if_pos rfl]
        refine decide_eq_true ?_
        simp [List.getD_eq_getElem?_getD]; exact hm0
      rw [this]
      show (if (((if g.came.length = g.came.length then t.plays else ou g.came.length).getLast? == x) && true) = true then 1 else 0) = _
      rw [if_pos rfl, Bool.and_true]
  refine ⟨fun y hy => ?_, fun q hq => ?_, fun q hq => ?_, ?_⟩
  · rcases List.mem_append.mp hy with q | q
    · exact ⟨(hrest y q).1, hOk (hrest y q).2⟩
    · obtain ⟨x, hx, rfl⟩ := List.mem_map.mp q
      refine ⟨hg.to _ h1 x hx, .inr ?_⟩
      have he : s.fk.getD x.to.toNat 0 = t.pos := by
        rw [hg.bal.edge _ h1 x hx]; unfold nextF; rw [if_pos h4]
      refine ⟨by show s.fk.getD x.to.toNat 0 ≠ 0; rw [he]; exact hp0, g.came.length, by rw [hlen]; omega, ?_, ?_⟩
      · show (if g.came.length = g.came.length then t.pos else fo g.came.length) = s.fk.getD x.to.toNat 0
        rw [if_pos rfl, he]
      · show t.plays ++ [g.came.length] = (if g.came.length = g.came.length then t.plays else ou g.came.length) ++ [g.came.length]
        rw [if_pos rfl]
  · have hq : q < (g.came ++ [0]).length := hq
    rw [hlen] at hq
    by_cases he : q = g.came.length
    · show (if q = g.came.length then t.pos else fo q) < n ∧ kindP ps (if q = g.came.length then t.pos else fo q) = 4 ∧ OkP s (g.came ++ [0]).length _ _ (if q = g.came.length then t.pos else fo q) (if q = g.came.length then t.plays else ou q)
      rw [if_pos he, if_pos he]
      exact ⟨h1, h4, hOk h2⟩
    · obtain ⟨a1, a2, a3⟩ := h.play q (by omega)
      show (if q = g.came.length then t.pos else fo q) < n ∧ kindP ps (if q = g.came.length then t.pos else fo q) = 4 ∧ OkP s (g.came ++ [0]).length _ _ (if q = g.came.length then t.pos else fo q) (if q = g.came.length then t.plays else ou q)
      rw [if_neg he, if_neg he]
      exact ⟨a1, a2, hOk a3⟩
  · have hq : q < (g.came ++ [0]).length := hq
    rw [hlen] at hq
    rw [eT, eO]
    show _ + (g.came ++ [0]).getD q 0 = outN ps (if q = g.came.length then t.pos else fo q)
    by_cases he : q = g.came.length
    · subst he
      rw [if_pos rfl, if_pos rfl]
      have z1 : rest.countP (fun t => t.plays.getLast? == some g.came.length) = 0 := by
        rw [List.countP_eq_zero]
        intro y hy q
        have := (hrest y hy).2.last (beq_opt.mp q)
        omega
      have z2 : cntO ps g fo ou (some g.came.length) = 0 := by
        unfold cntO
        rw [List.countP_eq_zero]
        intro i hi q
        rw [Bool.and_eq_true] at q
        have := (h.play i (List.mem_range.mp hi)).2.2.last (beq_opt.mp q.1)
        omega
      have z3 : ¬ (t.plays.getLast? == some g.came.length) = true := fun q => by
        have := h2.last (beq_opt.mp q)
        omega
      rw [z1, z2, if_neg z3]
      simp [List.getD_eq_getElem?_getD]
    · rw [if_neg (by simpa using he), if_neg he, getD_snoc (by omega)]
      have := h.cnt q (by omega)
      rw [hct] at this
      omega
  · rw [eT, eO, if_neg (by simp)]
    have := h.top
    rw [hct] at this
    omega
theorem lastP_snoc (l : List Nat) (q : Nat) : lastP (l ++ [q]) = q := by unfold lastP; simp [List.getD_eq_getElem?_getD]
/-- What is known at a join. -/
theorem Ginv.atJoin (h : Ginv ps n s g fo ou) (hg : Gpl ps n s) {k : Nat} (hk : k < g.toks.length) (h5 : kindP ps (g.toks.getD k zeroTk).pos = 5) : ∃ q, q < g.came.length ∧ (g.toks.getD k zeroTk).plays = ou q ++ [q] ∧ fo q = s.fk.getD (g.toks.getD k zeroTk).pos 0 ∧ s.fk.getD (g.toks.getD k zeroTk).pos 0 ≠ 0 ∧ lastP (g.toks.getD k zeroTk).plays = q ∧ 0 < cntT g (some q) ∧ g.came.getD q 0 < outN ps (fo q) := by
  obtain ⟨h1, h2⟩ := h.tok _ (getD_memT hk)
  obtain ⟨j1, _⟩ := hg.bal.j5 _ h1 h5
  rcases h2 with ⟨q, _⟩ | ⟨_, q, hq, hf, hl⟩
  · exact absurd q j1
  · have hc : 0 < cntT g (some q) := List.countP_pos_iff.mpr ⟨_, getD_memT hk, beq_opt.mpr (by rw [hl]; simp)⟩
    have ho := h.opens hq (by omega)
    exact ⟨q, hq, hl, hf, j1, by rw [hl]; exact lastP_snoc _ _, hc, of_decide_eq_true ho⟩
theorem Ginv.joins (h : Ginv ps n s g fo ou) (hg : Gpl ps n s) {k : Nat} (b : Nat) (hk : k < g.toks.length) (h5 : kindP ps (g.toks.getD k zeroTk).pos = 5) : ∃ fo' ou', Ginv ps n s (moveM ps s g k b) fo' ou' := by
  obtain ⟨q, hq, hl, hf, hz, hlast, hc, hlt⟩ := h.atJoin hg hk h5
  obtain ⟨h1, h2⟩ := h.tok _ (getD_memT hk)
  have hrest := h.rest (k := k)
  have hct := fun x => cntT_at (g := g) x hk
  have hcnt := h.cnt q hq
  unfold moveM
  rw [if_neg (by rw [h5]; decide), if_neg (by rw [h5]; decide), if_pos h5, hlast, ← hf]
  have hout : 0 < outN ps (g.toks.getD k zeroTk).pos := hg.out _ h1 (by rw [h5]; decide)
  have hfk := toK_fk hg.bal h1 hout b
  have htl := toK_lt hg.to h1 hout b
  unfold nextF at hfk
  rw [if_neg (by rw [h5]; decide), if_pos h5, ← hf] at hfk
  have hgs : ∀ i, (g.came.set q (g.came.getD q 0 + 1)).getD i 0 = if q = i then g.came.getD q 0 + 1 else g.came.getD i 0 := fun i => set_at hq _ 0 i
  have hls : (g.came.set q (g.came.getD q 0 + 1)).length = g.came.length := by simp
  have hlq : ∀ x, ((g.toks.getD k zeroTk).plays.getLast? == x) = (some q == x) := fun x => by rw [hl]; simp
  generalize g.toks.getD k zeroTk = t at *
  generalize hr : g.toks.eraseIdx k = rest at *
  by_cases hmore : g.came.getD q 0 + 1 < outN ps (fo q)
  · rw [if_pos hmore]
    have eO : ∀ x, cntO ps ⟨rest, g.came.set q (g.came.getD q 0 + 1)⟩ fo ou x = cntO ps g fo ou x := fun x => by
      unfold cntO
      show (List.range (g.came.set q (g.came.getD q 0 + 1)).length).countP _ = _
      rw [hls]
      refine List.countP_congr fun i hi => ?_
      unfold opn
      show (((ou i).getLast? == x) && decide ((g.came.set q (g.came.getD q 0 + 1)).getD i 0 < outN ps (fo i))) = true ↔ _
      rw [hgs]
      by_cases hqi : q = i
      · subst hqi; rw [if_pos rfl, decide_eq_true hmore, decide_eq_true hlt]
      · rw [if_neg hqi]
    refine ⟨fo, ou, fun y hy => by show y.pos < n ∧ OkP s (g.came.set q _).length fo ou y.pos y.plays; rw [hls]; exact hrest y hy, fun i hi => ?_, fun i hi => ?_, ?_⟩
    · have hi : i < (g.came.set q (g.came.getD q 0 + 1)).length := hi
      show fo i < n ∧ kindP ps (fo i) = 4 ∧ OkP s (g.came.set q (g.came.getD q 0 + 1)).length fo ou (fo i) (ou i)
      rw [hls] at hi ⊢
      exact h.play i hi
    · have hi : i < (g.came.set q (g.came.getD q 0 + 1)).length := hi
      rw [hls] at hi
      rw [eO]
      show rest.countP _ + _ + (g.came.set q (g.came.getD q 0 + 1)).getD i 0 = _
      rw [hgs]
      have hi2 := h.cnt i hi
      rw [hct, hlq] at hi2
      by_cases hqi : q = i
      · subst hqi; rw [if_pos rfl]; rw [if_pos (by simp)] at hi2; omega
      · rw [if_neg hqi]; rw [if_neg (by simpa using hqi)] at hi2; omega
    · rw [eO]
      have := h.top
      rw [hct, hlq, if_neg (by simp)] at this
      exact this
  · rw [if_neg hmore]
    have hcl : g.came.getD q 0 + 1 = outN ps (fo q) := by omega
    have eO : ∀ x, cntO ps g fo ou x = cntO ps ⟨rest ++ [⟨toK ps t.pos b, t.plays.dropLast⟩], g.came.set q (g.came.getD q 0 + 1)⟩ fo ou x + (if ((ou q).getLast? == x) = true then 1 else 0) := fun x => by
      unfold cntO
      show _ = (List.range (g.came.set q (g.came.getD q 0 + 1)).length).countP _ + _
      rw [hls, count_flip _ (fun i => ((ou i).getLast? == x) && opn ps ⟨rest ++ [⟨toK ps t.pos b, t.plays.dropLast⟩], g.came.set q (g.came.getD q 0 + 1)⟩ fo i) q ?_ ?_ g.came.length hq]
      · congr 2
        have : opn ps g fo q = true := decide_eq_true hlt
        rw [this, Bool.and_true]
      · have : opn ps ⟨rest ++ [⟨toK ps t.pos b, t.plays.dropLast⟩], g.came.set q (g.came.getD q 0 + 1)⟩ fo q = false := by
          unfold opn
          show decide ((g.came.set q (g.came.getD q 0 + 1)).getD q 0 < _) = false
          rw [hgs, if_pos rfl]
          exact decide_eq_false (by omega)
        rw [this, Bool.and_false]
      · intro i hi
        unfold opn
        show (((ou i).getLast? == x) && decide ((g.came.set q (g.came.getD q 0 + 1)).getD i 0 < outN ps (fo i))) = _
        rw [hgs, if_neg (fun e => hi e.symm)]
    have hdl : t.plays.dropLast = ou q := by rw [hl]; simp
    have eT : ∀ x, cntT ⟨rest ++ [⟨toK ps t.pos b, t.plays.dropLast⟩], g.came.set q (g.came.getD q 0 + 1)⟩ x = rest.countP (fun t => t.plays.getLast? == x) + (if ((ou q).getLast? == x) = true then 1 else 0) := fun x => by
      show (rest ++ [_]).countP _ = _
      rw [List.countP_append, List.countP_singleton, hdl]
    refine ⟨fo, ou, fun y hy => ?_, fun i hi => ?_, fun i hi => ?_, ?_⟩
    · show y.pos < n ∧ OkP s (g.came.set q _).length fo ou y.pos y.plays
      rw [hls]
      rcases List.mem_append.mp hy with e | e
      · exact hrest y e
      · rw [List.mem_singleton] at e; subst e
        refine ⟨htl, ?_⟩
        show OkP s g.came.length fo ou (toK ps t.pos b) t.plays.dropLast
        rw [hdl]
        exact (h.play q hq).2.2.at hfk
    · have hi : i < (g.came.set q (g.came.getD q 0 + 1)).length := hi
      show fo i < n ∧ kindP ps (fo i) = 4 ∧ OkP s (g.came.set q (g.came.getD q 0 + 1)).length fo ou (fo i) (ou i)
      rw [hls] at hi ⊢
      exact h.play i hi
    · have hi : i < (g.came.set q (g.came.getD q 0 + 1)).length := hi
      rw [hls] at hi
      rw [eT]
      show _ + _ + (g.came.set q (g.came.getD q 0 + 1)).getD i 0 = _
      rw [hgs]
      have hi2 := h.cnt i hi
      rw [hct, hlq, eO] at hi2
      by_cases hqi : q = i
      · subst hqi; rw [if_pos rfl]; rw [if_pos (by simp)] at hi2; omega
      · rw [if_neg hqi]; rw [if_neg (by simpa using hqi)] at hi2; omega
    · rw [eT]
      have := h.top
      rw [hct, hlq, if_neg (by simp), eO] at this
      omega
theorem Ginv.move (h : Ginv ps n s g fo ou) (hg : Gpl ps n s) (hk0 : kindP ps 0 = 1) {k : Nat} (b : Nat) (hk : k < g.toks.length) : ∃ fo' ou', Ginv ps n s (moveM ps s g k b) fo' ou' := by
  obtain ⟨h1, h2⟩ := h.tok _ (getD_memT hk)
  by_cases h5 : kindP ps (g.toks.getD k zeroTk).pos = 5
  · exact h.joins hg b hk h5
  · unfold moveM
    by_cases h8 : kindP ps (g.toks.getD k zeroTk).pos = 8
    · rw [if_pos h8]; exact ⟨fo, ou, h.away hg.bal hk h8⟩
    · rw [if_neg h8]
      by_cases h4 : kindP ps (g.toks.getD k zeroTk).pos = 4
      · rw [if_pos h4]; exact ⟨_, _, h.forks hg hk0 hk h4⟩
      · rw [if_neg h4, if_neg h5]
        have hout : 0 < outN ps (g.toks.getD k zeroTk).pos := hg.out _ h1 h8
        refine ⟨fo, ou, h.goes hk (toK_lt hg.to h1 hout b) ?_⟩
        rw [toK_fk hg.bal h1 hout b]
        unfold nextF; rw [if_neg h4, if_neg h5]
/-- The game's begin. -/
theorem ginv_begin (hn : 0 < n) (hb : Bal ps n s) : Ginv ps n s ⟨[⟨0, []⟩], []⟩ (fun _ => 0) (fun _ => []) := by
  refine ⟨fun t ht => ?_, fun q hq => absurd hq (Nat.not_lt_zero _), fun q hq => absurd hq (Nat.not_lt_zero _), Nat.le_of_eq rfl⟩
  rw [List.mem_singleton] at ht; subst ht
  exact ⟨hn, .inl ⟨hb.z, rfl⟩⟩
end
end Go.Proofs.Ytlaiacjlphjmlaa

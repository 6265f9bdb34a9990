/-
  Layer 12, flow: the walk through places as mathematics.
-/
import Derived.Test.YtlaiacjlphjmlaaDfZ
namespace Go.Proofs.Ytlaiacjlphjmlaa
set_option linter.unusedVariables false

/-- What is known of places while they are walked: the innermost fork, how deep, the join that ends it; come to; in what order. -/
structure Fs where
  fk : List Nat
  dp : List Nat
  jn : List Nat
  cm : List Bool
  od : List Nat
def Fs.enter (s : Fs) (p f d : Nat) : Fs := ⟨s.fk.set p f, s.dp.set p d, s.jn, s.cm.set p true, s.od ++ [p]⟩
def emptyS (n : Nat) : Fs := ⟨List.replicate n 0, List.replicate n 0, List.replicate n 0, List.replicate n false, []⟩
def beginS (n : Nat) : Fs := (emptyS n).enter 0 0 0
def kindP (ps : List Pl) (p : Nat) : Int := (ps.getD p zeroP).kind
def outP (ps : List Pl) (p : Nat) : List Fl := (ps.getD p zeroP).out
/-- The fork within which the flows of a place lead, what is wrong, and what is known then. -/
def leaveS (ps : List Pl) (s : Fs) (p : Nat) : Nat × Nat × Fs :=
  if kindP ps p = 8 then (if s.fk.getD p 0 ≠ 0 then (0, 8, s) else (s.fk.getD p 0, 0, s))
  else if kindP ps p = 4 then (p, 0, s)
  else if kindP ps p = 5 then (if s.fk.getD p 0 = 0 ∨ s.jn.getD (s.fk.getD p 0) 0 ≠ 0 then (0, 8, s) else (s.fk.getD (s.fk.getD p 0) 0, 0, ⟨s.fk, s.dp, s.jn.set (s.fk.getD p 0) p, s.cm, s.od⟩))
  else (s.fk.getD p 0, 0, s)
def deepS (s : Fs) (f : Nat) : Nat := if f ≠ 0 then s.dp.getD f 0 + 1 else 0
def leadS (s : Fs) (p f : Nat) : Nat × Fs :=
  if s.cm.getD p false = true then (if s.fk.getD p 0 ≠ f then (8, s) else (0, s)) else if 16 < deepS s f then (6, s) else (0, s.enter p f (deepS s f))
def leadsS (f : Nat) : List Fl → Fs → Nat × Fs
  | [], s => (0, s)
  | x :: r, s => if (leadS s x.to.toNat f).1 ≠ 0 then leadS s x.to.toNat f else leadsS f r (leadS s x.to.toNat f).2
def stepS (ps : List Pl) (s : Fs) (p : Nat) : Nat × Fs := if (leaveS ps s p).2.1 ≠ 0 then ((leaveS ps s p).2.1, (leaveS ps s p).2.2) else leadsS (leaveS ps s p).1 (outP ps p) (leaveS ps s p).2.2
def goS (ps : List Pl) : Nat → Nat → Fs → Nat × Fs
  | 0, _, s => (0, s)
  | k + 1, i, s => if i < s.od.length then (if (stepS ps s (s.od.getD i 0)).1 ≠ 0 then stepS ps s (s.od.getD i 0) else goS ps k (i + 1) (stepS ps s (s.od.getD i 0)).2) else (0, s)
def badAt (ps : List Pl) (s : Fs) (i : Nat) : Bool := !(s.cm.getD i false) || (decide (kindP ps i = 4) && decide (s.jn.getD i 0 = 0))
def wholeS (ps : List Pl) (s : Fs) : Bool := (List.range ps.length).all fun i => !(badAt ps s i)
def throughS (ps : List Pl) (s : Fs) : Nat := if (goS ps (ps.length + 1) 0 s).1 = 0 ∧ wholeS ps (goS ps (ps.length + 1) 0 s).2 = false then 8 else (goS ps (ps.length + 1) 0 s).1
/-- What a walk keeps. -/
structure Fok (n : Nat) (s : Fs) : Prop where
  fk : s.fk.length = n
  dp : s.dp.length = n
  jn : s.jn.length = n
  cm : s.cm.length = n
  fkl : ∀ x ∈ s.fk, x < n
  dpl : ∀ x ∈ s.dp, x ≤ 16
  jnl : ∀ x ∈ s.jn, x < n
  odl : ∀ x ∈ s.od, x < n
  cnt : s.od.length = s.cm.count true
theorem Fok.len {n : Nat} {s : Fs} (h : Fok n s) : s.od.length ≤ n := by rw [h.cnt, ← h.cm]; exact List.count_le_length
theorem getD_mem_or {l : List Nat} {i n : Nat} (h : ∀ x ∈ l, x < n) (hn : 0 < n) : l.getD i 0 < n := by
  rw [List.getD_eq_getElem?_getD]
  cases hq : l[i]? with
  | none => exact hn
  | some x => exact h x (List.mem_of_getElem? hq)
theorem getD_mem_le {l : List Nat} {i n : Nat} (h : ∀ x ∈ l, x ≤ n) : l.getD i 0 ≤ n := by
  rw [List.getD_eq_getElem?_getD]
  cases hq : l[i]? with
  | none => exact Nat.zero_le _
  | some x => exact h x (List.mem_of_getElem? hq)
theorem mem_set {l : List Nat} {i a x : Nat} (h : x ∈ l.set i a) : x ∈ l ∨ x = a := by
  obtain ⟨j, hj⟩ := List.getElem?_of_mem h
  rw [List.getElem?_set] at hj
  split at hj
  · split at hj
    · simp at hj; exact .inr hj.symm
    · cases hj
  · exact .inl (List.mem_of_getElem? hj)
theorem count_set {l : List Bool} {i : Nat} (hi : i < l.length) (h : l.getD i false = false) : (l.set i true).count true = l.count true + 1 := by
  induction l generalizing i with
  | nil => simp at hi
  | cons b l ih =>
    cases i with
    | zero =>
      have : b = false := by simpa using h
      subst this
      simp
    | succ i =>
      have := ih (i := i) (by simpa using hi) (by simpa using h)
      simp only [List.set_cons_succ, List.count_cons, this]
      omega
theorem Fok.enter {n : Nat} {s : Fs} (h : Fok n s) {p f d : Nat} (hp : p < n) (hf : f < n) (hd : d ≤ 16) (hc : s.cm.getD p false = false) : Fok n (s.enter p f d) := by
  refine ⟨by simp [Fs.enter, h.fk], by simp [Fs.enter, h.dp], h.jn, by simp [Fs.enter, h.cm], fun x hx => ?_, fun x hx => ?_, h.jnl, fun x hx => ?_, ?_⟩
  · rcases mem_set hx with q | rfl
    · exact h.fkl _ q
    · exact hf
  · rcases mem_set hx with q | rfl
    · exact h.dpl _ q
    · exact hd
  · rcases List.mem_append.mp hx with q | q
    · exact h.odl _ q
    · simp at q; omega
  · show (s.od ++ [p]).length = (s.cm.set p true).count true
    rw [count_set (by rw [h.cm]; exact hp) hc, List.length_append, h.cnt]; rfl
theorem Fok.begin {n : Nat} (h : 0 < n) : Fok n (beginS n) := by
  have h0 : Fok n (emptyS n) := ⟨by simp [emptyS], by simp [emptyS], by simp [emptyS], by simp [emptyS], fun x hx => by rw [(List.mem_replicate.mp hx).2]; exact h, fun x hx => by rw [(List.mem_replicate.mp hx).2]; omega, fun x hx => by rw [(List.mem_replicate.mp hx).2]; exact h, fun x hx => by simp [emptyS] at hx, by simp [emptyS, List.count_replicate]⟩
  exact h0.enter h h (by omega) (by simp [emptyS, List.getD_eq_getElem?_getD, List.getElem?_replicate]; split <;> rfl)
theorem Fok.lead {n : Nat} {s : Fs} (h : Fok n s) {p f : Nat} (hp : p < n) (hf : f < n) : Fok n (leadS s p f).2 := by
  unfold leadS
  split
  · split <;> exact h
  · rename_i hc
    split
    · exact h
    · rename_i hd
      exact h.enter hp hf (by omega) (by simpa using hc)
theorem Fok.leads {n : Nat} {f : Nat} (hf : f < n) : ∀ {l : List Fl} {s : Fs}, Fok n s → (∀ x ∈ l, x.to.toNat < n) → Fok n (leadsS f l s).2
  | [], s, h, _ => h
  | x :: r, s, h, hl => by
    unfold leadsS
    split
    · exact h.lead (hl _ (List.mem_cons_self ..)) hf
    · exact Fok.leads hf (h.lead (hl _ (List.mem_cons_self ..)) hf) fun y hy => hl y (List.mem_cons_of_mem _ hy)
theorem Fok.leave {n : Nat} {s : Fs} (h : Fok n s) (ps : List Pl) {p : Nat} (hp : p < n) : Fok n (leaveS ps s p).2.2 ∧ (leaveS ps s p).1 < n := by
  have h0 : ∀ i, s.fk.getD i 0 < n := fun i => getD_mem_or h.fkl (by omega)
  unfold leaveS
  split
  · split
    · exact ⟨h, by show 0 < n; omega⟩
    · exact ⟨h, h0 _⟩
  · split
    · exact ⟨h, hp⟩
    · split
      · split
        · exact ⟨h, by show 0 < n; omega⟩
        · refine ⟨⟨h.fk, h.dp, by simp [h.jn], h.cm, h.fkl, h.dpl, fun x hx => ?_, h.odl, h.cnt⟩, h0 _⟩
          rcases mem_set hx with q | rfl
          · exact h.jnl _ q
          · exact hp
      · exact ⟨h, h0 _⟩
theorem Fok.step {n : Nat} {s : Fs} (h : Fok n s) (ps : List Pl) {p : Nat} (hp : p < n) (hl : ∀ x ∈ outP ps p, x.to.toNat < n) : Fok n (stepS ps s p).2 := by
  have := h.leave ps hp
  unfold stepS
  split
  · exact this.1
  · exact Fok.leads this.2 this.1 hl
end Go.Proofs.Ytlaiacjlphjmlaa

/-
  A tree that was read has kinds throughout.
-/
import Derived.Test.YtlfeejjlcclbdaaGreatDoorTreeM
import Derived.Test.YtlfeejjlcclbdaaGreatDoorOnceW
namespace Go.Proofs.YtlfeejjlcclbdaaGreatDoor
set_option linter.unusedVariables false


def Kd : Nat → Tr → Prop
  | 0, _ => False
  | d + 1, t => t.kind ≠ 0 ∧ ∀ x ∈ t.kids, Kd d x
theorem Kd.mono : ∀ {d e : Nat} {t : Tr}, d ≤ e → Kd d t → Kd e t
  | 0, _, _, _, h => h.elim
  | d + 1, 0, _, h, _ => by omega
  | d + 1, e + 1, t, h, ⟨h1, h2⟩ => ⟨h1, fun x hx => Kd.mono (by omega) (h2 x hx)⟩
def KT (t : Tr) : Prop := ∃ d, Kd d t
theorem KT.leaf {k n : Int} {m : Bs} (h : k ≠ 0) : KT ⟨k, n, m, []⟩ := ⟨1, h, fun x hx => by simp at hx⟩
theorem KT.one {k : Int} {x : Tr} (h : k ≠ 0) (hx : KT x) : KT ⟨k, 0, [], [x]⟩ := by
  obtain ⟨d, hd⟩ := hx
  exact ⟨d + 1, h, fun y hy => by simp at hy; rw [hy]; exact hd⟩
theorem KT.two {k : Int} {x y : Tr} (h : k ≠ 0) (hx : KT x) (hy : KT y) : KT ⟨k, 0, [], [x, y]⟩ := by
  obtain ⟨d, hd⟩ := hx
  obtain ⟨e, he⟩ := hy
  refine ⟨max d e + 1, h, fun z hz => ?_⟩
  simp at hz
  rcases hz with rfl | rfl
  · exact hd.mono (Nat.le_max_left _ _)
  · exact he.mono (Nat.le_max_right _ _)
theorem KT.kid {t x : Tr} (h : KT t) (hx : x ∈ t.kids) : KT x := by
  obtain ⟨d, hd⟩ := h
  cases d with
  | zero => exact hd.elim
  | succ d => exact ⟨d, hd.2 x hx⟩
theorem KT.ne {t : Tr} (h : KT t) : t ≠ zeroT := by
  obtain ⟨d, hd⟩ := h
  cases d with
  | zero => exact hd.elim
  | succ d => rintro rfl; exact hd.1 rfl
theorem KT.named (t : Bs) : KT (named t) := by
  unfold Go.Proofs.YtlfeejjlcclbdaaGreatDoor.named
  split
  · exact .leaf (by decide)
  · split
    · exact .leaf (by decide)
    · exact .leaf (by decide)
def Kok (f : List W → Res) : Prop := ∀ ws t r, f ws = .ok (t, r) → KT t
theorem ok_inj {a b : Tr × List W} (h : (Except.ok a : Res) = .ok b) : a = b := by injection h
theorem loop_kok {sd : Nat → List W → Res} (hs : ∀ row, Kok (sd row)) (row : Nat) : ∀ (f last : Nat) (x : Tr) (ws : List W) (t : Tr) (r : List W), KT x → loopM sd row f last x ws = .ok (t, r) → KT t
  | 0, _, _, _, t, r, _, h => by
    have : (Except.error (3, []) : Res) = .ok (t, r) := h
    cases this
  | f + 1, last, x, ws, t, r, hx, h => by
    rw [loopM_succ] at h
    split at h
    · have := ok_inj h; cases this; exact hx
    · rename_i hn
      split at h
      · cases h
      · cases hq : sd (rowK (nextK ws) + 1) ws.tail with
        | error y => rw [hq] at h; cases h
        | ok y => rw [hq] at h; obtain ⟨y, q⟩ := y; exact loop_kok hs row f _ _ _ t r (.two (fun e => hn (.inl (by exact_mod_cast e))) hx (hs _ _ _ _ hq)) h
theorem pr_kok : ∀ d, Kok (operandM d) ∧ ∀ row, Kok (sdM d row)
  | 0 => ⟨fun ws t r h => (by rw [operandM_zero] at h; cases h), fun row ws t r h => (by rw [sdM_zero] at h; cases h)⟩
  | d + 1 => by
    obtain ⟨h1, h2⟩ := pr_kok d
    have hw : ∀ (k : Int) ws t r, k ≠ 0 → wrapM k (operandM d ws) = .ok (t, r) → KT t := fun k ws t r hk h => by
      cases hq : operandM d ws with
      | error y => rw [hq] at h; cases h
      | ok y => rw [hq] at h; obtain ⟨y, q⟩ := y; have := ok_inj h; cases this; exact .one hk (h1 _ _ _ hq)
    have ho : Kok (operandM (d + 1)) := fun ws t r h => by
      rw [operandM_succ] at h
      cases ws with
      | nil => have h' : (Except.error (3, []) : Res) = .ok (t, r) := h; cases h'
      | cons x q =>
        rw [opM_cons] at h
        split at h
        · have := ok_inj h; cases this; exact .leaf (by decide)
        · split at h
          · have := ok_inj h; cases this; exact .named _
          · unfold aheadM at h
            split at h
            · exact hw _ _ _ _ (by decide) h
            · split at h
              · exact hw _ _ _ _ (by decide) h
              · split at h
                · cases hq : sdM d 1 (x :: q).tail with
                  | error y => rw [hq] at h; cases h
                  | ok y =>
                    rw [hq] at h; obtain ⟨y, q'⟩ := y
                    cases q' with
                    | nil => have h' : (Except.error (3, []) : Res) = .ok (t, r) := h; cases h'
                    | cons v q' =>
                      have h' : (if v.text = [41] then .ok (y, q') else .error (3, v :: q') : Res) = .ok (t, r) := h
                      split at h'
                      · have := ok_inj h'; cases this; exact h2 _ _ _ _ hq
                      · cases h'
                · cases h
    refine ⟨ho, fun row ws t r h => ?_⟩
    rw [sdM_succ] at h
    unfold sideM at h
    cases hq : operandM (d + 1) ws with
    | error y => rw [hq] at h; cases h
    | ok y => rw [hq] at h; obtain ⟨y, q⟩ := y; exact loop_kok h2 row _ _ _ _ t r (ho _ _ _ hq) h
theorem whole_kok {ws : List W} {t : Tr} (h : wholeM ws = .ok t) : KT t := by
  unfold wholeM at h
  cases hq : sdM 16 1 ws with
  | error y => rw [hq] at h; cases h
  | ok y =>
    rw [hq] at h; obtain ⟨y, q⟩ := y
    cases q with
    | nil => have h' : (Except.ok y : Except (Nat × List W) Tr) = .ok t := h; injection h' with h'; rw [← h']; exact (pr_kok 16).2 1 _ _ _ hq
    | cons v q => cases h
end Go.Proofs.YtlfeejjlcclbdaaGreatDoor

/-
  The document's split: a contract.
-/
import Derived.Test.YtlfeejjlcclbdaaGreatDoorLev
namespace Go.Proofs.YtlfeejjlcclbdaaGreatDoor
open Go.RowKit
set_option linter.unusedVariables false


def atL (l : List W) (i : Nat) : W := l.getD i noW
/-- Words that lie in a block, from a place on. -/
def Lie (w : World) (b o : Nat) (l : List W) : Prop := ∀ i, i < l.length → WAt w b (o + i * 4) (atL l i)
theorem Lie.below {w w' : World} {b o : Nat} {l : List W} (h : Lie w b o l) (hb : Below w.heap.size w w') : Lie w' b o l := fun i hi => (h i hi).below hb
def bestI : Option (Nat × Nat) → Int
  | none => -1
  | some x => x.1
def goG (l : List W) (k : Nat) : Go1 := (l.take k).foldl stepG ⟨0, 0, false, none⟩
theorem goG_zero (l : List W) : goG l 0 = ⟨0, 0, false, none⟩ := rfl
theorem goG_next {l : List W} {k : Nat} (h : k < l.length) : goG l (k + 1) = stepG (goG l k) (atL l k) := by
  have e : l.take (k + 1) = l.take k ++ [atL l k] := by
    unfold atL; rw [List.take_succ_eq_append_getElem h, List.getD_eq_getElem?_getD, List.getElem?_eq_getElem h]; rfl
  unfold goG
  rw [e, List.foldl_append]; rfl
theorem goG_all (l : List W) : (goG l l.length).best.map (·.1) = splitM l := by unfold goG splitM; rw [List.take_length]
/-- What is so of a going through words. -/
structure Gone (l : List W) (k : Nat) (g : Go1) : Prop where
  i : g.i = k
  lo : -(k : Int) ≤ g.deep
  hi : g.deep ≤ k
  en : ∀ j, k = j + 1 → g.en = endW (atL l j)
  en0 : k = 0 → g.en = false
  best : ∀ x, g.best = some x → x.1 < k ∧ x.2 = levW (atL l x.1)
theorem deepW_lo (x : W) (d : Int) : d - 1 ≤ deepW x d ∧ deepW x d ≤ d + 1 := by unfold deepW; split <;> split <;> omega
theorem gone_zero (l : List W) : Gone l 0 (goG l 0) := ⟨rfl, by show -((0 : Nat) : Int) ≤ 0; decide, by show (0 : Int) ≤ ((0 : Nat) : Int); decide, fun j h => absurd h (by omega), fun _ => rfl, fun x h => by simp [goG_zero] at h⟩
theorem Gone.next {l : List W} {k : Nat} (h : Gone l k (goG l k)) (hk : k < l.length) : Gone l (k + 1) (goG l (k + 1)) := by
  rw [goG_next hk]
  have hd := deepW_lo (atL l k) (goG l k).deep
  have := h.lo; have := h.hi
  refine ⟨?_, ?_, ?_, ?_, fun e => by omega, ?_⟩
  · show (goG l k).i + 1 = _; rw [h.i]
  · show _ ≤ deepW _ _; omega
  · show deepW _ _ ≤ _; omega
  · intro j e; have : j = k := by omega
    subst this; rfl
  · intro x hx
    have hx : (if 0 < deepW (atL l k) (goG l k).deep ∨ kindW (atL l k) = 0 ∨ (goG l k).en = false then (goG l k).best else better (goG l k).i (levW (atL l k)) (goG l k).best) = some x := hx
    split at hx
    · obtain ⟨h1, h2⟩ := h.best x hx; exact ⟨by omega, h2⟩
    · rw [h.i] at hx
      cases hb : (goG l k).best with
      | none => rw [hb] at hx; cases hx; exact ⟨Nat.lt_succ_self _, rfl⟩
      | some y =>
        rw [hb] at hx
        unfold better at hx
        simp only at hx
        split at hx
        · cases hx; exact ⟨Nat.lt_succ_self _, rfl⟩
        · cases hx; obtain ⟨h1, h2⟩ := h.best x hb; exact ⟨by omega, h2⟩
theorem all_gone (l : List W) : ∀ k, k ≤ l.length → Gone l k (goG l k)
  | 0, _ => gone_zero l
  | k + 1, h => (all_gone l k (by omega)).next (by omega)
/-- A word as it lies, and what the small functions say of it. -/
theorem is_as {x : W} {c : UInt8} {b : Bool} (h : isW x c = b) (w : World) : Calls Tryz.prog 40 #[.agg #[.int .i64 x.kind, .string (ba x.text), .int .i64 x.n, .int .i64 x.pos], .string ⟨#[c]⟩] w fun e w' => e = .returned (.bool b) ∧ Below w.heap.size w w' := by
  have := is_any x c w; rw [h] at this; exact this
theorem kind_as {x : W} {k : Int} (hx : x.kind = 3 → ∃ c, x.text = [c]) (h : kindW x = k) (w : World) : Calls Tryz.prog 41 #[.agg #[.int .i64 x.kind, .string (ba x.text), .int .i64 x.n, .int .i64 x.pos]] w fun e w' => e = .returned (.int .i64 k) ∧ Below w.heap.size w w' := by
  have := kind_any x hx w; rw [h] at this; exact this
theorem level_as {k : Int} {n : Nat} (h : rowK k = n) (w : World) : Calls Tryz.prog 28 #[.int .i64 k] w fun e w' => e = .returned (.int .i64 n) ∧ w' = w := by
  have := level_any k w; rw [h] at this; exact this
end Go.Proofs.YtlfeejjlcclbdaaGreatDoor

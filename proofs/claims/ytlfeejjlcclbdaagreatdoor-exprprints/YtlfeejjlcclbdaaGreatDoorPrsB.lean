/-
  The document's Parse gives what Parse gives, over what Scan says.
-/
import Derived.Test.YtlfeejjlcclbdaaGreatDoorRParse
import Derived.Test.YtlfeejjlcclbdaaGreatDoorRefA
import Derived.Test.YtlfeejjlcclbdaaGreatDoorWorks
import Derived.Test.YtlfeejjlcclbdaaGreatDoorRSame
import Derived.Test.YtlfeejjlcclbdaaGreatDoorScanW
namespace Go.Proofs.YtlfeejjlcclbdaaGreatDoor
section
open Go.RowKit
set_option linter.unusedVariables false


theorem whole_err {ws r : List W} {e : Nat} (h : wholeM ws = .error (e, r)) : e ≠ 0 := by
  unfold wholeM at h
  cases hq : sdM 16 1 ws with
  | error y => rw [hq] at h; obtain ⟨y, q⟩ := y; simp only [Except.error.injEq, Prod.mk.injEq] at h; rw [← h.1]; exact sd_err hq
  | ok y =>
    rw [hq] at h; obtain ⟨y, q⟩ := y
    cases q with
    | nil => cases h
    | cons v q => simp only [Except.error.injEq, Prod.mk.injEq] at h; omega
theorem rparse_any (s : ByteArray) (hs : s.size ≤ 4096) (hm : s.size ≤ maxLen) (hwd : ∀ x ∈ (lexOut s).ws, Wd x) (hsc : ScanS (lexOut s).ws s.size (scanE s.size (lexOut s).ws).1 (scanE s.size (lexOut s).ws).2) (w : World) :
    Calls Tryz.prog 15 #[.string s] w (PPost w (parseM s)) := by
  unfold parseM parseO
  have hc : ∀ w, Calls Tryz.prog 30 #[.string s] w fun e w' => ∃ v, e = .returned (.tuple #[v, faultV (lexOut s).err (lexOut s).pos]) ∧ WordsV w' v (lexOut s).ws ∧ Below w.heap.size w w' := fun w => rsplit_any s hm w
  have hlen := lex_few s
  by_cases he : (lexOut s).err ≠ 0
  · rw [if_pos he]; exact rparse_fault s _ he w hc
  · rw [if_neg he]
    have he0 : (lexOut s).err = 0 := by omega
    have hw := whole_scan (lexOut s).ws hwd
    unfold treeM
    cases hq : wholeM (lexOut s).ws with
    | error y =>
      obtain ⟨e, r⟩ := y
      rw [hq] at hw
      have e1 : scanE s.size (lexOut s).ws = (e, atW s.size r) := by unfold scanE; rw [hw]
      rw [e1] at hsc
      exact rparse_scan s (by omega) _ he0 e _ (whole_err hq) w hc hsc
    | ok t =>
      rw [hq] at hw
      have e1 : scanE s.size (lexOut s).ws = (0, 0) := by unfold scanE; rw [hw]
      rw [e1] at hsc
      obtain ⟨hne, ht⟩ := whole_tree _ hwd hq
      exact rparse_tree s (by omega) _ he0 hne t w hc hsc (fun w b cap h1 h2 => tree_any _ _ t (lex_ok s) (whole_kok hq) (ht _ (Nat.le_refl _)) hlen b 0 cap w h1 h2)
end
section
open Go.RowKit
set_option linter.unusedVariables false


theorem two_row {w1 w2 : World} {o : Obj} {x p : Value} (HB : Below ((w1.alloc o).alloc (.cells #[x, p] 33)).heap.size ((w1.alloc o).alloc (.cells #[x, p] 33)) w2) : RowC w2 (w1.heap.size + 1) #[x, p] := by
  have h := RowC.new (w1.alloc o) #[x, p] 33
  rw [size_alloc] at h
  exact h.below HB
end
section
open Go.RowKit
set_option linter.unusedVariables false


theorem scan_any (ws : List W) (hsg : ∀ x ∈ ws, x.kind = 3 → ∃ c, x.text = [c]) (en : Nat) (hen : en ≤ 4096) : ScanS ws en (scanE en ws).1 (scanE en ws).2 := by
  intro w a cap h
  obtain ⟨a2, cap2, e, h1, h2, h3⟩ := h
  injection e with e1 e2 e3
  subst e1; subst e3
  refine scan_walk ws h2 hsg en hen a cap h1 w ?_ _ rfl
  intro hne
  rcases h3 with h | ⟨b, rfl, hc⟩
  · exact absurd h hne
  · exact ⟨b, rfl, fun i hi => by rw [Nat.zero_add]; exact hc i hi⟩
end
section
open Go.RowKit
set_option linter.unusedVariables false


end
end Go.Proofs.YtlfeejjlcclbdaaGreatDoor

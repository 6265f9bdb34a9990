/-
  The document's Parse gives what Parse gives, over what Scan says.
-/
import Derived.Test.YtlfeejjlcclbdaaDoorRParse
import Derived.Test.YtlfeejjlcclbdaaDoorRefA
import Derived.Test.YtlfeejjlcclbdaaDoorWorks
import Derived.Test.YtlfeejjlcclbdaaDoorRSame
import Derived.Test.YtlfeejjlcclbdaaDoorScanW
namespace Go.Proofs.YtlfeejjlcclbdaaDoor
section
open Go.RowKit
set_option linter.unusedVariables false


theorem whole_err {ws r : List W} {e : Nat} (h : wholeM ws = .error (e, r)) : e ≠ 0 := by
  unfold wholeM at h
  cases hq : sdM 16 1 ws with
  | error y => rw [hq] at h; obtain ⟨y, q⟩ := y; simp only [Except.error.injEq, Prod.mk.injEq] at h; rw [← h.1]; exact sd_err hq
  | ok y =>
    rw [hq] at h; obtain ⟨y, q⟩ := y
    cases q with
    | nil => cases h
    | cons v q => simp only [Except.error.injEq, Prod.mk.injEq] at h; omega
theorem rparse_any (s : ByteArray) (hs : s.size ≤ 4096) (hm : s.size ≤ maxLen) (hwd : ∀ x ∈ (lexOut s).ws, Wd x) (hsc : ScanS (lexOut s).ws s.size (scanE s.size (lexOut s).ws).1 (scanE s.size (lexOut s).ws).2) (w : World) :
    Calls Tryd.prog 10 #[.string s] w (PPost w (parseM s)) := by
  unfold parseM parseO
  have hc : ∀ w, Calls Tryd.prog 20 #[.string s] w fun e w' => ∃ v, e = .returned (.tuple #[v, faultV (lexOut s).err (lexOut s).pos]) ∧ WordsV w' v (lexOut s).ws ∧ Below w.heap.size w w' := fun w => rsplit_any s hm w
  have hlen := lex_few s
  by_cases he : (lexOut s).err ≠ 0
  · rw [if_pos he]; exact rparse_fault s _ he w hc
  · rw [if_neg he]
    have he0 : (lexOut s).err = 0 := by omega
    have hw := whole_scan (lexOut s).ws hwd
    unfold treeM
    cases hq : wholeM (lexOut s).ws with
    | error y =>
      obtain ⟨e, r⟩ := y
      rw [hq] at hw
      have e1 : scanE s.size (lexOut s).ws = (e, atW s.size r) := by unfold scanE; rw [hw]
      rw [e1] at hsc
      exact rparse_scan s (by omega) _ he0 e _ (whole_err hq) w hc hsc
    | ok t =>
      rw [hq] at hw
      have e1 : scanE s.size (lexOut s).ws = (0, 0) := by unfold scanE; rw [hw]
      rw [e1] at hsc
      obtain ⟨hne, ht⟩ := whole_tree _ hwd hq
      exact rparse_tree s (by omega) _ he0 hne t w hc hsc (fun w b cap h1 h2 => tree_any _ _ t (lex_ok s) (whole_kok hq) (ht _ (Nat.le_refl _)) hlen b 0 cap w h1 h2)
end
section
open Go.RowKit
set_option linter.unusedVariables false


set_option maxRecDepth 100000 in
set_option maxHeartbeats 1000000 in
theorem prs_long (s : ByteArray) (hm : s.size ≤ maxLen) (hs : 1500 < s.size) (w : World) (HD : Hid (Ready w)) : Calls Tryd.prog 3 #[.string s] w fun e w' => e = .returned (.bool true) ∧ Below w.heap.size w w' := by
  have C8 : Hid (∀ w, Ready w → Calls Tryd.prog 8 #[] w fun e w' => e = .returned (.bool true) ∧ Below w.heap.size w w') := fun w h => works_any w h
  have hm2 : s.size ≤ 9223372036854775807 := hm
  go_enter Tryd.func3, Tryd.ntmps3
  go_wp2_with (go_at_call 8; refine (C8.out _ HD.out).mono ?_; rintro e w1 ⟨rfl, HB⟩)
  go_ret
  exact ⟨rfl, HB⟩
theorem two_row {w1 w2 : World} {o : Obj} {x p : Value} (HB : Below ((w1.alloc o).alloc (.cells #[x, p] 28)).heap.size ((w1.alloc o).alloc (.cells #[x, p] 28)) w2) : RowC w2 (w1.heap.size + 1) #[x, p] := by
  have h := RowC.new (w1.alloc o) #[x, p] 28
  rw [size_alloc] at h
  exact h.below HB
set_option maxRecDepth 100000 in
set_option maxHeartbeats 1000000 in
theorem prs_short (s : ByteArray) (hs : s.size ≤ 1500) (t : Tr) (x p : Nat) (w : World) (HD : Hid (Ready w))
    (C9 : Hid (∀ w, Ready w → Calls Tryd.prog 9 #[.string s] w (PPost w ⟨t, x, p⟩))) (C10 : Hid (∀ w, Calls Tryd.prog 10 #[.string s] w (PPost w ⟨t, x, p⟩))) : Calls Tryd.prog 3 #[.string s] w fun e w' => e = .returned (.bool true) ∧ Below w.heap.size w w' := by
  have C8 : Hid (∀ w, Ready w → Calls Tryd.prog 8 #[] w fun e w' => e = .returned (.bool true) ∧ Below w.heap.size w w') := fun w h => works_any w h
  have C11 : Hid (∀ v u w P Q, Tre w P v t → Tre w Q u t → Calls Tryd.prog 11 #[v, u] w fun e w' => e = .returned (.bool true) ∧ Below w.heap.size w w') := fun v u w P Q h1 h2 => (rsame_any t P Q t _ _ w h1 h2).mono fun e w' h => ⟨h.1.of_yes rfl, h.2⟩
  have hs9 : ¬ (1500 : Int) < (s.size : Int) := by omega
  go_enter Tryd.func3, Tryd.ntmps3
  go_wp2_with (first
    | (go_at_call 8; have := D3; refine (C8.out _ D3.out.1).mono ?_; rintro e w4 ⟨rfl, HB⟩; have HF : Hid (Below w.heap.size w w4) := D3.out.2.trans (HB.mono D3.out.2.size); clear HB D3)
    | (go_at_call 11; have := D2; refine (C11.out _ _ _ _ _ ((D2.out.2.2.1.alloc _).alloc _) ((D2.out.2.2.2.alloc _).alloc _)).mono ?_; rintro e w3 ⟨rfl, HB⟩; have D3 : Hid (Ready w3 ∧ Below w.heap.size w w3) := ⟨((D2.out.1.alloc _).alloc _).below HB, ((D2.out.2.1.alloc D2.out.2.1.size _).alloc (Nat.le_trans D2.out.2.1.size (le_alloc _ _)) _).trans (HB.mono (Nat.le_trans D2.out.2.1.size (Nat.le_trans (le_alloc _ _) (le_alloc _ _))))⟩; clear HB D2)
    | (go_at_call 10; have := D1; refine (C10.out _).mono ?_; rintro e w2 ⟨⟨yk, yn, ys, ya, yl, yc, rfl, hT⟩, HB⟩; have D2 : Hid (Ready w2 ∧ Below w.heap.size w w2 ∧ Tre w2 (fun g => w.heap.size ≤ g) (.agg #[.int .i64 tk, .int .i64 tn, .string ts, .slice ta tl tc]) t ∧ Tre w2 (fun g => ((w1.alloc (.cells #[.int .i64 tk, .int .i64 tn, .string ts, .slice ta tl tc] 25)).alloc (.cells #[.int .i64 x, .int .i64 p] 28)).heap.size ≤ g) (.agg #[.int .i64 yk, .int .i64 yn, .string ys, .slice ya yl yc]) t) := ⟨((D1.out.1.alloc _).alloc _).below HB, ((D1.out.2.1.alloc D1.out.2.1.size _).alloc (Nat.le_trans D1.out.2.1.size (le_alloc _ _)) _).trans (HB.mono (Nat.le_trans D1.out.2.1.size (Nat.le_trans (le_alloc _ _) (le_alloc _ _)))), ((D1.out.2.2.alloc _).alloc _).below HB, hT⟩; have z0 : w2.cell? ⟨w1.heap.size + 1, 0, none⟩ = some (.int .i64 x) := two_row HB 0 _ rfl; have z1 : w2.cell? ⟨w1.heap.size + 1, 1, none⟩ = some (.int .i64 p) := two_row HB 1 _ rfl; have hl2 : w1.heap.size + 1 < w2.heap.size := World.block_lt_of_cell? _ _ z0; obtain ⟨p0, p1, p2, p3, p4⟩ := ((Cell4.new w1 (.int .i64 tk) (.int .i64 tn) (.string ts) (.slice ta tl tc) 25).alloc _).below HB; have hl3 : w1.heap.size < w2.heap.size := World.block_lt_of_cell? _ _ p0; clear HB hT D1)
    | (go_at_call 9; refine (C9.out _ HD.out).mono ?_; rintro e w1 ⟨⟨tk, tn, ts, ta, tl, tc, rfl, hT⟩, HB⟩; have D1 : Hid (Ready w1 ∧ Below w.heap.size w w1 ∧ Tre w1 (fun g => w.heap.size ≤ g) (.agg #[.int .i64 tk, .int .i64 tn, .string ts, .slice ta tl tc]) t) := ⟨HD.out.below HB, HB, hT⟩; clear HB hT HD))
  go_ret
  exact ⟨rfl, HF.out⟩
/-- ExprParses holds where Scan says what the reader says. -/
theorem prs_walk (hscan : ∀ (s : ByteArray), s.size ≤ 1500 → ScanS (lexOut s).ws s.size (scanE s.size (lexOut s).ws).1 (scanE s.size (lexOut s).ws).2) (s : ByteArray) (w : World) (hm : s.size ≤ maxLen) (hw : Ready w) :
    Calls Tryd.prog 3 #[.string s] w fun e w' => e = .returned (.bool true) ∧ Below w.heap.size w w' := by
  by_cases hs : 1500 < s.size
  · exact prs_long s hm hs w hw
  · have hwd : ∀ x ∈ (lexOut s).ws, Wd x := by
      unfold lexOut
      rw [if_pos (by omega)]
      exact fun x hx => (sp_wd _ _ x hx).1
    have C9 : ∀ w, Ready w → Calls Tryd.prog 9 #[.string s] w (PPost w (parseM s)) := fun w h => parse_any s hm w h.held
    have C10 : ∀ w, Calls Tryd.prog 10 #[.string s] w (PPost w (parseM s)) := fun w => rparse_any s (by omega) hm hwd (hscan s (by omega)) w
    generalize parseM s = q at *
    obtain ⟨t, x, p⟩ := q
    exact prs_short s (by omega) t x p w hw C9 C10
end
section
open Go.RowKit
set_option linter.unusedVariables false


theorem scan_any (ws : List W) (hsg : ∀ x ∈ ws, x.kind = 3 → ∃ c, x.text = [c]) (en : Nat) (hen : en ≤ 4096) : ScanS ws en (scanE en ws).1 (scanE en ws).2 := by
  intro w a cap h
  obtain ⟨a2, cap2, e, h1, h2, h3⟩ := h
  injection e with e1 e2 e3
  subst e1; subst e3
  refine scan_walk ws h2 hsg en hen a cap h1 w ?_ _ rfl
  intro hne
  rcases h3 with h | ⟨b, rfl, hc⟩
  · exact absurd h hne
  · exact ⟨b, rfl, fun i hi => by rw [Nat.zero_add]; exact hc i hi⟩
end
section
open Go.RowKit
set_option linter.unusedVariables false


theorem prs_any (s : ByteArray) (w : World) (hm : s.size ≤ maxLen) (hw : Ready w) : Calls Tryd.prog 3 #[.string s] w fun e w' => e = .returned (.bool true) ∧ Below w.heap.size w w' :=
  prs_walk (fun s hs => scan_any _ (fun x hx => (lex_ok s x hx).1) s.size (by omega)) s w hm hw
end
end Go.Proofs.YtlfeejjlcclbdaaDoor

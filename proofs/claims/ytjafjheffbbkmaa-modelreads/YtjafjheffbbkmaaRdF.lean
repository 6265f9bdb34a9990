/-
  The program's tree, trees, flow: contracts.
-/
import Derived.Test.YtjafjheffbbkmaaRdE
namespace Go.Proofs.Ytjafjheffbbkmaa
open Go.RowKit
set_option linter.unusedVariables false

theorem after_check {t : Tr} {s : Sst} : After (if checkM 16 t ≠ 0 then failE (checkM 16 t) else pureE t) s t (refuseS (checkM 16 t) s) := by
  by_cases h : checkM 16 t = 0
  · rw [if_neg (by simpa using h), h]
    have e : refuseS 0 s = s := by unfold refuseS; rw [if_neg (by simp)]
    rw [e]
    exact After.pure _ _
  · rw [if_pos h]
    exact After.fail h _ _
set_option maxRecDepth 100000 in
set_option maxHeartbeats 400000 in
theorem tree_any (rb : Nat) (s : Sst) (w : World) (hR : Rst w rb s) : Calls Try.prog 35 #[.pointer (some ⟨rb, 0, none⟩)] w (NodeP exprE rb s w) := by
  have hlt := hR.lt
  have HN : Hid (∀ o, Calls Try.prog 69 #[.pointer (some ⟨rb, 0, none⟩), .int .i64 1] (w.alloc o) (NodeP (treeE 16) rb s (w.alloc o))) := fun o => nodes_any 16 1 rfl rb s _ (hR.alloc o)
  have HC : Hid (∀ P t k n s a l c w, Tre w P (.agg #[.int .i64 k, .int .i64 n, .string s, .slice a l c]) t → Calls Try.prog 39 #[.agg #[.int .i64 k, .int .i64 n, .string s, .slice a l c]] w fun e w' => e = .returned (.int .i64 (checkM 16 t)) ∧ Below w.heap.size w w') := fun P t k n s a l c w h => Check_any P t k n s a l c w h
  have HF : Hid (∀ e s1 w1, Rst w1 rb s1 → Calls Try.prog 70 #[.pointer (some ⟨rb, 0, none⟩), .int .i64 (e : Nat)] w1 fun en w' => en = .returned (.tuple #[]) ∧ Rst w' rb (refuseS e s1) ∧ Fr rb w1 w') := fun e s1 w1 q => refuse_any rb e s1 w1 q
  have hn1 : w.heap.size ≠ rb := by omega
  clear hR
  go_enter Try.func35, Try.ntmps35
  go_wp2_with (first
    | (go_at_call 70; have := H3; refine (HF.out _ _ _ H3.out.1).mono ?_; rintro e w4 ⟨rfl, q1, q2⟩; have H4 : Hid (Rst w4 rb (refuseS (checkM 16 t) s1) ∧ Fr rb w w4 ∧ Cell4 w4 w.heap.size (.int .i64 0) (.int .i64 0) (.string ⟨#[]⟩) (.slice none 0 0) ∧ Cell4 w4 xb (.int .i64 k) (.int .i64 n) (.string str) (.slice a l c) ∧ Tre w4 (fun g => w.heap.size < g) (.agg #[.int .i64 k, .int .i64 n, .string str, .slice a l c]) t ∧ After (treeE 16) s t s1) := ⟨q1, H3.out.2.1.trans q2, H3.out.2.2.1.fr q2 hn1, H3.out.2.2.2.1.fr q2 (Nat.ne_of_gt (Nat.lt_trans hlt hxb)), H3.out.2.2.2.2.1.moved q2 (fun g hg => ⟨Nat.ne_of_gt (Nat.lt_trans hlt hg), hg⟩), H3.out.2.2.2.2.2⟩; obtain ⟨z0, z1, z2, z3, z4⟩ := H4.out.2.2.1; obtain ⟨x0, x1, x2, x3, x4⟩ := H4.out.2.2.2.1; clear q1 q2 H3)
    | (go_at_call 39; have := H2; refine (HC.out _ t _ _ _ _ _ _ _ (H2.out.2.2.2.1.alloc _)).mono ?_; rintro e w3 ⟨rfl, q1⟩; have q2 : Fr rb (w2.alloc (.cells #[.int .i64 k, .int .i64 n, .string str, .slice a l c] 31)) w3 := .of_below q1; have H3 : Hid (Rst w3 rb s1 ∧ Fr rb w w3 ∧ Cell4 w3 w.heap.size (.int .i64 0) (.int .i64 0) (.string ⟨#[]⟩) (.slice none 0 0) ∧ Cell4 w3 w2.heap.size (.int .i64 k) (.int .i64 n) (.string str) (.slice a l c) ∧ Tre w3 (fun g => w.heap.size < g) (.agg #[.int .i64 k, .int .i64 n, .string str, .slice a l c]) t ∧ After (treeE 16) s t s1) := ⟨(H2.out.1.alloc _).below q1 (H2.out.1.alloc _).lt, (H2.out.2.1.alloc _).trans q2, (H2.out.2.2.1.alloc _).below q1, (Cell4.new _ _ _ _ _ 31).below q1, (H2.out.2.2.2.1.alloc _).below q1, H2.out.2.2.2.2⟩; have hxb : w.heap.size < w2.heap.size := H2.out.2.2.1.lt; obtain ⟨z0, z1, z2, z3, z4⟩ := H3.out.2.2.1; obtain ⟨x0, x1, x2, x3, x4⟩ := H3.out.2.2.2.1; clear q1 q2 H2; generalize w2.heap.size = xb at *)
    | (go_at_call 69; refine (HN.out _).mono ?_; rintro e w2 ⟨t, s1, k, n, str, a, l, c, rfl, qt, qa, q1, q2⟩; have H2 : Hid (Rst w2 rb s1 ∧ Fr rb w w2 ∧ Cell4 w2 w.heap.size (.int .i64 0) (.int .i64 0) (.string ⟨#[]⟩) (.slice none 0 0) ∧ Tre w2 (fun g => w.heap.size < g) (.agg #[.int .i64 k, .int .i64 n, .string str, .slice a l c]) t ∧ After (treeE 16) s t s1) := ⟨q1, ((Fr.refl _ _).alloc _).trans q2, (Cell4.new w _ _ _ _ 31).fr q2 hn1, qt.sub (fun g hg => by rw [size_alloc] at hg; exact hg), qa⟩; clear qt qa q1 q2))
  refine bodyPost_ret (v := .agg #[.int .i64 k, .int .i64 n, .string str, .slice a l c]) (by simp [results, Try.results35, go_sem, z0, z1, z2, z3]) rfl ⟨_, _, _, _, _, _, _, _, rfl, ?_, H4.out.2.2.2.2.2.bind after_check, four_rst (o := 0) H4.out.1 hlt, four_fr (o := 0) H4.out.2.1 (Nat.le_refl _)⟩
  exact H4.out.2.2.2.2.1.kept fun g hg _ => ⟨four_other (M := w.heap.size) (o := 0) (by omega), by omega⟩
/-- Trees, none or one, that were read. -/
def TreesP (rb : Nat) (s : Sst) (w : World) (e : Ending) (w' : World) : Prop := ∃ ts s' a c, e = .returned (.slice a ts.length c) ∧ ExsV w' (fun g => w.heap.size ≤ g) (.slice a ts.length c) ts ∧ ts.length ≤ 1 ∧ After maybeE s ts s' ∧ Rst w' rb s' ∧ Fr rb w w'
set_option maxRecDepth 100000 in
set_option maxHeartbeats 400000 in
theorem trees_any (rb : Nat) (s : Sst) (w : World) (hR : Rst w rb s) : Calls Try.prog 101 #[.pointer (some ⟨rb, 0, none⟩)] w (TreesP rb s w) := by
  have hlt := hR.lt
  have HT : Hid (Calls Try.prog 91 #[.pointer (some ⟨rb, 0, none⟩), .func (.func 92) #[] #[]] w fun e w' => e = .returned (.int .u8 (hdS s : Nat)) ∧ Rst w' rb (tlS s) ∧ Fr rb w w') := takeByte_det rb s _ hR
  have HA : Hid (After byteE s (hdS s) (tlS s)) := after_byte hR.nil
  have hm := hd_lt s
  clear hR
  by_cases h0 : hdS s = 0
  · have HA0 : Hid (After maybeE s [] (tlS s)) := HA.out.bind (by rw [h0, if_pos rfl]; exact After.pure _ _)
    rw [h0] at HT
    clear h0 HA hm
    generalize tlS s = s1 at *
    go_enter Try.func101, Try.ntmps101
    go_wp2_with (go_at_call 91; refine HT.out.mono ?_; rintro e w2 ⟨rfl, q1, q2⟩; have H2 : Hid (Rst w2 rb s1 ∧ Fr rb w w2) := ⟨q1, q2⟩; clear q1 q2)
    go_ret
    exact ⟨[], s1, none, 0, rfl, ExsV.nil _ _, Nat.zero_le _, HA0.out, H2.out⟩
  · by_cases h1 : hdS s = 1
    · have HA0 : Hid (∀ t s2, After exprE (tlS s) t s2 → After maybeE s [t] s2) := fun t s2 q => HA.out.bind (by rw [h1, if_neg (by decide), if_pos rfl]; exact q.bind (After.pure _ _))
      have HN : Hid (∀ w1, Rst w1 rb (tlS s) → Calls Try.prog 35 #[.pointer (some ⟨rb, 0, none⟩)] w1 (NodeP exprE rb (tlS s) w1)) := fun w1 q => tree_any rb (tlS s) w1 q
      rw [h1] at HT
      clear h0 h1 HA hm
      generalize tlS s = s1 at *
      go_enter Try.func101, Try.ntmps101
      go_wp2_with (first
        | (go_at_call 35; have := H2; refine (HN.out _ H2.out.1).mono ?_; rintro e w3 ⟨t, s2, k, n, str, a, l, c, rfl, qt, qa, q1, q2⟩; have H3 : Hid (Rst w3 rb s2 ∧ Fr rb w w3 ∧ Tre w3 (fun g => w.heap.size ≤ g) (.agg #[.int .i64 k, .int .i64 n, .string str, .slice a l c]) t ∧ After exprE s1 t s2) := ⟨q1, H2.out.2.trans q2, qt.sub (fun g hg => Nat.le_trans H2.out.2.size hg), qa⟩; clear qt qa q1 q2 H2)
        | (go_at_call 91; refine HT.out.mono ?_; rintro e w2 ⟨rfl, q1, q2⟩; have H2 : Hid (Rst w2 rb s1 ∧ Fr rb w w2) := ⟨q1, q2⟩; clear q1 q2))
      go_ret
      refine ⟨[t], s2, _, _, rfl, ?_, Nat.le_refl _, HA0.out _ _ H3.out.2.2.2, H3.out.1.alloc _, H3.out.2.1.alloc _⟩
      have C := Cell4.new w3 (.int .i64 k) (.int .i64 n) (.string str) (.slice a l c) 31
      exact Tre.node1 inR_zero (H3.out.2.2.1.alloc _) H3.out.2.1.size C.c0 C.c1 C.c2 C.c3
    · have HA0 : Hid (After maybeE s [] (refuseS 3 (tlS s))) := HA.out.bind (by rw [if_neg h0, if_neg h1]; exact After.fail (by decide) _ _)
      have HF : Hid (∀ w1, Rst w1 rb (tlS s) → Calls Try.prog 70 #[.pointer (some ⟨rb, 0, none⟩), .int .i64 3] w1 fun en w' => en = .returned (.tuple #[]) ∧ Rst w' rb (refuseS 3 (tlS s)) ∧ Fr rb w1 w') := fun w1 q => refuse_any rb 3 _ w1 q
      clear HA
      generalize refuseS 3 (tlS s) = s2 at *
      generalize tlS s = s1 at *
      generalize hdS s = m at *
      have g0 : ((m : Int) == 0) = false := by rw [beq_eq_false_iff_ne]; omega
      have g1 : ((m : Int) == 1) = false := by rw [beq_eq_false_iff_ne]; omega
      go_enter Try.func101, Try.ntmps101
      go_wp2_with (first
        | (go_at_call 70; have := H2; refine (HF.out _ H2.out.1).mono ?_; rintro e w3 ⟨rfl, q1, q2⟩; have H3 : Hid (Rst w3 rb s2 ∧ Fr rb w w3) := ⟨q1, H2.out.2.trans q2⟩; clear q1 q2 H2)
        | (go_at_call 91; refine HT.out.mono ?_; rintro e w2 ⟨rfl, q1, q2⟩; have H2 : Hid (Rst w2 rb s1 ∧ Fr rb w w2) := ⟨q1, q2⟩; clear q1 q2))
      go_ret
      exact ⟨[], s2, none, 0, rfl, ExsV.nil _ _, Nat.zero_le _, HA0.out, H3.out⟩
end Go.Proofs.Ytjafjheffbbkmaa

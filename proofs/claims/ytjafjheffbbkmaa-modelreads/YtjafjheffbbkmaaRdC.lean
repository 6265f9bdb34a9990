/-
  The program's node: contracts.
-/
import Derived.Test.YtjafjheffbbkmaaRdB
import Derived.Test.YtjafjheffbbkmaaGw
namespace Go.Proofs.Ytjafjheffbbkmaa
open Go.RowKit
set_option linter.unusedVariables false

theorem four_other {w : World} {M o g : Nat} {u0 u1 u2 u3 : Value} (hg : g ≠ M) : ((((w.setCell ⟨M, o, none⟩ u0).setCell ⟨M, o + 1, none⟩ u1).setCell ⟨M, o + 2, none⟩ u2).setCell ⟨M, o + 3, none⟩ u3).heap[g]? = w.heap[g]? := by
  rw [Below.heap_setCell _ _ _ _ hg, Below.heap_setCell _ _ _ _ hg, Below.heap_setCell _ _ _ _ hg, Below.heap_setCell _ _ _ _ hg]
theorem four_rst {w : World} {rb M o : Nat} {s : Sst} {u0 u1 u2 u3 : Value} (h : Rst w rb s) (hM : rb < M) : Rst ((((w.setCell ⟨M, o, none⟩ u0).setCell ⟨M, o + 1, none⟩ u1).setCell ⟨M, o + 2, none⟩ u2).setCell ⟨M, o + 3, none⟩ u3) rb s := h.kept fun k hk => four_other (by omega)
theorem four_fr {rb : Nat} {a w : World} {M o : Nat} {u0 u1 u2 u3 : Value} (h : Fr rb a w) (hM : a.heap.size ≤ M) : Fr rb a ((((w.setCell ⟨M, o, none⟩ u0).setCell ⟨M, o + 1, none⟩ u1).setCell ⟨M, o + 2, none⟩ u2).setCell ⟨M, o + 3, none⟩ u3) :=
  (((h.setCell (p := ⟨M, o, none⟩) (.inr hM) _).setCell (p := ⟨M, o + 1, none⟩) (.inr hM) _).setCell (p := ⟨M, o + 2, none⟩) (.inr hM) _).setCell (p := ⟨M, o + 3, none⟩) (.inr hM) _
theorem four_tre {P : Nat → Prop} {w : World} {M o : Nat} {u0 u1 u2 u3 v : Value} {t : Tr} (h : Tre w P v t) (hM : ¬ P M) : Tre ((((w.setCell ⟨M, o, none⟩ u0).setCell ⟨M, o + 1, none⟩ u1).setCell ⟨M, o + 2, none⟩ u2).setCell ⟨M, o + 3, none⟩ u3) P v t :=
  h.kept fun g hg _ => ⟨four_other (fun e => hM (e ▸ hg)), hg⟩
theorem tre_zero (w : World) (P : Nat → Prop) : Tre w P (.agg #[.int .i64 0, .int .i64 0, .string ⟨#[]⟩, .slice none 0 0]) zeroT := Tre.leaf w P inR_zero inR_zero [] (by decide)
/-- A tree that was read. -/
def NodeP (f : Rds Tr) (rb : Nat) (s : Sst) (w : World) (e : Ending) (w' : World) : Prop := ∃ t s' k n str a l c, e = .returned (.agg #[.int .i64 k, .int .i64 n, .string str, .slice a l c]) ∧ Tre w' (fun g => w.heap.size ≤ g) (.agg #[.int .i64 k, .int .i64 n, .string str, .slice a l c]) t ∧ After f s t s' ∧ Rst w' rb s' ∧ Fr rb w w'
def Nodes (d : Nat) : Prop := ∀ (deep : Nat), d + deep = 17 → ∀ (rb : Nat) (s : Sst) (w : World), Rst w rb s → Calls Try.prog 69 #[.pointer (some ⟨rb, 0, none⟩), .int .i64 deep] w (NodeP (treeE d) rb s w)
theorem tl_nil {s : Sst} : (tlS s).err ≠ 0 → (tlS s).rest = [] := by
  unfold tlS
  split
  · intro h
    unfold refuseS at h ⊢
    split
    · rfl
    · rfl
  · intro h; exact absurd rfl h
theorem refuse_nil {e : Nat} {s : Sst} (h : s.err ≠ 0 → s.rest = []) : (refuseS e s).err ≠ 0 → (refuseS e s).rest = [] := by
  unfold refuseS
  split
  · intro _; rfl
  · exact h
set_option maxRecDepth 100000 in
set_option maxHeartbeats 400000 in
theorem node_zero : Nodes 0 := by
  intro deep hd rb s w hR
  obtain rfl : deep = 17 := by omega
  have hlt := hR.lt
  have HF : Hid (∀ o, Calls Try.prog 70 #[.pointer (some ⟨rb, 0, none⟩), .int .i64 6] (w.alloc o) fun en w' => en = .returned (.tuple #[]) ∧ Rst w' rb (refuseS 6 s) ∧ Fr rb (w.alloc o) w') := fun o => refuse_any rb 6 s _ (hR.alloc o)
  have hne : (refuseS 6 s).err ≠ 0 := by
    unfold refuseS
    split
    · decide
    · rename_i h; intro e; exact h ⟨by decide, e⟩
  have hnil : (refuseS 6 s).err ≠ 0 → (refuseS 6 s).rest = [] := refuse_nil hR.nil
  obtain ⟨e1, e2⟩ := hd_err hnil hne
  have e3 : refuseS 3 (refuseS 6 s) = refuseS 6 s := by
    show (if 3 ≠ 0 ∧ (refuseS 6 s).err = 0 then _ else _) = _
    rw [if_neg (by rintro ⟨_, q⟩; exact hne q)]
  have HT : Hid (∀ w1, Rst w1 rb (refuseS 6 s) → Calls Try.prog 91 #[.pointer (some ⟨rb, 0, none⟩), .func (.func 92) #[] #[]] w1 fun e w' => e = .returned (.int .u8 0) ∧ Rst w' rb (refuseS 6 s) ∧ Fr rb w1 w') := fun w1 q => by
    have := takeByte_det rb (refuseS 6 s) w1 q
    rw [e1, e2] at this; exact this
  have HG : Hid (∀ w1, Rst w1 rb (refuseS 6 s) → Calls Try.prog 70 #[.pointer (some ⟨rb, 0, none⟩), .int .i64 3] w1 fun en w' => en = .returned (.tuple #[]) ∧ Rst w' rb (refuseS 6 s) ∧ Fr rb w1 w') := fun w1 q => by
    have := refuse_any rb 3 (refuseS 6 s) w1 q
    rw [e3] at this; exact this
  have HA : Hid (After (treeE 0) s zeroT (refuseS 6 s)) := After.fail (by decide) _ _
  have hn1 : w.heap.size ≠ rb := by omega
  clear hR hne hnil e1 e2 e3
  generalize refuseS 6 s = s1 at *
  go_enter Try.func69, Try.ntmps69
  go_wp2_with (first
    | (go_at_call 70; have := H2; refine (HG.out _ (H2.out.1.alloc _)).mono ?_; rintro e w3 ⟨rfl, q1, q2⟩; have H3 : Hid (Rst w3 rb s1 ∧ Fr rb w w3 ∧ Cell4 w3 w.heap.size (.int .i64 0) (.int .i64 0) (.string ⟨#[]⟩) (.slice none 0 0)) := ⟨q1, (H2.out.2.1.alloc _).trans q2, (H2.out.2.2.alloc _).fr q2 hn1⟩; obtain ⟨z0, z1, z2, z3, z4⟩ := H3.out.2.2; clear q1 q2 H2)
    | (go_at_call 91; have := H1; refine (HT.out _ H1.out.1).mono ?_; rintro e w2 ⟨rfl, q1, q2⟩; have H2 : Hid (Rst w2 rb s1 ∧ Fr rb w w2 ∧ Cell4 w2 w.heap.size (.int .i64 0) (.int .i64 0) (.string ⟨#[]⟩) (.slice none 0 0)) := ⟨q1, H1.out.2.1.trans q2, H1.out.2.2.fr q2 hn1⟩; clear q1 q2 H1)
    | (go_at_call 70; refine (HF.out _).mono ?_; rintro e w1 ⟨rfl, q1, q2⟩; have H1 : Hid (Rst w1 rb s1 ∧ Fr rb w w1 ∧ Cell4 w1 w.heap.size (.int .i64 0) (.int .i64 0) (.string ⟨#[]⟩) (.slice none 0 0)) := ⟨q1, ((Fr.refl _ _).alloc _).trans q2, (Cell4.new w _ _ _ _ 31).fr q2 hn1⟩; clear q1 q2))
  refine bodyPost_ret (v := .agg #[.int .i64 0, .int .i64 0, .string ⟨#[]⟩, .slice none 0 0]) (by simp [results, Try.results69, go_sem, z0, z1, z2, z3]) rfl ⟨_, _, _, _, _, _, _, _, rfl, tre_zero _ _, HA.out, four_rst (o := 0) H3.out.1 hlt, four_fr (o := 0) H3.out.2.1 (Nat.le_refl _)⟩
set_option maxRecDepth 100000 in
set_option maxHeartbeats 400000 in
theorem node_out (d deep : Nat) (hd : d + 1 + deep = 17) (rb : Nat) (s : Sst) (w : World) (hR : Rst w rb s) (hx : hdS s < 1 ∨ 14 < hdS s) : Calls Try.prog 69 #[.pointer (some ⟨rb, 0, none⟩), .int .i64 deep] w (NodeP (treeE (d + 1)) rb s w) := by
  have hlt := hR.lt
  have h16 : deep ≤ 16 := by omega
  have HT : Hid (∀ o, Calls Try.prog 91 #[.pointer (some ⟨rb, 0, none⟩), .func (.func 92) #[] #[]] (w.alloc o) fun e w' => e = .returned (.int .u8 (hdS s : Nat)) ∧ Rst w' rb (tlS s) ∧ Fr rb (w.alloc o) w') := fun o => takeByte_det rb s _ (hR.alloc o)
  have HG : Hid (∀ w1, Rst w1 rb (tlS s) → Calls Try.prog 70 #[.pointer (some ⟨rb, 0, none⟩), .int .i64 3] w1 fun en w' => en = .returned (.tuple #[]) ∧ Rst w' rb (refuseS 3 (tlS s)) ∧ Fr rb w1 w') := fun w1 q => refuse_any rb 3 _ w1 q
  have HA : Hid (After (treeE (d + 1)) s zeroT (refuseS 3 (tlS s))) := (after_byte hR.nil).bind (by rw [if_pos hx]; exact After.fail (by decide) _ _)
  have hn1 : w.heap.size ≠ rb := by omega
  have hm := hd_lt s
  clear hR
  generalize refuseS 3 (tlS s) = s2 at *
  generalize tlS s = s1 at *
  generalize hdS s = m at *
  rcases hx with hx | hx
  · obtain rfl : m = 0 := by omega
    go_enter Try.func69, Try.ntmps69
    go_wp2_with (first
      | (go_at_call 70; have := H2; refine (HG.out _ (H2.out.1.alloc _)).mono ?_; rintro e w3 ⟨rfl, q1, q2⟩; have H3 : Hid (Rst w3 rb s2 ∧ Fr rb w w3 ∧ Cell4 w3 w.heap.size (.int .i64 0) (.int .i64 0) (.string ⟨#[]⟩) (.slice none 0 0)) := ⟨q1, (H2.out.2.1.alloc _).trans q2, (H2.out.2.2.alloc _).fr q2 hn1⟩; obtain ⟨z0, z1, z2, z3, z4⟩ := H3.out.2.2; clear q1 q2 H2)
      | (go_at_call 91; refine (HT.out _).mono ?_; rintro e w2 ⟨rfl, q1, q2⟩; have H2 : Hid (Rst w2 rb s1 ∧ Fr rb w w2 ∧ Cell4 w2 w.heap.size (.int .i64 0) (.int .i64 0) (.string ⟨#[]⟩) (.slice none 0 0)) := ⟨q1, ((Fr.refl _ _).alloc _).trans q2, (Cell4.new w _ _ _ _ 31).fr q2 hn1⟩; clear q1 q2))
    refine bodyPost_ret (v := .agg #[.int .i64 0, .int .i64 0, .string ⟨#[]⟩, .slice none 0 0]) (by simp [results, Try.results69, go_sem, z0, z1, z2, z3]) rfl ⟨_, _, _, _, _, _, _, _, rfl, tre_zero _ _, HA.out, four_rst (o := 0) H3.out.1 hlt, four_fr (o := 0) H3.out.2.1 (Nat.le_refl _)⟩
  · have hx1 : ¬ m < 1 := by omega
    go_enter Try.func69, Try.ntmps69
    go_wp2_with (first
      | (go_at_call 70; have := H2; refine (HG.out _ (H2.out.1.alloc _)).mono ?_; rintro e w3 ⟨rfl, q1, q2⟩; have H3 : Hid (Rst w3 rb s2 ∧ Fr rb w w3 ∧ Cell4 w3 w.heap.size (.int .i64 0) (.int .i64 0) (.string ⟨#[]⟩) (.slice none 0 0)) := ⟨q1, (H2.out.2.1.alloc _).trans q2, (H2.out.2.2.alloc _).fr q2 hn1⟩; obtain ⟨z0, z1, z2, z3, z4⟩ := H3.out.2.2; clear q1 q2 H2)
      | (go_at_call 91; refine (HT.out _).mono ?_; rintro e w2 ⟨rfl, q1, q2⟩; have H2 : Hid (Rst w2 rb s1 ∧ Fr rb w w2 ∧ Cell4 w2 w.heap.size (.int .i64 0) (.int .i64 0) (.string ⟨#[]⟩) (.slice none 0 0)) := ⟨q1, ((Fr.refl _ _).alloc _).trans q2, (Cell4.new w _ _ _ _ 31).fr q2 hn1⟩; clear q1 q2))
    refine bodyPost_ret (v := .agg #[.int .i64 0, .int .i64 0, .string ⟨#[]⟩, .slice none 0 0]) (by simp [results, Try.results69, go_sem, z0, z1, z2, z3]) rfl ⟨_, _, _, _, _, _, _, _, rfl, tre_zero _ _, HA.out, four_rst (o := 0) H3.out.1 hlt, four_fr (o := 0) H3.out.2.1 (Nat.le_refl _)⟩
end Go.Proofs.Ytjafjheffbbkmaa

/-
  The law's example: what each call tells.
-/
import Derived.Test.YtjafjheffbbkmaaSmZ
import Derived.Test.YtjafjheffbbkmaaPuD
import Derived.Test.YtjafjheffbbkmaaRdZ
namespace Go.Proofs.Ytjafjheffbbkmaa
section
open Go.RowKit
set_option linter.unusedVariables false

theorem reads_take {w : World} {a : Option Addr} {n c k : Nat} {l : BB} (h : V.ReadsV w (.slice a n c) l) (hk : k ≤ n) : V.ReadsV w (.slice a k c) (l.take k) := by
  obtain ⟨a', c', e, h2, h3, h4, h5, h6⟩ := h
  simp only [Value.slice.injEq] at e
  obtain ⟨rfl, rfl, rfl⟩ := e
  have hl : (l.take k).length = k := by rw [List.length_take]; omega
  refine ⟨a, c, by rw [hl], h2, by omega, h4, by rw [hl]; omega, ?_⟩
  rcases h6 with h | ⟨b, off, ha, hc⟩
  · exact .inl (by rw [h]; simp)
  · refine .inr ⟨b, off, ha, fun i hi => ?_⟩
    rw [hl] at hi
    rw [hc i (by omega)]
    congr 3
    unfold V.nth
    rw [List.getD_eq_getElem?_getD, List.getD_eq_getElem?_getD, List.getElem?_take, if_pos hi]
/-- Bytes that were laid. -/
theorem reads_laid (w : World) (cs : Array Value) (l : BB) (e : TypeId) (hl : cs.toList = l.map fun b => Value.int .u8 (V.B b)) (hm : l.length ≤ 1000) : V.ReadsV (w.alloc (.cells cs e)) (.slice (some ⟨w.heap.size, 0, none⟩) l.length l.length) l := by
  refine ⟨_, _, rfl, (fun h => by cases h), Nat.le_refl _, by unfold maxLen; omega, by unfold maxLen; omega, .inr ⟨w.heap.size, 0, rfl, fun i hi => ?_⟩⟩
  rw [Nat.zero_add, cell_of_row _ w.heap.size i _ e (0, 0) (heap_alloc_new w _)]
  have : cs[i]? = cs.toList[i]? := by simp
  rw [this, hl, List.getElem?_map, List.getElem?_eq_getElem hi]
  unfold V.nth
  rw [List.getD_eq_getElem?_getD, List.getElem?_eq_getElem hi]
  rfl
theorem own_some {w : World} {base n : Nat} {v : Value} {l : BB} (h : V.Owns w base v l) (hn : l.length = n) (hp : 0 < n) : ∃ g cap, v = .slice (some ⟨g, 0, none⟩) n cap ∧ n ≤ cap ∧ cap ≤ 9223372036854775807 ∧ base ≤ g ∧ g < w.heap.size := by
  obtain ⟨g, cap, h1, h2, h3, h4, h5⟩ := V.shape h (by omega)
  rw [hn] at h1 h2
  exact ⟨g, cap, h1, h2, by rw [V.maxLen_eq] at h3; exact h3, h4, h5⟩
theorem small_nums : DNums smallD := fun p hp => by
  simp only [smallD, List.mem_cons, List.not_mem_nil, or_false] at hp
  rcases hp with rfl | rfl | rfl
  · exact ⟨fun t ht => by simp at ht, fun f hf => by simp at hf; subst hf; exact ⟨⟨by decide, by decide⟩, fun t ht => by simp at ht⟩⟩
  · exact ⟨fun t ht => by simp at ht, fun f hf => by simp at hf; subst hf; exact ⟨⟨by decide, by decide⟩, fun t ht => by simp at ht⟩⟩
  · exact ⟨fun t ht => by simp at ht, fun f hf => by simp at hf⟩
theorem small_A (a : Option Addr) (c : Nat) : dfA smallD a c = .agg #[.string ⟨#[112]⟩, .slice a 3 c] := rfl
theorem w21 (P : Nat → Prop) (a : Option Addr) (c : Nat) (w : World) (q : DfV w P smallD a c) : Calls Try.prog 21 #[.agg #[.string ⟨#[112]⟩, .slice a 3 c]] w fun e w' => ∃ g cap, e = .returned (.tuple #[.slice (some ⟨g, 0, none⟩) 25 cap, .int .i64 0]) ∧ 25 ≤ cap ∧ cap ≤ 9223372036854775807 ∧ V.ReadsV w' (.slice (some ⟨g, 0, none⟩) 25 cap) (defB smallD) ∧ Below w.heap.size w w' := by
  rw [← small_A]
  refine (MPut_ok P smallD a c w q small_ok).mono ?_
  rintro e w' ⟨b', rfl, q1, q2⟩
  obtain ⟨g, cap, rfl, q3, q4, _⟩ := own_some q1 small_len (by decide)
  exact ⟨g, cap, rfl, q3, q4, V.ReadsV.of_own q1, q2⟩
theorem w23 (v : Value) (w : World) (q : V.ReadsV w v (defB smallD)) : Calls Try.prog 23 #[v] w fun e w' => ∃ ra rc, e = .returned (.tuple #[.agg #[.string ⟨#[112]⟩, .slice ra 3 rc], .int .i64 0]) ∧ DfV w' (fun g => w.heap.size ≤ g) smallD ra rc ∧ Below w.heap.size w w' := by
  refine (Read_ok v _ w q smallD (read_back small_ok small_nums)).mono ?_
  rintro e w' ⟨ra, rc, rfl, q1, q2⟩
  exact ⟨ra, rc, rfl, q1, q2⟩
theorem w23b : ∃ ec : Nat, ec ≠ 0 ∧ ∀ a cap w, V.ReadsV w (.slice a 25 cap) (defB smallD) → Calls Try.prog 23 #[.slice a 12 cap] w fun e w' => e = .returned (.tuple #[.agg #[.string ⟨#[]⟩, .slice none 0 0], .int .i64 ec]) ∧ Below w.heap.size w w' := by
  obtain ⟨ec, hec, hez⟩ := read_cut small_ok small_nums (k := 12) (by rw [small_len]; decide)
  exact ⟨ec, hez, fun a cap w q => Read_err _ _ w (reads_take q (by decide)) ec hec⟩
theorem w14 (w : World) : Calls Try.prog 14 #[.slice (some ⟨w.heap.size, 0, none⟩) 3 3] (w.alloc (.cells #[.int .u8 6, .int .u8 3, .int .u8 9] 5)) fun e w' => ∃ n str a l c va vc, e = .returned (.tuple #[.agg #[.int .i64 6, .int .i64 n, .string str, .slice a l c], .slice va 1 vc, .int .i64 0]) ∧ Tre w' (fun g => w.heap.size + 1 ≤ g) (.agg #[.int .i64 6, .int .i64 n, .string str, .slice a l c]) notYes ∧ Below w.heap.size w w' := by
  refine (ReadExpr_ok _ [6, 3, 9] [9] notYes _ (reads_laid w _ [6, 3, 9] 5 rfl (by decide)) notYes_read (by decide)).mono ?_
  rintro e w' ⟨k, n, str, a, l, c, v', rfl, q1, q2, q3⟩
  obtain ⟨va, vc, rfl, _⟩ := q2
  obtain ⟨_, _, q5⟩ := q1.four
  simp only [Value.agg.injEq, Array.mk.injEq, List.cons.injEq, and_true, Value.int.injEq, true_and] at q5
  have hk : k = 6 := q5.1
  subst hk
  exact ⟨n, str, a, l, c, va, vc, rfl, q1.sub fun g hg => by rw [size_alloc] at hg; exact hg, below_new q3⟩
theorem w26 (P Q : Nat → Prop) (a : Option Addr) (c : Nat) (b : Option Addr) (d : Nat) (w : World) (q1 : DfV w P smallD a c) (q2 : DfV w Q smallD b d) : Calls Try.prog 26 #[.agg #[.string ⟨#[112]⟩, .slice a 3 c], .agg #[.string ⟨#[112]⟩, .slice b 3 d]] w fun e w' => e = .returned (.bool true) ∧ Below w.heap.size w w' := by
  refine (MSame_any P Q smallD smallD a c b d w q1 q2).mono ?_
  rintro e w' ⟨q3, q4⟩
  exact ⟨q3.of_yes rfl, q4⟩
theorem w11 (w : World) : Calls Try.prog 11 #[.agg #[.string ⟨#[112]⟩, .slice none 0 0]] w fun e w' => e = .returned (.int .i64 8) ∧ Below w.heap.size w w' := by
  have := MCheck_any (fun _ => True) ⟨[112], []⟩ none 0 w ⟨by decide, PlsV.nil _ _⟩
  rw [none_flow] at this
  exact this
theorem w19 (P : Nat → Prop) (k n : Int) (str : ByteArray) (a : Option Addr) (l c : Nat) (w : World) (q : Tre w P (.agg #[.int .i64 k, .int .i64 n, .string str, .slice a l c]) notYes) : Calls Try.prog 19 #[.slice none 0 0, .agg #[.int .i64 k, .int .i64 n, .string str, .slice a l c]] w fun e w' => ∃ va vn vc, e = .returned (.slice va vn vc) ∧ V.ReadsV w' (.slice va vn vc) [6, 3] ∧ Below w.heap.size w w' := by
  refine (PutExpr_any w.heap.size notYes k n str a l c _ [] w notYes_ok (q.kept kept_lt) (V.Owns.nil _ _) (Nat.le_refl _) (by rw [notYes_put]; decide)).mono ?_
  rintro e w' ⟨b', rfl, q1, q2⟩
  rw [notYes_put, List.nil_append] at q1
  obtain ⟨va, vn, vc, rfl, _⟩ := own_shape q1
  exact ⟨_, _, _, rfl, V.ReadsV.of_own q1, q2.below (Nat.le_refl _)⟩
theorem w17 (va : Option Addr) (vn vc : Nat) (w : World) (q : V.ReadsV w (.slice va vn vc) [6, 3]) : Calls Try.prog 17 #[.slice va vn vc, .slice (some ⟨w.heap.size, 0, none⟩) 2 2] (w.alloc (.cells #[.int .u8 6, .int .u8 3] 5)) fun e w' => e = .returned (.bool true) ∧ w' = w.alloc (.cells #[.int .u8 6, .int .u8 3] 5) := V.same_yes _ _ [6, 3] _ (q.below ((Below.refl _ _).alloc (Nat.le_refl _) _)) (reads_laid w _ [6, 3] 5 rfl (by decide))
end
section
open Go.RowKit
set_option linter.unusedVariables false

theorem w28 (w : World) : Calls Try.prog 28 #[] w fun e w' => ∃ a c, e = .returned (.agg #[.string ⟨#[112]⟩, .slice a 3 c]) ∧ DfV w' (fun _ => True) smallD a c ∧ Below w.heap.size w w' := by
  refine (Small_any w).mono ?_
  rintro e w' ⟨a, c, rfl, q1, q2⟩
  exact ⟨a, c, rfl, q1.kept (kept_sub fun _ _ => trivial), q2⟩
/-- What stands behind Put. -/
structure Wk2 (w w2 : World) (g cap b1 : Nat) (a1 : Option Addr) (c1 : Nat) : Prop where
  bel : Below w.heap.size w w2
  b : V.ReadsV w2 (.slice (some ⟨g, 0, none⟩) 25 cap) (defB smallD)
  d : DfV w2 (fun _ => True) smallD a1 c1
  cell : Cell2 w2 b1 (.string ⟨#[112]⟩) (.slice a1 3 c1)
theorem Wk2.below {w w2 w3 : World} {g cap b1 : Nat} {a1 : Option Addr} {c1 : Nat} (h : Wk2 w w2 g cap b1 a1 c1) (hb : Below w2.heap.size w2 w3) : Wk2 w w3 g cap b1 a1 c1 :=
  ⟨h.bel.trans (hb.mono h.bel.size), h.b.below hb, h.d.kept (kept_below hb), h.cell.below hb⟩
theorem w14q (q : Nat) (w : World) (hq : q = w.heap.size) : Calls Try.prog 14 #[.slice (some ⟨q, 0, none⟩) 3 3] (w.alloc (.cells #[.int .u8 6, .int .u8 3, .int .u8 9] 5)) fun e w' => ∃ n str a l c va vc, e = .returned (.tuple #[.agg #[.int .i64 6, .int .i64 n, .string str, .slice a l c], .slice va 1 vc, .int .i64 0]) ∧ Tre w' (fun _ => True) (.agg #[.int .i64 6, .int .i64 n, .string str, .slice a l c]) notYes ∧ Below w.heap.size w w' := by
  subst hq
  refine (w14 w).mono ?_
  rintro e w' ⟨n, str, a, l, c, va, vc, rfl, q1, q2⟩
  exact ⟨n, str, a, l, c, va, vc, rfl, q1.sub fun _ _ => trivial, q2⟩
set_option maxRecDepth 100000 in
set_option maxHeartbeats 400000 in
theorem works_any (w : World) : Calls Try.prog 10 #[] w fun e w' => e = .returned (.bool true) ∧ Below w.heap.size w w' := by
  have H28 : Hid (Calls Try.prog 28 #[] w fun e w' => ∃ a c, e = .returned (.agg #[.string ⟨#[112]⟩, .slice a 3 c]) ∧ DfV w' (fun _ => True) smallD a c ∧ Below w.heap.size w w') := w28 w
  have H21 : Hid (∀ a c w, DfV w (fun _ => True) smallD a c → Calls Try.prog 21 #[.agg #[.string ⟨#[112]⟩, .slice a 3 c]] w fun e w' => ∃ g cap, e = .returned (.tuple #[.slice (some ⟨g, 0, none⟩) 25 cap, .int .i64 0]) ∧ 25 ≤ cap ∧ cap ≤ 9223372036854775807 ∧ V.ReadsV w' (.slice (some ⟨g, 0, none⟩) 25 cap) (defB smallD) ∧ Below w.heap.size w w') := fun a c w q => w21 _ a c w q
  have H23 : Hid (∀ g cap w, V.ReadsV w (.slice (some ⟨g, 0, none⟩) 25 cap) (defB smallD) → Calls Try.prog 23 #[.slice (some ⟨g, 0, none⟩) 25 cap] w fun e w' => ∃ ra rc, e = .returned (.tuple #[.agg #[.string ⟨#[112]⟩, .slice ra 3 rc], .int .i64 0]) ∧ DfV w' (fun g => w.heap.size ≤ g) smallD ra rc ∧ Below w.heap.size w w') := fun g cap w q => w23 _ w q
  obtain ⟨ec, hez, h23b⟩ := w23b
  have H23b : Hid (∀ a cap w, V.ReadsV w (.slice a 25 cap) (defB smallD) → Calls Try.prog 23 #[.slice a 12 cap] w fun e w' => e = .returned (.tuple #[.agg #[.string ⟨#[]⟩, .slice none 0 0], .int .i64 ec]) ∧ Below w.heap.size w w') := h23b
  have hez2 : ((ec : Int) != 0) = true := by simp; omega
  clear h23b
  have H14 : Hid (∀ q w, q = w.heap.size → Calls Try.prog 14 #[.slice (some ⟨q, 0, none⟩) 3 3] (w.alloc (.cells #[.int .u8 6, .int .u8 3, .int .u8 9] 5)) fun e w' => ∃ n str a l c va vc, e = .returned (.tuple #[.agg #[.int .i64 6, .int .i64 n, .string str, .slice a l c], .slice va 1 vc, .int .i64 0]) ∧ Tre w' (fun _ => True) (.agg #[.int .i64 6, .int .i64 n, .string str, .slice a l c]) notYes ∧ Below w.heap.size w w') := w14q
  have H26 : Hid (∀ a c b d w, DfV w (fun _ => True) smallD a c → DfV w (fun _ => True) smallD b d → Calls Try.prog 26 #[.agg #[.string ⟨#[112]⟩, .slice a 3 c], .agg #[.string ⟨#[112]⟩, .slice b 3 d]] w fun e w' => e = .returned (.bool true) ∧ Below w.heap.size w w') := fun a c b d w q1 q2 => w26 _ _ a c b d w q1 q2
  have H11 : Hid (∀ w, Calls Try.prog 11 #[.agg #[.string ⟨#[112]⟩, .slice none 0 0]] w fun e w' => e = .returned (.int .i64 8) ∧ Below w.heap.size w w') := w11
  have H19 : Hid (∀ n str a l c w, Tre w (fun _ => True) (.agg #[.int .i64 6, .int .i64 n, .string str, .slice a l c]) notYes → Calls Try.prog 19 #[.slice none 0 0, .agg #[.int .i64 6, .int .i64 n, .string str, .slice a l c]] w fun e w' => ∃ va vn vc, e = .returned (.slice va vn vc) ∧ V.ReadsV w' (.slice va vn vc) [6, 3] ∧ Below w.heap.size w w') := fun n str a l c w q => w19 _ 6 n str a l c w q
  have H17 : Hid (∀ va vn vc w, V.ReadsV w (.slice va vn vc) [6, 3] → Calls Try.prog 17 #[.slice va vn vc, .slice (some ⟨w.heap.size, 0, none⟩) 2 2] (w.alloc (.cells #[.int .u8 6, .int .u8 3] 5)) fun e w' => e = .returned (.bool true) ∧ w' = w.alloc (.cells #[.int .u8 6, .int .u8 3] 5)) := w17
  go_enter Try.func10, Try.ntmps10
  go_wp2_with (first
    | (go_at_call 17; have := T8; refine (H17.out _ _ _ _ T8.out.1).mono ?_; rintro e wz ⟨rfl, hz⟩; have T9 : Hid (Below w.heap.size w wz) := (by rw [hz]; exact T8.out.2.alloc T8.out.2.size _); clear hz T8)
    | (go_at_call 19; have := T7; refine (H19.out _ _ _ _ _ _ T7.out.1).mono ?_; rintro e w8 ⟨va8, vn8, vc8, rfl, q1, q2⟩; have T8 : Hid (V.ReadsV w8 (.slice va8 vn8 vc8) [6, 3] ∧ Below w.heap.size w w8) := ⟨q1, T7.out.2.trans (q2.mono T7.out.2.size)⟩; clear q1 q2 T7)
    | (go_at_call 11; have := T6; refine (H11.out _).mono ?_; rintro e w7 ⟨rfl, q1⟩; have T7 : Hid (Tre w7 (fun _ => True) (.agg #[.int .i64 6, .int .i64 n5, .string st5, .slice a5 l5 c5]) notYes ∧ Below w.heap.size w w7) := ⟨T6.out.2.1.below q1, T6.out.2.2.trans (q1.mono T6.out.2.2.size)⟩; obtain ⟨x0, x1, x2, x3, x4⟩ := T6.out.1.below q1; clear q1 T6)
    | (go_at_call 26; have := T5; refine (H26.out _ _ _ _ _ (T5.out.2.1.kept (kept_below ((Below.refl _ _).alloc (Nat.le_refl _) _))) (T5.out.1.d.kept (kept_below ((Below.refl _ _).alloc (Nat.le_refl _) _)))).mono ?_; rintro e w6 ⟨rfl, q1⟩; have T6 : Hid (Cell4 w6 w5.heap.size (.int .i64 6) (.int .i64 n5) (.string st5) (.slice a5 l5 c5) ∧ Tre w6 (fun _ => True) (.agg #[.int .i64 6, .int .i64 n5, .string st5, .slice a5 l5 c5]) notYes ∧ Below w.heap.size w w6) := ⟨(Cell4.new w5 (.int .i64 6) (.int .i64 n5) (.string st5) (.slice a5 l5 c5) 31).below q1, (T5.out.2.2.alloc _).below q1, T5.out.1.bel.trans ((below_new q1).mono T5.out.1.bel.size)⟩; clear q1 T5 y0 y1 y2 z0 z1 z2 hly hlz; generalize w5.heap.size = b5 at *; obtain ⟨x0, x1, x2, x3, x4⟩ := T6.out.1)
    | (go_at_call 14; have := T4; refine (H14.out _ _ (size_alloc _ _).symm).mono ?_; rintro e w5 ⟨n5, st5, a5, l5, c5, va5, vc5, rfl, q1, q2⟩; have q3 := below_new q2; have T5 : Hid (Wk2 w w5 g2 cap2 b1 a1 c1 ∧ DfV w5 (fun _ => True) smallD ra3 rc3 ∧ Tre w5 (fun _ => True) (.agg #[.int .i64 6, .int .i64 n5, .string st5, .slice a5 l5 c5]) notYes) := ⟨T4.out.1.below q3, T4.out.2.1.kept (kept_below q3), q1⟩; obtain ⟨y0, y1, y2⟩ := T4.out.2.2.below q3; obtain ⟨z0, z1, z2⟩ := T5.out.1.cell; have hly := World.block_lt_of_cell? _ _ y0; have hlz := World.block_lt_of_cell? _ _ z0; clear q1 q2 q3 T4)
    | (go_at_call 23; have := T3; refine (H23b.out _ _ _ (T3.out.1.b.below ((Below.refl _ _).alloc (Nat.le_refl _) _))).mono ?_; rintro e w4 ⟨rfl, q1⟩; have T4 : Hid (Wk2 w w4 g2 cap2 b1 a1 c1 ∧ DfV w4 (fun _ => True) smallD ra3 rc3 ∧ Cell2 w4 w3.heap.size (.string ⟨#[112]⟩) (.slice ra3 3 rc3)) := ⟨T3.out.1.below (below_new q1), T3.out.2.kept (kept_below (below_new q1)), (Cell2.new w3 (.string ⟨#[112]⟩) (.slice ra3 3 rc3) 24).below q1⟩; clear q1 T3; generalize w3.heap.size = b3 at *)
    | (go_at_call 23; have := T2; refine (H23.out _ _ _ T2.out.b).mono ?_; rintro e w3 ⟨ra3, rc3, rfl, q1, q2⟩; have T3 : Hid (Wk2 w w3 g2 cap2 b1 a1 c1 ∧ DfV w3 (fun _ => True) smallD ra3 rc3) := ⟨T2.out.below q2, q1.kept (kept_sub fun _ _ => trivial)⟩; clear q1 q2 T2)
    | (go_at_call 21; have := T1; refine (H21.out _ _ _ (T1.out.1.kept (kept_below ((Below.refl _ _).alloc (Nat.le_refl _) _)))).mono ?_; rintro e w2 ⟨g2, cap2, rfl, hcap2, hcm2, q1, q2⟩; have T2 : Hid (Wk2 w w2 g2 cap2 w1.heap.size a1 c1) := ⟨T1.out.2.trans ((below_new q2).mono T1.out.2.size), q1, T1.out.1.kept (kept_below (below_new q2)), (Cell2.new w1 (.string ⟨#[112]⟩) (.slice a1 3 c1) 24).below q2⟩; clear q1 q2 T1; generalize w1.heap.size = b1 at *)
    | (go_at_call 28; refine H28.out.mono ?_; rintro e w1 ⟨a1, c1, rfl, q1, q2⟩; have T1 : Hid (DfV w1 (fun _ => True) smallD a1 c1 ∧ Below w.heap.size w w1) := ⟨q1, q2⟩; clear q1 q2))
  go_ret
  exact ⟨rfl, T9.out⟩
end
end Go.Proofs.Ytjafjheffbbkmaa

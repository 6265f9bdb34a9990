/-
  The document's sign between two sides: the contract.
-/
import Derived.Test.YtfjphlejhcdbaaaRfA
import Derived.Test.YtfjphlejhcdbaaaWrkX
import Derived.Test.YtfjphlejhcdbaaaWeigh
import Derived.Test.YtfjphlejhcdbaaaTxtA
namespace Go.Proofs.Ytfjphlejhcdbaaa
section
open Go.RowKit
set_option linter.unusedVariables false


set_option maxRecDepth 100000 in
set_option maxHeartbeats 400000 in
theorem sums_lt (a b : Int) (t : Bool) (ht : decide (a < b) = t) (w : World) : Calls Try.prog 79 #[.int .i64 12, .int .i64 a, .int .i64 b] w fun e w' => e = .returned (.tuple #[.agg #[.int .i64 (if t = true then 3 else 4), .int .i64 0, .string ⟨#[]⟩, .slice none 0 0], .bool true]) ∧ Below w.heap.size w w' := by
  have HC : Hid (∀ w, Calls Try.prog 56 #[.bool t] w fun e w' => e = .returned (.agg #[.int .i64 (if t = true then 3 else 4), .int .i64 0, .string ⟨#[]⟩, .slice none 0 0]) ∧ Below w.heap.size w w') := yes_any t
  generalize (if t = true then (3 : Int) else 4) = xk at *
  go_enter Try.func79, Try.ntmps79
  go_wp2_with (go_at_call 56; refine (HC.out _).mono ?_; rintro e w1 ⟨rfl, HB⟩; obtain ⟨⟨q0, q1, q2, q3, q4⟩, hb5⟩ := res_new w HB; have HB5 : Hid (Below w.heap.size w w1) := hb5; clear HB hb5)
  refine bodyPost_ret (v := .tuple #[.agg #[.int .i64 xk, .int .i64 0, .string ⟨#[]⟩, .slice none 0 0], .bool true]) (by simp [results, Try.results79, go_sem, q0, q1, q2, q3]) rfl ⟨rfl, below_four HB5.out (M := w.heap.size) (o := 0) (Nat.le_refl _)⟩
theorem plain_is {k : Int} {b : Bool} (h : plainK k = b) (n : Int) (s : ByteArray) (a : Option Addr) (l c : Nat) : ∀ w, Calls Try.prog 55 #[.agg #[.int .i64 k, .int .i64 n, .string s, .slice a l c]] w fun e w' => e = .returned (.bool b) ∧ Below w.heap.size w w' := fun w => by
  have := plain_any k n s a l c w
  rw [h] at this; exact this
theorem rtwo_any (base : Nat) (k : Int) (hk : InR k) (h7 : 7 ≤ k) (h14 : k ≤ 14) (ta tb : Tr) (va vb : Value) (w : World) (hTa : Tre w (fun g => base ≤ g) va ta) (hTb : Tre w (fun g => base ≤ g) vb tb) (hna : Nn ta) (hnb : Nn tb)
    (hty : k ≤ 10 → plainK ta.kind = true → plainK tb.kind = true → ta.kind = 1 ∧ tb.kind = 1) (hbase : base ≤ w.heap.size) : Calls Try.prog 54 #[.int .i64 k, va, vb] w (FPost base w (twoM k ta tb)) := by
  obtain ⟨aa, ca, rfl, _, _, hra, _⟩ := hTa.opened
  obtain ⟨ab, cb, rfl, _, _, hrb, _⟩ := hTb.opened
  unfold twoM
  by_cases h1 : k = 13 ∨ k = 14
  · rw [if_pos h1]
    rcases h1 with rfl | rfl
    · by_cases c4 : ta.kind = 4
      · rw [if_pos (.inr c4), if_pos (by rw [if_neg (by decide)]; exact c4)]
        exact rtwo_and_l base 13 hk ta tb _ _ _ _ _ _ _ _ _ _ _ _ w hTa hTb hbase rfl c4
      · by_cases c3 : ta.kind = 3
        · rw [if_pos (.inl c3), if_neg (by rw [if_neg (by decide)]; exact c4)]
          exact rtwo_and_r base 13 hk ta tb _ _ _ _ _ _ _ _ _ _ _ _ w hTa hTb hbase rfl c3
        · rw [if_neg (by omega)]
          exact rtwo_and_n base 13 hk ta tb _ _ _ _ _ _ _ _ _ _ _ _ w hTa hTb hbase rfl (by omega)
    · by_cases c3 : ta.kind = 3
      · rw [if_pos (.inl c3), if_pos (by rw [if_pos rfl]; exact c3)]
        exact rtwo_or_l base 14 hk ta tb _ _ _ _ _ _ _ _ _ _ _ _ w hTa hTb hbase rfl c3
      · by_cases c4 : ta.kind = 4
        · rw [if_pos (.inr c4), if_neg (by rw [if_pos rfl]; exact c3)]
          exact rtwo_or_r base 14 hk ta tb _ _ _ _ _ _ _ _ _ _ _ _ w hTa hTb hbase rfl c4
        · rw [if_neg (by omega)]
          exact rtwo_or_n base 14 hk ta tb _ _ _ _ _ _ _ _ _ _ _ _ w hTa hTb hbase rfl (by omega)
  · rw [if_neg h1]
    have hk3 : (k == 13) = false := by simp; omega
    have hk4 : (k == 14) = false := by simp; omega
    by_cases pa : plainK ta.kind = true
    · by_cases pb : plainK tb.kind = true
      · have HPa := plain_is pa ta.n (ba ta.name) aa ta.kids.length ca
        have HPb := plain_is pb tb.n (ba tb.name) ab tb.kids.length cb
        by_cases h2 : k = 11 ∨ k = 12
        · rw [if_pos h2, if_pos ⟨pa, pb⟩]
          rcases h2 with rfl | rfl
          · rw [if_pos rfl]
            exact rtwo_eq base 11 hk ta tb _ _ _ _ _ _ _ _ _ _ _ _ w hTa hTb hbase (decide (ta.kind = tb.kind ∧ ta.n = tb.n)) _ rfl HPa HPb (same_any2 _ _ _ _ _ _ _ _ _ _ _ _) (yes_any _) (fun w => ans_tre w _ _)
          · rw [if_neg (by decide)]
            exact rtwo_sum base 12 hk ta tb _ _ _ _ _ _ _ _ _ _ _ _ w hTa hTb hbase hk3 hk4 rfl _ _ (ansT (decide (ta.n < tb.n))) (fun w => ans_tre w _ _) HPa HPb (sums_lt _ _ _ rfl)
        · rw [if_neg h2]
          obtain ⟨e1, e2⟩ := hty (by omega) pa pb
          rw [if_pos ⟨e1, e2⟩]
          have hs := sums_any k ta.n tb.n (by omega) (hna e1) hra.2 (hnb e2) hrb.2
          cases hr : recM k ta.n tb.n with
          | some r =>
            rw [hr] at hs
            refine rtwo_sum base k hk ta tb _ _ _ _ _ _ _ _ _ _ _ _ w hTa hTb hbase hk3 hk4 (by simp; omega) 1 r ⟨1, r, [], []⟩ (fun w => Tre.leaf w _ ⟨by decide, by decide⟩ (recM_in (hna e1) hra.2 (hnb e2) hr) [] (by decide)) HPa HPb fun w => (hs w).mono ?_
            rintro e w' ⟨⟨v, hv, rfl⟩ | ⟨hv, _⟩, hb⟩
            · cases hv; exact ⟨rfl, hb⟩
            · cases hv
          | none =>
            rw [hr] at hs
            refine rtwo_nosum base k hk ta tb _ _ _ _ _ _ _ _ _ _ _ _ w hTa hTb hbase hk3 hk4 (by simp; omega) HPa HPb fun w => (hs w).mono ?_
            rintro e w' ⟨⟨v, hv, rfl⟩ | ⟨_, rfl⟩, hb⟩
            · cases hv
            · exact ⟨rfl, hb⟩
      · have fin := rtwo_n2 base k hk ta tb _ _ _ _ _ _ _ _ _ _ _ _ w hTa hTb hbase hk3 hk4 (plain_is pa _ _ _ _ _) (plain_is (by simpa using pb) _ _ _ _ _)
        rw [if_neg (show ¬ (plainK ta.kind = true ∧ plainK tb.kind = true) from fun h => pb h.2), if_neg (show ¬ (ta.kind = 1 ∧ tb.kind = 1) from fun h => pb (plain_of (.inl h.2)))]
        by_cases h2 : k = 11 ∨ k = 12
        · rw [if_pos h2]; exact fin
        · rw [if_neg h2]; exact fin
    · have fin := rtwo_n1 base k hk ta tb _ _ _ _ _ _ _ _ _ _ _ _ w hTa hTb hbase hk3 hk4 (plain_is (by simpa using pa) _ _ _ _ _)
      rw [if_neg (show ¬ (plainK ta.kind = true ∧ plainK tb.kind = true) from fun h => pa h.1), if_neg (show ¬ (ta.kind = 1 ∧ tb.kind = 1) from fun h => pa (plain_of (.inl h.1)))]
      by_cases h2 : k = 11 ∨ k = 12
      · rw [if_pos h2]; exact fin
      · rw [if_neg h2]; exact fin
end
section
open Go.RowKit
set_option linter.unusedVariables false
theorem leaf_tre (w : World) (P : Nat → Prop) {k n : Int} (hk : InR k) (hn : InR n) (nm : Bs) (hm : nm.length ≤ 9223372036854775807) (a : Option Addr) (cap : Nat) : Tre w P (.agg #[.int .i64 k, .int .i64 n, .string (ba nm), .slice a 0 cap]) ⟨k, n, nm, []⟩ :=
  ⟨1, a, cap, rfl, Nat.zero_le _, hk, hn, hm, Nat.zero_le _, fun i hi => by simp at hi⟩
/-- A tree that was made, its kind and its number told. -/
def KPost (w : World) (t : Tr) (fk fn : Int) (e : Ending) (w' : World) : Prop := ∃ s a l c, e = .returned (.agg #[.int .i64 fk, .int .i64 fn, .string s, .slice a l c]) ∧ Tre w' (fun g => w.heap.size ≤ g) (.agg #[.int .i64 fk, .int .i64 fn, .string s, .slice a l c]) t ∧ Below w.heap.size w w'
theorem RPost.told {w : World} {t : Tr} {e : Ending} {w' : World} (h : RPost w t e w') : KPost w t t.kind t.n e w' := by
  obtain ⟨k, n, s, a, l, c, rfl, ht, hb⟩ := h
  obtain ⟨a', c', e⟩ := ht.four
  simp only [Value.agg.injEq, Array.mk.injEq, List.cons.injEq, Value.int.injEq, true_and] at e
  obtain ⟨rfl, rfl, _⟩ := e
  exact ⟨_, _, _, _, rfl, ht, hb⟩
set_option maxRecDepth 100000 in
set_option maxHeartbeats 400000 in
theorem rfold_leaf (tk tn : Int) (hk : InR tk) (hn : InR tn) (nm : Bs) (hnm : nm.length ≤ 32) (a : Option Addr) (cap : Nat) (w : World) : Calls Try.prog 35 #[.agg #[.int .i64 tk, .int .i64 tn, .string (ba nm), .slice a 0 cap]] w (RPost w ⟨tk, tn, nm, []⟩) := by
  have HT : Hid (∀ w P, Tre w P (.agg #[.int .i64 tk, .int .i64 tn, .string (ba nm), .slice a 0 cap]) ⟨tk, tn, nm, []⟩) := fun w P => leaf_tre w P hk hn nm (by omega) a cap
  generalize ba nm = snm at *
  go_enter Try.func35, Try.ntmps35
  go_wp2
  refine bodyPost_ret (v := .agg #[.int .i64 tk, .int .i64 tn, .string snm, .slice a 0 cap]) (by simp [results, Try.results35, go_sem]) rfl ⟨_, _, _, _, _, _, rfl, HT.out _ _, ?_⟩
  exact ((Below.refl _ _).alloc (Nat.le_refl _) _).alloc (le_alloc _ _) _
set_option maxRecDepth 100000 in
set_option maxHeartbeats 800000 in
theorem rfold_neg0 (tk tn : Int) (HKi : Hid (InR tk)) (snm : ByteArray) (fx : Tr) (fk fn : Int) (b o cap : Nat) (hcap : 1 ≤ cap) (w : World) (xk xn : Int) (xs : ByteArray) (xa : Option Addr) (xl xc : Nat) (HKc : Hid ((w.cell? ⟨b, o, none⟩ = some (.int .i64 xk) ∧ w.cell? ⟨b, o + 1, none⟩ = some (.int .i64 xn) ∧ w.cell? ⟨b, o + 2, none⟩ = some (.string xs) ∧ w.cell? ⟨b, o + 3, none⟩ = some (.slice xa xl xc)))) (HG : Hid (∀ w', Below w.heap.size w w' → Calls Try.prog 35 #[.agg #[.int .i64 xk, .int .i64 xn, .string xs, .slice xa xl xc]] w' (KPost w' fx fk fn))) (hk : tk = 5) (hf : fk = 1) (hn : fn = 0) : Calls Try.prog 35 #[.agg #[.int .i64 tk, .int .i64 tn, .string snm, .slice (some ⟨b, o, none⟩) 1 cap]] w (RPost w fx) := by
  subst hk
  subst hf
  subst hn
  have hbl : b < w.heap.size := World.block_lt_of_cell? w _ HKc.out.1
  have n0 : b ≠ w.heap.size := by omega
  have n1 : b ≠ w.heap.size + 1 := by omega
  obtain ⟨k0, k1, k2, k3⟩ := HKc.out
  go_enter Try.func35, Try.ntmps35
  go_wp2_with (go_at_call 35; refine (HG.out _ (two_blocks w _ _ _ _).2.2).mono ?_; rintro e w4 ⟨rs, ra, rl, rc, rfl, hrt, HB⟩; have HB4 : Hid (Cell4 w4 w.heap.size (.int .i64 5) (.int .i64 tn) (.string snm) (.slice (some ⟨b, o, none⟩) 1 cap) ∧ Cell4 w4 (w.heap.size + 1) (.int .i64 0) (.int .i64 0) (.string ⟨#[]⟩) (.slice none 0 0) ∧ Below w.heap.size w w4 ∧ Tre w4 (fun g => w.heap.size + 2 ≤ g) (.agg #[.int .i64 1, .int .i64 0, .string rs, .slice ra rl rc]) fx) := ⟨(two_next HB).1, (two_next HB).2.1, (two_next HB).2.2, hrt.sub fun g hg => by rw [size_alloc, size_alloc] at hg; exact hg⟩; clear HB hrt k0 k1 k2 k3; obtain ⟨p0, p1, p2, p3, p4⟩ := HB4.out.1; obtain ⟨q0, q1, q2, q3, q4⟩ := HB4.out.2.1; have hlp := World.block_lt_of_cell? _ _ p0; have hlq := World.block_lt_of_cell? _ _ q0)
  have hc : Cell4 (((((w4.setCell ⟨w.heap.size + 1, 0, none⟩ (.int .i64 1)).setCell ⟨w.heap.size + 1, 1, none⟩ (.int .i64 0)).setCell ⟨w.heap.size + 1, 2, none⟩ (.string rs)).setCell ⟨w.heap.size + 1, 3, none⟩ (.slice ra rl rc)).alloc (.cells #[.int .i64 1, .int .i64 0, .string rs, .slice ra rl rc] 24)) (w.heap.size + 1) (.int .i64 1) (.int .i64 0) (.string rs) (.slice ra rl rc) := HB4.out.2.1.put.alloc _
  have hb := below_four HB4.out.2.2.1 (M := w.heap.size + 1) (o := 0) (u0 := .int .i64 1) (u1 := .int .i64 0) (u2 := .string rs) (u3 := .slice ra rl rc) (Nat.le_succ _)
  obtain ⟨r0, r1, r2, r3, r4⟩ := hc
  refine bodyPost_ret (v := .agg #[.int .i64 1, .int .i64 0, .string rs, .slice ra rl rc]) (by simp [results, Try.results35, go_sem, r0, r1, r2, r3]) rfl ⟨_, _, _, _, _, _, rfl, ?_, hb.alloc hb.size _⟩
  have ht : Tre ((((w4.setCell ⟨w.heap.size + 1, 0, none⟩ (.int .i64 1)).setCell ⟨w.heap.size + 1, 1, none⟩ (.int .i64 0)).setCell ⟨w.heap.size + 1, 2, none⟩ (.string rs)).setCell ⟨w.heap.size + 1, 3, none⟩ (.slice ra rl rc)) (fun g => w.heap.size ≤ g) (.agg #[.int .i64 1, .int .i64 0, .string rs, .slice ra rl rc]) fx := HB4.out.2.2.2.kept fun g hg _ => ⟨four_other (M := w.heap.size + 1) (o := 0) (by omega), by omega⟩
  exact ht.alloc _
set_option maxRecDepth 100000 in
set_option maxHeartbeats 800000 in
theorem rfold_neg1 (tk tn : Int) (HKi : Hid (InR tk)) (snm : ByteArray) (fx : Tr) (fk fn : Int) (b o cap : Nat) (hcap : 1 ≤ cap) (w : World) (xk xn : Int) (xs : ByteArray) (xa : Option Addr) (xl xc : Nat) (HKc : Hid ((w.cell? ⟨b, o, none⟩ = some (.int .i64 xk) ∧ w.cell? ⟨b, o + 1, none⟩ = some (.int .i64 xn) ∧ w.cell? ⟨b, o + 2, none⟩ = some (.string xs) ∧ w.cell? ⟨b, o + 3, none⟩ = some (.slice xa xl xc)))) (HG : Hid (∀ w', Below w.heap.size w w' → Calls Try.prog 35 #[.agg #[.int .i64 xk, .int .i64 xn, .string xs, .slice xa xl xc]] w' (KPost w' fx fk fn))) (hk : tk = 5) (hf : (fk == 1) = false) : Calls Try.prog 35 #[.agg #[.int .i64 tk, .int .i64 tn, .string snm, .slice (some ⟨b, o, none⟩) 1 cap]] w (RPost w ⟨tk, 0, [], [fx]⟩) := by
  subst hk
  have hbl : b < w.heap.size := World.block_lt_of_cell? w _ HKc.out.1
  have n0 : b ≠ w.heap.size := by omega
  have n1 : b ≠ w.heap.size + 1 := by omega
  obtain ⟨k0, k1, k2, k3⟩ := HKc.out
  go_enter Try.func35, Try.ntmps35
  go_wp2_with (go_at_call 35; refine (HG.out _ (two_blocks w _ _ _ _).2.2).mono ?_; rintro e w4 ⟨rs, ra, rl, rc, rfl, hrt, HB⟩; have HB4 : Hid (Cell4 w4 w.heap.size (.int .i64 5) (.int .i64 tn) (.string snm) (.slice (some ⟨b, o, none⟩) 1 cap) ∧ Cell4 w4 (w.heap.size + 1) (.int .i64 0) (.int .i64 0) (.string ⟨#[]⟩) (.slice none 0 0) ∧ Below w.heap.size w w4 ∧ Tre w4 (fun g => w.heap.size + 2 ≤ g) (.agg #[.int .i64 fk, .int .i64 fn, .string rs, .slice ra rl rc]) fx) := ⟨(two_next HB).1, (two_next HB).2.1, (two_next HB).2.2, hrt.sub fun g hg => by rw [size_alloc, size_alloc] at hg; exact hg⟩; clear HB hrt k0 k1 k2 k3; obtain ⟨p0, p1, p2, p3, p4⟩ := HB4.out.1; obtain ⟨q0, q1, q2, q3, q4⟩ := HB4.out.2.1; have hlp := World.block_lt_of_cell? _ _ p0; have hlq := World.block_lt_of_cell? _ _ q0)
  have hc : Cell4 ((((((w4.setCell ⟨w.heap.size + 1, 0, none⟩ (.int .i64 5)).setCell ⟨w.heap.size + 1, 1, none⟩ (.int .i64 0)).setCell ⟨w.heap.size + 1, 2, none⟩ (.string ⟨#[]⟩)).setCell ⟨w.heap.size + 1, 3, none⟩ (.slice (some ⟨w4.heap.size + 1, 0, none⟩) 1 1)).alloc (.cells #[.int .i64 fk, .int .i64 fn, .string rs, .slice ra rl rc] 24)).alloc (.cells #[.int .i64 fk, .int .i64 fn, .string rs, .slice ra rl rc] 24)) (w.heap.size + 1) (.int .i64 5) (.int .i64 0) (.string ⟨#[]⟩) (.slice (some ⟨w4.heap.size + 1, 0, none⟩) 1 1) := HB4.out.2.1.put |>.alloc _ |>.alloc _
  have hb := below_four HB4.out.2.2.1 (M := w.heap.size + 1) (o := 0) (u0 := .int .i64 5) (u1 := .int .i64 0) (u2 := .string ⟨#[]⟩) (u3 := .slice (some ⟨w4.heap.size + 1, 0, none⟩) 1 1) (Nat.le_succ _)
  have hb2 : Below w.heap.size w (((((w4.setCell ⟨w.heap.size + 1, 0, none⟩ (.int .i64 5)).setCell ⟨w.heap.size + 1, 1, none⟩ (.int .i64 0)).setCell ⟨w.heap.size + 1, 2, none⟩ (.string ⟨#[]⟩)).setCell ⟨w.heap.size + 1, 3, none⟩ (.slice (some ⟨w4.heap.size + 1, 0, none⟩) 1 1)).alloc (.cells #[.int .i64 fk, .int .i64 fn, .string rs, .slice ra rl rc] 24)) := hb.alloc hb.size _
  obtain ⟨r0, r1, r2, r3, r4⟩ := hc
  refine bodyPost_ret (v := .agg #[.int .i64 5, .int .i64 0, .string ⟨#[]⟩, .slice (some ⟨w4.heap.size + 1, 0, none⟩) 1 1]) (by simp [results, Try.results35, go_sem, r0, r1, r2, r3]) rfl ⟨_, _, _, _, _, _, rfl, ?_, hb2.alloc hb2.size _⟩
  have ht : Tre ((((w4.setCell ⟨w.heap.size + 1, 0, none⟩ (.int .i64 5)).setCell ⟨w.heap.size + 1, 1, none⟩ (.int .i64 0)).setCell ⟨w.heap.size + 1, 2, none⟩ (.string ⟨#[]⟩)).setCell ⟨w.heap.size + 1, 3, none⟩ (.slice (some ⟨w4.heap.size + 1, 0, none⟩) 1 1)) (fun g => w.heap.size ≤ g) (.agg #[.int .i64 fk, .int .i64 fn, .string rs, .slice ra rl rc]) fx := HB4.out.2.2.2.kept fun g hg _ => ⟨four_other (M := w.heap.size + 1) (o := 0) (by omega), by omega⟩
  have ht2 : Tre (((((w4.setCell ⟨w.heap.size + 1, 0, none⟩ (.int .i64 5)).setCell ⟨w.heap.size + 1, 1, none⟩ (.int .i64 0)).setCell ⟨w.heap.size + 1, 2, none⟩ (.string ⟨#[]⟩)).setCell ⟨w.heap.size + 1, 3, none⟩ (.slice (some ⟨w4.heap.size + 1, 0, none⟩) 1 1)).alloc (.cells #[.int .i64 fk, .int .i64 fn, .string rs, .slice ra rl rc] 24)) (fun g => w.heap.size ≤ g) (.agg #[.int .i64 fk, .int .i64 fn, .string rs, .slice ra rl rc]) fx := ht.alloc _
  have hg : (((((w4.setCell ⟨w.heap.size + 1, 0, none⟩ (.int .i64 5)).setCell ⟨w.heap.size + 1, 1, none⟩ (.int .i64 0)).setCell ⟨w.heap.size + 1, 2, none⟩ (.string ⟨#[]⟩)).setCell ⟨w.heap.size + 1, 3, none⟩ (.slice (some ⟨w4.heap.size + 1, 0, none⟩) 1 1)).alloc (.cells #[.int .i64 fk, .int .i64 fn, .string rs, .slice ra rl rc] 24)).heap.size = w4.heap.size + 1 := by rw [size_alloc]; exact congrArg (· + 1) four_size
  obtain ⟨c0, c1, c2, c3, _⟩ := Cell4.new (((((w4.setCell ⟨w.heap.size + 1, 0, none⟩ (.int .i64 5)).setCell ⟨w.heap.size + 1, 1, none⟩ (.int .i64 0)).setCell ⟨w.heap.size + 1, 2, none⟩ (.string ⟨#[]⟩)).setCell ⟨w.heap.size + 1, 3, none⟩ (.slice (some ⟨w4.heap.size + 1, 0, none⟩) 1 1)).alloc (.cells #[.int .i64 fk, .int .i64 fn, .string rs, .slice ra rl rc] 24)) (.int .i64 fk) (.int .i64 fn) (.string rs) (.slice ra rl rc) 24
  rw [hg] at c0 c1 c2 c3
  exact Tre.node1 HKi.out (ht2.alloc _) (show w.heap.size ≤ w4.heap.size + 1 by omega) c0 c1 c2 c3
set_option maxRecDepth 100000 in
set_option maxHeartbeats 800000 in
theorem rfold_neg2 (tk tn : Int) (HKi : Hid (InR tk)) (snm : ByteArray) (fx : Tr) (fk fn : Int) (b o cap : Nat) (hcap : 1 ≤ cap) (w : World) (xk xn : Int) (xs : ByteArray) (xa : Option Addr) (xl xc : Nat) (HKc : Hid ((w.cell? ⟨b, o, none⟩ = some (.int .i64 xk) ∧ w.cell? ⟨b, o + 1, none⟩ = some (.int .i64 xn) ∧ w.cell? ⟨b, o + 2, none⟩ = some (.string xs) ∧ w.cell? ⟨b, o + 3, none⟩ = some (.slice xa xl xc)))) (HG : Hid (∀ w', Below w.heap.size w w' → Calls Try.prog 35 #[.agg #[.int .i64 xk, .int .i64 xn, .string xs, .slice xa xl xc]] w' (KPost w' fx fk fn))) (hk : tk = 5) (hf : fk = 1) (hn : (fn == 0) = false) : Calls Try.prog 35 #[.agg #[.int .i64 tk, .int .i64 tn, .string snm, .slice (some ⟨b, o, none⟩) 1 cap]] w (RPost w ⟨tk, 0, [], [fx]⟩) := by
  subst hk
  subst hf
  have hbl : b < w.heap.size := World.block_lt_of_cell? w _ HKc.out.1
  have n0 : b ≠ w.heap.size := by omega
  have n1 : b ≠ w.heap.size + 1 := by omega
  obtain ⟨k0, k1, k2, k3⟩ := HKc.out
  go_enter Try.func35, Try.ntmps35
  go_wp2_with (go_at_call 35; refine (HG.out _ (two_blocks w _ _ _ _).2.2).mono ?_; rintro e w4 ⟨rs, ra, rl, rc, rfl, hrt, HB⟩; have HB4 : Hid (Cell4 w4 w.heap.size (.int .i64 5) (.int .i64 tn) (.string snm) (.slice (some ⟨b, o, none⟩) 1 cap) ∧ Cell4 w4 (w.heap.size + 1) (.int .i64 0) (.int .i64 0) (.string ⟨#[]⟩) (.slice none 0 0) ∧ Below w.heap.size w w4 ∧ Tre w4 (fun g => w.heap.size + 2 ≤ g) (.agg #[.int .i64 1, .int .i64 fn, .string rs, .slice ra rl rc]) fx) := ⟨(two_next HB).1, (two_next HB).2.1, (two_next HB).2.2, hrt.sub fun g hg => by rw [size_alloc, size_alloc] at hg; exact hg⟩; clear HB hrt k0 k1 k2 k3; obtain ⟨p0, p1, p2, p3, p4⟩ := HB4.out.1; obtain ⟨q0, q1, q2, q3, q4⟩ := HB4.out.2.1; have hlp := World.block_lt_of_cell? _ _ p0; have hlq := World.block_lt_of_cell? _ _ q0)
  have hc : Cell4 ((((((w4.setCell ⟨w.heap.size + 1, 0, none⟩ (.int .i64 5)).setCell ⟨w.heap.size + 1, 1, none⟩ (.int .i64 0)).setCell ⟨w.heap.size + 1, 2, none⟩ (.string ⟨#[]⟩)).setCell ⟨w.heap.size + 1, 3, none⟩ (.slice (some ⟨w4.heap.size + 1, 0, none⟩) 1 1)).alloc (.cells #[.int .i64 1, .int .i64 fn, .string rs, .slice ra rl rc] 24)).alloc (.cells #[.int .i64 1, .int .i64 fn, .string rs, .slice ra rl rc] 24)) (w.heap.size + 1) (.int .i64 5) (.int .i64 0) (.string ⟨#[]⟩) (.slice (some ⟨w4.heap.size + 1, 0, none⟩) 1 1) := HB4.out.2.1.put |>.alloc _ |>.alloc _
  have hb := below_four HB4.out.2.2.1 (M := w.heap.size + 1) (o := 0) (u0 := .int .i64 5) (u1 := .int .i64 0) (u2 := .string ⟨#[]⟩) (u3 := .slice (some ⟨w4.heap.size + 1, 0, none⟩) 1 1) (Nat.le_succ _)
  have hb2 : Below w.heap.size w (((((w4.setCell ⟨w.heap.size + 1, 0, none⟩ (.int .i64 5)).setCell ⟨w.heap.size + 1, 1, none⟩ (.int .i64 0)).setCell ⟨w.heap.size + 1, 2, none⟩ (.string ⟨#[]⟩)).setCell ⟨w.heap.size + 1, 3, none⟩ (.slice (some ⟨w4.heap.size + 1, 0, none⟩) 1 1)).alloc (.cells #[.int .i64 1, .int .i64 fn, .string rs, .slice ra rl rc] 24)) := hb.alloc hb.size _
  obtain ⟨r0, r1, r2, r3, r4⟩ := hc
  refine bodyPost_ret (v := .agg #[.int .i64 5, .int .i64 0, .string ⟨#[]⟩, .slice (some ⟨w4.heap.size + 1, 0, none⟩) 1 1]) (by simp [results, Try.results35, go_sem, r0, r1, r2, r3]) rfl ⟨_, _, _, _, _, _, rfl, ?_, hb2.alloc hb2.size _⟩
  have ht : Tre ((((w4.setCell ⟨w.heap.size + 1, 0, none⟩ (.int .i64 5)).setCell ⟨w.heap.size + 1, 1, none⟩ (.int .i64 0)).setCell ⟨w.heap.size + 1, 2, none⟩ (.string ⟨#[]⟩)).setCell ⟨w.heap.size + 1, 3, none⟩ (.slice (some ⟨w4.heap.size + 1, 0, none⟩) 1 1)) (fun g => w.heap.size ≤ g) (.agg #[.int .i64 1, .int .i64 fn, .string rs, .slice ra rl rc]) fx := HB4.out.2.2.2.kept fun g hg _ => ⟨four_other (M := w.heap.size + 1) (o := 0) (by omega), by omega⟩
  have ht2 : Tre (((((w4.setCell ⟨w.heap.size + 1, 0, none⟩ (.int .i64 5)).setCell ⟨w.heap.size + 1, 1, none⟩ (.int .i64 0)).setCell ⟨w.heap.size + 1, 2, none⟩ (.string ⟨#[]⟩)).setCell ⟨w.heap.size + 1, 3, none⟩ (.slice (some ⟨w4.heap.size + 1, 0, none⟩) 1 1)).alloc (.cells #[.int .i64 1, .int .i64 fn, .string rs, .slice ra rl rc] 24)) (fun g => w.heap.size ≤ g) (.agg #[.int .i64 1, .int .i64 fn, .string rs, .slice ra rl rc]) fx := ht.alloc _
  have hg : (((((w4.setCell ⟨w.heap.size + 1, 0, none⟩ (.int .i64 5)).setCell ⟨w.heap.size + 1, 1, none⟩ (.int .i64 0)).setCell ⟨w.heap.size + 1, 2, none⟩ (.string ⟨#[]⟩)).setCell ⟨w.heap.size + 1, 3, none⟩ (.slice (some ⟨w4.heap.size + 1, 0, none⟩) 1 1)).alloc (.cells #[.int .i64 1, .int .i64 fn, .string rs, .slice ra rl rc] 24)).heap.size = w4.heap.size + 1 := by rw [size_alloc]; exact congrArg (· + 1) four_size
  obtain ⟨c0, c1, c2, c3, _⟩ := Cell4.new (((((w4.setCell ⟨w.heap.size + 1, 0, none⟩ (.int .i64 5)).setCell ⟨w.heap.size + 1, 1, none⟩ (.int .i64 0)).setCell ⟨w.heap.size + 1, 2, none⟩ (.string ⟨#[]⟩)).setCell ⟨w.heap.size + 1, 3, none⟩ (.slice (some ⟨w4.heap.size + 1, 0, none⟩) 1 1)).alloc (.cells #[.int .i64 1, .int .i64 fn, .string rs, .slice ra rl rc] 24)) (.int .i64 1) (.int .i64 fn) (.string rs) (.slice ra rl rc) 24
  rw [hg] at c0 c1 c2 c3
  exact Tre.node1 HKi.out (ht2.alloc _) (show w.heap.size ≤ w4.heap.size + 1 by omega) c0 c1 c2 c3
set_option maxRecDepth 100000 in
set_option maxHeartbeats 800000 in
theorem rfold_not (tk tn : Int) (HKi : Hid (InR tk)) (snm : ByteArray) (fx : Tr) (fk fn : Int) (b o cap : Nat) (hcap : 1 ≤ cap) (w : World) (xk xn : Int) (xs : ByteArray) (xa : Option Addr) (xl xc : Nat) (HKc : Hid ((w.cell? ⟨b, o, none⟩ = some (.int .i64 xk) ∧ w.cell? ⟨b, o + 1, none⟩ = some (.int .i64 xn) ∧ w.cell? ⟨b, o + 2, none⟩ = some (.string xs) ∧ w.cell? ⟨b, o + 3, none⟩ = some (.slice xa xl xc)))) (HG : Hid (∀ w', Below w.heap.size w w' → Calls Try.prog 35 #[.agg #[.int .i64 xk, .int .i64 xn, .string xs, .slice xa xl xc]] w' (KPost w' fx fk fn))) (hk : tk = 6) (HP : Hid (∀ s a l c w, Calls Try.prog 55 #[.agg #[.int .i64 fk, .int .i64 fn, .string s, .slice a l c]] w fun e w' => e = .returned (.bool false) ∧ Below w.heap.size w w')) : Calls Try.prog 35 #[.agg #[.int .i64 tk, .int .i64 tn, .string snm, .slice (some ⟨b, o, none⟩) 1 cap]] w (RPost w ⟨tk, 0, [], [fx]⟩) := by
  subst hk
  have hbl : b < w.heap.size := World.block_lt_of_cell? w _ HKc.out.1
  have n0 : b ≠ w.heap.size := by omega
  have n1 : b ≠ w.heap.size + 1 := by omega
  obtain ⟨k0, k1, k2, k3⟩ := HKc.out
  go_enter Try.func35, Try.ntmps35
  go_wp2_with (first
    | (go_at_call 55; have := HB4; refine (HP.out _ _ _ _ _).mono ?_; rintro e w5 ⟨rfl, HB⟩; have HB5 : Hid (Cell4 w5 w.heap.size (.int .i64 6) (.int .i64 tn) (.string snm) (.slice (some ⟨b, o, none⟩) 1 cap) ∧ Cell4 w5 (w.heap.size + 1) (.int .i64 0) (.int .i64 0) (.string ⟨#[]⟩) (.slice none 0 0) ∧ Below w.heap.size w w5 ∧ Tre w5 (fun g => w.heap.size + 2 ≤ g) (.agg #[.int .i64 fk, .int .i64 fn, .string rs, .slice ra rl rc]) fx) := ⟨(HB4.out.1.alloc _).below HB, (HB4.out.2.1.alloc _).below HB, (HB4.out.2.2.1.alloc HB4.out.2.2.1.size _).trans (HB.mono (HB4.out.2.2.1.alloc HB4.out.2.2.1.size _).size), (HB4.out.2.2.2.alloc _).below HB⟩; obtain ⟨z0, z1, z2, z3, z4⟩ := (Cell4.new w4 (.int .i64 fk) (.int .i64 fn) (.string rs) (.slice ra rl rc) 24).below HB; have n4 : w4.heap.size ≠ w.heap.size + 1 := (by omega); clear HB HB4; obtain ⟨p0, p1, p2, p3, p4⟩ := HB5.out.1; obtain ⟨q0, q1, q2, q3, q4⟩ := HB5.out.2.1; have hlp := World.block_lt_of_cell? _ _ p0; have hlq := World.block_lt_of_cell? _ _ q0; have hlz := World.block_lt_of_cell? _ _ z0)
    | (go_at_call 35; refine (HG.out _ (two_blocks w _ _ _ _).2.2).mono ?_; rintro e w4 ⟨rs, ra, rl, rc, rfl, hrt, HB⟩; have HB4 : Hid (Cell4 w4 w.heap.size (.int .i64 6) (.int .i64 tn) (.string snm) (.slice (some ⟨b, o, none⟩) 1 cap) ∧ Cell4 w4 (w.heap.size + 1) (.int .i64 0) (.int .i64 0) (.string ⟨#[]⟩) (.slice none 0 0) ∧ Below w.heap.size w w4 ∧ Tre w4 (fun g => w.heap.size + 2 ≤ g) (.agg #[.int .i64 fk, .int .i64 fn, .string rs, .slice ra rl rc]) fx) := ⟨(two_next HB).1, (two_next HB).2.1, (two_next HB).2.2, hrt.sub fun g hg => by rw [size_alloc, size_alloc] at hg; exact hg⟩; clear HB hrt k0 k1 k2 k3; obtain ⟨p0, p1, p2, p3, p4⟩ := HB4.out.1; obtain ⟨q0, q1, q2, q3, q4⟩ := HB4.out.2.1; have hlp := World.block_lt_of_cell? _ _ p0; have hlq := World.block_lt_of_cell? _ _ q0))
  have hc : Cell4 (((((w5.setCell ⟨w.heap.size + 1, 0, none⟩ (.int .i64 6)).setCell ⟨w.heap.size + 1, 1, none⟩ (.int .i64 0)).setCell ⟨w.heap.size + 1, 2, none⟩ (.string ⟨#[]⟩)).setCell ⟨w.heap.size + 1, 3, none⟩ (.slice (some ⟨w5.heap.size, 0, none⟩) 1 1)).alloc (.cells #[.int .i64 fk, .int .i64 fn, .string rs, .slice ra rl rc] 24)) (w.heap.size + 1) (.int .i64 6) (.int .i64 0) (.string ⟨#[]⟩) (.slice (some ⟨w5.heap.size, 0, none⟩) 1 1) := HB5.out.2.1.put.alloc _
  have hb := below_four HB5.out.2.2.1 (M := w.heap.size + 1) (o := 0) (u0 := .int .i64 6) (u1 := .int .i64 0) (u2 := .string ⟨#[]⟩) (u3 := .slice (some ⟨w5.heap.size, 0, none⟩) 1 1) (Nat.le_succ _)
  have hb2 : Below w.heap.size w ((((w5.setCell ⟨w.heap.size + 1, 0, none⟩ (.int .i64 6)).setCell ⟨w.heap.size + 1, 1, none⟩ (.int .i64 0)).setCell ⟨w.heap.size + 1, 2, none⟩ (.string ⟨#[]⟩)).setCell ⟨w.heap.size + 1, 3, none⟩ (.slice (some ⟨w5.heap.size, 0, none⟩) 1 1)) := hb
  obtain ⟨r0, r1, r2, r3, r4⟩ := hc
  refine bodyPost_ret (v := .agg #[.int .i64 6, .int .i64 0, .string ⟨#[]⟩, .slice (some ⟨w5.heap.size, 0, none⟩) 1 1]) (by simp [results, Try.results35, go_sem, r0, r1, r2, r3]) rfl ⟨_, _, _, _, _, _, rfl, ?_, hb2.alloc hb2.size _⟩
  have ht : Tre ((((w5.setCell ⟨w.heap.size + 1, 0, none⟩ (.int .i64 6)).setCell ⟨w.heap.size + 1, 1, none⟩ (.int .i64 0)).setCell ⟨w.heap.size + 1, 2, none⟩ (.string ⟨#[]⟩)).setCell ⟨w.heap.size + 1, 3, none⟩ (.slice (some ⟨w5.heap.size, 0, none⟩) 1 1)) (fun g => w.heap.size ≤ g) (.agg #[.int .i64 fk, .int .i64 fn, .string rs, .slice ra rl rc]) fx := HB5.out.2.2.2.kept fun g hg _ => ⟨four_other (M := w.heap.size + 1) (o := 0) (by omega), by omega⟩
  have ht2 : Tre ((((w5.setCell ⟨w.heap.size + 1, 0, none⟩ (.int .i64 6)).setCell ⟨w.heap.size + 1, 1, none⟩ (.int .i64 0)).setCell ⟨w.heap.size + 1, 2, none⟩ (.string ⟨#[]⟩)).setCell ⟨w.heap.size + 1, 3, none⟩ (.slice (some ⟨w5.heap.size, 0, none⟩) 1 1)) (fun g => w.heap.size ≤ g) (.agg #[.int .i64 fk, .int .i64 fn, .string rs, .slice ra rl rc]) fx := ht
  have hg : ((((w5.setCell ⟨w.heap.size + 1, 0, none⟩ (.int .i64 6)).setCell ⟨w.heap.size + 1, 1, none⟩ (.int .i64 0)).setCell ⟨w.heap.size + 1, 2, none⟩ (.string ⟨#[]⟩)).setCell ⟨w.heap.size + 1, 3, none⟩ (.slice (some ⟨w5.heap.size, 0, none⟩) 1 1)).heap.size = w5.heap.size := by exact four_size
  obtain ⟨c0, c1, c2, c3, _⟩ := Cell4.new ((((w5.setCell ⟨w.heap.size + 1, 0, none⟩ (.int .i64 6)).setCell ⟨w.heap.size + 1, 1, none⟩ (.int .i64 0)).setCell ⟨w.heap.size + 1, 2, none⟩ (.string ⟨#[]⟩)).setCell ⟨w.heap.size + 1, 3, none⟩ (.slice (some ⟨w5.heap.size, 0, none⟩) 1 1)) (.int .i64 fk) (.int .i64 fn) (.string rs) (.slice ra rl rc) 24
  rw [hg] at c0 c1 c2 c3
  exact Tre.node1 HKi.out (ht2.alloc _) (show w.heap.size ≤ w5.heap.size by omega) c0 c1 c2 c3
set_option maxRecDepth 100000 in
set_option maxHeartbeats 800000 in
theorem rfold_ans3 (tk tn : Int) (HKi : Hid (InR tk)) (snm : ByteArray) (fx : Tr) (fk fn : Int) (b o cap : Nat) (hcap : 1 ≤ cap) (w : World) (xk xn : Int) (xs : ByteArray) (xa : Option Addr) (xl xc : Nat) (HKc : Hid ((w.cell? ⟨b, o, none⟩ = some (.int .i64 xk) ∧ w.cell? ⟨b, o + 1, none⟩ = some (.int .i64 xn) ∧ w.cell? ⟨b, o + 2, none⟩ = some (.string xs) ∧ w.cell? ⟨b, o + 3, none⟩ = some (.slice xa xl xc)))) (HG : Hid (∀ w', Below w.heap.size w w' → Calls Try.prog 35 #[.agg #[.int .i64 xk, .int .i64 xn, .string xs, .slice xa xl xc]] w' (KPost w' fx fk fn))) (hk : tk = 6) (hf : fk = 3) (HP : Hid (∀ s a l c w, Calls Try.prog 55 #[.agg #[.int .i64 fk, .int .i64 fn, .string s, .slice a l c]] w fun e w' => e = .returned (.bool true) ∧ Below w.heap.size w w')) (HY : Hid (∀ w, Calls Try.prog 56 #[.bool false] w fun e w' => e = .returned (.agg #[.int .i64 4, .int .i64 0, .string ⟨#[]⟩, .slice none 0 0]) ∧ Below w.heap.size w w')) : Calls Try.prog 35 #[.agg #[.int .i64 tk, .int .i64 tn, .string snm, .slice (some ⟨b, o, none⟩) 1 cap]] w (RPost w (ansT false)) := by
  subst hk
  subst hf
  have hbl : b < w.heap.size := World.block_lt_of_cell? w _ HKc.out.1
  have n0 : b ≠ w.heap.size := by omega
  have n1 : b ≠ w.heap.size + 1 := by omega
  obtain ⟨k0, k1, k2, k3⟩ := HKc.out
  go_enter Try.func35, Try.ntmps35
  go_wp2_with (first
    | (go_at_call 56; have := HB5; refine (HY.out _).mono ?_; rintro e w6 ⟨rfl, HB⟩; have HB6 : Hid (Cell4 w6 (w.heap.size + 1) (.int .i64 0) (.int .i64 0) (.string ⟨#[]⟩) (.slice none 0 0) ∧ Below w.heap.size w w6) := ⟨HB5.out.2.1.below HB, HB5.out.2.2.1.trans (HB.mono HB5.out.2.2.1.size)⟩; clear HB HB5; obtain ⟨q0, q1, q2, q3, q4⟩ := HB6.out.1)
    | (go_at_call 55; have := HB4; refine (HP.out _ _ _ _ _).mono ?_; rintro e w5 ⟨rfl, HB⟩; have HB5 : Hid (Cell4 w5 w.heap.size (.int .i64 6) (.int .i64 tn) (.string snm) (.slice (some ⟨b, o, none⟩) 1 cap) ∧ Cell4 w5 (w.heap.size + 1) (.int .i64 0) (.int .i64 0) (.string ⟨#[]⟩) (.slice none 0 0) ∧ Below w.heap.size w w5 ∧ Tre w5 (fun g => w.heap.size + 2 ≤ g) (.agg #[.int .i64 3, .int .i64 fn, .string rs, .slice ra rl rc]) fx) := ⟨(HB4.out.1.alloc _).below HB, (HB4.out.2.1.alloc _).below HB, (HB4.out.2.2.1.alloc HB4.out.2.2.1.size _).trans (HB.mono (HB4.out.2.2.1.alloc HB4.out.2.2.1.size _).size), (HB4.out.2.2.2.alloc _).below HB⟩; obtain ⟨z0, z1, z2, z3, z4⟩ := (Cell4.new w4 (.int .i64 3) (.int .i64 fn) (.string rs) (.slice ra rl rc) 24).below HB; have n4 : w4.heap.size ≠ w.heap.size + 1 := (by omega); clear HB HB4; obtain ⟨p0, p1, p2, p3, p4⟩ := HB5.out.1; obtain ⟨q0, q1, q2, q3, q4⟩ := HB5.out.2.1; have hlp := World.block_lt_of_cell? _ _ p0; have hlq := World.block_lt_of_cell? _ _ q0; have hlz := World.block_lt_of_cell? _ _ z0)
    | (go_at_call 35; refine (HG.out _ (two_blocks w _ _ _ _).2.2).mono ?_; rintro e w4 ⟨rs, ra, rl, rc, rfl, hrt, HB⟩; have HB4 : Hid (Cell4 w4 w.heap.size (.int .i64 6) (.int .i64 tn) (.string snm) (.slice (some ⟨b, o, none⟩) 1 cap) ∧ Cell4 w4 (w.heap.size + 1) (.int .i64 0) (.int .i64 0) (.string ⟨#[]⟩) (.slice none 0 0) ∧ Below w.heap.size w w4 ∧ Tre w4 (fun g => w.heap.size + 2 ≤ g) (.agg #[.int .i64 3, .int .i64 fn, .string rs, .slice ra rl rc]) fx) := ⟨(two_next HB).1, (two_next HB).2.1, (two_next HB).2.2, hrt.sub fun g hg => by rw [size_alloc, size_alloc] at hg; exact hg⟩; clear HB hrt k0 k1 k2 k3; obtain ⟨p0, p1, p2, p3, p4⟩ := HB4.out.1; obtain ⟨q0, q1, q2, q3, q4⟩ := HB4.out.2.1; have hlp := World.block_lt_of_cell? _ _ p0; have hlq := World.block_lt_of_cell? _ _ q0))
  refine bodyPost_ret (v := .agg #[.int .i64 4, .int .i64 0, .string ⟨#[]⟩, .slice none 0 0]) (by simp [results, Try.results35, go_sem, q0, q1, q2, q3]) rfl ⟨_, _, _, _, _, _, rfl, ?_, below_four HB6.out.2 (M := w.heap.size + 1) (o := 0) (Nat.le_succ _)⟩
  exact ans_tre _ _ false
set_option maxRecDepth 100000 in
set_option maxHeartbeats 800000 in
theorem rfold_ans4 (tk tn : Int) (HKi : Hid (InR tk)) (snm : ByteArray) (fx : Tr) (fk fn : Int) (b o cap : Nat) (hcap : 1 ≤ cap) (w : World) (xk xn : Int) (xs : ByteArray) (xa : Option Addr) (xl xc : Nat) (HKc : Hid ((w.cell? ⟨b, o, none⟩ = some (.int .i64 xk) ∧ w.cell? ⟨b, o + 1, none⟩ = some (.int .i64 xn) ∧ w.cell? ⟨b, o + 2, none⟩ = some (.string xs) ∧ w.cell? ⟨b, o + 3, none⟩ = some (.slice xa xl xc)))) (HG : Hid (∀ w', Below w.heap.size w w' → Calls Try.prog 35 #[.agg #[.int .i64 xk, .int .i64 xn, .string xs, .slice xa xl xc]] w' (KPost w' fx fk fn))) (hk : tk = 6) (hf : fk = 4) (HP : Hid (∀ s a l c w, Calls Try.prog 55 #[.agg #[.int .i64 fk, .int .i64 fn, .string s, .slice a l c]] w fun e w' => e = .returned (.bool true) ∧ Below w.heap.size w w')) (HY : Hid (∀ w, Calls Try.prog 56 #[.bool true] w fun e w' => e = .returned (.agg #[.int .i64 3, .int .i64 0, .string ⟨#[]⟩, .slice none 0 0]) ∧ Below w.heap.size w w')) : Calls Try.prog 35 #[.agg #[.int .i64 tk, .int .i64 tn, .string snm, .slice (some ⟨b, o, none⟩) 1 cap]] w (RPost w (ansT true)) := by
  subst hk
  subst hf
  have hbl : b < w.heap.size := World.block_lt_of_cell? w _ HKc.out.1
  have n0 : b ≠ w.heap.size := by omega
  have n1 : b ≠ w.heap.size + 1 := by omega
  obtain ⟨k0, k1, k2, k3⟩ := HKc.out
  go_enter Try.func35, Try.ntmps35
  go_wp2_with (first
    | (go_at_call 56; have := HB5; refine (HY.out _).mono ?_; rintro e w6 ⟨rfl, HB⟩; have HB6 : Hid (Cell4 w6 (w.heap.size + 1) (.int .i64 0) (.int .i64 0) (.string ⟨#[]⟩) (.slice none 0 0) ∧ Below w.heap.size w w6) := ⟨HB5.out.2.1.below HB, HB5.out.2.2.1.trans (HB.mono HB5.out.2.2.1.size)⟩; clear HB HB5; obtain ⟨q0, q1, q2, q3, q4⟩ := HB6.out.1)
    | (go_at_call 55; have := HB4; refine (HP.out _ _ _ _ _).mono ?_; rintro e w5 ⟨rfl, HB⟩; have HB5 : Hid (Cell4 w5 w.heap.size (.int .i64 6) (.int .i64 tn) (.string snm) (.slice (some ⟨b, o, none⟩) 1 cap) ∧ Cell4 w5 (w.heap.size + 1) (.int .i64 0) (.int .i64 0) (.string ⟨#[]⟩) (.slice none 0 0) ∧ Below w.heap.size w w5 ∧ Tre w5 (fun g => w.heap.size + 2 ≤ g) (.agg #[.int .i64 4, .int .i64 fn, .string rs, .slice ra rl rc]) fx) := ⟨(HB4.out.1.alloc _).below HB, (HB4.out.2.1.alloc _).below HB, (HB4.out.2.2.1.alloc HB4.out.2.2.1.size _).trans (HB.mono (HB4.out.2.2.1.alloc HB4.out.2.2.1.size _).size), (HB4.out.2.2.2.alloc _).below HB⟩; obtain ⟨z0, z1, z2, z3, z4⟩ := (Cell4.new w4 (.int .i64 4) (.int .i64 fn) (.string rs) (.slice ra rl rc) 24).below HB; have n4 : w4.heap.size ≠ w.heap.size + 1 := (by omega); clear HB HB4; obtain ⟨p0, p1, p2, p3, p4⟩ := HB5.out.1; obtain ⟨q0, q1, q2, q3, q4⟩ := HB5.out.2.1; have hlp := World.block_lt_of_cell? _ _ p0; have hlq := World.block_lt_of_cell? _ _ q0; have hlz := World.block_lt_of_cell? _ _ z0)
    | (go_at_call 35; refine (HG.out _ (two_blocks w _ _ _ _).2.2).mono ?_; rintro e w4 ⟨rs, ra, rl, rc, rfl, hrt, HB⟩; have HB4 : Hid (Cell4 w4 w.heap.size (.int .i64 6) (.int .i64 tn) (.string snm) (.slice (some ⟨b, o, none⟩) 1 cap) ∧ Cell4 w4 (w.heap.size + 1) (.int .i64 0) (.int .i64 0) (.string ⟨#[]⟩) (.slice none 0 0) ∧ Below w.heap.size w w4 ∧ Tre w4 (fun g => w.heap.size + 2 ≤ g) (.agg #[.int .i64 4, .int .i64 fn, .string rs, .slice ra rl rc]) fx) := ⟨(two_next HB).1, (two_next HB).2.1, (two_next HB).2.2, hrt.sub fun g hg => by rw [size_alloc, size_alloc] at hg; exact hg⟩; clear HB hrt k0 k1 k2 k3; obtain ⟨p0, p1, p2, p3, p4⟩ := HB4.out.1; obtain ⟨q0, q1, q2, q3, q4⟩ := HB4.out.2.1; have hlp := World.block_lt_of_cell? _ _ p0; have hlq := World.block_lt_of_cell? _ _ q0))
  refine bodyPost_ret (v := .agg #[.int .i64 3, .int .i64 0, .string ⟨#[]⟩, .slice none 0 0]) (by simp [results, Try.results35, go_sem, q0, q1, q2, q3]) rfl ⟨_, _, _, _, _, _, rfl, ?_, below_four HB6.out.2 (M := w.heap.size + 1) (o := 0) (Nat.le_succ _)⟩
  exact ans_tre _ _ true
end
section
open Go.RowKit
set_option linter.unusedVariables false
set_option maxRecDepth 100000 in
set_option maxHeartbeats 1600000 in
theorem rfold_two (tk tn : Int) (HKi : Hid (InR tk)) (H7 : Hid (7 ≤ tk ∧ tk ≤ 14)) (snm : ByteArray) (fx fy : Tr) (HNx : Hid (Nn fx)) (HNy : Hid (Nn fy)) (HTy : Hid (tk ≤ 10 → plainK fx.kind = true → plainK fy.kind = true → fx.kind = 1 ∧ fy.kind = 1)) (b o cap : Nat) (hcap : 2 ≤ cap) (w : World) (xk xn yk yn : Int) (xs ys : ByteArray) (xa ya : Option Addr) (xl xc yl yc : Nat)
    (HKc : Hid ((w.cell? ⟨b, o, none⟩ = some (.int .i64 xk) ∧ w.cell? ⟨b, o + 1, none⟩ = some (.int .i64 xn) ∧ w.cell? ⟨b, o + 2, none⟩ = some (.string xs) ∧ w.cell? ⟨b, o + 3, none⟩ = some (.slice xa xl xc)) ∧ (w.cell? ⟨b, o + 4, none⟩ = some (.int .i64 yk) ∧ w.cell? ⟨b, o + 4 + 1, none⟩ = some (.int .i64 yn) ∧ w.cell? ⟨b, o + 4 + 2, none⟩ = some (.string ys) ∧ w.cell? ⟨b, o + 4 + 3, none⟩ = some (.slice ya yl yc))))
    (HGx : Hid (∀ w', Below w.heap.size w w' → Calls Try.prog 35 #[.agg #[.int .i64 xk, .int .i64 xn, .string xs, .slice xa xl xc]] w' (RPost w' fx))) (HGy : Hid (∀ w', Below w.heap.size w w' → Calls Try.prog 35 #[.agg #[.int .i64 yk, .int .i64 yn, .string ys, .slice ya yl yc]] w' (RPost w' fy))) :
    Calls Try.prog 35 #[.agg #[.int .i64 tk, .int .i64 tn, .string snm, .slice (some ⟨b, o, none⟩) 2 cap]] w (RPost w (twoM tk fx fy)) := by
  have hbl : b < w.heap.size := World.block_lt_of_cell? w _ HKc.out.1.1
  have n0 : b ≠ w.heap.size := by omega
  have n1 : b ≠ w.heap.size + 1 := by omega
  have HW : Hid (∀ w', Below w.heap.size w w' → (w'.cell? ⟨b, o, none⟩ = some (.int .i64 xk) ∧ w'.cell? ⟨b, o + 1, none⟩ = some (.int .i64 xn) ∧ w'.cell? ⟨b, o + 2, none⟩ = some (.string xs) ∧ w'.cell? ⟨b, o + 3, none⟩ = some (.slice xa xl xc)) ∧ (w'.cell? ⟨b, o + 4, none⟩ = some (.int .i64 yk) ∧ w'.cell? ⟨b, o + 4 + 1, none⟩ = some (.int .i64 yn) ∧ w'.cell? ⟨b, o + 4 + 2, none⟩ = some (.string ys) ∧ w'.cell? ⟨b, o + 4 + 3, none⟩ = some (.slice ya yl yc))) := fun w' h3 => by
    have hc : ∀ j v, w.cell? ⟨b, j, none⟩ = some v → w'.cell? ⟨b, j, none⟩ = some v := fun j v hv => (h3.cell (p := ⟨b, j, none⟩) hbl).trans hv
    obtain ⟨⟨c0, c1, c2, c3⟩, c4, c5, c6, c7⟩ := HKc.out
    exact ⟨⟨hc _ _ c0, hc _ _ c1, hc _ _ c2, hc _ _ c3⟩, hc _ _ c4, hc _ _ c5, hc _ _ c6, hc _ _ c7⟩
  obtain ⟨⟨k0, k1, k2, k3⟩, k4, k5, k6, k7⟩ := HKc.out
  go_enter Try.func35, Try.ntmps35
  go_wp2_with (first
    | (go_at_call 54; have := HB5; refine (rtwo_any (w.heap.size + 2) tk HKi.out H7.out.1 H7.out.2 fx fy _ _ _ (HB5.out.2.2.2.1.alloc _) (HB5.out.2.2.2.2.alloc _) HNx.out HNy.out HTy.out (by rw [size_alloc]; omega)).mono ?_; rintro e w6 ⟨rk, rn, rs, ra, rl, rc, rfl, hrt, HB⟩; have HB6 : Hid (Cell4 w6 (w.heap.size + 1) (.int .i64 0) (.int .i64 0) (.string ⟨#[]⟩) (.slice none 0 0) ∧ Below w.heap.size w w6 ∧ Tre w6 (fun g => w.heap.size + 2 ≤ g) (.agg #[.int .i64 rk, .int .i64 rn, .string rs, .slice ra rl rc]) (twoM tk fx fy)) := ⟨(HB5.out.2.1.alloc _).below HB, (HB5.out.2.2.1.alloc HB5.out.2.2.1.size _).trans (HB.mono (HB5.out.2.2.1.alloc HB5.out.2.2.1.size _).size), hrt⟩; clear HB hrt HB5; obtain ⟨q0, q1, q2, q3, q4⟩ := HB6.out.1)
    | (go_at_call 35; have := HB4; refine (HGy.out _ (HB4.out.2.2.1.alloc HB4.out.2.2.1.size _)).mono ?_; rintro e w5 ⟨ek, en, es, ea, el, ec, rfl, hrt, HB⟩; have HB5 : Hid (Cell4 w5 w.heap.size (.int .i64 tk) (.int .i64 tn) (.string snm) (.slice (some ⟨b, o, none⟩) 2 cap) ∧ Cell4 w5 (w.heap.size + 1) (.int .i64 0) (.int .i64 0) (.string ⟨#[]⟩) (.slice none 0 0) ∧ Below w.heap.size w w5 ∧ Tre w5 (fun g => w.heap.size + 2 ≤ g) (.agg #[.int .i64 dk, .int .i64 dn, .string ds, .slice da dl dc]) fx ∧ Tre w5 (fun g => w.heap.size + 2 ≤ g) (.agg #[.int .i64 ek, .int .i64 en, .string es, .slice ea el ec]) fy) := ⟨(HB4.out.1.alloc _).below HB, (HB4.out.2.1.alloc _).below HB, (HB4.out.2.2.1.alloc HB4.out.2.2.1.size _).trans (HB.mono (HB4.out.2.2.1.alloc HB4.out.2.2.1.size _).size), (HB4.out.2.2.2.alloc _).below HB, hrt.sub fun g hg => (by rw [size_alloc] at hg; omega)⟩; obtain ⟨z0, z1, z2, z3, z4⟩ := (Cell4.new w4 (.int .i64 dk) (.int .i64 dn) (.string ds) (.slice da dl dc) 24).below HB; clear HB hrt HB4 k4 k5 k6 k7; obtain ⟨p0, p1, p2, p3, p4⟩ := HB5.out.1; obtain ⟨q0, q1, q2, q3, q4⟩ := HB5.out.2.1; have hlp : w.heap.size < w5.heap.size := World.block_lt_of_cell? _ _ p0; have hlq : w.heap.size + 1 < w5.heap.size := World.block_lt_of_cell? _ _ q0; have hlz : w4.heap.size < w5.heap.size := World.block_lt_of_cell? _ _ z0; have n5 : w4.heap.size ≠ w5.heap.size := (by omega))
    | (go_at_call 35; refine (HGx.out _ (two_blocks w _ _ _ _).2.2).mono ?_; rintro e w4 ⟨dk, dn, ds, da, dl, dc, rfl, hrt, HB⟩; have HB4 : Hid (Cell4 w4 w.heap.size (.int .i64 tk) (.int .i64 tn) (.string snm) (.slice (some ⟨b, o, none⟩) 2 cap) ∧ Cell4 w4 (w.heap.size + 1) (.int .i64 0) (.int .i64 0) (.string ⟨#[]⟩) (.slice none 0 0) ∧ Below w.heap.size w w4 ∧ Tre w4 (fun g => w.heap.size + 2 ≤ g) (.agg #[.int .i64 dk, .int .i64 dn, .string ds, .slice da dl dc]) fx) := ⟨(two_next HB).1, (two_next HB).2.1, (two_next HB).2.2, hrt.sub fun g hg => by rw [size_alloc, size_alloc] at hg; exact hg⟩; clear HB hrt k0 k1 k2 k3 k4 k5 k6 k7; obtain ⟨⟨k0, k1, k2, k3⟩, k4, k5, k6, k7⟩ := HW.out _ HB4.out.2.2.1; clear k0 k1 k2 k3; obtain ⟨p0, p1, p2, p3, p4⟩ := HB4.out.1; obtain ⟨q0, q1, q2, q3, q4⟩ := HB4.out.2.1; have hlp : w.heap.size < w4.heap.size := World.block_lt_of_cell? _ _ p0; have hlq : w.heap.size + 1 < w4.heap.size := World.block_lt_of_cell? _ _ q0; have hb4 : b < w4.heap.size := (by omega)))
  refine bodyPost_ret (v := .agg #[.int .i64 rk, .int .i64 rn, .string rs, .slice ra rl rc]) (by simp [results, Try.results35, go_sem, q0, q1, q2, q3]) rfl ⟨_, _, _, _, _, _, rfl, ?_, below_four HB6.out.2.1 (M := w.heap.size + 1) (o := 0) (Nat.le_succ _)⟩
  exact HB6.out.2.2.kept fun g hg _ => ⟨four_other (M := w.heap.size + 1) (o := 0) (by omega), by omega⟩
def RFolds (d : Nat) : Prop := ∀ (P : Nat → Prop) (t : Tr) (v : Value) (w : World), checkM d t = 0 → tyM d t = true → Tre w P v t → Calls Try.prog 35 #[v] w (RPost w (foM d t))
theorem rfolds_zero : RFolds 0 := fun P t v w h => by cases h
theorem rfolds_succ (d : Nat) (ih : RFolds d) : RFolds (d + 1) := by
  intro P t v w hck hty hT
  obtain ⟨a, cap, rfl, hcap, hk, hn, hnm, hlen, hkids⟩ := hT.opened
  have hs := shape hck
  have h1 := hs.lo
  have h2 := hs.hi
  unfold tyM at hty
  rcases hs.kids with ⟨h4, hk0⟩ | ⟨h5, x, hk0, hx⟩ | ⟨h7, x, y, hk0, hx, hy⟩
  · have he : foM (d + 1) t = ⟨t.kind, t.n, t.name, []⟩ := by unfold foM; rw [hk0]
    rw [he, hk0]
    exact rfold_leaf t.kind t.n hk hn t.name (name_short hck) a cap w
  · have he : foM (d + 1) t = oneM t.kind (foM d x) := by
      conv => lhs; unfold foM
      rw [hk0]
    rw [he]
    rw [hk0] at hty
    simp only [List.all_cons, List.all_nil, Bool.and_true, Bool.and_eq_true] at hty
    have hft := fo_type d x hx hty.1
    have hf := hty.2
    unfold fitK at hf
    rw [if_neg (by omega)] at hf
    obtain ⟨b, o, ka, kc, hK⟩ := hkids 0 (by rw [hk0]; simp)
    rw [hk0] at hK hcap ⊢
    obtain ⟨rfl, c0, c1, c2, c3, ht⟩ := hK
    have e0 : o + 0 * 4 = o := by omega
    rw [e0] at c0 c1 c2 c3
    have HG : ∀ w', Below w.heap.size w w' → Calls Try.prog 35 #[_] w' (KPost w' (foM d x) (foM d x).kind (foM d x).n) := fun w' hb => (ih P x _ w' hx hty.1 (ht.below hb)).mono fun e w'' h => h.told
    have hc := And.intro c0 (And.intro c1 (And.intro c2 c3))
    unfold oneM
    rcases h5 with h5 | h5
    · rw [if_neg (by omega)]
      by_cases hz : (foM d x).kind = 1
      · by_cases hz2 : (foM d x).n = 0
        · rw [if_pos ⟨h5, hz, hz2⟩]
          exact rfold_neg0 t.kind t.n hk (ba t.name) (foM d x) _ _ b o cap hcap w _ _ _ _ _ _ hc HG h5 hz hz2
        · rw [if_neg (fun h => hz2 h.2.2)]
          exact rfold_neg2 t.kind t.n hk (ba t.name) (foM d x) _ _ b o cap hcap w _ _ _ _ _ _ hc HG h5 hz (by simpa using hz2)
      · rw [if_neg (fun h => hz h.2.1)]
        exact rfold_neg1 t.kind t.n hk (ba t.name) (foM d x) _ _ b o cap hcap w _ _ _ _ _ _ hc HG h5 (by simpa using hz)
    · have htr : truthK (foM d x).kind = true := by
        rw [hft]
        have hw : wantT t.kind = true := by unfold wantT; simp; omega
        rw [hw] at hf
        simpa using hf
      by_cases hp : plainK (foM d x).kind = true
      · have h34 := plain_truth hp htr
        rw [if_pos ⟨h5, h34⟩]
        rcases h34 with h3 | h3
        · have e : decide ((foM d x).kind = 4) = false := by rw [h3]; rfl
          rw [e]
          exact rfold_ans3 t.kind t.n hk (ba t.name) (foM d x) _ _ b o cap hcap w _ _ _ _ _ _ hc HG h5 h3 (fun s a l c => plain_is hp _ s a l c) (yes_any false)
        · have e : decide ((foM d x).kind = 4) = true := by rw [h3]; rfl
          rw [e]
          exact rfold_ans4 t.kind t.n hk (ba t.name) (foM d x) _ _ b o cap hcap w _ _ _ _ _ _ hc HG h5 h3 (fun s a l c => plain_is hp _ s a l c) (yes_any true)
      · rw [if_neg (fun h => hp (plain_of (by have := h.2; omega))), if_neg (by omega)]
        exact rfold_not t.kind t.n hk (ba t.name) (foM d x) _ _ b o cap hcap w _ _ _ _ _ _ hc HG h5 (fun s a l c => plain_is (by simpa using hp) _ s a l c)
  · have he : foM (d + 1) t = twoM t.kind (foM d x) (foM d y) := by
      conv => lhs; unfold foM
      rw [hk0]
    rw [he]
    rw [hk0] at hty
    simp only [List.all_cons, List.all_nil, Bool.and_true, Bool.and_eq_true] at hty
    have hfx := fo_type d x hx hty.1.1
    have hfy := fo_type d y hy hty.2.1
    have gx := hty.1.2
    have gy := hty.2.2
    unfold fitK at gx gy
    obtain ⟨b, o, ka, kc, hK⟩ := hkids 0 (by rw [hk0]; simp)
    obtain ⟨b2, o2, ka2, kc2, hK2⟩ := hkids 1 (by rw [hk0]; simp)
    rw [hk0] at hK hK2 hcap ⊢
    have e := hK2.ad
    rw [hK.ad] at e
    simp only [Option.some.injEq, Addr.mk.injEq, and_true] at e
    obtain ⟨rfl, rfl⟩ := e
    obtain ⟨rfl, c0, c1, c2, c3, ht⟩ := hK
    obtain ⟨_, c4, c5, c6, c7, ht2⟩ := hK2
    have e0 : o + 0 * 4 = o := by omega
    have e1 : o + 1 * 4 = o + 4 := by omega
    rw [e0] at c0 c1 c2 c3
    rw [e1] at c4 c5 c6 c7
    refine rfold_two t.kind t.n hk ⟨h7, h2⟩ (ba t.name) (foM d x) (foM d y) (fo_nn d x hx) (fo_nn d y hy) (fun h10 px py => ?_) b o cap hcap w _ _ _ _ _ _ _ _ _ _ _ _ ⟨⟨c0, c1, c2, c3⟩, c4, c5, c6, c7⟩ (fun w' hb => ih P x _ w' hx hty.1.1 (ht.below hb)) (fun w' hb => ih P y _ w' hy hty.2.1 (ht2.below hb))
    rw [if_neg (by omega)] at gx gy
    have hw : wantT t.kind = false := by unfold wantT; simp; omega
    rw [hw] at gx gy
    exact ⟨plain_num px (by rw [hfx]; simpa using gx), plain_num py (by rw [hfy]; simpa using gy)⟩
theorem rfolds_any : ∀ d, RFolds d
  | 0 => rfolds_zero
  | d + 1 => rfolds_succ d (rfolds_any d)
end
section
open Go.RowKit
set_option linter.unusedVariables false
theorem truth_typedR {t : Tr} (h : (truthM t).2 = 0) : tyM 16 t = true := by
  have hc := truth_check h
  unfold truthM at h
  rw [if_neg (by omega)] at h
  by_cases e : tyM 16 t = true
  · exact e
  · rw [if_neg e] at h; cases h
set_option maxRecDepth 100000 in
set_option maxHeartbeats 1000000 in
theorem RFold_any (P : Nat → Prop) (t : Tr) (n : Int) (s : ByteArray) (a : Option Addr) (l c : Nat) (w : World) (hT : Tre w P (.agg #[.int .i64 t.kind, .int .i64 n, .string s, .slice a l c]) t) :
    Calls Try.prog 17 #[.agg #[.int .i64 t.kind, .int .i64 n, .string s, .slice a l c]] w (NPost w (foldM t).1 (foldM t).2) := by
  have HC : Hid (∀ w, Tre w P (.agg #[.int .i64 t.kind, .int .i64 n, .string s, .slice a l c]) t → Calls Try.prog 16 #[.agg #[.int .i64 t.kind, .int .i64 n, .string s, .slice a l c]] w fun e w' => e = .returned (.tuple #[.bool (truthM t).1, .int .i64 (truthM t).2]) ∧ Below w.heap.size w w') := fun w h => RTruth_any P t n s a l c w h
  have HT : Hid (Tre w P (.agg #[.int .i64 t.kind, .int .i64 n, .string s, .slice a l c]) t) := hT
  clear hT
  by_cases h0 : (truthM t).2 = 0
  · have he : foldM t = (foM 16 t, 0) := by unfold foldM; rw [if_neg (by omega)]
    have HR : Hid (∀ w, Tre w P (.agg #[.int .i64 t.kind, .int .i64 n, .string s, .slice a l c]) t → Calls Try.prog 35 #[.agg #[.int .i64 t.kind, .int .i64 n, .string s, .slice a l c]] w (RPost w (foM 16 t))) := fun w h => rfolds_any 16 P t _ w (truth_check h0) (truth_typedR h0) h
    rw [he]
    rw [h0] at HC
    generalize foM 16 t = rt at *
    generalize (truthM t).1 = tb at *
    go_enter Try.func17, Try.ntmps17
    go_wp2_with (first
      | (go_at_call 35; have := HB1; refine (HR.out _ ((HT.out.below HB1.out.2.2))).mono ?_; rintro e w3 ⟨rk, rn, rs, ra, rl, rc, rfl, hrt, HB⟩; obtain ⟨q0, q1, q2, q3, q4⟩ := HB1.out.2.1.below HB; have HB3 : Hid (Tre w3 (fun g => w.heap.size + 2 ≤ g) (.agg #[.int .i64 rk, .int .i64 rn, .string rs, .slice ra rl rc]) rt ∧ Below w.heap.size w w3) := ⟨hrt.sub fun g hg => (by have := HB1.out.2.1.lt; omega), HB1.out.2.2.trans (HB.mono HB1.out.2.2.size)⟩; clear HB hrt)
      | (go_at_call 16; refine (HC.out _ ((HT.out.alloc _).alloc _)).mono ?_; rintro e w1 ⟨rfl, HB⟩; have HB1 : Hid (Cell4 w1 w.heap.size (.int .i64 t.kind) (.int .i64 n) (.string s) (.slice a l c) ∧ Cell4 w1 (w.heap.size + 1) (.int .i64 0) (.int .i64 0) (.string ⟨#[]⟩) (.slice none 0 0) ∧ Below w.heap.size w w1) := two_next HB; obtain ⟨p0, p1, p2, p3, p4⟩ := HB1.out.1; have hlp := World.block_lt_of_cell? _ _ p0; clear HB))
    refine bodyPost_ret (v := .tuple #[.agg #[.int .i64 rk, .int .i64 rn, .string rs, .slice ra rl rc], .int .i64 0]) (by simp [results, Try.results17, go_sem, q0, q1, q2, q3]) rfl ⟨_, _, _, _, _, _, rfl, ?_, below_four HB3.out.2 (M := w.heap.size + 1) (o := 0) (Nat.le_succ _)⟩
    exact HB3.out.1.kept fun g hg _ => ⟨four_other (M := w.heap.size + 1) (o := 0) (by omega), by omega⟩
  · have he : foldM t = (zeroT, (truthM t).2) := by unfold foldM; rw [if_pos h0]
    rw [he]
    have h2 : (((truthM t).2 : Int) != 0) = true := by simp; omega
    generalize (truthM t).2 = ck at *
    generalize (truthM t).1 = tb at *
    go_enter Try.func17, Try.ntmps17
    go_wp2_with (go_at_call 16; refine (HC.out _ ((HT.out.alloc _).alloc _)).mono ?_; rintro e w1 ⟨rfl, HB⟩; obtain ⟨_, ⟨q0, q1, q2, q3, q4⟩, hb⟩ := two_next HB; have HB2 : Hid (Below w.heap.size w w1) := hb; clear HB hb)
    refine bodyPost_ret (v := .tuple #[.agg #[.int .i64 0, .int .i64 0, .string ⟨#[]⟩, .slice none 0 0], .int .i64 ck]) (by simp [results, Try.results17, go_sem, q0, q1, q2, q3]) rfl ⟨_, _, _, _, _, _, rfl, zero_tre _ _, below_four HB2.out (M := w.heap.size + 1) (o := 0) (Nat.le_succ _)⟩
end
section
open Go.RowKit
set_option linter.unusedVariables false
end
end Go.Proofs.Ytfjphlejhcdbaaa

/-
  PacketReads: its walk.
-/
import Derived.Test.YtcaddedkodjgcaaKpo
namespace Go.Proofs.Ytcaddedkodjgcaa
open Go.RowKit Pack
set_option linter.unusedVariables false
set_option linter.unusedSimpArgs false

theorem own_sb {w : World} {B : Nat} {v : Value} {l : BB} (h : Owns w B v l) {g : Nat} (hg : SB v g) : B ≤ g := by
  unfold Owns at h
  rcases h.2 with ⟨rfl, h0⟩ | ⟨g', cap, cur, rfl, hg', _⟩
  · exact absurd hg (fun h => h)
  · have : g' = g := hg
    omega
theorem Owns.set3 {w : World} {B : Nat} {v : Value} {l : BB} (h : Owns w B v l) {g : Nat} (hg : g < B) (x y z : Value) : Owns (((w.setCell ⟨g, 0, none⟩ x).setCell ⟨g, 1, none⟩ y).setCell ⟨g, 2, none⟩ z) B v l :=
  ownsRow_setCell_below (ownsRow_setCell_below (ownsRow_setCell_below h (a := ⟨g, 0, none⟩) hg x) (a := ⟨g, 1, none⟩) hg y) (a := ⟨g, 2, none⟩) hg z
set_option maxRecDepth 100000 in
set_option maxHeartbeats 3200000 in
theorem reads_walk {w : World} {v : Value} {b : BB} (H : PgOk) (HW : ∀ wr, Calls Try.prog 10 #[] wr fun e w' => e = .returned (.bool true) ∧ Below wr.heap.size wr w') (h : ReadsV w v b) : Calls Try.prog 4 #[v] w fun e w' => e = .returned (.bool true) ∧ Below w.heap.size w w' := by
  have HWk : Hid (∀ wr, Below w.heap.size w wr → Calls Try.prog 10 #[] wr fun e w' => e = .returned (.bool true) ∧ Below w.heap.size w w') := fun wr q => (HW wr).mono fun e w' ⟨q1, q2⟩ => ⟨q1, q.trans (q2.mono q.size)⟩
  by_cases hb : b.length ≤ 1500
  · obtain ⟨⟨⟨f, t, ms⟩, er⟩, hrd⟩ : ∃ p, readM b = p := ⟨_, rfl⟩
    obtain ⟨⟨⟨f2, t2, ms2⟩, er2⟩, hrd2⟩ : ∃ p, readM (sealB b) = p := ⟨_, rfl⟩
    have HR1 : Hid (∀ wr, Below w.heap.size w wr → Calls Try.prog 16 #[v] wr fun e w' => ∃ a' c', e = .returned (.tuple #[.agg #[.int .i64 f, .int .i64 t, .slice a' ms.length c'], .int .i64 er]) ∧ RwV msR w' (fun _ => True) a' c' ms ∧ Below wr.heap.size wr w') := fun wr q => by
      have := (H.rd (h.below q) (by omega)).mono fun e w' q => ReadP.plain q
      rw [hrd] at this
      exact this
    have HQ1 : Hid (∀ wr, Below w.heap.size w wr → Calls Try.prog 17 #[v] wr fun e w' => ∃ a' c', e = .returned (.tuple #[.agg #[.int .i64 f, .int .i64 t, .slice a' ms.length c'], .int .i64 er]) ∧ RwV msR w' (fun _ => True) a' c' ms ∧ Below wr.heap.size wr w') := fun wr q => by
      have := (RRead_any (h.below q) (by omega)).mono fun e w' q => ReadP.plain q
      rw [hrd] at this
      exact this
    have HS1 : Hid (∀ wr a1 c1 a2 c2, RwV msR wr (fun _ => True) a1 c1 ms → RwV msR wr (fun _ => True) a2 c2 ms → Calls Try.prog 18 #[.agg #[.int .i64 f, .int .i64 t, .slice a1 ms.length c1], .agg #[.int .i64 f, .int .i64 t, .slice a2 ms.length c2]] wr fun e w' => e = .returned (.bool true) ∧ Below wr.heap.size wr w') := fun wr a1 c1 a2 c2 q1 q2 => by
      have := RPSame_any (p := (f, t, ms)) (q := (f, t, ms)) q1 q2
      rw [eqPk_iff.2 rfl] at this
      exact this
    have HSl : Hid (∀ wr, Below w.heap.size w wr → Calls Try.prog 19 #[v] wr fun e w' => ∃ v', e = .returned v' ∧ Owns w' wr.heap.size v' (sealB b) ∧ Below wr.heap.size wr w') := fun wr q => RSeal_any v b wr (h.below q) (by omega)
    have HR2 : Hid (∀ wr v' B, Owns wr B v' (sealB b) → B ≤ wr.heap.size → Calls Try.prog 16 #[v'] wr fun e w' => ∃ a' c', e = .returned (.tuple #[.agg #[.int .i64 f2, .int .i64 t2, .slice a' ms2.length c'], .int .i64 er2]) ∧ RwV msR w' (fun g => B ≤ g) a' c' ms2 ∧ Below wr.heap.size wr w') := fun wr v' B q qB => by
      have := H.rd (ReadsV.of_own q) (by rw [sealB_len]; omega)
      rw [hrd2] at this
      exact this.mono fun e w' ⟨a', c', h1, h2, h3⟩ => ⟨a', c', h1, h2.sub (fun g hg _ => hg.elim (fun k => own_sb q k.2) (fun k => Nat.le_trans qB k)), h3⟩
    have HQ2 : Hid (∀ wr v' B, Owns wr B v' (sealB b) → B ≤ wr.heap.size → Calls Try.prog 17 #[v'] wr fun e w' => ∃ a' c', e = .returned (.tuple #[.agg #[.int .i64 f2, .int .i64 t2, .slice a' ms2.length c'], .int .i64 er2]) ∧ RwV msR w' (fun g => B ≤ g) a' c' ms2 ∧ Below wr.heap.size wr w') := fun wr v' B q qB => by
      have := RRead_any (ReadsV.of_own q) (by rw [sealB_len]; omega)
      rw [hrd2] at this
      exact this.mono fun e w' ⟨a', c', h1, h2, h3⟩ => ⟨a', c', h1, h2.sub (fun g hg _ => hg.elim (fun k => own_sb q k.2) (fun k => Nat.le_trans qB k)), h3⟩
    have HS2 : Hid (∀ wr B a1 c1 a2 c2, RwV msR wr (fun g => B ≤ g) a1 c1 ms2 → RwV msR wr (fun g => B ≤ g) a2 c2 ms2 → Calls Try.prog 18 #[.agg #[.int .i64 f2, .int .i64 t2, .slice a1 ms2.length c1], .agg #[.int .i64 f2, .int .i64 t2, .slice a2 ms2.length c2]] wr fun e w' => e = .returned (.bool true) ∧ Below wr.heap.size wr w') := fun wr B a1 c1 a2 c2 q1 q2 => by
      have := RPSame_any (p := (f2, t2, ms2)) (q := (f2, t2, ms2)) q1 q2
      rw [eqPk_iff.2 rfl] at this
      exact this
    obtain ⟨a, c, rfl, hnil, hlc, hcm, hrd3⟩ := h
    have hcm2 : c ≤ 9223372036854775807 := hcm
    clear hrd hrd2 hrd3 hnil hcm H HW
    generalize sealB b = sb at *
    generalize b.length = n at *
    generalize ms.length = n1 at *
    generalize ms2.length = n2 at *
    go_enter Try.func4, Try.ntmps4
    go_wp2_with (first
      | (go_at_call 10; have := T9; refine (HWk.out _ T9.out).mono ?_; rintro e wz ⟨rfl, qz⟩; have HZ : Hid (Below w.heap.size w wz) := qz; clear qz)
      | (go_at_call 18; have := T7; refine (HS2.out _ w3.heap.size _ _ _ _ (T7.out.2.2.1.kept (fun g hg _ => ⟨three_other (o := 0) (show g ≠ w2.heap.size by have : w3.heap.size ≤ g := hg; omega), hg⟩)) (T7.out.2.2.2.1.kept (fun g hg _ => ⟨three_other (o := 0) (show g ≠ w2.heap.size by have : w3.heap.size ≤ g := hg; omega), hg⟩))).mono ?_; rintro e w9 ⟨rfl, qB⟩; have T9 : Hid (Below w.heap.size w w9) := (three_below (o := 0) T7.out.1 hw2).trans (qB.mono (by rw [size_set, size_set, size_set]; exact T7.out.1.size)); clear qB)
      | (go_at_call 17; have := T5; refine (HQ2.out _ _ w3.heap.size (T5.out.2.2.2.1.set3 hl13 _ _ _) (by rw [size_set, size_set, size_set]; exact hz5)).mono ?_; rintro e w7 ⟨a7, c7, rfl, hm, qB⟩; have qB5 : Below w5.heap.size _ w7 := qB.mono (by rw [size_set, size_set, size_set]; exact Nat.le_refl _); have hs7 : w5.heap.size ≤ w7.heap.size := (by have := qB.size; rw [size_set, size_set, size_set] at this; exact this); have T7 : Hid (Below w.heap.size w w7 ∧ (Cell3 w7 w1.heap.size (.int .i64 f2) (.int .i64 t2) (.slice a5 n2 c5) ∧ Cell3 w7 w2.heap.size (.int .i64 f) (.int .i64 t) (.slice a2 n1 c2)) ∧ RwV msR w7 (fun g => w3.heap.size ≤ g) a5 c5 ms2 ∧ RwV msR w7 (fun g => w3.heap.size ≤ g) a7 c7 ms2 ∧ w3.heap.size ≤ w7.heap.size) := ⟨(three_below (o := 0) T5.out.1 hw1).trans (qB5.mono T5.out.1.size), ⟨(box_put T5.out.2.1 (Below.refl _ w5) _ _ _).1.kept (qB5.block _ T5.out.2.1.lt), (T5.out.2.2.1.kept (three_other (o := 0) (Nat.ne_of_gt hl12))).kept (qB5.block _ T5.out.2.2.1.lt)⟩, (T5.out.2.2.2.2.kept (fun g hg _ => ⟨three_other (o := 0) (show g ≠ w1.heap.size by have : w3.heap.size ≤ g := hg; omega), hg⟩)).below qB, hm, Nat.le_trans hz5 hs7⟩; obtain ⟨⟨k0, k1, k2, kf⟩, ⟨m0, m1, m2, mf⟩⟩ := T7.out.2.1; clear hm qB qB5)
      | (go_at_call 16; have := T4; refine (HR2.out _ _ w3.heap.size T4.out.2.2.2 hz4).mono ?_; rintro e w5 ⟨a5, c5, rfl, hm, qB⟩; have T5 : Hid (Below w.heap.size w w5 ∧ Cell3 w5 w1.heap.size (.int .i64 f) (.int .i64 t) (.slice a1 n1 c1) ∧ Cell3 w5 w2.heap.size (.int .i64 f) (.int .i64 t) (.slice a2 n1 c2) ∧ Owns w5 w3.heap.size v4 sb ∧ RwV msR w5 (fun g => w3.heap.size ≤ g) a5 c5 ms2) := ⟨T4.out.1.trans (qB.mono T4.out.1.size), T4.out.2.1.kept (qB.block _ T4.out.2.1.lt), T4.out.2.2.1.kept (qB.block _ T4.out.2.2.1.lt), T4.out.2.2.2.below qB, hm⟩; have hz5 : w3.heap.size ≤ w5.heap.size := Nat.le_trans hz4 qB.size; obtain ⟨i0, i1, i2, if_⟩ := T5.out.2.1; clear hm qB)
      | (go_at_call 19; have := T3; refine (HSl.out _ T3.out.1).mono ?_; rintro e w4 ⟨v4, rfl, ho, qB⟩; have T4 : Hid (Below w.heap.size w w4 ∧ Cell3 w4 w1.heap.size (.int .i64 f) (.int .i64 t) (.slice a1 n1 c1) ∧ Cell3 w4 w2.heap.size (.int .i64 f) (.int .i64 t) (.slice a2 n1 c2) ∧ Owns w4 w3.heap.size v4 sb) := ⟨T3.out.1.trans (qB.mono T3.out.1.size), T3.out.2.1.kept (qB.block _ T3.out.2.1.lt), T3.out.2.2.kept (qB.block _ T3.out.2.2.lt), ho⟩; have hz4 : w3.heap.size ≤ w4.heap.size := qB.size; clear ho qB)
      | (go_at_call 18; have := T2; refine (HS1.out _ _ _ _ _ (T2.out.2.2.1.below ((Below.refl _ _).alloc (Nat.le_refl _) _)) (T2.out.2.2.2.below ((Below.refl _ _).alloc (Nat.le_refl _) _))).mono ?_; rintro e w3 ⟨rfl, qB⟩; have T3 : Hid (Below w.heap.size w w3 ∧ Cell3 w3 w1.heap.size (.int .i64 f) (.int .i64 t) (.slice a1 n1 c1) ∧ Cell3 w3 w2.heap.size (.int .i64 f) (.int .i64 t) (.slice a2 n1 c2)) := ⟨(T2.out.1.alloc T2.out.1.size _).trans (qB.mono (Nat.le_trans T2.out.1.size (le_alloc _ _))), (T2.out.2.1.kept (Below.heap_alloc _ _ _ T2.out.2.1.lt)).kept (qB.block _ (by rw [size_alloc]; exact Nat.lt_succ_of_lt T2.out.2.1.lt)), (Cell3.new w2 _ _ _ _).kept (qB.block _ (by rw [size_alloc]; exact Nat.lt_succ_self _))⟩; have hl13 : w1.heap.size < w3.heap.size := T3.out.2.1.lt; have hl23 : w2.heap.size < w3.heap.size := T3.out.2.2.lt; clear qB)
      | (go_at_call 17; have := T1; refine (HQ1.out _ (T1.out.1.alloc T1.out.1.size _)).mono ?_; rintro e w2 ⟨a2, c2, rfl, hm, qB⟩; have T2 : Hid (Below w.heap.size w w2 ∧ Cell3 w2 w1.heap.size (.int .i64 f) (.int .i64 t) (.slice a1 n1 c1) ∧ RwV msR w2 (fun _ => True) a1 c1 ms ∧ RwV msR w2 (fun _ => True) a2 c2 ms) := ⟨(T1.out.1.alloc T1.out.1.size _).trans (qB.mono (Nat.le_trans T1.out.1.size (le_alloc _ _))), (Cell3.new w1 _ _ _ _).kept (qB.block _ (by rw [size_alloc]; exact Nat.lt_succ_self _)), T1.out.2.below (((Below.refl _ _).alloc (Nat.le_refl _) _).trans (qB.mono (le_alloc _ _))), hm⟩; have hl12 : w1.heap.size < w2.heap.size := T2.out.2.1.lt; have hw2 : w.heap.size ≤ w2.heap.size := T2.out.1.size; obtain ⟨h0, h1, h2, hf⟩ := T2.out.2.1; clear hm qB)
      | (go_at_call 16; refine (HR1.out _ (Below.refl _ _)).mono ?_; rintro e w1 ⟨a1, c1, rfl, hm, qB⟩; have T1 : Hid (Below w.heap.size w w1 ∧ RwV msR w1 (fun _ => True) a1 c1 ms) := ⟨qB, hm⟩; have hw1 : w.heap.size ≤ w1.heap.size := qB.size; clear hm qB))
    go_ret
    exact ⟨rfl, HZ.out⟩
  · obtain ⟨a, c, rfl, hnil, hlc, hcm, hrd2⟩ := h
    clear hrd2 hnil H HW
    have hcm2 : c ≤ 9223372036854775807 := hcm
    generalize b.length = n at *
    go_enter Try.func4, Try.ntmps4
    go_wp2_with (go_at_call 10; refine (HWk.out _ (Below.refl _ _)).mono ?_; rintro e wz ⟨rfl, qz⟩; have HZ : Hid (Below w.heap.size w wz) := qz; clear qz)
    go_ret
    exact ⟨rfl, HZ.out⟩
end Go.Proofs.Ytcaddedkodjgcaa

/-
  Print: a contract.
-/
import Derived.Test.YtlfeejjlcclbdaaGreatDoorPut2
import Derived.Test.YtlfeejjlcclbdaaGreatDoorParse
import Derived.Test.YtlfeejjlcclbdaaGreatDoorSame
namespace Go.Proofs.YtlfeejjlcclbdaaGreatDoor
open Go.RowKit
set_option linter.unusedVariables false


theorem wrap_len (row : Nat) (k : Int) (t : Bs) : (wrapT row k t).length ≤ t.length + 2 := by
  unfold wrapT
  split
  · omega
  · simp
theorem itoa_len (u : Nat) (h : u < 9223372036854775808) : (Lib.itoa u).length ≤ 20 := by
  rw [Lib.itoa_nonneg, Lib.decDigits_length]
  by_cases h0 : u = 0
  · subst h0; rw [Lib.nDigits_small (by decide)]; decide
  · have := Lib.numDigits_eq u (by omega) (by omega)
    split at this <;> omega
theorem name_len {t : Bs} (h : nameOk t = true) : t.length ≤ 32 := by
  cases t with
  | nil => simp
  | cons c r =>
    have : (letter c && (c :: r).all (fun x => digit x || letter x) && decide ((c :: r).length ≤ 32)) = true := h
    simp only [Bool.and_eq_true, decide_eq_true_eq] at this
    exact this.2
theorem text_len {w : World} {P : Nat → Prop} : ∀ (d : Nat) (t : Tr) (v : Value), Tre w P v t → checkM d t = 0 → (textT t).length + 7 ≤ 39 * 2 ^ d
  | 0, t, v, _, h => absurd h (by show ¬ (6 : Nat) = 0; decide)
  | d + 1, t, v, hT, h => by
    obtain ⟨a, cap, _, _, _, hn, hkids⟩ := hT.kidB
    have hn2 := hn.2
    obtain ⟨hf, hk⟩ := check_parts h
    have h1 := hf.lo; have h2 := hf.hi; have hk2 := hf.kids
    have hp : 1 ≤ 2 ^ d := Nat.one_le_two_pow
    have ih : ∀ i, i < t.kids.length → (textT (t.kids.getD i zeroT)).length + 7 ≤ 39 * 2 ^ d := fun i hi => by
      obtain ⟨b, o, ka, kc, _, hka⟩ := hkids i hi
      exact text_len d _ _ hka.tre (hk i hi)
    rw [textT_eq, Nat.pow_succ]
    unfold nodeT
    by_cases e1 : t.kind = 1
    · rw [if_pos e1]
      obtain ⟨u, hu⟩ : ∃ u : Nat, t.n = u := ⟨t.n.toNat, by have := hf.n0; omega⟩
      rw [hu]
      have := itoa_len u (by omega)
      omega
    rw [if_neg e1]
    by_cases e2 : t.kind = 2
    · rw [if_pos e2]
      have := name_len (hf.nm e2).1
      omega
    rw [if_neg e2]
    by_cases e3 : t.kind = 3
    · rw [if_pos e3]; show 3 + 7 ≤ _; omega
    rw [if_neg e3]
    by_cases e4 : t.kind = 4
    · rw [if_pos e4]; show 2 + 7 ≤ _; omega
    rw [if_neg e4]
    by_cases e56 : t.kind = 5 ∨ t.kind = 6
    · have hk1 : t.kids.length = 1 := by rw [hk2]; unfold kidsK; rw [if_neg (by omega), if_pos (by omega)]
      rw [if_pos e56, textsT_at _ 0 (by omega)]
      have a := ih 0 (by omega)
      have b := wrap_len 6 (t.kids.getD 0 zeroT).kind (textT (t.kids.getD 0 zeroT))
      simp only [List.length_cons]
      omega
    · have hk1 : t.kids.length = 2 := by rw [hk2]; unfold kidsK; rw [if_neg (by omega), if_neg (by omega)]
      rw [if_neg e56, textsT_at _ 0 (by omega), textsT_at _ 1 (by omega)]
      have a := ih 0 (by omega)
      have b := wrap_len (leftK t.kind) (t.kids.getD 0 zeroT).kind (textT (t.kids.getD 0 zeroT))
      have a' := ih 1 (by omega)
      have b' := wrap_len (rowK t.kind + 1) (t.kids.getD 1 zeroT).kind (textT (t.kids.getD 1 zeroT))
      simp only [List.length_append, List.length_cons, List.length_nil]
      omega
/-- The text of a tree, and the error. -/
def PrintR (t : Tr) (s : Bs) (e : Nat) : Prop :=
  (checkM 16 t ≠ 0 ∧ s = [] ∧ e = checkM 16 t) ∨ (checkM 16 t = 0 ∧ ((parseM (ba (textT t))).err ≠ 0 ∨ (parseM (ba (textT t))).t ≠ t) ∧ s = [] ∧ e = 6) ∨
    (checkM 16 t = 0 ∧ (parseM (ba (textT t))).err = 0 ∧ (parseM (ba (textT t))).t = t ∧ s = textT t ∧ e = 0)
/-- What Print leaves. -/
def PrP (w : World) (t : Tr) (e : Ending) (w' : World) : Prop := (∃ s x, e = .returned (.tuple #[.string (ba s), .int .i64 (x : Nat)]) ∧ PrintR t s x) ∧ Below w.heap.size w w'
/-- The world that stands at the door: the error's variable and the table. -/
structure Ready (w : World) : Prop where
  held : Held w
  tab : Lib.TabIs Tryz.prog w "internal/strconv.uint64pow10" .u64 Lib.pow10Tab
theorem Ready.below {w w' : World} (h : Ready w) (hb : Below w.heap.size w w') : Ready w' := ⟨h.held.below (Nat.le_refl _) hb, Lib.tabBelow_of_tabIs h.tab w' hb⟩
theorem Ready.alloc {w : World} (h : Ready w) (o : Obj) : Ready (w.alloc o) := h.below ((Below.refl _ _).alloc (Nat.le_refl _) o)
set_option maxRecDepth 100000 in
set_option maxHeartbeats 800000 in
theorem print_bad (P : Nat → Prop) (t : Tr) (k n : Int) (s : ByteArray) (a : Option Addr) (l c : Nat) (w : World) (HT : Hid (Tre w P (.agg #[.int .i64 k, .int .i64 n, .string s, .slice a l c]) t)) (hck : checkM 16 t ≠ 0) :
    Calls Tryz.prog 6 #[.agg #[.int .i64 k, .int .i64 n, .string s, .slice a l c]] w (PrP w t) := by
  have HC : Hid (∀ w, Tre w P (.agg #[.int .i64 k, .int .i64 n, .string s, .slice a l c]) t → Calls Tryz.prog 8 #[.agg #[.int .i64 k, .int .i64 n, .string s, .slice a l c]] w fun e w' => e = .returned (.int .i64 (checkM 16 t)) ∧ Below w.heap.size w w') := fun w h => Check_any P t k n s a l c w h
  have HR : Hid (PrintR t [] (checkM 16 t)) := .inl ⟨hck, rfl, rfl⟩
  generalize checkM 16 t = ck at *
  have hck2 : ¬ (ck : Int) = 0 := by omega
  go_enter Tryz.func6, Tryz.ntmps6
  go_wp2_with (go_at_call 8; refine (HC.out _ (HT.out.alloc _)).mono ?_; rintro e w3 ⟨rfl, HB⟩; have HB3 : Hid (Below w.heap.size w w3) := ((Below.refl _ _).alloc (Nat.le_refl _) _).trans (HB.mono (le_alloc _ _)); clear HB)
  go_ret2
  exact ⟨⟨[], ck, rfl, HR.out⟩, HB3.out⟩
set_option maxRecDepth 100000 in
set_option maxHeartbeats 1600000 in
theorem print_good (P : Nat → Prop) (t : Tr) (k n : Int) (s : ByteArray) (a : Option Addr) (l c : Nat) (w : World) (HT : Hid (Tre w P (.agg #[.int .i64 k, .int .i64 n, .string s, .slice a l c]) t)) (HD : Hid (Ready w)) (hck : checkM 16 t = 0) :
    Calls Tryz.prog 6 #[.agg #[.int .i64 k, .int .i64 n, .string s, .slice a l c]] w (PrP w t) := by
  have HC : Hid (∀ w, Tre w P (.agg #[.int .i64 k, .int .i64 n, .string s, .slice a l c]) t → Calls Tryz.prog 8 #[.agg #[.int .i64 k, .int .i64 n, .string s, .slice a l c]] w fun e w' => e = .returned (.int .i64 0) ∧ Below w.heap.size w w') := fun w h => by
    have := Check_any P t k n s a l c w h
    rw [hck] at this
    exact this
  have hlen : (textT t).length ≤ 2555904 := by have := text_len 16 t _ HT.out hck; omega
  have HP : Hid (∀ w, Ready w → Tre w P (.agg #[.int .i64 k, .int .i64 n, .string s, .slice a l c]) t → Calls Tryz.prog 13 #[.slice none 0 0, .agg #[.int .i64 k, .int .i64 n, .string s, .slice a l c]] w fun e w' => ∃ pa pn pc, e = .returned (.slice pa pn pc) ∧ (convert 37 9 (.slice pa pn pc)).run Tryz.prog w' = .ok (.string (ba (textT t))) w' ∧ Below w.heap.size w w') := fun w hr hT => by
    refine (puts_any 16 t hck w.heap.size [] (.slice none 0 0) _ w ⟨hT.kept fun g _ hg => ⟨rfl, hg⟩, Ob.nil _ _, Nat.le_refl _, Lib.tabBelow_of_tabIs hr.tab⟩ (by simp; omega)).mono ?_
    rintro e w' ⟨v, rfl, h1, h2⟩
    obtain ⟨pa, pc, rfl⟩ := h1.slice
    exact ⟨pa, _, pc, rfl, h1.convert, (Ob.nil w w.heap.size).bel (Nat.le_refl _) h2⟩
  have HQ : Hid (∀ w, Ready w → Calls Tryz.prog 11 #[.string (ba (textT t))] w (PPost w (parseM (ba (textT t))))) := fun w h => parse_any _ (by rw [ba_size]; omega) w h.held
  have HR1 : Hid ((parseM (ba (textT t))).err ≠ 0 → PrintR t [] 6) := fun h => .inr (.inl ⟨hck, .inl h, rfl, rfl⟩)
  have HR2 : Hid ((parseM (ba (textT t))).t ≠ t → PrintR t [] 6) := fun h => .inr (.inl ⟨hck, .inr h, rfl, rfl⟩)
  have HR3 : Hid ((parseM (ba (textT t))).err = 0 → (parseM (ba (textT t))).t = t → PrintR t (textT t) 0) := fun h1 h2 => .inr (.inr ⟨hck, h1, h2, rfl, rfl⟩)
  clear hck hlen
  generalize parseM (ba (textT t)) = q at *
  generalize textT t = tx at *
  obtain ⟨qt, qe, qp⟩ := q
  by_cases he : qe = 0
  · subst he
    by_cases ht : qt = t
    · subst ht
      have HRR : Hid (PrintR qt tx 0) := HR3.out rfl rfl
      have HS : Hid (∀ k2 n2 s2 a2 l2 c2 w P2, Tre w P2 (.agg #[.int .i64 k2, .int .i64 n2, .string s2, .slice a2 l2 c2]) qt → Tre w P (.agg #[.int .i64 k, .int .i64 n, .string s, .slice a l c]) qt → Calls Tryz.prog 12 #[.agg #[.int .i64 k2, .int .i64 n2, .string s2, .slice a2 l2 c2], .agg #[.int .i64 k, .int .i64 n, .string s, .slice a l c]] w fun e w' => e = .returned (.bool true) ∧ Below w.heap.size w w') := fun k2 n2 s2 a2 l2 c2 w P2 h1 h2 => (same_any qt P2 P qt _ _ w h1 h2).mono fun e w' h => ⟨h.1.of_yes rfl, h.2⟩
      clear HR1 HR2 HR3
      go_enter Tryz.func6, Tryz.ntmps6
      go_wp2_with (first
        | (go_at_call 12; have := HM3; refine (HS.out _ _ _ _ _ _ _ _ ((HM3.out.2.1.alloc _).alloc _) ((HM3.out.2.2.alloc _).alloc _)).mono ?_; rintro e w6 ⟨rfl, HB⟩; have HB6 : Hid (Below w.heap.size w w6) := ((HM3.out.1.alloc HM3.out.1.size _).alloc (Nat.le_trans HM3.out.1.size (le_alloc _ _)) _).trans (HB.mono (Nat.le_trans HM3.out.1.size (Nat.le_trans (le_alloc _ _) (le_alloc _ _)))); clear HB HM3)
        | (go_at_call 11; have := HM2; refine (HQ.out _ HM2.out.1).mono ?_; rintro e w5 ⟨⟨tk, tn, ts, ta, tl, tc, rfl, HT5⟩, HB⟩; have HM3 : Hid (Below w.heap.size w w5 ∧ Tre w5 (fun g => w4.heap.size ≤ g) (.agg #[.int .i64 tk, .int .i64 tn, .string ts, .slice ta tl tc]) qt ∧ Tre w5 P (.agg #[.int .i64 k, .int .i64 n, .string s, .slice a l c]) qt) := ⟨HM2.out.2.1.trans (HB.mono HM2.out.2.1.size), HT5, HM2.out.2.2.1.below HB⟩; obtain ⟨r0, r1, r2, r3, r4⟩ := HM2.out.2.2.2.below HB; have hlt : w.heap.size < w5.heap.size := (HM2.out.2.2.2.below HB).lt; clear HB HT5 HM2)
        | (go_at_call 13; have := HM1; refine (HP.out _ HM1.out.1 HM1.out.2.2.1).mono ?_; rintro e w4 ⟨pa, pn, pc, rfl, hcv, HB⟩; have HM2 : Hid (Ready w4 ∧ Below w.heap.size w w4 ∧ Tre w4 P (.agg #[.int .i64 k, .int .i64 n, .string s, .slice a l c]) qt ∧ Cell4 w4 w.heap.size (.int .i64 k) (.int .i64 n) (.string s) (.slice a l c)) := ⟨HM1.out.1.below HB, HM1.out.2.1.trans (HB.mono HM1.out.2.1.size), HM1.out.2.2.1.below HB, HM1.out.2.2.2.below HB⟩; clear HB HM1)
        | (go_at_call 8; refine (HC.out _ (HT.out.alloc _)).mono ?_; rintro e w3 ⟨rfl, HB⟩; have HM1 : Hid (Ready w3 ∧ Below w.heap.size w w3 ∧ Tre w3 P (.agg #[.int .i64 k, .int .i64 n, .string s, .slice a l c]) qt ∧ Cell4 w3 w.heap.size (.int .i64 k) (.int .i64 n) (.string s) (.slice a l c)) := ⟨(HD.out.alloc _).below HB, ((Below.refl _ _).alloc (Nat.le_refl _) _).trans (HB.mono (le_alloc _ _)), (HT.out.alloc _).below HB, (Cell4.new w (.int .i64 k) (.int .i64 n) (.string s) (.slice a l c) 24).below HB⟩; obtain ⟨q0, q1, q2, q3, q4⟩ := HM1.out.2.2.2; clear HB))
      go_ret2
      exact ⟨⟨tx, 0, rfl, HRR.out⟩, HB6.out⟩
    · have HRR : Hid (PrintR t [] 6) := HR2.out ht
      have HS : Hid (∀ k2 n2 s2 a2 l2 c2 w P2, Tre w P2 (.agg #[.int .i64 k2, .int .i64 n2, .string s2, .slice a2 l2 c2]) qt → Tre w P (.agg #[.int .i64 k, .int .i64 n, .string s, .slice a l c]) t → Calls Tryz.prog 12 #[.agg #[.int .i64 k2, .int .i64 n2, .string s2, .slice a2 l2 c2], .agg #[.int .i64 k, .int .i64 n, .string s, .slice a l c]] w fun e w' => e = .returned (.bool false) ∧ Below w.heap.size w w') := fun k2 n2 s2 a2 l2 c2 w P2 h1 h2 => (same_any qt P2 P t _ _ w h1 h2).mono fun e w' h => ⟨h.1.of_no ht, h.2⟩
      clear HR1 HR2 HR3
      go_enter Tryz.func6, Tryz.ntmps6
      go_wp2_with (first
        | (go_at_call 12; have := HM3; refine (HS.out _ _ _ _ _ _ _ _ ((HM3.out.2.1.alloc _).alloc _) ((HM3.out.2.2.alloc _).alloc _)).mono ?_; rintro e w6 ⟨rfl, HB⟩; have HB6 : Hid (Below w.heap.size w w6) := ((HM3.out.1.alloc HM3.out.1.size _).alloc (Nat.le_trans HM3.out.1.size (le_alloc _ _)) _).trans (HB.mono (Nat.le_trans HM3.out.1.size (Nat.le_trans (le_alloc _ _) (le_alloc _ _)))); clear HB HM3)
        | (go_at_call 11; have := HM2; refine (HQ.out _ HM2.out.1).mono ?_; rintro e w5 ⟨⟨tk, tn, ts, ta, tl, tc, rfl, HT5⟩, HB⟩; have HM3 : Hid (Below w.heap.size w w5 ∧ Tre w5 (fun g => w4.heap.size ≤ g) (.agg #[.int .i64 tk, .int .i64 tn, .string ts, .slice ta tl tc]) qt ∧ Tre w5 P (.agg #[.int .i64 k, .int .i64 n, .string s, .slice a l c]) t) := ⟨HM2.out.2.1.trans (HB.mono HM2.out.2.1.size), HT5, HM2.out.2.2.1.below HB⟩; obtain ⟨r0, r1, r2, r3, r4⟩ := HM2.out.2.2.2.below HB; have hlt : w.heap.size < w5.heap.size := (HM2.out.2.2.2.below HB).lt; clear HB HT5 HM2)
        | (go_at_call 13; have := HM1; refine (HP.out _ HM1.out.1 HM1.out.2.2.1).mono ?_; rintro e w4 ⟨pa, pn, pc, rfl, hcv, HB⟩; have HM2 : Hid (Ready w4 ∧ Below w.heap.size w w4 ∧ Tre w4 P (.agg #[.int .i64 k, .int .i64 n, .string s, .slice a l c]) t ∧ Cell4 w4 w.heap.size (.int .i64 k) (.int .i64 n) (.string s) (.slice a l c)) := ⟨HM1.out.1.below HB, HM1.out.2.1.trans (HB.mono HM1.out.2.1.size), HM1.out.2.2.1.below HB, HM1.out.2.2.2.below HB⟩; clear HB HM1)
        | (go_at_call 8; refine (HC.out _ (HT.out.alloc _)).mono ?_; rintro e w3 ⟨rfl, HB⟩; have HM1 : Hid (Ready w3 ∧ Below w.heap.size w w3 ∧ Tre w3 P (.agg #[.int .i64 k, .int .i64 n, .string s, .slice a l c]) t ∧ Cell4 w3 w.heap.size (.int .i64 k) (.int .i64 n) (.string s) (.slice a l c)) := ⟨(HD.out.alloc _).below HB, ((Below.refl _ _).alloc (Nat.le_refl _) _).trans (HB.mono (le_alloc _ _)), (HT.out.alloc _).below HB, (Cell4.new w (.int .i64 k) (.int .i64 n) (.string s) (.slice a l c) 24).below HB⟩; obtain ⟨q0, q1, q2, q3, q4⟩ := HM1.out.2.2.2; clear HB))
      go_ret2
      exact ⟨⟨[], 6, rfl, HRR.out⟩, HB6.out⟩
  · have HRR : Hid (PrintR t [] 6) := HR1.out he
    have he2 : ((qe : Int) != 0) = true := by simp; omega
    clear HR1 HR2 HR3
    go_enter Tryz.func6, Tryz.ntmps6
    go_wp2_with (first
      | (go_at_call 11; have := HM2; refine (HQ.out _ HM2.out.1).mono ?_; rintro e w5 ⟨⟨tk, tn, ts, ta, tl, tc, rfl, HT5⟩, HB⟩; have HB5 : Hid (Below w.heap.size w w5) := HM2.out.2.trans (HB.mono HM2.out.2.size); clear HB HT5 HM2)
      | (go_at_call 13; have := HM1; refine (HP.out _ HM1.out.1 HM1.out.2.2).mono ?_; rintro e w4 ⟨pa, pn, pc, rfl, hcv, HB⟩; have HM2 : Hid (Ready w4 ∧ Below w.heap.size w w4) := ⟨HM1.out.1.below HB, HM1.out.2.1.trans (HB.mono HM1.out.2.1.size)⟩; clear HB HM1)
      | (go_at_call 8; refine (HC.out _ (HT.out.alloc _)).mono ?_; rintro e w3 ⟨rfl, HB⟩; have HM1 : Hid (Ready w3 ∧ Below w.heap.size w w3 ∧ Tre w3 P (.agg #[.int .i64 k, .int .i64 n, .string s, .slice a l c]) t) := ⟨(HD.out.alloc _).below HB, ((Below.refl _ _).alloc (Nat.le_refl _) _).trans (HB.mono (le_alloc _ _)), (HT.out.alloc _).below HB⟩; obtain ⟨q0, q1, q2, q3, q4⟩ := (Cell4.new w (.int .i64 k) (.int .i64 n) (.string s) (.slice a l c) 24).below HB; clear HB))
    go_ret2
    exact ⟨⟨[], 6, rfl, HRR.out⟩, (HB5.out.alloc HB5.out.size _).alloc (Nat.le_trans HB5.out.size (le_alloc _ _)) _⟩
theorem print_any (P : Nat → Prop) (t : Tr) (v : Value) (w : World) (hT : Tre w P v t) (hD : Ready w) : Calls Tryz.prog 6 #[v] w (PrP w t) := by
  obtain ⟨a, c, rfl⟩ := hT.four
  by_cases h : checkM 16 t = 0
  · exact print_good P t _ _ _ a _ c w hT hD h
  · exact print_bad P t _ _ _ a _ c w hT h
end Go.Proofs.YtlfeejjlcclbdaaGreatDoor

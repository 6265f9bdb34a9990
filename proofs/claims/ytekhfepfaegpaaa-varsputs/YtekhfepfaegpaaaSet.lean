/-
  Contracts: One, Set, Copy.
-/
import Derived.Test.YtekhfepfaegpaaaOf
namespace Go.Proofs.Ytekhfepfaegpaaa
open Go.RowKit Pack
set_option linter.unusedVariables false

theorem RdL.new2 {w : World} {s1 s2 s3 s4 : Value} {x y : VP} (h1 : Rd w s1 (strsV x.1)) (h2 : Rd w s2 (intsV x.2)) (h3 : Rd w s3 (strsV y.1)) (h4 : Rd w s4 (intsV y.2)) : RdL (w.alloc (.cells #[s1, s2, s3, s4] 25)) (.slice (some ⟨w.heap.size, 0, none⟩) 2 2) [x, y] := by
  have hb := heap_alloc_new w (.cells #[s1, s2, s3, s4] 25)
  refine ⟨w.heap.size, 2, rfl, Nat.le_refl _, by decide, by rw [size_alloc]; omega, fun i hi => ?_⟩
  match i, hi with
  | 0, _ => exact ⟨s1, s2, by rw [cell_of_row _ _ _ _ 25 (0, 0) hb]; rfl, by rw [cell_of_row _ _ _ _ 25 (0, 0) hb]; rfl, h1.alloc _, h2.alloc _⟩
  | 1, _ => exact ⟨s3, s4, by rw [cell_of_row _ _ _ _ 25 (0, 0) hb]; rfl, by rw [cell_of_row _ _ _ _ 25 (0, 0) hb]; rfl, h3.alloc _, h4.alloc _⟩
theorem RdL.new3 {w : World} {s1 s2 s3 s4 s5 s6 : Value} {x y z : VP} (h1 : Rd w s1 (strsV x.1)) (h2 : Rd w s2 (intsV x.2)) (h3 : Rd w s3 (strsV y.1)) (h4 : Rd w s4 (intsV y.2)) (h5 : Rd w s5 (strsV z.1)) (h6 : Rd w s6 (intsV z.2)) : RdL (w.alloc (.cells #[s1, s2, s3, s4, s5, s6] 25)) (.slice (some ⟨w.heap.size, 0, none⟩) 3 3) [x, y, z] := by
  have hb := heap_alloc_new w (.cells #[s1, s2, s3, s4, s5, s6] 25)
  refine ⟨w.heap.size, 3, rfl, Nat.le_refl _, by decide, by rw [size_alloc]; omega, fun i hi => ?_⟩
  match i, hi with
  | 0, _ => exact ⟨s1, s2, by rw [cell_of_row _ _ _ _ 25 (0, 0) hb]; rfl, by rw [cell_of_row _ _ _ _ 25 (0, 0) hb]; rfl, h1.alloc _, h2.alloc _⟩
  | 1, _ => exact ⟨s3, s4, by rw [cell_of_row _ _ _ _ 25 (0, 0) hb]; rfl, by rw [cell_of_row _ _ _ _ 25 (0, 0) hb]; rfl, h3.alloc _, h4.alloc _⟩
  | 2, _ => exact ⟨s5, s6, by rw [cell_of_row _ _ _ _ 25 (0, 0) hb]; rfl, by rw [cell_of_row _ _ _ _ 25 (0, 0) hb]; rfl, h5.alloc _, h6.alloc _⟩
theorem below_alloc {B : Nat} {a w : World} (h : Below B a w) (hb : B ≤ a.heap.size) (o : Obj) : Below B a (w.alloc o) := h.alloc (Nat.le_trans hb h.size) o
theorem OwV.set {w : World} {base : Nat} {r : Value} {l : VL} (h : OwV w base r l) (k o : Nat) (u : Value) (hk : k < base) : OwV (w.setCell ⟨k, o, none⟩ u) base r l := by
  obtain ⟨sn, sv, h1, h2, h3⟩ := h
  exact ⟨sn, sv, h1, ownsRow_setCell_below (a := ⟨k, o, none⟩) h2 hk u, ownsRow_setCell_below (a := ⟨k, o, none⟩) h3 hk u⟩
theorem OwV.le {w : World} {base base' : Nat} {r : Value} {l : VL} (h : OwV w base r l) (hb : base' ≤ base) : OwV w base' r l := by
  obtain ⟨sn, sv, h1, h2, h3⟩ := h
  exact ⟨sn, sv, h1, h2.le hb, h3.le hb⟩
theorem OwV.below {w w' : World} {base : Nat} {r : Value} {l : VL} (h : OwV w base r l) (hb : Below w.heap.size w w') : OwV w' base r l := by
  obtain ⟨sn, sv, h1, h2, h3⟩ := h
  exact ⟨sn, sv, h1, h2.below hb, h3.below hb⟩
/-- A name and a number in two new rows. -/
theorem rows_new (w : World) (s : ByteArray) (n : Int) (base : Nat) (hb : base ≤ w.heap.size) : Ow ((w.alloc (.cells #[.string s] 9)).alloc (.cells #[.int .i64 n] 2)) base 9 (.slice (some ⟨w.heap.size, 0, none⟩) 1 1) (strsV [s]) ∧ Ow ((w.alloc (.cells #[.string s] 9)).alloc (.cells #[.int .i64 n] 2)) base 2 (.slice (some ⟨w.heap.size + 1, 0, none⟩) 1 1) (intsV [n]) := by
  refine ⟨(Ow.new w 9 #[.string s] base hb (by simp)).alloc _, ?_⟩
  have := Ow.new (w.alloc (.cells #[.string s] 9)) 2 #[.int .i64 n] base (base_le hb _) (by simp)
  rw [size_alloc] at this
  exact this
set_option maxRecDepth 100000 in
set_option maxHeartbeats 1000000 in
theorem One_any (s : ByteArray) (n : Int) (w : World) : Calls Try.prog 18 #[.string s, .int .i64 n] w fun e w' => ∃ r, e = .returned r ∧ OwV w' w.heap.size r [(s, n)] ∧ Below w.heap.size w w' := by
  have HF : Hid (∀ x y, OwV (((w.alloc (.cells #[x, y] 25)).alloc (.cells #[.string s] 9)).alloc (.cells #[.int .i64 n] 2)) w.heap.size (.agg #[.slice (some ⟨w.heap.size + 1, 0, none⟩) 1 1, .slice (some ⟨w.heap.size + 1 + 1, 0, none⟩) 1 1]) [(s, n)] ∧ Below w.heap.size w (((w.alloc (.cells #[x, y] 25)).alloc (.cells #[.string s] 9)).alloc (.cells #[.int .i64 n] 2)) ∧ Two (((w.alloc (.cells #[x, y] 25)).alloc (.cells #[.string s] 9)).alloc (.cells #[.int .i64 n] 2)) w.heap.size x y) := fun x y => by
    have h := rows_new (w.alloc (.cells #[x, y] 25)) s n w.heap.size (base_le (Nat.le_refl _) _)
    rw [size_alloc] at h
    exact ⟨⟨_, _, rfl, h.1, h.2⟩, below_alloc (below_alloc (below_alloc (Below.refl _ _) (Nat.le_refl _) _) (Nat.le_refl _) _) (Nat.le_refl _) _, ((Two.new w x y 25).alloc _).alloc _⟩
  go_enter Try.func18, Try.ntmps18
  go_wp2
  obtain ⟨_, _, ⟨p4, p0, p1, p2, p3⟩⟩ := HF.out (.slice (some ⟨w.heap.size + 1, 0, none⟩) 1 1) (.slice (some ⟨w.heap.size + 1 + 1, 0, none⟩) 1 1)
  refine bodyPost_ret (v := .agg #[.slice (some ⟨w.heap.size + 1, 0, none⟩) 1 1, .slice (some ⟨w.heap.size + 1 + 1, 0, none⟩) 1 1]) (by simp [results, Try.results18, go_sem, p0, p1]) rfl ?_
  exact ⟨_, rfl, (HF.out _ _).1, (HF.out _ _).2.1⟩
set_option maxRecDepth 100000 in
set_option maxHeartbeats 1000000 in
theorem Set_any (ns : List ByteArray) (vs : List Int) (v : Value) (s : ByteArray) (n : Int) (w : World) (hv : RdV w v ns vs) (hs : ∀ m ∈ ns, m.size ≤ 281474976710656) (hs2 : s.size ≤ 281474976710656) : Calls Try.prog 17 #[v, .string s, .int .i64 n] w (OfPost w [(ns, vs), ([s], [n])]) := by
  obtain ⟨sn, sv, rfl, h1, h2⟩ := hv
  obtain ⟨a1, n1, c1, rfl⟩ : ∃ a n c, sn = .slice a n c := by obtain ⟨a, c, h⟩ := h1.form; exact ⟨_, _, _, h⟩
  obtain ⟨a2, n2, c2, rfl⟩ : ∃ a n c, sv = .slice a n c := by obtain ⟨a, c, h⟩ := h2.form; exact ⟨_, _, _, h⟩
  obtain ⟨W, hW⟩ : ∃ W, W = (((((w.alloc (.cells #[.slice a1 n1 c1, .slice a2 n2 c2] 25)).alloc (.cells #[.slice none 0 0, .slice none 0 0] 25)).alloc (.cells #[.string s] 9)).alloc (.cells #[.int .i64 n] 2)).alloc (.cells #[.slice a1 n1 c1, .slice a2 n2 c2, .slice (some ⟨w.heap.size + 1 + 1, 0, none⟩) 1 1, .slice (some ⟨w.heap.size + 1 + 1 + 1, 0, none⟩) 1 1] 25)) := ⟨_, rfl⟩
  have HW : Hid (Below w.heap.size w W ∧ Two W (w.heap.size + 1) (.slice none 0 0) (.slice none 0 0) ∧ w.heap.size + 1 + 1 ≤ W.heap.size) := by
    refine ⟨by rw [hW]; exact below_alloc (below_alloc (below_alloc (below_alloc (below_alloc (Below.refl _ _) (Nat.le_refl _) _) (Nat.le_refl _) _) (Nat.le_refl _) _) (Nat.le_refl _) _) (Nat.le_refl _) _, ?_, by rw [hW]; simp only [size_alloc]; omega⟩
    have h := (((Two.new (w.alloc (.cells #[.slice a1 n1 c1, .slice a2 n2 c2] 25)) (.slice none 0 0) (.slice none 0 0) 25).alloc (.cells #[.string s] 9)).alloc (.cells #[.int .i64 n] 2)).alloc (.cells #[.slice a1 n1 c1, .slice a2 n2 c2, .slice (some ⟨w.heap.size + 1 + 1, 0, none⟩) 1 1, .slice (some ⟨w.heap.size + 1 + 1 + 1, 0, none⟩) 1 1] 25)
    rw [size_alloc] at h
    rw [hW]
    exact h
  have HO : Hid (Calls Try.prog 15 #[.slice (some ⟨w.heap.size + 1 + 1 + 1 + 1, 0, none⟩) 2 2] W (OfPost W [(ns, vs), ([s], [n])])) := by
    refine Of_any _ _ W ?_ ?_ (by simp)
    · have r := rows_new ((w.alloc (.cells #[.slice a1 n1 c1, .slice a2 n2 c2] 25)).alloc (.cells #[.slice none 0 0, .slice none 0 0] 25)) s n 0 (Nat.zero_le _)
      simp only [size_alloc] at r
      have h := RdL.new2 (x := (ns, vs)) (y := ([s], [n])) ((((h1.alloc _).alloc _).alloc _).alloc _) ((((h2.alloc _).alloc _).alloc _).alloc _) (Rd.of_own r.1) (Rd.of_own r.2)
      simp only [size_alloc] at h
      rw [hW]
      exact h
    · intro x hx m hm
      simp at hx
      rcases hx with rfl | rfl
      · exact hs m hm
      · simp at hm; rw [hm]; exact hs2
  clear h1 h2 hs
  go_enter Try.func17, Try.ntmps17
  go_wp2_with (go_at_call 15; rw [← hW]; refine HO.out.mono ?_; rintro e w1 ⟨r, rfl, ⟨sn', sv', rfl, q9, q2⟩, HBr⟩; obtain ⟨a3, c3, rfl⟩ := (Rd.of_own q9).form; obtain ⟨a4, c4, rfl⟩ := (Rd.of_own q2).form; have HR : Hid (OwV w1 W.heap.size (.agg #[.slice a3 _ c3, .slice a4 _ c4]) (ofM [(ns, vs), ([s], [n])]).2 ∧ Below w.heap.size w w1) := ⟨⟨_, _, rfl, q9, q2⟩, HW.out.1.trans (HBr.mono HW.out.1.size)⟩; obtain ⟨p4, p0, p1, p2, p3⟩ := HW.out.2.1.below HBr; clear q9 q2 HBr)
  have HE : Hid (OfPost w [(ns, vs), ([s], [n])] (.returned (.tuple #[.agg #[.slice a3 (strsV (nmsOf (ofM [(ns, vs), ([s], [n])]).2)).length c3, .slice a4 (intsV (valsOf (ofM [(ns, vs), ([s], [n])]).2)).length c4], .int .i64 ((ofM [(ns, vs), ([s], [n])]).1 : Nat)])) ((w1.setCell ⟨w.heap.size + 1, 0, none⟩ (.slice a3 (strsV (nmsOf (ofM [(ns, vs), ([s], [n])]).2)).length c3)).setCell ⟨w.heap.size + 1, 1, none⟩ (.slice a4 (intsV (valsOf (ofM [(ns, vs), ([s], [n])]).2)).length c4))) := ⟨_, rfl, OwV.le ((HR.out.1.set (w.heap.size + 1) 0 _ (by have := HW.out.2.2; omega)).set (w.heap.size + 1) 1 _ (by have := HW.out.2.2; omega)) HW.out.1.size, (HR.out.2.setCell (p := ⟨w.heap.size + 1, 0, none⟩) (Nat.le_succ _) _).setCell (p := ⟨w.heap.size + 1, 1, none⟩) (Nat.le_succ _) _⟩
  refine bodyPost_ret (v := .tuple #[.agg #[.slice a3 (strsV (nmsOf (ofM [(ns, vs), ([s], [n])]).2)).length c3, .slice a4 (intsV (valsOf (ofM [(ns, vs), ([s], [n])]).2)).length c4], .int .i64 ((ofM [(ns, vs), ([s], [n])]).1 : Nat)]) (by simp [results, Try.results17, go_sem, p0, p1]) rfl ?_
  exact HE.out
end Go.Proofs.Ytekhfepfaegpaaa

/-
  VarsPuts: the walk.
-/
import Derived.Test.YtekhfepfaegpaaaROf
import Derived.Test.YtekhfepfaegpaaaLastW
namespace Go.Proofs.Ytekhfepfaegpaaa
open Go.RowKit Pack
set_option linter.unusedVariables false

def DiffOk : Prop := ∀ (f t : VP) (v u : Value) (w : World), RdV w v f.1 f.2 → RdV w u t.1 t.2 → (∀ n ∈ f.1, n.size ≤ 281474976710656) → (∀ n ∈ t.1, n.size ≤ 281474976710656) → Calls Try.prog 20 #[v, u] w (DiffPost w f t)
theorem agg_rd {w : World} {s1 s2 : Value} {ns : List ByteArray} {vs : List Int} (h : RdV w (.agg #[s1, s2]) ns vs) : Rd w s1 (strsV ns) ∧ Rd w s2 (intsV vs) := by
  obtain ⟨t1, t2, e1, r1, r2⟩ := h
  simp only [Value.agg.injEq, Array.mk.injEq, List.cons.injEq, and_true] at e1
  obtain ⟨rfl, rfl⟩ := e1
  exact ⟨r1, r2⟩
theorem sz3 {x y z : VP} (hx : ∀ n ∈ x.1, n.size ≤ 60) (hy : ∀ n ∈ y.1, n.size ≤ 60) (hz : ∀ n ∈ z.1, n.size ≤ 60) : ∀ q ∈ [x, y, z], ∀ n ∈ q.1, n.size ≤ 281474976710656 := by
  intro q hq n hn
  simp at hq
  rcases hq with rfl | rfl | rfl
  · have := hx n hn; omega
  · have := hy n hn; omega
  · have := hz n hn; omega
theorem sz2 {x y : VP} (hx : ∀ n ∈ x.1, n.size ≤ 60) (hy : ∀ n ∈ y.1, n.size ≤ 60) : ∀ q ∈ [x, y], ∀ n ∈ q.1, n.size ≤ 281474976710656 := by
  intro q hq n hn
  simp at hq
  rcases hq with rfl | rfl
  · have := hx n hn; omega
  · have := hy n hn; omega
theorem post_form {w w' : World} {xs : List VP} {e : Ending} {ec : Nat} {R : VL} (hm : ofM xs = (ec, R)) (h : OfPost w xs e w') : ∃ b1 d1 b2 d2, e = .returned (.tuple #[.agg #[.slice b1 R.length d1, .slice b2 R.length d2], .int .i64 ec]) ∧ OwV w' w.heap.size (.agg #[.slice b1 R.length d1, .slice b2 R.length d2]) R ∧ Below w.heap.size w w' := by
  obtain ⟨r, rfl, h7, hb⟩ := h
  rw [hm] at h7 ⊢
  obtain ⟨b1, d1, b2, d2, rfl, _⟩ := h7.read.num
  exact ⟨b1, d1, b2, d2, rfl, h7, hb⟩
/-- Of three variables in a new list: by the program's or the document's. -/
theorem of3_form {k : Nat} (hk : ∀ (xs : List VP) (v : Value) (w : World), RdL w v xs → (∀ x ∈ xs, ∀ n ∈ x.1, n.size ≤ 281474976710656) → xs.length ≤ 100 → Calls Try.prog k #[v] w (OfPost w xs)) {w : World} {x y z : VP} {s1 s2 s3 s4 s5 s6 : Value} {ec : Nat} {R : VL} (h1 : RdV w (.agg #[s1, s2]) x.1 x.2) (h2 : RdV w (.agg #[s3, s4]) y.1 y.2) (h3 : RdV w (.agg #[s5, s6]) z.1 z.2) (hs : ∀ q ∈ [x, y, z], ∀ n ∈ q.1, n.size ≤ 281474976710656) (hm : ofM [x, y, z] = (ec, R)) (g : Nat) (hg : g = w.heap.size) :
    Calls Try.prog k #[.slice (some ⟨g, 0, none⟩) 3 3] (w.alloc (.cells #[s1, s2, s3, s4, s5, s6] 25)) fun e w' => ∃ b1 d1 b2 d2, e = .returned (.tuple #[.agg #[.slice b1 R.length d1, .slice b2 R.length d2], .int .i64 ec]) ∧ RdV w' (.agg #[.slice b1 R.length d1, .slice b2 R.length d2]) (nmsOf R) (valsOf R) ∧ Below w.heap.size w w' := by
  subst hg
  obtain ⟨r1, r2⟩ := agg_rd h1
  obtain ⟨r3, r4⟩ := agg_rd h2
  obtain ⟨r5, r6⟩ := agg_rd h3
  refine (hk [x, y, z] _ _ (RdL.new3 (x := x) (y := y) (z := z) r1 r2 r3 r4 r5 r6) hs (by simp)).mono ?_
  intro e w' h
  obtain ⟨b1, d1, b2, d2, rfl, h7, hb⟩ := post_form hm h
  exact ⟨b1, d1, b2, d2, rfl, h7.read, ((Below.refl _ _).alloc (Nat.le_refl _) _).trans (hb.mono (base_le (Nat.le_refl _) _))⟩
/-- What a block with a result is like. -/
def Fin4 (B : Nat) (WC w9 : World) (q : Nat) (s1 s2 : Value) (C : VL) : Prop := Below B WC w9 ∧ Two w9 q s1 s2 ∧ RdV w9 (.agg #[s1, s2]) (nmsOf C) (valsOf C)
theorem fin_set {B q base : Nat} {WC w8 : World} {s1 s2 x1 x2 : Value} {C : VL} (ht : Two w8 q x1 x2) (ho : OwV w8 base (.agg #[s1, s2]) C) (hq : q < base) (hB : Below B WC w8) (hqB : B ≤ q) : Fin4 B WC ((w8.setCell ⟨q, 0, none⟩ s1).setCell ⟨q, 1, none⟩ s2) q s1 s2 C :=
  ⟨Below.setCell (B := B) (Below.setCell (B := B) hB (p := ⟨q, 0, none⟩) hqB _) (p := ⟨q, 1, none⟩) hqB _, two_set1 (two_set0 ht _) _, ((ho.set q 0 _ hq).set q 1 _ hq).read⟩
theorem fin_a {B q : Nat} {WC w7 w8 : World} {o : Obj} {s1 s2 : Value} {C : VL} (ht : Two w7 q (.slice none 0 0) (.slice none 0 0)) (hb : Below (w7.alloc o).heap.size (w7.alloc o) w8) (ho : OwV w8 (w7.alloc o).heap.size (.agg #[s1, s2]) C) (hB : Below B WC w7) (hqB : B ≤ q) : Two w8 q (.slice none 0 0) (.slice none 0 0) ∧ Fin4 B WC ((w8.setCell ⟨q, 0, none⟩ s1).setCell ⟨q, 1, none⟩ s2) q s1 s2 C := by
  have hlt := ht.lt
  have t8 := (ht.alloc o).below hb
  have hsz := size_alloc w7 o
  exact ⟨t8, fin_set t8 ho (by omega) ((hB.alloc (by omega) o).trans (hb.mono (by omega))) hqB⟩
theorem fin_b {B : Nat} {WC w7 w8 : World} {o : Obj} {s1 s2 : Value} {C : VL} (hb : Below ((w7.alloc (.cells #[.slice none 0 0, .slice none 0 0] 25)).alloc o).heap.size ((w7.alloc (.cells #[.slice none 0 0, .slice none 0 0] 25)).alloc o) w8) (ho : OwV w8 ((w7.alloc (.cells #[.slice none 0 0, .slice none 0 0] 25)).alloc o).heap.size (.agg #[s1, s2]) C) (hB : Below B WC w7) (hqB : B ≤ w7.heap.size) : Two w8 w7.heap.size (.slice none 0 0) (.slice none 0 0) ∧ Fin4 B WC ((w8.setCell ⟨w7.heap.size, 0, none⟩ s1).setCell ⟨w7.heap.size, 1, none⟩ s2) w7.heap.size s1 s2 C :=
  fin_a (Two.new w7 _ _ 25) hb ho (hB.alloc hqB _) hqB
theorem fin_c {B : Nat} {WC w7 w8 : World} {o : Obj} {s1 s2 : Value} {C : VL} (hb : Below ((w7.alloc o).alloc (.cells #[.slice none 0 0, .slice none 0 0] 25)).heap.size ((w7.alloc o).alloc (.cells #[.slice none 0 0, .slice none 0 0] 25)) w8) (ho : OwV w8 ((w7.alloc o).alloc (.cells #[.slice none 0 0, .slice none 0 0] 25)).heap.size (.agg #[s1, s2]) C) (hB : Below B WC w7) (hqB : B ≤ w7.heap.size) : Two w8 (w7.heap.size + 1) (.slice none 0 0) (.slice none 0 0) ∧ Fin4 B WC ((w8.setCell ⟨w7.heap.size + 1, 0, none⟩ s1).setCell ⟨w7.heap.size + 1, 1, none⟩ s2) (w7.heap.size + 1) s1 s2 C := by
  have ht := Two.new (w7.alloc o) (.slice none 0 0) (.slice none 0 0) 25
  have hsz := size_alloc w7 o
  have hs2 := size_alloc (w7.alloc o) (.cells #[.slice none 0 0, .slice none 0 0] 25)
  rw [hsz] at ht
  have t8 := ht.below hb
  exact ⟨t8, fin_set t8 ho (by omega) (((hB.alloc hqB o).alloc (by omega) _).trans (hb.mono (by omega))) (by omega)⟩
theorem fin_d {B : Nat} {WC w7 w8 : World} {o : Obj} {s1 s2 : Value} {C : VL} (hb : Below (w7.alloc o).heap.size (w7.alloc o) w8) (ho : OwV w8 (w7.alloc o).heap.size (.agg #[s1, s2]) C) (hB : Below B WC w7) (hqB : B ≤ w7.heap.size) : Fin4 B WC (w8.alloc (.cells #[s1, s2] 25)) w8.heap.size s1 s2 C := by
  have hsz := size_alloc w7 o
  have h8 := hb.size
  exact ⟨((hB.alloc hqB o).trans (hb.mono (by omega))).alloc (by omega) _, Two.new w8 _ _ 25, ho.read.below ((Below.refl _ _).alloc (Nat.le_refl _) _)⟩
/-- The list of two for Of, in the three ways that it may come. -/
theorem rdl_a {w7 : World} {x y : VP} {s1 s2 s3 s4 : Value} (h1 : RdV w7 (.agg #[s1, s2]) x.1 x.2) (h2 : RdV w7 (.agg #[s3, s4]) y.1 y.2) : RdL (w7.alloc (.cells #[s1, s2, s3, s4] 25)) (.slice (some ⟨w7.heap.size, 0, none⟩) 2 2) [x, y] := by
  obtain ⟨r1, r2⟩ := agg_rd h1
  obtain ⟨r3, r4⟩ := agg_rd h2
  exact RdL.new2 (x := x) (y := y) r1 r2 r3 r4
theorem rdl_b {w7 : World} {x y : VP} {s1 s2 s3 s4 : Value} {o : Obj} (h1 : RdV w7 (.agg #[s1, s2]) x.1 x.2) (h2 : RdV w7 (.agg #[s3, s4]) y.1 y.2) : RdL ((w7.alloc o).alloc (.cells #[s1, s2, s3, s4] 25)) (.slice (some ⟨w7.heap.size + 1, 0, none⟩) 2 2) [x, y] := by
  have b1 : Below w7.heap.size w7 (w7.alloc o) := (Below.refl _ _).alloc (Nat.le_refl _) _
  have h := rdl_a (h1.below b1) (h2.below b1)
  rwa [size_alloc] at h
theorem rdl_c {w7 : World} {x y : VP} {s1 s2 s3 s4 : Value} {o : Obj} (h1 : RdV w7 (.agg #[s1, s2]) x.1 x.2) (h2 : RdV w7 (.agg #[s3, s4]) y.1 y.2) : RdL ((w7.alloc (.cells #[s1, s2, s3, s4] 25)).alloc o) (.slice (some ⟨w7.heap.size, 0, none⟩) 2 2) [x, y] := (rdl_a h1 h2).below ((Below.refl _ _).alloc (Nat.le_refl _) _)
theorem new_a {WC w7 : World} (h : Below (WC.alloc (.cells #[.slice none 0 0, .slice none 0 0] 25)).drew.heap.size (WC.alloc (.cells #[.slice none 0 0, .slice none 0 0] 25)).drew w7) : Two w7 WC.heap.size (.slice none 0 0) (.slice none 0 0) ∧ Below WC.heap.size WC w7 := by
  have hs : (WC.alloc (.cells #[.slice none 0 0, .slice none 0 0] 25)).drew.heap.size = WC.heap.size + 1 := size_alloc WC (.cells #[.slice none 0 0, .slice none 0 0] 25)
  have b1 : Below WC.heap.size WC (WC.alloc (.cells #[.slice none 0 0, .slice none 0 0] 25)).drew := Below.drew ((Below.refl _ _).alloc (Nat.le_refl _) _)
  exact ⟨(Two.new WC _ _ 25).drew.below h, b1.trans (h.mono (by omega))⟩
theorem new_b {WC w7 : World} (h : Below WC.drew.heap.size WC.drew w7) : Below WC.heap.size WC w7 := (Below.drew (Below.refl WC.heap.size WC)).trans h
theorem new_w8a {WC w7 w8 : World} {o : Obj} (h : Below WC.heap.size WC w7) (hb : Below (w7.alloc o).heap.size (w7.alloc o) w8) : Below WC.heap.size WC w8 := by
  have h1 := h.size
  have h2 := size_alloc w7 o
  exact (h.alloc h1 o).trans (hb.mono (by omega))
theorem new_w8b {WC w7 w8 : World} {o o' : Obj} (h : Below WC.heap.size WC w7) (hb : Below ((w7.alloc o).alloc o').heap.size ((w7.alloc o).alloc o') w8) : Below WC.heap.size WC w8 := by
  have h1 := h.size
  have h2 := size_alloc w7 o
  exact new_w8a (h.alloc h1 o) hb
set_option maxRecDepth 100000 in
set_option maxHeartbeats 16000000 in
theorem puts_of (hput : PutOk) (hdiff : DiffOk) (ns ms ks : List ByteArray) (vs us ts : List Int) (v u t : Value) (nm0 : ByteArray) (x : Int) (w : World) (hv : Came w v ns vs) (hu : Came w u ms us) (ht : Came w t ks ts) (hn0 : nm0.size ≤ 9223372036854775807) : Calls Try.prog 4 #[v, u, t, .string nm0, .int .i64 x] w fun e w' => e = .returned (.bool true) ∧ Below w.heap.size w w' := by
  have hV := hv.rd
  have hU := hu.rd
  have hX := ht.rd
  obtain ⟨a1, c1, a2, c2, rfl⟩ := hV.two
  obtain ⟨a3, c3, a4, c4, rfl⟩ := hU.two
  obtain ⟨a5, c5, a6, c6, rfl⟩ := hX.two
  have HWk : Hid (∀ w, Calls Try.prog 9 #[] w fun e w' => e = .returned (.bool true) ∧ Below w.heap.size w w') := works_any
  obtain ⟨W0, hW0⟩ : ∃ W, W = ((w.alloc (.cells #[.slice a1 ns.length c1, .slice a2 vs.length c2] 25)).alloc (.cells #[.slice a3 ms.length c3, .slice a4 us.length c4] 25)).alloc (.cells #[.slice a5 ks.length c5, .slice a6 ts.length c6] 25) := ⟨_, rfl⟩
  have HB0 : Hid (Below w.heap.size w W0) := by show Below _ _ _; rw [hW0]; exact below_alloc (below_alloc (below_alloc (Below.refl _ _) (Nat.le_refl _) _) (Nat.le_refl _) _) (Nat.le_refl _) _
  have HT : Hid (∀ w', Below W0.heap.size W0 w' → Two w' w.heap.size (.slice a1 ns.length c1) (.slice a2 vs.length c2) ∧ Two w' (w.heap.size + 1) (.slice a3 ms.length c3) (.slice a4 us.length c4) ∧ Two w' (w.heap.size + 1 + 1) (.slice a5 ks.length c5) (.slice a6 ts.length c6) ∧ Below w.heap.size w w' ∧ RdV w' (.agg #[.slice a1 ns.length c1, .slice a2 vs.length c2]) ns vs ∧ RdV w' (.agg #[.slice a3 ms.length c3, .slice a4 us.length c4]) ms us ∧ RdV w' (.agg #[.slice a5 ks.length c5, .slice a6 ts.length c6]) ks ts) := fun w' hb => by
    have t1 : Two W0 w.heap.size (.slice a1 ns.length c1) (.slice a2 vs.length c2) := by rw [hW0]; exact ((Two.new w _ _ 25).alloc _).alloc _
    have t2 : Two W0 (w.heap.size + 1) (.slice a3 ms.length c3) (.slice a4 us.length c4) := by
      have h := (Two.new (w.alloc (.cells #[.slice a1 ns.length c1, .slice a2 vs.length c2] 25)) (.slice a3 ms.length c3) (.slice a4 us.length c4) 25).alloc (.cells #[.slice a5 ks.length c5, .slice a6 ts.length c6] 25)
      rw [size_alloc] at h
      rw [hW0]; exact h
    have t3 : Two W0 (w.heap.size + 1 + 1) (.slice a5 ks.length c5) (.slice a6 ts.length c6) := by
      have h := Two.new ((w.alloc (.cells #[.slice a1 ns.length c1, .slice a2 vs.length c2] 25)).alloc (.cells #[.slice a3 ms.length c3, .slice a4 us.length c4] 25)) (.slice a5 ks.length c5) (.slice a6 ts.length c6) 25
      simp only [size_alloc] at h
      rw [hW0]; exact h
    have b1 := HB0.out.trans (hb.mono HB0.out.size)
    exact ⟨t1.below hb, t2.below hb, t3.below hb, b1, hV.below b1, hU.below b1, hX.below b1⟩
  have HBr : Hid (Below W0.heap.size W0 W0) := Below.refl _ _
  have HL1 : Hid (∀ w', Below W0.heap.size W0 w' → Calls Try.prog 8 #[.agg #[.slice a1 ns.length c1, .slice a2 vs.length c2]] w' fun e w2 => e = .returned (.bool (lightM ns vs)) ∧ Below w'.heap.size w' w2) := fun w' hb => light_any _ _ _ w' (HT.out _ hb).2.2.2.2.1 hv.sz
  have HL2 : Hid (∀ w', Below W0.heap.size W0 w' → Calls Try.prog 8 #[.agg #[.slice a3 ms.length c3, .slice a4 us.length c4]] w' fun e w2 => e = .returned (.bool (lightM ms us)) ∧ Below w'.heap.size w' w2) := fun w' hb => light_any _ _ _ w' (HT.out _ hb).2.2.2.2.2.1 hu.sz
  have HL3 : Hid (∀ w', Below W0.heap.size W0 w' → Calls Try.prog 8 #[.agg #[.slice a5 ks.length c5, .slice a6 ts.length c6]] w' fun e w2 => e = .returned (.bool (lightM ks ts)) ∧ Below w'.heap.size w' w2) := fun w' hb => light_any _ _ _ w' (HT.out _ hb).2.2.2.2.2.2 ht.sz
  cases hl1 : lightM ns vs with
  | false =>
    rw [hl1] at HL1
    clear hv hu ht hV hU hX hl1 HL2 HL3
    generalize hn1 : ns.length = n1 at *
    generalize hn2 : vs.length = n2 at *
    generalize hn3 : ms.length = n3 at *
    generalize hn4 : us.length = n4 at *
    generalize hn5 : ks.length = n5 at *
    generalize hn6 : ts.length = n6 at *
    go_enter Try.func4, Try.ntmps4
    go_wp2_with (first
      | (go_at_call 9; have := Z1; refine (HWk.out _).mono ?_; rintro e wf ⟨rfl, HB⟩; have ZF : Hid (Below W0.heap.size W0 wf) := Z1.out.trans (HB.mono Z1.out.size); clear HB Z1)
      | (go_at_call 8; rw [← hW0]; refine (HL1.out _ HBr.out).mono ?_; rintro e w1 ⟨rfl, HB⟩; have Z1 : Hid (Below W0.heap.size W0 w1) := HB; obtain ⟨⟨p4, p0, p1, p2, p3⟩, ⟨q4, q0, q1, q2, q3⟩, ⟨r4, r0, r1, r2, r3⟩, _⟩ := HT.out _ HB; clear HB))
    go_ret
    exact ⟨rfl, (HT.out _ ZF.out).2.2.2.1⟩
  | true =>
    rw [hl1] at HL1
    cases hl2 : lightM ms us with
    | false =>
      rw [hl2] at HL2
      clear hv hu ht hV hU hX hl1 hl2 HL3
      generalize hn1 : ns.length = n1 at *
      generalize hn2 : vs.length = n2 at *
      generalize hn3 : ms.length = n3 at *
      generalize hn4 : us.length = n4 at *
      generalize hn5 : ks.length = n5 at *
      generalize hn6 : ts.length = n6 at *
      go_enter Try.func4, Try.ntmps4
      go_wp2_with (first
        | (go_at_call 9; have := Z2; refine (HWk.out _).mono ?_; rintro e wf ⟨rfl, HB⟩; have ZF : Hid (Below W0.heap.size W0 wf) := Z2.out.trans (HB.mono Z2.out.size); clear HB Z2)
        | (go_at_call 8; have := Z1; refine (HL2.out _ Z1.out).mono ?_; rintro e w2 ⟨rfl, HB⟩; have Z2 : Hid (Below W0.heap.size W0 w2) := Z1.out.trans (HB.mono Z1.out.size); obtain ⟨⟨p4, p0, p1, p2, p3⟩, ⟨q4, q0, q1, q2, q3⟩, ⟨r4, r0, r1, r2, r3⟩, _⟩ := HT.out _ Z2.out; clear HB Z1)
        | (go_at_call 8; rw [← hW0]; refine (HL1.out _ HBr.out).mono ?_; rintro e w1 ⟨rfl, HB⟩; have Z1 : Hid (Below W0.heap.size W0 w1) := HB; obtain ⟨⟨p4, p0, p1, p2, p3⟩, ⟨q4, q0, q1, q2, q3⟩, ⟨r4, r0, r1, r2, r3⟩, _⟩ := HT.out _ HB; clear HB))
      go_ret
      exact ⟨rfl, (HT.out _ ZF.out).2.2.2.1⟩
    | true =>
      rw [hl2] at HL2
      cases hl3 : lightM ks ts with
      | false =>
        rw [hl3] at HL3
        clear hv hu ht hV hU hX hl1 hl2 hl3
        generalize hn1 : ns.length = n1 at *
        generalize hn2 : vs.length = n2 at *
        generalize hn3 : ms.length = n3 at *
        generalize hn4 : us.length = n4 at *
        generalize hn5 : ks.length = n5 at *
        generalize hn6 : ts.length = n6 at *
        go_enter Try.func4, Try.ntmps4
        go_wp2_with (first
          | (go_at_call 9; have := Z3; refine (HWk.out _).mono ?_; rintro e wf ⟨rfl, HB⟩; have ZF : Hid (Below W0.heap.size W0 wf) := Z3.out.trans (HB.mono Z3.out.size); clear HB Z3)
          | (go_at_call 8; have := Z2; refine (HL3.out _ Z2.out).mono ?_; rintro e w3 ⟨rfl, HB⟩; have Z3 : Hid (Below W0.heap.size W0 w3) := Z2.out.trans (HB.mono Z2.out.size); obtain ⟨⟨p4, p0, p1, p2, p3⟩, ⟨q4, q0, q1, q2, q3⟩, ⟨r4, r0, r1, r2, r3⟩, _⟩ := HT.out _ Z3.out; clear HB Z2)
          | (go_at_call 8; have := Z1; refine (HL2.out _ Z1.out).mono ?_; rintro e w2 ⟨rfl, HB⟩; have Z2 : Hid (Below W0.heap.size W0 w2) := Z1.out.trans (HB.mono Z1.out.size); obtain ⟨⟨p4, p0, p1, p2, p3⟩, ⟨q4, q0, q1, q2, q3⟩, ⟨r4, r0, r1, r2, r3⟩, _⟩ := HT.out _ Z2.out; clear HB Z1)
          | (go_at_call 8; rw [← hW0]; refine (HL1.out _ HBr.out).mono ?_; rintro e w1 ⟨rfl, HB⟩; have Z1 : Hid (Below W0.heap.size W0 w1) := HB; obtain ⟨⟨p4, p0, p1, p2, p3⟩, ⟨q4, q0, q1, q2, q3⟩, ⟨r4, r0, r1, r2, r3⟩, _⟩ := HT.out _ HB; clear HB))
        go_ret
        exact ⟨rfl, (HT.out _ ZF.out).2.2.2.1⟩
      | true =>
        rw [hl3] at HL3
        by_cases h60 : nm0.size ≤ 60
        · obtain ⟨_, _, z3⟩ := light_sz hl1
          obtain ⟨_, _, y3⟩ := light_sz hl2
          obtain ⟨_, _, x3⟩ := light_sz hl3
          obtain ⟨ea, RA, hOa⟩ : ∃ ec A, ofM [(ns, vs), (ms, us), (ks, ts)] = (ec, A) := ⟨_, _, rfl⟩
          obtain ⟨eb, RC, hOc⟩ : ∃ ec A, ofM [(ns, vs), ([nm0], [x])] = (ec, A) := ⟨_, _, rfl⟩
          obtain ⟨ed, RD, hOd⟩ : ∃ ec A, diffM (ns, vs) (ms, us) = (ec, A) := ⟨_, _, rfl⟩
          have HO15 : Hid (∀ w' g, g = w'.heap.size → Below W0.heap.size W0 w' → Calls Try.prog 15 #[.slice (some ⟨g, 0, none⟩) 3 3] (w'.alloc (.cells #[.slice a1 ns.length c1, .slice a2 vs.length c2, .slice a3 ms.length c3, .slice a4 us.length c4, .slice a5 ks.length c5, .slice a6 ts.length c6] 25)) fun e w2 => ∃ b1 d1 b2 d2, e = .returned (.tuple #[.agg #[.slice b1 RA.length d1, .slice b2 RA.length d2], .int .i64 ea]) ∧ RdV w2 (.agg #[.slice b1 RA.length d1, .slice b2 RA.length d2]) (nmsOf RA) (valsOf RA) ∧ Below w'.heap.size w' w2) := fun w' g hg hb => of3_form (k := 15) (x := (ns, vs)) (y := (ms, us)) (z := (ks, ts)) (fun xs v w => Of_any xs v w) (HT.out _ hb).2.2.2.2.1 (HT.out _ hb).2.2.2.2.2.1 (HT.out _ hb).2.2.2.2.2.2 (sz3 z3 y3 x3) hOa g hg
          have HO16 : Hid (∀ w' g, g = w'.heap.size → Below W0.heap.size W0 w' → Calls Try.prog 16 #[.slice (some ⟨g, 0, none⟩) 3 3] (w'.alloc (.cells #[.slice a1 ns.length c1, .slice a2 vs.length c2, .slice a3 ms.length c3, .slice a4 us.length c4, .slice a5 ks.length c5, .slice a6 ts.length c6] 25)) fun e w2 => ∃ b1 d1 b2 d2, e = .returned (.tuple #[.agg #[.slice b1 RA.length d1, .slice b2 RA.length d2], .int .i64 ea]) ∧ RdV w2 (.agg #[.slice b1 RA.length d1, .slice b2 RA.length d2]) (nmsOf RA) (valsOf RA) ∧ Below w'.heap.size w' w2) := fun w' g hg hb => of3_form (k := 16) (x := (ns, vs)) (y := (ms, us)) (z := (ks, ts)) (fun xs v w => rOf_of hput xs v w) (HT.out _ hb).2.2.2.2.1 (HT.out _ hb).2.2.2.2.2.1 (HT.out _ hb).2.2.2.2.2.2 (sz3 z3 y3 x3) hOa g hg
          have HSet : Hid (∀ w', Below W0.heap.size W0 w' → Calls Try.prog 17 #[.agg #[.slice a1 ns.length c1, .slice a2 vs.length c2], .string nm0, .int .i64 x] w' fun e w2 => ∃ b1 d1 b2 d2, e = .returned (.tuple #[.agg #[.slice b1 RC.length d1, .slice b2 RC.length d2], .int .i64 eb]) ∧ RdV w2 (.agg #[.slice b1 RC.length d1, .slice b2 RC.length d2]) (nmsOf RC) (valsOf RC) ∧ Below w'.heap.size w' w2) := fun w' hb => by
            refine (Set_any ns vs _ nm0 x w' (HT.out _ hb).2.2.2.2.1 (fun m hm => by have := z3 m hm; omega) (by omega)).mono ?_
            intro e w2 h
            obtain ⟨b1, d1, b2, d2, rfl, h7, hb2⟩ := post_form hOc h
            exact ⟨b1, d1, b2, d2, rfl, h7.read, hb2⟩
          have HOne : Hid (∀ w', Calls Try.prog 18 #[.string nm0, .int .i64 x] w' fun e w2 => ∃ b1 d1 b2 d2, e = .returned (.agg #[.slice b1 1 d1, .slice b2 1 d2]) ∧ RdV w2 (.agg #[.slice b1 1 d1, .slice b2 1 d2]) [nm0] [x] ∧ Below w'.heap.size w' w2) := fun w' => by
            refine (One_any nm0 x w').mono ?_
            rintro e w2 ⟨r, rfl, h7, hb⟩
            obtain ⟨b1, d1, b2, d2, rfl, hn⟩ := h7.read.num
            exact ⟨b1, d1, b2, d2, rfl, hn, hb⟩
          have HO2 : Hid (∀ w' g, RdL w' (.slice (some ⟨g, 0, none⟩) 2 2) [(ns, vs), ([nm0], [x])] → Calls Try.prog 16 #[.slice (some ⟨g, 0, none⟩) 2 2] w' fun e w2 => ∃ b1 d1 b2 d2, e = .returned (.tuple #[.agg #[.slice b1 RC.length d1, .slice b2 RC.length d2], .int .i64 eb]) ∧ OwV w2 w'.heap.size (.agg #[.slice b1 RC.length d1, .slice b2 RC.length d2]) RC ∧ Below w'.heap.size w' w2) := fun w' g hr => by
            refine (rOf_of hput [(ns, vs), ([nm0], [x])] _ w' hr (sz2 z3 (fun n hn => by simp at hn; rw [hn]; exact h60)) (by simp)).mono ?_
            intro e w2 h
            exact post_form hOc h
          have HD19 : Hid (∀ w', Below W0.heap.size W0 w' → Calls Try.prog 19 #[.agg #[.slice a1 ns.length c1, .slice a2 vs.length c2], .agg #[.slice a3 ms.length c3, .slice a4 us.length c4]] w' fun e w2 => ∃ b1 d1 b2 d2, e = .returned (.tuple #[.agg #[.slice b1 RD.length d1, .slice b2 RD.length d2], .int .i64 ed]) ∧ RdV w2 (.agg #[.slice b1 RD.length d1, .slice b2 RD.length d2]) (nmsOf RD) (valsOf RD) ∧ Below w'.heap.size w' w2) := fun w' hb => diff_form (x := (ns, vs)) (y := (ms, us)) (HT.out _ hb).2.2.2.2.1 (HT.out _ hb).2.2.2.2.2.1 z3 y3 hOd
          have HD20 : Hid (∀ w', Below W0.heap.size W0 w' → Calls Try.prog 20 #[.agg #[.slice a1 ns.length c1, .slice a2 vs.length c2], .agg #[.slice a3 ms.length c3, .slice a4 us.length c4]] w' fun e w2 => ∃ b1 d1 b2 d2, e = .returned (.tuple #[.agg #[.slice b1 RD.length d1, .slice b2 RD.length d2], .int .i64 ed]) ∧ RdV w2 (.agg #[.slice b1 RD.length d1, .slice b2 RD.length d2]) (nmsOf RD) (valsOf RD) ∧ Below w'.heap.size w' w2) := fun w' hb => by
            refine (hdiff (ns, vs) (ms, us) _ _ w' (HT.out _ hb).2.2.2.2.1 (HT.out _ hb).2.2.2.2.2.1 (fun n hn => by have := z3 n hn; omega) (fun n hn => by have := y3 n hn; omega)).mono ?_
            rintro e w2 ⟨r, rfl, h7, hb2⟩
            rw [hOd] at h7 ⊢
            obtain ⟨b1, d1, b2, d2, rfl, hn⟩ := h7.read.num
            exact ⟨b1, d1, b2, d2, rfl, hn, hb2⟩
          have HS : Hid (∀ w' Y Y' (l : VL), RdV w' Y (nmsOf l) (valsOf l) → RdV w' Y' (nmsOf l) (valsOf l) → Calls Try.prog 13 #[Y, Y'] w' fun e w2 => e = .returned (.bool true) ∧ Below w'.heap.size w' w2) := fun w' Y Y' l h1 h2 => by
            have := rSame_any _ _ _ _ Y Y' w' h1 h2
            simpa using this
          have HC11 : Hid (∀ w', Below W0.heap.size W0 w' → Calls Try.prog 11 #[.agg #[.slice a1 ns.length c1, .slice a2 vs.length c2]] w' fun e w2 => e = .returned (.int .i64 (chk ns vs : Nat)) ∧ Below w'.heap.size w' w2) := fun w' hb => rCheck_any _ _ _ w' (HT.out _ hb).2.2.2.2.1 hv.sz
          by_cases hck : chk ns vs = 0
          · obtain ⟨g1, g2, g3⟩ := chk_ok hck
            have hgn : nmsOf (zipV (ns, vs)) = ns := nms_zip (v := (ns, vs)) g1
            have hgv : valsOf (zipV (ns, vs)) = vs := vals_zip (v := (ns, vs)) g1
            have HG : Hid ((∀ w', Below W0.heap.size W0 w' → Calls Try.prog 21 #[.agg #[.slice a1 ns.length c1, .slice a2 vs.length c2], .string nm0] w' fun e w2 => e = .returned (.tuple #[.int .i64 (getV (zipV (ns, vs)) nm0), .bool (fnd (nmsOf (zipV (ns, vs))) nm0)]) ∧ Below w'.heap.size w' w2) ∧ ∀ w', Below W0.heap.size W0 w' → Calls Try.prog 22 #[.agg #[.slice a1 ns.length c1, .slice a2 vs.length c2], .string nm0] w' fun e w2 => e = .returned (.tuple #[.int .i64 (getV (zipV (ns, vs)) nm0), .bool (fnd (nmsOf (zipV (ns, vs))) nm0)]) ∧ Below w'.heap.size w' w2) := ⟨fun w' hb => Get_any _ nm0 _ w' (by rw [hgn, hgv]; exact (HT.out _ hb).2.2.2.2.1) (by rw [hgn]; exact (rise_all g3).2) (by rw [zipV_len (v := (ns, vs)) g1]; show ns.length ≤ _; omega), fun w' hb => rGet_any _ nm0 _ w' (by rw [hgn, hgv]; exact (HT.out _ hb).2.2.2.2.1) (by rw [hgn]; exact (rise_all g3).2) (by rw [zipV_len (v := (ns, vs)) g1]; show ns.length ≤ _; omega)⟩
            clear g1 g2 g3 hgn hgv
            rw [hck] at HC11
            have HC11 : Hid (∀ w', Below W0.heap.size W0 w' → Calls Try.prog 11 #[.agg #[.slice a1 ns.length c1, .slice a2 vs.length c2]] w' fun e w2 => e = .returned (.int .i64 0) ∧ Below w'.heap.size w' w2) := HC11
            clear hv hu ht hV hU hX hl1 hl2 hl3 z3 y3 x3 hOa hOc hOd hput hdiff hck
            generalize hn1 : ns.length = n1 at *
            generalize hn2 : vs.length = n2 at *
            generalize hn3 : ms.length = n3 at *
            generalize hn4 : us.length = n4 at *
            generalize hn5 : ks.length = n5 at *
            generalize hn6 : ts.length = n6 at *
            generalize hLA : RA.length = LA at *
            generalize hLC : RC.length = LC at *
            generalize hLD : RD.length = LD at *
            generalize getV (zipV (ns, vs)) nm0 = gv at *
            generalize fnd (nmsOf (zipV (ns, vs))) nm0 = gf at *
            go_enter Try.func4, Try.ntmps4
            go_wp2_with (first
              | (go_at_call 17; have := K2; refine (HSet.out _ K2.out.1).mono ?_; rintro e w6 ⟨C1, C2, C3, C4, rfl, HR, HB⟩; have K3 : Hid (Below W0.heap.size W0 (w6.alloc (.cells #[.slice C1 LC C2, .slice C3 LC C4] 25)) ∧ (Two (w6.alloc (.cells #[.slice C1 LC C2, .slice C3 LC C4] 25)) w4.heap.size (.slice A1 LA A2) (.slice A3 LA A4) ∧ RdV (w6.alloc (.cells #[.slice C1 LC C2, .slice C3 LC C4] 25)) (.agg #[.slice A1 LA A2, .slice A3 LA A4]) (nmsOf RA) (valsOf RA)) ∧ (Two (w6.alloc (.cells #[.slice C1 LC C2, .slice C3 LC C4] 25)) w5.heap.size (.slice B1 LA B2) (.slice B3 LA B4) ∧ RdV (w6.alloc (.cells #[.slice C1 LC C2, .slice C3 LC C4] 25)) (.agg #[.slice B1 LA B2, .slice B3 LA B4]) (nmsOf RA) (valsOf RA)) ∧ Two (w6.alloc (.cells #[.slice C1 LC C2, .slice C3 LC C4] 25)) w6.heap.size (.slice C1 LC C2) (.slice C3 LC C4) ∧ RdV (w6.alloc (.cells #[.slice C1 LC C2, .slice C3 LC C4] 25)) (.agg #[.slice C1 LC C2, .slice C3 LC C4]) (nmsOf RC) (valsOf RC)) := ⟨below_alloc (K2.out.1.trans (HB.mono K2.out.1.size)) (Nat.le_refl _) _, ⟨(K2.out.2.1.1.below HB).alloc _, (K2.out.2.1.2.below HB).below ((Below.refl _ _).alloc (Nat.le_refl _) _)⟩, ⟨(K2.out.2.2.1.below HB).alloc _, (K2.out.2.2.2.below HB).below ((Below.refl _ _).alloc (Nat.le_refl _) _)⟩, Two.new w6 _ _ 25, HR.below ((Below.refl _ _).alloc (Nat.le_refl _) _)⟩; obtain ⟨⟨p4, p0, p1, p2, p3⟩, ⟨q4, q0, q1, q2, q3⟩, ⟨r4, r0, r1, r2, r3⟩, _⟩ := HT.out _ (K2.out.1.trans (HB.mono K2.out.1.size)); clear HB HR K2)
              | (go_at_call 16; have := K1; refine (HO16.out _ _ (size_alloc _ _).symm K1.out.1).mono ?_; rintro e w5 ⟨B1, B2, B3, B4, rfl, HR, HB⟩; have K2 : Hid (Below W0.heap.size W0 (w5.alloc (.cells #[.slice B1 LA B2, .slice B3 LA B4] 25)) ∧ (Two (w5.alloc (.cells #[.slice B1 LA B2, .slice B3 LA B4] 25)) w4.heap.size (.slice A1 LA A2) (.slice A3 LA A4) ∧ RdV (w5.alloc (.cells #[.slice B1 LA B2, .slice B3 LA B4] 25)) (.agg #[.slice A1 LA A2, .slice A3 LA A4]) (nmsOf RA) (valsOf RA)) ∧ Two (w5.alloc (.cells #[.slice B1 LA B2, .slice B3 LA B4] 25)) w5.heap.size (.slice B1 LA B2) (.slice B3 LA B4) ∧ RdV (w5.alloc (.cells #[.slice B1 LA B2, .slice B3 LA B4] 25)) (.agg #[.slice B1 LA B2, .slice B3 LA B4]) (nmsOf RA) (valsOf RA)) := ⟨below_alloc (K1.out.1.trans (HB.mono K1.out.1.size)) (Nat.le_refl _) _, ⟨(K1.out.2.1.below HB).alloc _, (K1.out.2.2.below HB).below ((Below.refl _ _).alloc (Nat.le_refl _) _)⟩, Two.new w5 _ _ 25, HR.below ((Below.refl _ _).alloc (Nat.le_refl _) _)⟩; obtain ⟨⟨p4, p0, p1, p2, p3⟩, ⟨q4, q0, q1, q2, q3⟩, ⟨r4, r0, r1, r2, r3⟩, _⟩ := HT.out _ (K1.out.1.trans (HB.mono K1.out.1.size)); clear HB HR K1)
              | (go_at_call 15; have := Z3; refine (HO15.out _ _ rfl Z3.out).mono ?_; rintro e w4 ⟨A1, A2, A3, A4, rfl, HR, HB⟩; have K1 : Hid (Below W0.heap.size W0 (w4.alloc (.cells #[.slice A1 LA A2, .slice A3 LA A4] 25)) ∧ Two (w4.alloc (.cells #[.slice A1 LA A2, .slice A3 LA A4] 25)) w4.heap.size (.slice A1 LA A2) (.slice A3 LA A4) ∧ RdV (w4.alloc (.cells #[.slice A1 LA A2, .slice A3 LA A4] 25)) (.agg #[.slice A1 LA A2, .slice A3 LA A4]) (nmsOf RA) (valsOf RA)) := ⟨below_alloc (Z3.out.trans (HB.mono Z3.out.size)) (Nat.le_refl _) _, Two.new w4 _ _ 25, HR.below ((Below.refl _ _).alloc (Nat.le_refl _) _)⟩; obtain ⟨⟨p4, p0, p1, p2, p3⟩, ⟨q4, q0, q1, q2, q3⟩, ⟨r4, r0, r1, r2, r3⟩, _⟩ := HT.out _ (Z3.out.trans (HB.mono Z3.out.size)); clear HB HR Z3)
              | (go_at_call 8; have := Z2; refine (HL3.out _ Z2.out).mono ?_; rintro e w3 ⟨rfl, HB⟩; have Z3 : Hid (Below W0.heap.size W0 w3) := Z2.out.trans (HB.mono Z2.out.size); obtain ⟨⟨p4, p0, p1, p2, p3⟩, ⟨q4, q0, q1, q2, q3⟩, ⟨r4, r0, r1, r2, r3⟩, _⟩ := HT.out _ Z3.out; clear HB Z2)
              | (go_at_call 8; have := Z1; refine (HL2.out _ Z1.out).mono ?_; rintro e w2 ⟨rfl, HB⟩; have Z2 : Hid (Below W0.heap.size W0 w2) := Z1.out.trans (HB.mono Z1.out.size); obtain ⟨⟨p4, p0, p1, p2, p3⟩, ⟨q4, q0, q1, q2, q3⟩, ⟨r4, r0, r1, r2, r3⟩, _⟩ := HT.out _ Z2.out; clear HB Z1)
              | (go_at_call 8; rw [← hW0]; refine (HL1.out _ HBr.out).mono ?_; rintro e w1 ⟨rfl, HB⟩; have Z1 : Hid (Below W0.heap.size W0 w1) := HB; obtain ⟨⟨p4, p0, p1, p2, p3⟩, ⟨q4, q0, q1, q2, q3⟩, ⟨r4, r0, r1, r2, r3⟩, _⟩ := HT.out _ HB; clear HB))
            generalize (w6.alloc (.cells #[.slice C1 LC C2, .slice C3 LC C4] 25)) = WC at *
            have HK : Hid (∀ w', Below WC.heap.size WC w' → Below W0.heap.size W0 w' ∧ (Two w' w4.heap.size (.slice A1 LA A2) (.slice A3 LA A4) ∧ RdV w' (.agg #[.slice A1 LA A2, .slice A3 LA A4]) (nmsOf RA) (valsOf RA)) ∧ (Two w' w5.heap.size (.slice B1 LA B2) (.slice B3 LA B4) ∧ RdV w' (.agg #[.slice B1 LA B2, .slice B3 LA B4]) (nmsOf RA) (valsOf RA)) ∧ Two w' w6.heap.size (.slice C1 LC C2) (.slice C3 LC C4) ∧ RdV w' (.agg #[.slice C1 LC C2, .slice C3 LC C4]) (nmsOf RC) (valsOf RC)) := fun w' hb => ⟨K3.out.1.trans (hb.mono K3.out.1.size), ⟨K3.out.2.1.1.below hb, K3.out.2.1.2.below hb⟩, ⟨K3.out.2.2.1.1.below hb, K3.out.2.2.1.2.below hb⟩, K3.out.2.2.2.1.below hb, K3.out.2.2.2.2.below hb⟩
            have HV : Hid (∀ w', Below WC.heap.size WC w' → RdV w' (.agg #[.slice a1 n1 c1, .slice a2 n2 c2]) ns vs) := fun w' hb => (HT.out _ (HK.out _ hb).1).2.2.2.2.1
            obtain ⟨⟨p4, p0, p1, p2, p3⟩, ⟨q4, q0, q1, q2, q3⟩, ⟨r4, r0, r1, r2, r3⟩, _⟩ := HT.out _ K3.out.1
            have hq5 : WC.heap.size ≠ w.heap.size := by omega
            have hq6 : w.heap.size ≠ WC.heap.size := by omega
            go_region_held3 (fun w' => w'.cell? ⟨w.heap.size, 0, none⟩ = some (.slice a1 n1 c1) ∧ w'.cell? ⟨w.heap.size, 1, none⟩ = some (.slice a2 n2 c2)) (go_keep) (first
              | (go_at_call 16; have := N7; refine (HO2.out _ _ (by first | exact rdl_a (HV.out _ N7.out.1) N7.out.2 | exact rdl_b (HV.out _ N7.out.1) N7.out.2 | exact rdl_c (HV.out _ N7.out.1) N7.out.2)).mono ?_; rintro e w8 ⟨D1, D2, D3, D4, rfl, HO, HB⟩; (first | (have hfa : Two w8 (WC.heap.size) (.slice none 0 0) (.slice none 0 0) ∧ Fin4 WC.heap.size WC ((w8.setCell ⟨WC.heap.size, 0, none⟩ (.slice D1 LC D2)).setCell ⟨WC.heap.size, 1, none⟩ (.slice D3 LC D4)) (WC.heap.size) (.slice D1 LC D2) (.slice D3 LC D4) RC := fin_a T7.out HB HO N7.out.1 (Nat.le_refl _); obtain ⟨⟨s4, s0, s1, s2, s3⟩, hfin⟩ := hfa; have MA : Hid _ := hfin; clear hfin) | (have hfa : Two w8 (w7.heap.size) (.slice none 0 0) (.slice none 0 0) ∧ Fin4 WC.heap.size WC ((w8.setCell ⟨w7.heap.size, 0, none⟩ (.slice D1 LC D2)).setCell ⟨w7.heap.size, 1, none⟩ (.slice D3 LC D4)) (w7.heap.size) (.slice D1 LC D2) (.slice D3 LC D4) RC := fin_b HB HO N7.out.1 N7.out.1.size; obtain ⟨⟨s4, s0, s1, s2, s3⟩, hfin⟩ := hfa; have MB : Hid _ := hfin; clear hfin) | (have hfa : Two w8 (w7.heap.size + 1) (.slice none 0 0) (.slice none 0 0) ∧ Fin4 WC.heap.size WC ((w8.setCell ⟨w7.heap.size + 1, 0, none⟩ (.slice D1 LC D2)).setCell ⟨w7.heap.size + 1, 1, none⟩ (.slice D3 LC D4)) (w7.heap.size + 1) (.slice D1 LC D2) (.slice D3 LC D4) RC := fin_c HB HO N7.out.1 N7.out.1.size; obtain ⟨⟨s4, s0, s1, s2, s3⟩, hfin⟩ := hfa; have MC : Hid _ := hfin; clear hfin) | (have MD : Hid _ := fin_d HB HO N7.out.1 N7.out.1.size)); obtain ⟨⟨p4, p0, p1, p2, p3⟩, _⟩ := HT.out _ (HK.out w8 (by first | exact new_w8a N7.out.1 HB | exact new_w8b N7.out.1 HB)).1; clear HB HO N7)
              | (go_at_call 18; refine (HOne.out _).mono ?_; rintro e w7 ⟨O1, O2, O3, O4, rfl, HR, HB⟩; (first | (have T7 : Hid (Two w7 WC.heap.size (.slice none 0 0) (.slice none 0 0)) := (new_a HB).1) | (have T7 : Hid True := trivial)); have N7 : Hid (Below WC.heap.size WC w7 ∧ RdV w7 (.agg #[.slice O1 1 O2, .slice O3 1 O4]) [nm0] [x]) := ⟨by first | exact (new_a HB).2 | exact new_b HB, HR⟩; obtain ⟨⟨p4, p0, p1, p2, p3⟩, _⟩ := HT.out _ (HK.out _ N7.out.1).1; (first | (obtain ⟨s4, s0, s1, s2, s3⟩ := T7.out) | skip); have hq1 : w7.heap.size + 1 ≠ w.heap.size := (by omega); have hq2 : w7.heap.size ≠ w.heap.size := (by omega); have hq3 : w.heap.size ≠ w7.heap.size + 1 := (by omega); have hq4 : w.heap.size ≠ w7.heap.size := (by omega); clear HB HR))
            all_goals clear HO15 HO16 HSet HOne HO2
            all_goals (first
              | (have := MA; have HM0 : Hid (∃ q, q = WC.heap.size ∧ Fin4 WC.heap.size WC ((w8.setCell ⟨q, 0, none⟩ (.slice D1 LC D2)).setCell ⟨q, 1, none⟩ (.slice D3 LC D4)) q (.slice D1 LC D2) (.slice D3 LC D4) RC) := ⟨_, rfl, MA.out⟩; have HM : Hid (Fin4 WC.heap.size WC ((w8.setCell ⟨WC.heap.size, 0, none⟩ (.slice D1 LC D2)).setCell ⟨WC.heap.size, 1, none⟩ (.slice D3 LC D4)) WC.heap.size (.slice D1 LC D2) (.slice D3 LC D4) RC) := MA.out; generalize ((w8.setCell ⟨WC.heap.size, 0, none⟩ (.slice D1 LC D2)).setCell ⟨WC.heap.size, 1, none⟩ (.slice D3 LC D4)) = w9 at *; generalize hB : WC.heap.size = q at *; clear HM0)
              | (have HM : Hid (Fin4 WC.heap.size WC ((w8.setCell ⟨w7.heap.size, 0, none⟩ (.slice D1 LC D2)).setCell ⟨w7.heap.size, 1, none⟩ (.slice D3 LC D4)) w7.heap.size (.slice D1 LC D2) (.slice D3 LC D4) RC) := MB.out; generalize ((w8.setCell ⟨w7.heap.size, 0, none⟩ (.slice D1 LC D2)).setCell ⟨w7.heap.size, 1, none⟩ (.slice D3 LC D4)) = w9 at *; generalize w7.heap.size = q at *)
              | (have HM : Hid (Fin4 WC.heap.size WC ((w8.setCell ⟨w7.heap.size + 1, 0, none⟩ (.slice D1 LC D2)).setCell ⟨w7.heap.size + 1, 1, none⟩ (.slice D3 LC D4)) (w7.heap.size + 1) (.slice D1 LC D2) (.slice D3 LC D4) RC) := MC.out; generalize ((w8.setCell ⟨w7.heap.size + 1, 0, none⟩ (.slice D1 LC D2)).setCell ⟨w7.heap.size + 1, 1, none⟩ (.slice D3 LC D4)) = w9 at *; generalize w7.heap.size + 1 = q at *)
              | (have HM : Hid (Fin4 WC.heap.size WC (w8.alloc (.cells #[.slice D1 LC D2, .slice D3 LC D4] 25)) w8.heap.size (.slice D1 LC D2) (.slice D3 LC D4) RC) := MD.out; generalize w8.alloc (.cells #[.slice D1 LC D2, .slice D3 LC D4] 25) = w9 at *; generalize w8.heap.size = q at *))
            all_goals
              (have HB9 : Hid (Below W0.heap.size W0 w9) := (HK.out _ HM.out.1).1
               have HAll : Hid (∀ w', Below w9.heap.size w9 w' → (Two w' w4.heap.size (.slice A1 LA A2) (.slice A3 LA A4) ∧ Two w' w5.heap.size (.slice B1 LA B2) (.slice B3 LA B4) ∧ Two w' w6.heap.size (.slice C1 LC C2) (.slice C3 LC C4) ∧ Two w' q (.slice D1 LC D2) (.slice D3 LC D4))) := fun w' hb => ⟨(HK.out _ HM.out.1).2.1.1.below hb, (HK.out _ HM.out.1).2.2.1.1.below hb, (HK.out _ HM.out.1).2.2.2.1.below hb, HM.out.2.1.below hb⟩
               have HRA : Hid (∀ w', Below w9.heap.size w9 w' → RdV w' (.agg #[.slice A1 LA A2, .slice A3 LA A4]) (nmsOf RA) (valsOf RA) ∧ RdV w' (.agg #[.slice B1 LA B2, .slice B3 LA B4]) (nmsOf RA) (valsOf RA) ∧ RdV w' (.agg #[.slice C1 LC C2, .slice C3 LC C4]) (nmsOf RC) (valsOf RC) ∧ RdV w' (.agg #[.slice D1 LC D2, .slice D3 LC D4]) (nmsOf RC) (valsOf RC)) := fun w' hb => ⟨(HK.out _ HM.out.1).2.1.2.below hb, (HK.out _ HM.out.1).2.2.1.2.below hb, (HK.out _ HM.out.1).2.2.2.2.below hb, HM.out.2.2.below hb⟩
               have HB99 : Hid (Below w9.heap.size w9 w9) := Below.refl _ _
               have HBB : Hid (∀ w', Below w9.heap.size w9 w' → Below W0.heap.size W0 w') := fun w' hb => HB9.out.trans (hb.mono HB9.out.size)
               obtain ⟨⟨p4, p0, p1, p2, p3⟩, ⟨q4, q0, q1, q2, q3⟩, ⟨r4, r0, r1, r2, r3⟩, _⟩ := HT.out _ HB9.out
               clear HK HM
               go_wp2_with (first
                 | (go_at_call 9; have := P8; refine (HWk.out _).mono ?_; rintro e wf ⟨rfl, HB⟩; have ZF : Hid (Below W0.heap.size W0 wf) := P8.out.trans (HB.mono P8.out.size); clear HB P8)
                 | (go_at_call 22; have := P7; refine (HG.out.2 _ P7.out).mono ?_; rintro e wh ⟨rfl, HB⟩; have P8 : Hid (Below W0.heap.size W0 wh) := P7.out.trans (HB.mono P7.out.size); obtain ⟨⟨p4, p0, p1, p2, p3⟩, ⟨q4, q0, q1, q2, q3⟩, ⟨r4, r0, r1, r2, r3⟩, _⟩ := HT.out _ P8.out; clear HB P7)
                 | (go_at_call 21; have := P6; refine (HG.out.1 _ P6.out).mono ?_; rintro e wg ⟨rfl, HB⟩; have P7 : Hid (Below W0.heap.size W0 wg) := P6.out.trans (HB.mono P6.out.size); obtain ⟨⟨p4, p0, p1, p2, p3⟩, ⟨q4, q0, q1, q2, q3⟩, ⟨r4, r0, r1, r2, r3⟩, _⟩ := HT.out _ P7.out; clear HB P6)
                 | (go_at_call 11; have := P5; refine (HC11.out _ P5.out).mono ?_; rintro e wc ⟨rfl, HB⟩; have P6 : Hid (Below W0.heap.size W0 wc) := P5.out.trans (HB.mono P5.out.size); obtain ⟨⟨p4, p0, p1, p2, p3⟩, ⟨q4, q0, q1, q2, q3⟩, ⟨r4, r0, r1, r2, r3⟩, _⟩ := HT.out _ P6.out; clear HB P5)
                 | (go_at_call 13; have := P4; refine (HS.out _ _ _ RD P4.out.2.1.2 P4.out.2.2.2).mono ?_; rintro e wr3 ⟨rfl, HB⟩; have P5 : Hid (Below W0.heap.size W0 wr3) := HBB.out _ (P4.out.1.trans (HB.mono P4.out.1.size)); obtain ⟨⟨p4, p0, p1, p2, p3⟩, ⟨q4, q0, q1, q2, q3⟩, ⟨r4, r0, r1, r2, r3⟩, _⟩ := HT.out _ P5.out; clear HB P4)
                 | (go_at_call 13; have := P3; refine (HS.out _ _ _ RC (HRA.out _ P3.out.1).2.2.1 (HRA.out _ P3.out.1).2.2.2).mono ?_; rintro e wr2 ⟨rfl, HB⟩; have P4 : Hid (Below w9.heap.size w9 wr2 ∧ (Two wr2 wp.heap.size (.slice E1 LD E2) (.slice E3 LD E4) ∧ RdV wr2 (.agg #[.slice E1 LD E2, .slice E3 LD E4]) (nmsOf RD) (valsOf RD)) ∧ Two wr2 wq.heap.size (.slice F1 LD F2) (.slice F3 LD F4) ∧ RdV wr2 (.agg #[.slice F1 LD F2, .slice F3 LD F4]) (nmsOf RD) (valsOf RD)) := ⟨P3.out.1.trans (HB.mono P3.out.1.size), P3.out.2.2 _ HB⟩; obtain ⟨⟨i4, i0, i1, i2, i3⟩, _⟩ := P4.out.2.1; obtain ⟨⟨j4, j0, j1, j2, j3⟩, _⟩ := P4.out.2.2; obtain ⟨⟨p4, p0, p1, p2, p3⟩, ⟨q4, q0, q1, q2, q3⟩, ⟨r4, r0, r1, r2, r3⟩, _⟩ := HT.out _ (HBB.out _ P4.out.1); obtain ⟨⟨x4, x0, x1, x2, x3⟩, ⟨y4, y0, y1, y2, y3⟩, ⟨z4, z0, z1, z2, z3⟩, ⟨v4, v0, v1, v2, v3⟩⟩ := HAll.out _ P4.out.1; clear HB P3)
                 | (go_at_call 13; have := P2; refine (HS.out _ _ _ RA (HRA.out _ P2.out.1).1 (HRA.out _ P2.out.1).2.1).mono ?_; rintro e wr1 ⟨rfl, HB⟩; have P3 : Hid (Below w9.heap.size w9 wr1 ∧ Below (wq.alloc (.cells #[.slice F1 LD F2, .slice F3 LD F4] 25)).heap.size (wq.alloc (.cells #[.slice F1 LD F2, .slice F3 LD F4] 25)) wr1 ∧ ∀ w', Below wr1.heap.size wr1 w' → (Two w' wp.heap.size (.slice E1 LD E2) (.slice E3 LD E4) ∧ RdV w' (.agg #[.slice E1 LD E2, .slice E3 LD E4]) (nmsOf RD) (valsOf RD)) ∧ Two w' wq.heap.size (.slice F1 LD F2) (.slice F3 LD F4) ∧ RdV w' (.agg #[.slice F1 LD F2, .slice F3 LD F4]) (nmsOf RD) (valsOf RD)) := ⟨P2.out.1.trans (HB.mono P2.out.1.size), HB, fun w' hb => P2.out.2 _ (HB.trans (hb.mono HB.size))⟩; obtain ⟨⟨⟨i4, i0, i1, i2, i3⟩, _⟩, ⟨j4, j0, j1, j2, j3⟩, _⟩ := P3.out.2.2 _ (Below.refl _ _); obtain ⟨⟨p4, p0, p1, p2, p3⟩, ⟨q4, q0, q1, q2, q3⟩, ⟨r4, r0, r1, r2, r3⟩, _⟩ := HT.out _ (HBB.out _ P3.out.1); obtain ⟨⟨x4, x0, x1, x2, x3⟩, ⟨y4, y0, y1, y2, y3⟩, ⟨z4, z0, z1, z2, z3⟩, ⟨v4, v0, v1, v2, v3⟩⟩ := HAll.out _ P3.out.1; clear HB P2)
                 | (go_at_call 20; have := P1; refine (HD20.out _ (HBB.out _ P1.out.1)).mono ?_; rintro e wq ⟨F1, F2, F3, F4, rfl, HR, HB⟩; have P2 : Hid (Below w9.heap.size w9 (wq.alloc (.cells #[.slice F1 LD F2, .slice F3 LD F4] 25)) ∧ (∀ w', Below (wq.alloc (.cells #[.slice F1 LD F2, .slice F3 LD F4] 25)).heap.size (wq.alloc (.cells #[.slice F1 LD F2, .slice F3 LD F4] 25)) w' → (Two w' wp.heap.size (.slice E1 LD E2) (.slice E3 LD E4) ∧ RdV w' (.agg #[.slice E1 LD E2, .slice E3 LD E4]) (nmsOf RD) (valsOf RD)) ∧ Two w' wq.heap.size (.slice F1 LD F2) (.slice F3 LD F4) ∧ RdV w' (.agg #[.slice F1 LD F2, .slice F3 LD F4]) (nmsOf RD) (valsOf RD))) := ⟨below_alloc (P1.out.1.trans (HB.mono P1.out.1.size)) (Nat.le_refl _) _, fun w' hb => ⟨⟨((P1.out.2.1.below HB).alloc _).below hb, ((P1.out.2.2.below HB).below ((Below.refl _ _).alloc (Nat.le_refl _) _)).below hb⟩, (Two.new wq _ _ 25).below hb, (HR.below ((Below.refl _ _).alloc (Nat.le_refl _) _)).below hb⟩⟩; obtain ⟨⟨⟨i4, i0, i1, i2, i3⟩, _⟩, ⟨j4, j0, j1, j2, j3⟩, _⟩ := P2.out.2 _ (Below.refl _ _); obtain ⟨⟨p4, p0, p1, p2, p3⟩, ⟨q4, q0, q1, q2, q3⟩, ⟨r4, r0, r1, r2, r3⟩, _⟩ := HT.out _ (HBB.out _ (P1.out.1.trans (HB.mono P1.out.1.size))); obtain ⟨⟨x4, x0, x1, x2, x3⟩, ⟨y4, y0, y1, y2, y3⟩, ⟨z4, z0, z1, z2, z3⟩, ⟨v4, v0, v1, v2, v3⟩⟩ := HAll.out _ (P1.out.1.trans (HB.mono P1.out.1.size)); clear HB HR P1)
                 | (go_at_call 19; have := HB99; refine (HD19.out _ HB9.out).mono ?_; rintro e wp ⟨E1, E2, E3, E4, rfl, HR, HB⟩; have P1 : Hid (Below w9.heap.size w9 (wp.alloc (.cells #[.slice E1 LD E2, .slice E3 LD E4] 25)) ∧ Two (wp.alloc (.cells #[.slice E1 LD E2, .slice E3 LD E4] 25)) wp.heap.size (.slice E1 LD E2) (.slice E3 LD E4) ∧ RdV (wp.alloc (.cells #[.slice E1 LD E2, .slice E3 LD E4] 25)) (.agg #[.slice E1 LD E2, .slice E3 LD E4]) (nmsOf RD) (valsOf RD)) := ⟨below_alloc HB (Nat.le_refl _) _, Two.new wp _ _ 25, HR.below ((Below.refl _ _).alloc (Nat.le_refl _) _)⟩; obtain ⟨⟨p4, p0, p1, p2, p3⟩, ⟨q4, q0, q1, q2, q3⟩, ⟨r4, r0, r1, r2, r3⟩, _⟩ := HT.out _ (HBB.out _ HB); clear HB HR HB99))
               go_ret
               exact ⟨rfl, (HT.out _ ZF.out).2.2.2.1⟩)
          · rcases (by have := chk_vals ns vs; omega : chk ns vs = 1 ∨ chk ns vs = 6) with hck | hck
            · rw [hck] at HC11
              have HC11 : Hid (∀ w', Below W0.heap.size W0 w' → Calls Try.prog 11 #[.agg #[.slice a1 ns.length c1, .slice a2 vs.length c2]] w' fun e w2 => e = .returned (.int .i64 1) ∧ Below w'.heap.size w' w2) := HC11
              clear hv hu ht hV hU hX hl1 hl2 hl3 z3 y3 x3 hOa hOc hOd hput hdiff hck
              generalize hn1 : ns.length = n1 at *
              generalize hn2 : vs.length = n2 at *
              generalize hn3 : ms.length = n3 at *
              generalize hn4 : us.length = n4 at *
              generalize hn5 : ks.length = n5 at *
              generalize hn6 : ts.length = n6 at *
              generalize hLA : RA.length = LA at *
              generalize hLC : RC.length = LC at *
              generalize hLD : RD.length = LD at *
              go_enter Try.func4, Try.ntmps4
              go_wp2_with (first
                | (go_at_call 17; have := K2; refine (HSet.out _ K2.out.1).mono ?_; rintro e w6 ⟨C1, C2, C3, C4, rfl, HR, HB⟩; have K3 : Hid (Below W0.heap.size W0 (w6.alloc (.cells #[.slice C1 LC C2, .slice C3 LC C4] 25)) ∧ (Two (w6.alloc (.cells #[.slice C1 LC C2, .slice C3 LC C4] 25)) w4.heap.size (.slice A1 LA A2) (.slice A3 LA A4) ∧ RdV (w6.alloc (.cells #[.slice C1 LC C2, .slice C3 LC C4] 25)) (.agg #[.slice A1 LA A2, .slice A3 LA A4]) (nmsOf RA) (valsOf RA)) ∧ (Two (w6.alloc (.cells #[.slice C1 LC C2, .slice C3 LC C4] 25)) w5.heap.size (.slice B1 LA B2) (.slice B3 LA B4) ∧ RdV (w6.alloc (.cells #[.slice C1 LC C2, .slice C3 LC C4] 25)) (.agg #[.slice B1 LA B2, .slice B3 LA B4]) (nmsOf RA) (valsOf RA)) ∧ Two (w6.alloc (.cells #[.slice C1 LC C2, .slice C3 LC C4] 25)) w6.heap.size (.slice C1 LC C2) (.slice C3 LC C4) ∧ RdV (w6.alloc (.cells #[.slice C1 LC C2, .slice C3 LC C4] 25)) (.agg #[.slice C1 LC C2, .slice C3 LC C4]) (nmsOf RC) (valsOf RC)) := ⟨below_alloc (K2.out.1.trans (HB.mono K2.out.1.size)) (Nat.le_refl _) _, ⟨(K2.out.2.1.1.below HB).alloc _, (K2.out.2.1.2.below HB).below ((Below.refl _ _).alloc (Nat.le_refl _) _)⟩, ⟨(K2.out.2.2.1.below HB).alloc _, (K2.out.2.2.2.below HB).below ((Below.refl _ _).alloc (Nat.le_refl _) _)⟩, Two.new w6 _ _ 25, HR.below ((Below.refl _ _).alloc (Nat.le_refl _) _)⟩; obtain ⟨⟨p4, p0, p1, p2, p3⟩, ⟨q4, q0, q1, q2, q3⟩, ⟨r4, r0, r1, r2, r3⟩, _⟩ := HT.out _ (K2.out.1.trans (HB.mono K2.out.1.size)); clear HB HR K2)
                | (go_at_call 16; have := K1; refine (HO16.out _ _ (size_alloc _ _).symm K1.out.1).mono ?_; rintro e w5 ⟨B1, B2, B3, B4, rfl, HR, HB⟩; have K2 : Hid (Below W0.heap.size W0 (w5.alloc (.cells #[.slice B1 LA B2, .slice B3 LA B4] 25)) ∧ (Two (w5.alloc (.cells #[.slice B1 LA B2, .slice B3 LA B4] 25)) w4.heap.size (.slice A1 LA A2) (.slice A3 LA A4) ∧ RdV (w5.alloc (.cells #[.slice B1 LA B2, .slice B3 LA B4] 25)) (.agg #[.slice A1 LA A2, .slice A3 LA A4]) (nmsOf RA) (valsOf RA)) ∧ Two (w5.alloc (.cells #[.slice B1 LA B2, .slice B3 LA B4] 25)) w5.heap.size (.slice B1 LA B2) (.slice B3 LA B4) ∧ RdV (w5.alloc (.cells #[.slice B1 LA B2, .slice B3 LA B4] 25)) (.agg #[.slice B1 LA B2, .slice B3 LA B4]) (nmsOf RA) (valsOf RA)) := ⟨below_alloc (K1.out.1.trans (HB.mono K1.out.1.size)) (Nat.le_refl _) _, ⟨(K1.out.2.1.below HB).alloc _, (K1.out.2.2.below HB).below ((Below.refl _ _).alloc (Nat.le_refl _) _)⟩, Two.new w5 _ _ 25, HR.below ((Below.refl _ _).alloc (Nat.le_refl _) _)⟩; obtain ⟨⟨p4, p0, p1, p2, p3⟩, ⟨q4, q0, q1, q2, q3⟩, ⟨r4, r0, r1, r2, r3⟩, _⟩ := HT.out _ (K1.out.1.trans (HB.mono K1.out.1.size)); clear HB HR K1)
                | (go_at_call 15; have := Z3; refine (HO15.out _ _ rfl Z3.out).mono ?_; rintro e w4 ⟨A1, A2, A3, A4, rfl, HR, HB⟩; have K1 : Hid (Below W0.heap.size W0 (w4.alloc (.cells #[.slice A1 LA A2, .slice A3 LA A4] 25)) ∧ Two (w4.alloc (.cells #[.slice A1 LA A2, .slice A3 LA A4] 25)) w4.heap.size (.slice A1 LA A2) (.slice A3 LA A4) ∧ RdV (w4.alloc (.cells #[.slice A1 LA A2, .slice A3 LA A4] 25)) (.agg #[.slice A1 LA A2, .slice A3 LA A4]) (nmsOf RA) (valsOf RA)) := ⟨below_alloc (Z3.out.trans (HB.mono Z3.out.size)) (Nat.le_refl _) _, Two.new w4 _ _ 25, HR.below ((Below.refl _ _).alloc (Nat.le_refl _) _)⟩; obtain ⟨⟨p4, p0, p1, p2, p3⟩, ⟨q4, q0, q1, q2, q3⟩, ⟨r4, r0, r1, r2, r3⟩, _⟩ := HT.out _ (Z3.out.trans (HB.mono Z3.out.size)); clear HB HR Z3)
                | (go_at_call 8; have := Z2; refine (HL3.out _ Z2.out).mono ?_; rintro e w3 ⟨rfl, HB⟩; have Z3 : Hid (Below W0.heap.size W0 w3) := Z2.out.trans (HB.mono Z2.out.size); obtain ⟨⟨p4, p0, p1, p2, p3⟩, ⟨q4, q0, q1, q2, q3⟩, ⟨r4, r0, r1, r2, r3⟩, _⟩ := HT.out _ Z3.out; clear HB Z2)
                | (go_at_call 8; have := Z1; refine (HL2.out _ Z1.out).mono ?_; rintro e w2 ⟨rfl, HB⟩; have Z2 : Hid (Below W0.heap.size W0 w2) := Z1.out.trans (HB.mono Z1.out.size); obtain ⟨⟨p4, p0, p1, p2, p3⟩, ⟨q4, q0, q1, q2, q3⟩, ⟨r4, r0, r1, r2, r3⟩, _⟩ := HT.out _ Z2.out; clear HB Z1)
                | (go_at_call 8; rw [← hW0]; refine (HL1.out _ HBr.out).mono ?_; rintro e w1 ⟨rfl, HB⟩; have Z1 : Hid (Below W0.heap.size W0 w1) := HB; obtain ⟨⟨p4, p0, p1, p2, p3⟩, ⟨q4, q0, q1, q2, q3⟩, ⟨r4, r0, r1, r2, r3⟩, _⟩ := HT.out _ HB; clear HB))
              generalize (w6.alloc (.cells #[.slice C1 LC C2, .slice C3 LC C4] 25)) = WC at *
              have HK : Hid (∀ w', Below WC.heap.size WC w' → Below W0.heap.size W0 w' ∧ (Two w' w4.heap.size (.slice A1 LA A2) (.slice A3 LA A4) ∧ RdV w' (.agg #[.slice A1 LA A2, .slice A3 LA A4]) (nmsOf RA) (valsOf RA)) ∧ (Two w' w5.heap.size (.slice B1 LA B2) (.slice B3 LA B4) ∧ RdV w' (.agg #[.slice B1 LA B2, .slice B3 LA B4]) (nmsOf RA) (valsOf RA)) ∧ Two w' w6.heap.size (.slice C1 LC C2) (.slice C3 LC C4) ∧ RdV w' (.agg #[.slice C1 LC C2, .slice C3 LC C4]) (nmsOf RC) (valsOf RC)) := fun w' hb => ⟨K3.out.1.trans (hb.mono K3.out.1.size), ⟨K3.out.2.1.1.below hb, K3.out.2.1.2.below hb⟩, ⟨K3.out.2.2.1.1.below hb, K3.out.2.2.1.2.below hb⟩, K3.out.2.2.2.1.below hb, K3.out.2.2.2.2.below hb⟩
              have HV : Hid (∀ w', Below WC.heap.size WC w' → RdV w' (.agg #[.slice a1 n1 c1, .slice a2 n2 c2]) ns vs) := fun w' hb => (HT.out _ (HK.out _ hb).1).2.2.2.2.1
              obtain ⟨⟨p4, p0, p1, p2, p3⟩, ⟨q4, q0, q1, q2, q3⟩, ⟨r4, r0, r1, r2, r3⟩, _⟩ := HT.out _ K3.out.1
              have hq5 : WC.heap.size ≠ w.heap.size := by omega
              have hq6 : w.heap.size ≠ WC.heap.size := by omega
              go_region_held3 (fun w' => w'.cell? ⟨w.heap.size, 0, none⟩ = some (.slice a1 n1 c1) ∧ w'.cell? ⟨w.heap.size, 1, none⟩ = some (.slice a2 n2 c2)) (go_keep) (first
                | (go_at_call 16; have := N7; refine (HO2.out _ _ (by first | exact rdl_a (HV.out _ N7.out.1) N7.out.2 | exact rdl_b (HV.out _ N7.out.1) N7.out.2 | exact rdl_c (HV.out _ N7.out.1) N7.out.2)).mono ?_; rintro e w8 ⟨D1, D2, D3, D4, rfl, HO, HB⟩; (first | (have hfa : Two w8 (WC.heap.size) (.slice none 0 0) (.slice none 0 0) ∧ Fin4 WC.heap.size WC ((w8.setCell ⟨WC.heap.size, 0, none⟩ (.slice D1 LC D2)).setCell ⟨WC.heap.size, 1, none⟩ (.slice D3 LC D4)) (WC.heap.size) (.slice D1 LC D2) (.slice D3 LC D4) RC := fin_a T7.out HB HO N7.out.1 (Nat.le_refl _); obtain ⟨⟨s4, s0, s1, s2, s3⟩, hfin⟩ := hfa; have MA : Hid _ := hfin; clear hfin) | (have hfa : Two w8 (w7.heap.size) (.slice none 0 0) (.slice none 0 0) ∧ Fin4 WC.heap.size WC ((w8.setCell ⟨w7.heap.size, 0, none⟩ (.slice D1 LC D2)).setCell ⟨w7.heap.size, 1, none⟩ (.slice D3 LC D4)) (w7.heap.size) (.slice D1 LC D2) (.slice D3 LC D4) RC := fin_b HB HO N7.out.1 N7.out.1.size; obtain ⟨⟨s4, s0, s1, s2, s3⟩, hfin⟩ := hfa; have MB : Hid _ := hfin; clear hfin) | (have hfa : Two w8 (w7.heap.size + 1) (.slice none 0 0) (.slice none 0 0) ∧ Fin4 WC.heap.size WC ((w8.setCell ⟨w7.heap.size + 1, 0, none⟩ (.slice D1 LC D2)).setCell ⟨w7.heap.size + 1, 1, none⟩ (.slice D3 LC D4)) (w7.heap.size + 1) (.slice D1 LC D2) (.slice D3 LC D4) RC := fin_c HB HO N7.out.1 N7.out.1.size; obtain ⟨⟨s4, s0, s1, s2, s3⟩, hfin⟩ := hfa; have MC : Hid _ := hfin; clear hfin) | (have MD : Hid _ := fin_d HB HO N7.out.1 N7.out.1.size)); obtain ⟨⟨p4, p0, p1, p2, p3⟩, _⟩ := HT.out _ (HK.out w8 (by first | exact new_w8a N7.out.1 HB | exact new_w8b N7.out.1 HB)).1; clear HB HO N7)
                | (go_at_call 18; refine (HOne.out _).mono ?_; rintro e w7 ⟨O1, O2, O3, O4, rfl, HR, HB⟩; (first | (have T7 : Hid (Two w7 WC.heap.size (.slice none 0 0) (.slice none 0 0)) := (new_a HB).1) | (have T7 : Hid True := trivial)); have N7 : Hid (Below WC.heap.size WC w7 ∧ RdV w7 (.agg #[.slice O1 1 O2, .slice O3 1 O4]) [nm0] [x]) := ⟨by first | exact (new_a HB).2 | exact new_b HB, HR⟩; obtain ⟨⟨p4, p0, p1, p2, p3⟩, _⟩ := HT.out _ (HK.out _ N7.out.1).1; (first | (obtain ⟨s4, s0, s1, s2, s3⟩ := T7.out) | skip); have hq1 : w7.heap.size + 1 ≠ w.heap.size := (by omega); have hq2 : w7.heap.size ≠ w.heap.size := (by omega); have hq3 : w.heap.size ≠ w7.heap.size + 1 := (by omega); have hq4 : w.heap.size ≠ w7.heap.size := (by omega); clear HB HR))
              all_goals clear HO15 HO16 HSet HOne HO2
              all_goals (first
                | (have := MA; have HM0 : Hid (∃ q, q = WC.heap.size ∧ Fin4 WC.heap.size WC ((w8.setCell ⟨q, 0, none⟩ (.slice D1 LC D2)).setCell ⟨q, 1, none⟩ (.slice D3 LC D4)) q (.slice D1 LC D2) (.slice D3 LC D4) RC) := ⟨_, rfl, MA.out⟩; have HM : Hid (Fin4 WC.heap.size WC ((w8.setCell ⟨WC.heap.size, 0, none⟩ (.slice D1 LC D2)).setCell ⟨WC.heap.size, 1, none⟩ (.slice D3 LC D4)) WC.heap.size (.slice D1 LC D2) (.slice D3 LC D4) RC) := MA.out; generalize ((w8.setCell ⟨WC.heap.size, 0, none⟩ (.slice D1 LC D2)).setCell ⟨WC.heap.size, 1, none⟩ (.slice D3 LC D4)) = w9 at *; generalize hB : WC.heap.size = q at *; clear HM0)
                | (have HM : Hid (Fin4 WC.heap.size WC ((w8.setCell ⟨w7.heap.size, 0, none⟩ (.slice D1 LC D2)).setCell ⟨w7.heap.size, 1, none⟩ (.slice D3 LC D4)) w7.heap.size (.slice D1 LC D2) (.slice D3 LC D4) RC) := MB.out; generalize ((w8.setCell ⟨w7.heap.size, 0, none⟩ (.slice D1 LC D2)).setCell ⟨w7.heap.size, 1, none⟩ (.slice D3 LC D4)) = w9 at *; generalize w7.heap.size = q at *)
                | (have HM : Hid (Fin4 WC.heap.size WC ((w8.setCell ⟨w7.heap.size + 1, 0, none⟩ (.slice D1 LC D2)).setCell ⟨w7.heap.size + 1, 1, none⟩ (.slice D3 LC D4)) (w7.heap.size + 1) (.slice D1 LC D2) (.slice D3 LC D4) RC) := MC.out; generalize ((w8.setCell ⟨w7.heap.size + 1, 0, none⟩ (.slice D1 LC D2)).setCell ⟨w7.heap.size + 1, 1, none⟩ (.slice D3 LC D4)) = w9 at *; generalize w7.heap.size + 1 = q at *)
                | (have HM : Hid (Fin4 WC.heap.size WC (w8.alloc (.cells #[.slice D1 LC D2, .slice D3 LC D4] 25)) w8.heap.size (.slice D1 LC D2) (.slice D3 LC D4) RC) := MD.out; generalize w8.alloc (.cells #[.slice D1 LC D2, .slice D3 LC D4] 25) = w9 at *; generalize w8.heap.size = q at *))
              all_goals
                (have HB9 : Hid (Below W0.heap.size W0 w9) := (HK.out _ HM.out.1).1
                 have HAll : Hid (∀ w', Below w9.heap.size w9 w' → (Two w' w4.heap.size (.slice A1 LA A2) (.slice A3 LA A4) ∧ Two w' w5.heap.size (.slice B1 LA B2) (.slice B3 LA B4) ∧ Two w' w6.heap.size (.slice C1 LC C2) (.slice C3 LC C4) ∧ Two w' q (.slice D1 LC D2) (.slice D3 LC D4))) := fun w' hb => ⟨(HK.out _ HM.out.1).2.1.1.below hb, (HK.out _ HM.out.1).2.2.1.1.below hb, (HK.out _ HM.out.1).2.2.2.1.below hb, HM.out.2.1.below hb⟩
                 have HRA : Hid (∀ w', Below w9.heap.size w9 w' → RdV w' (.agg #[.slice A1 LA A2, .slice A3 LA A4]) (nmsOf RA) (valsOf RA) ∧ RdV w' (.agg #[.slice B1 LA B2, .slice B3 LA B4]) (nmsOf RA) (valsOf RA) ∧ RdV w' (.agg #[.slice C1 LC C2, .slice C3 LC C4]) (nmsOf RC) (valsOf RC) ∧ RdV w' (.agg #[.slice D1 LC D2, .slice D3 LC D4]) (nmsOf RC) (valsOf RC)) := fun w' hb => ⟨(HK.out _ HM.out.1).2.1.2.below hb, (HK.out _ HM.out.1).2.2.1.2.below hb, (HK.out _ HM.out.1).2.2.2.2.below hb, HM.out.2.2.below hb⟩
                 have HB99 : Hid (Below w9.heap.size w9 w9) := Below.refl _ _
                 have HBB : Hid (∀ w', Below w9.heap.size w9 w' → Below W0.heap.size W0 w') := fun w' hb => HB9.out.trans (hb.mono HB9.out.size)
                 obtain ⟨⟨p4, p0, p1, p2, p3⟩, ⟨q4, q0, q1, q2, q3⟩, ⟨r4, r0, r1, r2, r3⟩, _⟩ := HT.out _ HB9.out
                 clear HK HM
                 go_wp2_with (first
                   | (go_at_call 9; have := P6; refine (HWk.out _).mono ?_; rintro e wf ⟨rfl, HB⟩; have ZF : Hid (Below W0.heap.size W0 wf) := P6.out.trans (HB.mono P6.out.size); clear HB P6)
                   | (go_at_call 11; have := P5; refine (HC11.out _ P5.out).mono ?_; rintro e wc ⟨rfl, HB⟩; have P6 : Hid (Below W0.heap.size W0 wc) := P5.out.trans (HB.mono P5.out.size); obtain ⟨⟨p4, p0, p1, p2, p3⟩, ⟨q4, q0, q1, q2, q3⟩, ⟨r4, r0, r1, r2, r3⟩, _⟩ := HT.out _ P6.out; clear HB P5)
                   | (go_at_call 13; have := P4; refine (HS.out _ _ _ RD P4.out.2.1.2 P4.out.2.2.2).mono ?_; rintro e wr3 ⟨rfl, HB⟩; have P5 : Hid (Below W0.heap.size W0 wr3) := HBB.out _ (P4.out.1.trans (HB.mono P4.out.1.size)); obtain ⟨⟨p4, p0, p1, p2, p3⟩, ⟨q4, q0, q1, q2, q3⟩, ⟨r4, r0, r1, r2, r3⟩, _⟩ := HT.out _ P5.out; clear HB P4)
                   | (go_at_call 13; have := P3; refine (HS.out _ _ _ RC (HRA.out _ P3.out.1).2.2.1 (HRA.out _ P3.out.1).2.2.2).mono ?_; rintro e wr2 ⟨rfl, HB⟩; have P4 : Hid (Below w9.heap.size w9 wr2 ∧ (Two wr2 wp.heap.size (.slice E1 LD E2) (.slice E3 LD E4) ∧ RdV wr2 (.agg #[.slice E1 LD E2, .slice E3 LD E4]) (nmsOf RD) (valsOf RD)) ∧ Two wr2 wq.heap.size (.slice F1 LD F2) (.slice F3 LD F4) ∧ RdV wr2 (.agg #[.slice F1 LD F2, .slice F3 LD F4]) (nmsOf RD) (valsOf RD)) := ⟨P3.out.1.trans (HB.mono P3.out.1.size), P3.out.2.2 _ HB⟩; obtain ⟨⟨i4, i0, i1, i2, i3⟩, _⟩ := P4.out.2.1; obtain ⟨⟨j4, j0, j1, j2, j3⟩, _⟩ := P4.out.2.2; obtain ⟨⟨p4, p0, p1, p2, p3⟩, ⟨q4, q0, q1, q2, q3⟩, ⟨r4, r0, r1, r2, r3⟩, _⟩ := HT.out _ (HBB.out _ P4.out.1); obtain ⟨⟨x4, x0, x1, x2, x3⟩, ⟨y4, y0, y1, y2, y3⟩, ⟨z4, z0, z1, z2, z3⟩, ⟨v4, v0, v1, v2, v3⟩⟩ := HAll.out _ P4.out.1; clear HB P3)
                   | (go_at_call 13; have := P2; refine (HS.out _ _ _ RA (HRA.out _ P2.out.1).1 (HRA.out _ P2.out.1).2.1).mono ?_; rintro e wr1 ⟨rfl, HB⟩; have P3 : Hid (Below w9.heap.size w9 wr1 ∧ Below (wq.alloc (.cells #[.slice F1 LD F2, .slice F3 LD F4] 25)).heap.size (wq.alloc (.cells #[.slice F1 LD F2, .slice F3 LD F4] 25)) wr1 ∧ ∀ w', Below wr1.heap.size wr1 w' → (Two w' wp.heap.size (.slice E1 LD E2) (.slice E3 LD E4) ∧ RdV w' (.agg #[.slice E1 LD E2, .slice E3 LD E4]) (nmsOf RD) (valsOf RD)) ∧ Two w' wq.heap.size (.slice F1 LD F2) (.slice F3 LD F4) ∧ RdV w' (.agg #[.slice F1 LD F2, .slice F3 LD F4]) (nmsOf RD) (valsOf RD)) := ⟨P2.out.1.trans (HB.mono P2.out.1.size), HB, fun w' hb => P2.out.2 _ (HB.trans (hb.mono HB.size))⟩; obtain ⟨⟨⟨i4, i0, i1, i2, i3⟩, _⟩, ⟨j4, j0, j1, j2, j3⟩, _⟩ := P3.out.2.2 _ (Below.refl _ _); obtain ⟨⟨p4, p0, p1, p2, p3⟩, ⟨q4, q0, q1, q2, q3⟩, ⟨r4, r0, r1, r2, r3⟩, _⟩ := HT.out _ (HBB.out _ P3.out.1); obtain ⟨⟨x4, x0, x1, x2, x3⟩, ⟨y4, y0, y1, y2, y3⟩, ⟨z4, z0, z1, z2, z3⟩, ⟨v4, v0, v1, v2, v3⟩⟩ := HAll.out _ P3.out.1; clear HB P2)
                   | (go_at_call 20; have := P1; refine (HD20.out _ (HBB.out _ P1.out.1)).mono ?_; rintro e wq ⟨F1, F2, F3, F4, rfl, HR, HB⟩; have P2 : Hid (Below w9.heap.size w9 (wq.alloc (.cells #[.slice F1 LD F2, .slice F3 LD F4] 25)) ∧ (∀ w', Below (wq.alloc (.cells #[.slice F1 LD F2, .slice F3 LD F4] 25)).heap.size (wq.alloc (.cells #[.slice F1 LD F2, .slice F3 LD F4] 25)) w' → (Two w' wp.heap.size (.slice E1 LD E2) (.slice E3 LD E4) ∧ RdV w' (.agg #[.slice E1 LD E2, .slice E3 LD E4]) (nmsOf RD) (valsOf RD)) ∧ Two w' wq.heap.size (.slice F1 LD F2) (.slice F3 LD F4) ∧ RdV w' (.agg #[.slice F1 LD F2, .slice F3 LD F4]) (nmsOf RD) (valsOf RD))) := ⟨below_alloc (P1.out.1.trans (HB.mono P1.out.1.size)) (Nat.le_refl _) _, fun w' hb => ⟨⟨((P1.out.2.1.below HB).alloc _).below hb, ((P1.out.2.2.below HB).below ((Below.refl _ _).alloc (Nat.le_refl _) _)).below hb⟩, (Two.new wq _ _ 25).below hb, (HR.below ((Below.refl _ _).alloc (Nat.le_refl _) _)).below hb⟩⟩; obtain ⟨⟨⟨i4, i0, i1, i2, i3⟩, _⟩, ⟨j4, j0, j1, j2, j3⟩, _⟩ := P2.out.2 _ (Below.refl _ _); obtain ⟨⟨p4, p0, p1, p2, p3⟩, ⟨q4, q0, q1, q2, q3⟩, ⟨r4, r0, r1, r2, r3⟩, _⟩ := HT.out _ (HBB.out _ (P1.out.1.trans (HB.mono P1.out.1.size))); obtain ⟨⟨x4, x0, x1, x2, x3⟩, ⟨y4, y0, y1, y2, y3⟩, ⟨z4, z0, z1, z2, z3⟩, ⟨v4, v0, v1, v2, v3⟩⟩ := HAll.out _ (P1.out.1.trans (HB.mono P1.out.1.size)); clear HB HR P1)
                   | (go_at_call 19; have := HB99; refine (HD19.out _ HB9.out).mono ?_; rintro e wp ⟨E1, E2, E3, E4, rfl, HR, HB⟩; have P1 : Hid (Below w9.heap.size w9 (wp.alloc (.cells #[.slice E1 LD E2, .slice E3 LD E4] 25)) ∧ Two (wp.alloc (.cells #[.slice E1 LD E2, .slice E3 LD E4] 25)) wp.heap.size (.slice E1 LD E2) (.slice E3 LD E4) ∧ RdV (wp.alloc (.cells #[.slice E1 LD E2, .slice E3 LD E4] 25)) (.agg #[.slice E1 LD E2, .slice E3 LD E4]) (nmsOf RD) (valsOf RD)) := ⟨below_alloc HB (Nat.le_refl _) _, Two.new wp _ _ 25, HR.below ((Below.refl _ _).alloc (Nat.le_refl _) _)⟩; obtain ⟨⟨p4, p0, p1, p2, p3⟩, ⟨q4, q0, q1, q2, q3⟩, ⟨r4, r0, r1, r2, r3⟩, _⟩ := HT.out _ (HBB.out _ HB); clear HB HR HB99))
                 go_ret
                 exact ⟨rfl, (HT.out _ ZF.out).2.2.2.1⟩)
            · rw [hck] at HC11
              have HC11 : Hid (∀ w', Below W0.heap.size W0 w' → Calls Try.prog 11 #[.agg #[.slice a1 ns.length c1, .slice a2 vs.length c2]] w' fun e w2 => e = .returned (.int .i64 6) ∧ Below w'.heap.size w' w2) := HC11
              clear hv hu ht hV hU hX hl1 hl2 hl3 z3 y3 x3 hOa hOc hOd hput hdiff hck
              generalize hn1 : ns.length = n1 at *
              generalize hn2 : vs.length = n2 at *
              generalize hn3 : ms.length = n3 at *
              generalize hn4 : us.length = n4 at *
              generalize hn5 : ks.length = n5 at *
              generalize hn6 : ts.length = n6 at *
              generalize hLA : RA.length = LA at *
              generalize hLC : RC.length = LC at *
              generalize hLD : RD.length = LD at *
              go_enter Try.func4, Try.ntmps4
              go_wp2_with (first
                | (go_at_call 17; have := K2; refine (HSet.out _ K2.out.1).mono ?_; rintro e w6 ⟨C1, C2, C3, C4, rfl, HR, HB⟩; have K3 : Hid (Below W0.heap.size W0 (w6.alloc (.cells #[.slice C1 LC C2, .slice C3 LC C4] 25)) ∧ (Two (w6.alloc (.cells #[.slice C1 LC C2, .slice C3 LC C4] 25)) w4.heap.size (.slice A1 LA A2) (.slice A3 LA A4) ∧ RdV (w6.alloc (.cells #[.slice C1 LC C2, .slice C3 LC C4] 25)) (.agg #[.slice A1 LA A2, .slice A3 LA A4]) (nmsOf RA) (valsOf RA)) ∧ (Two (w6.alloc (.cells #[.slice C1 LC C2, .slice C3 LC C4] 25)) w5.heap.size (.slice B1 LA B2) (.slice B3 LA B4) ∧ RdV (w6.alloc (.cells #[.slice C1 LC C2, .slice C3 LC C4] 25)) (.agg #[.slice B1 LA B2, .slice B3 LA B4]) (nmsOf RA) (valsOf RA)) ∧ Two (w6.alloc (.cells #[.slice C1 LC C2, .slice C3 LC C4] 25)) w6.heap.size (.slice C1 LC C2) (.slice C3 LC C4) ∧ RdV (w6.alloc (.cells #[.slice C1 LC C2, .slice C3 LC C4] 25)) (.agg #[.slice C1 LC C2, .slice C3 LC C4]) (nmsOf RC) (valsOf RC)) := ⟨below_alloc (K2.out.1.trans (HB.mono K2.out.1.size)) (Nat.le_refl _) _, ⟨(K2.out.2.1.1.below HB).alloc _, (K2.out.2.1.2.below HB).below ((Below.refl _ _).alloc (Nat.le_refl _) _)⟩, ⟨(K2.out.2.2.1.below HB).alloc _, (K2.out.2.2.2.below HB).below ((Below.refl _ _).alloc (Nat.le_refl _) _)⟩, Two.new w6 _ _ 25, HR.below ((Below.refl _ _).alloc (Nat.le_refl _) _)⟩; obtain ⟨⟨p4, p0, p1, p2, p3⟩, ⟨q4, q0, q1, q2, q3⟩, ⟨r4, r0, r1, r2, r3⟩, _⟩ := HT.out _ (K2.out.1.trans (HB.mono K2.out.1.size)); clear HB HR K2)
                | (go_at_call 16; have := K1; refine (HO16.out _ _ (size_alloc _ _).symm K1.out.1).mono ?_; rintro e w5 ⟨B1, B2, B3, B4, rfl, HR, HB⟩; have K2 : Hid (Below W0.heap.size W0 (w5.alloc (.cells #[.slice B1 LA B2, .slice B3 LA B4] 25)) ∧ (Two (w5.alloc (.cells #[.slice B1 LA B2, .slice B3 LA B4] 25)) w4.heap.size (.slice A1 LA A2) (.slice A3 LA A4) ∧ RdV (w5.alloc (.cells #[.slice B1 LA B2, .slice B3 LA B4] 25)) (.agg #[.slice A1 LA A2, .slice A3 LA A4]) (nmsOf RA) (valsOf RA)) ∧ Two (w5.alloc (.cells #[.slice B1 LA B2, .slice B3 LA B4] 25)) w5.heap.size (.slice B1 LA B2) (.slice B3 LA B4) ∧ RdV (w5.alloc (.cells #[.slice B1 LA B2, .slice B3 LA B4] 25)) (.agg #[.slice B1 LA B2, .slice B3 LA B4]) (nmsOf RA) (valsOf RA)) := ⟨below_alloc (K1.out.1.trans (HB.mono K1.out.1.size)) (Nat.le_refl _) _, ⟨(K1.out.2.1.below HB).alloc _, (K1.out.2.2.below HB).below ((Below.refl _ _).alloc (Nat.le_refl _) _)⟩, Two.new w5 _ _ 25, HR.below ((Below.refl _ _).alloc (Nat.le_refl _) _)⟩; obtain ⟨⟨p4, p0, p1, p2, p3⟩, ⟨q4, q0, q1, q2, q3⟩, ⟨r4, r0, r1, r2, r3⟩, _⟩ := HT.out _ (K1.out.1.trans (HB.mono K1.out.1.size)); clear HB HR K1)
                | (go_at_call 15; have := Z3; refine (HO15.out _ _ rfl Z3.out).mono ?_; rintro e w4 ⟨A1, A2, A3, A4, rfl, HR, HB⟩; have K1 : Hid (Below W0.heap.size W0 (w4.alloc (.cells #[.slice A1 LA A2, .slice A3 LA A4] 25)) ∧ Two (w4.alloc (.cells #[.slice A1 LA A2, .slice A3 LA A4] 25)) w4.heap.size (.slice A1 LA A2) (.slice A3 LA A4) ∧ RdV (w4.alloc (.cells #[.slice A1 LA A2, .slice A3 LA A4] 25)) (.agg #[.slice A1 LA A2, .slice A3 LA A4]) (nmsOf RA) (valsOf RA)) := ⟨below_alloc (Z3.out.trans (HB.mono Z3.out.size)) (Nat.le_refl _) _, Two.new w4 _ _ 25, HR.below ((Below.refl _ _).alloc (Nat.le_refl _) _)⟩; obtain ⟨⟨p4, p0, p1, p2, p3⟩, ⟨q4, q0, q1, q2, q3⟩, ⟨r4, r0, r1, r2, r3⟩, _⟩ := HT.out _ (Z3.out.trans (HB.mono Z3.out.size)); clear HB HR Z3)
                | (go_at_call 8; have := Z2; refine (HL3.out _ Z2.out).mono ?_; rintro e w3 ⟨rfl, HB⟩; have Z3 : Hid (Below W0.heap.size W0 w3) := Z2.out.trans (HB.mono Z2.out.size); obtain ⟨⟨p4, p0, p1, p2, p3⟩, ⟨q4, q0, q1, q2, q3⟩, ⟨r4, r0, r1, r2, r3⟩, _⟩ := HT.out _ Z3.out; clear HB Z2)
                | (go_at_call 8; have := Z1; refine (HL2.out _ Z1.out).mono ?_; rintro e w2 ⟨rfl, HB⟩; have Z2 : Hid (Below W0.heap.size W0 w2) := Z1.out.trans (HB.mono Z1.out.size); obtain ⟨⟨p4, p0, p1, p2, p3⟩, ⟨q4, q0, q1, q2, q3⟩, ⟨r4, r0, r1, r2, r3⟩, _⟩ := HT.out _ Z2.out; clear HB Z1)
                | (go_at_call 8; rw [← hW0]; refine (HL1.out _ HBr.out).mono ?_; rintro e w1 ⟨rfl, HB⟩; have Z1 : Hid (Below W0.heap.size W0 w1) := HB; obtain ⟨⟨p4, p0, p1, p2, p3⟩, ⟨q4, q0, q1, q2, q3⟩, ⟨r4, r0, r1, r2, r3⟩, _⟩ := HT.out _ HB; clear HB))
              generalize (w6.alloc (.cells #[.slice C1 LC C2, .slice C3 LC C4] 25)) = WC at *
              have HK : Hid (∀ w', Below WC.heap.size WC w' → Below W0.heap.size W0 w' ∧ (Two w' w4.heap.size (.slice A1 LA A2) (.slice A3 LA A4) ∧ RdV w' (.agg #[.slice A1 LA A2, .slice A3 LA A4]) (nmsOf RA) (valsOf RA)) ∧ (Two w' w5.heap.size (.slice B1 LA B2) (.slice B3 LA B4) ∧ RdV w' (.agg #[.slice B1 LA B2, .slice B3 LA B4]) (nmsOf RA) (valsOf RA)) ∧ Two w' w6.heap.size (.slice C1 LC C2) (.slice C3 LC C4) ∧ RdV w' (.agg #[.slice C1 LC C2, .slice C3 LC C4]) (nmsOf RC) (valsOf RC)) := fun w' hb => ⟨K3.out.1.trans (hb.mono K3.out.1.size), ⟨K3.out.2.1.1.below hb, K3.out.2.1.2.below hb⟩, ⟨K3.out.2.2.1.1.below hb, K3.out.2.2.1.2.below hb⟩, K3.out.2.2.2.1.below hb, K3.out.2.2.2.2.below hb⟩
              have HV : Hid (∀ w', Below WC.heap.size WC w' → RdV w' (.agg #[.slice a1 n1 c1, .slice a2 n2 c2]) ns vs) := fun w' hb => (HT.out _ (HK.out _ hb).1).2.2.2.2.1
              obtain ⟨⟨p4, p0, p1, p2, p3⟩, ⟨q4, q0, q1, q2, q3⟩, ⟨r4, r0, r1, r2, r3⟩, _⟩ := HT.out _ K3.out.1
              have hq5 : WC.heap.size ≠ w.heap.size := by omega
              have hq6 : w.heap.size ≠ WC.heap.size := by omega
              go_region_held3 (fun w' => w'.cell? ⟨w.heap.size, 0, none⟩ = some (.slice a1 n1 c1) ∧ w'.cell? ⟨w.heap.size, 1, none⟩ = some (.slice a2 n2 c2)) (go_keep) (first
                | (go_at_call 16; have := N7; refine (HO2.out _ _ (by first | exact rdl_a (HV.out _ N7.out.1) N7.out.2 | exact rdl_b (HV.out _ N7.out.1) N7.out.2 | exact rdl_c (HV.out _ N7.out.1) N7.out.2)).mono ?_; rintro e w8 ⟨D1, D2, D3, D4, rfl, HO, HB⟩; (first | (have hfa : Two w8 (WC.heap.size) (.slice none 0 0) (.slice none 0 0) ∧ Fin4 WC.heap.size WC ((w8.setCell ⟨WC.heap.size, 0, none⟩ (.slice D1 LC D2)).setCell ⟨WC.heap.size, 1, none⟩ (.slice D3 LC D4)) (WC.heap.size) (.slice D1 LC D2) (.slice D3 LC D4) RC := fin_a T7.out HB HO N7.out.1 (Nat.le_refl _); obtain ⟨⟨s4, s0, s1, s2, s3⟩, hfin⟩ := hfa; have MA : Hid _ := hfin; clear hfin) | (have hfa : Two w8 (w7.heap.size) (.slice none 0 0) (.slice none 0 0) ∧ Fin4 WC.heap.size WC ((w8.setCell ⟨w7.heap.size, 0, none⟩ (.slice D1 LC D2)).setCell ⟨w7.heap.size, 1, none⟩ (.slice D3 LC D4)) (w7.heap.size) (.slice D1 LC D2) (.slice D3 LC D4) RC := fin_b HB HO N7.out.1 N7.out.1.size; obtain ⟨⟨s4, s0, s1, s2, s3⟩, hfin⟩ := hfa; have MB : Hid _ := hfin; clear hfin) | (have hfa : Two w8 (w7.heap.size + 1) (.slice none 0 0) (.slice none 0 0) ∧ Fin4 WC.heap.size WC ((w8.setCell ⟨w7.heap.size + 1, 0, none⟩ (.slice D1 LC D2)).setCell ⟨w7.heap.size + 1, 1, none⟩ (.slice D3 LC D4)) (w7.heap.size + 1) (.slice D1 LC D2) (.slice D3 LC D4) RC := fin_c HB HO N7.out.1 N7.out.1.size; obtain ⟨⟨s4, s0, s1, s2, s3⟩, hfin⟩ := hfa; have MC : Hid _ := hfin; clear hfin) | (have MD : Hid _ := fin_d HB HO N7.out.1 N7.out.1.size)); obtain ⟨⟨p4, p0, p1, p2, p3⟩, _⟩ := HT.out _ (HK.out w8 (by first | exact new_w8a N7.out.1 HB | exact new_w8b N7.out.1 HB)).1; clear HB HO N7)
                | (go_at_call 18; refine (HOne.out _).mono ?_; rintro e w7 ⟨O1, O2, O3, O4, rfl, HR, HB⟩; (first | (have T7 : Hid (Two w7 WC.heap.size (.slice none 0 0) (.slice none 0 0)) := (new_a HB).1) | (have T7 : Hid True := trivial)); have N7 : Hid (Below WC.heap.size WC w7 ∧ RdV w7 (.agg #[.slice O1 1 O2, .slice O3 1 O4]) [nm0] [x]) := ⟨by first | exact (new_a HB).2 | exact new_b HB, HR⟩; obtain ⟨⟨p4, p0, p1, p2, p3⟩, _⟩ := HT.out _ (HK.out _ N7.out.1).1; (first | (obtain ⟨s4, s0, s1, s2, s3⟩ := T7.out) | skip); have hq1 : w7.heap.size + 1 ≠ w.heap.size := (by omega); have hq2 : w7.heap.size ≠ w.heap.size := (by omega); have hq3 : w.heap.size ≠ w7.heap.size + 1 := (by omega); have hq4 : w.heap.size ≠ w7.heap.size := (by omega); clear HB HR))
              all_goals clear HO15 HO16 HSet HOne HO2
              all_goals (first
                | (have := MA; have HM0 : Hid (∃ q, q = WC.heap.size ∧ Fin4 WC.heap.size WC ((w8.setCell ⟨q, 0, none⟩ (.slice D1 LC D2)).setCell ⟨q, 1, none⟩ (.slice D3 LC D4)) q (.slice D1 LC D2) (.slice D3 LC D4) RC) := ⟨_, rfl, MA.out⟩; have HM : Hid (Fin4 WC.heap.size WC ((w8.setCell ⟨WC.heap.size, 0, none⟩ (.slice D1 LC D2)).setCell ⟨WC.heap.size, 1, none⟩ (.slice D3 LC D4)) WC.heap.size (.slice D1 LC D2) (.slice D3 LC D4) RC) := MA.out; generalize ((w8.setCell ⟨WC.heap.size, 0, none⟩ (.slice D1 LC D2)).setCell ⟨WC.heap.size, 1, none⟩ (.slice D3 LC D4)) = w9 at *; generalize hB : WC.heap.size = q at *; clear HM0)
                | (have HM : Hid (Fin4 WC.heap.size WC ((w8.setCell ⟨w7.heap.size, 0, none⟩ (.slice D1 LC D2)).setCell ⟨w7.heap.size, 1, none⟩ (.slice D3 LC D4)) w7.heap.size (.slice D1 LC D2) (.slice D3 LC D4) RC) := MB.out; generalize ((w8.setCell ⟨w7.heap.size, 0, none⟩ (.slice D1 LC D2)).setCell ⟨w7.heap.size, 1, none⟩ (.slice D3 LC D4)) = w9 at *; generalize w7.heap.size = q at *)
                | (have HM : Hid (Fin4 WC.heap.size WC ((w8.setCell ⟨w7.heap.size + 1, 0, none⟩ (.slice D1 LC D2)).setCell ⟨w7.heap.size + 1, 1, none⟩ (.slice D3 LC D4)) (w7.heap.size + 1) (.slice D1 LC D2) (.slice D3 LC D4) RC) := MC.out; generalize ((w8.setCell ⟨w7.heap.size + 1, 0, none⟩ (.slice D1 LC D2)).setCell ⟨w7.heap.size + 1, 1, none⟩ (.slice D3 LC D4)) = w9 at *; generalize w7.heap.size + 1 = q at *)
                | (have HM : Hid (Fin4 WC.heap.size WC (w8.alloc (.cells #[.slice D1 LC D2, .slice D3 LC D4] 25)) w8.heap.size (.slice D1 LC D2) (.slice D3 LC D4) RC) := MD.out; generalize w8.alloc (.cells #[.slice D1 LC D2, .slice D3 LC D4] 25) = w9 at *; generalize w8.heap.size = q at *))
              all_goals
                (have HB9 : Hid (Below W0.heap.size W0 w9) := (HK.out _ HM.out.1).1
                 have HAll : Hid (∀ w', Below w9.heap.size w9 w' → (Two w' w4.heap.size (.slice A1 LA A2) (.slice A3 LA A4) ∧ Two w' w5.heap.size (.slice B1 LA B2) (.slice B3 LA B4) ∧ Two w' w6.heap.size (.slice C1 LC C2) (.slice C3 LC C4) ∧ Two w' q (.slice D1 LC D2) (.slice D3 LC D4))) := fun w' hb => ⟨(HK.out _ HM.out.1).2.1.1.below hb, (HK.out _ HM.out.1).2.2.1.1.below hb, (HK.out _ HM.out.1).2.2.2.1.below hb, HM.out.2.1.below hb⟩
                 have HRA : Hid (∀ w', Below w9.heap.size w9 w' → RdV w' (.agg #[.slice A1 LA A2, .slice A3 LA A4]) (nmsOf RA) (valsOf RA) ∧ RdV w' (.agg #[.slice B1 LA B2, .slice B3 LA B4]) (nmsOf RA) (valsOf RA) ∧ RdV w' (.agg #[.slice C1 LC C2, .slice C3 LC C4]) (nmsOf RC) (valsOf RC) ∧ RdV w' (.agg #[.slice D1 LC D2, .slice D3 LC D4]) (nmsOf RC) (valsOf RC)) := fun w' hb => ⟨(HK.out _ HM.out.1).2.1.2.below hb, (HK.out _ HM.out.1).2.2.1.2.below hb, (HK.out _ HM.out.1).2.2.2.2.below hb, HM.out.2.2.below hb⟩
                 have HB99 : Hid (Below w9.heap.size w9 w9) := Below.refl _ _
                 have HBB : Hid (∀ w', Below w9.heap.size w9 w' → Below W0.heap.size W0 w') := fun w' hb => HB9.out.trans (hb.mono HB9.out.size)
                 obtain ⟨⟨p4, p0, p1, p2, p3⟩, ⟨q4, q0, q1, q2, q3⟩, ⟨r4, r0, r1, r2, r3⟩, _⟩ := HT.out _ HB9.out
                 clear HK HM
                 go_wp2_with (first
                   | (go_at_call 9; have := P6; refine (HWk.out _).mono ?_; rintro e wf ⟨rfl, HB⟩; have ZF : Hid (Below W0.heap.size W0 wf) := P6.out.trans (HB.mono P6.out.size); clear HB P6)
                   | (go_at_call 11; have := P5; refine (HC11.out _ P5.out).mono ?_; rintro e wc ⟨rfl, HB⟩; have P6 : Hid (Below W0.heap.size W0 wc) := P5.out.trans (HB.mono P5.out.size); obtain ⟨⟨p4, p0, p1, p2, p3⟩, ⟨q4, q0, q1, q2, q3⟩, ⟨r4, r0, r1, r2, r3⟩, _⟩ := HT.out _ P6.out; clear HB P5)
                   | (go_at_call 13; have := P4; refine (HS.out _ _ _ RD P4.out.2.1.2 P4.out.2.2.2).mono ?_; rintro e wr3 ⟨rfl, HB⟩; have P5 : Hid (Below W0.heap.size W0 wr3) := HBB.out _ (P4.out.1.trans (HB.mono P4.out.1.size)); obtain ⟨⟨p4, p0, p1, p2, p3⟩, ⟨q4, q0, q1, q2, q3⟩, ⟨r4, r0, r1, r2, r3⟩, _⟩ := HT.out _ P5.out; clear HB P4)
                   | (go_at_call 13; have := P3; refine (HS.out _ _ _ RC (HRA.out _ P3.out.1).2.2.1 (HRA.out _ P3.out.1).2.2.2).mono ?_; rintro e wr2 ⟨rfl, HB⟩; have P4 : Hid (Below w9.heap.size w9 wr2 ∧ (Two wr2 wp.heap.size (.slice E1 LD E2) (.slice E3 LD E4) ∧ RdV wr2 (.agg #[.slice E1 LD E2, .slice E3 LD E4]) (nmsOf RD) (valsOf RD)) ∧ Two wr2 wq.heap.size (.slice F1 LD F2) (.slice F3 LD F4) ∧ RdV wr2 (.agg #[.slice F1 LD F2, .slice F3 LD F4]) (nmsOf RD) (valsOf RD)) := ⟨P3.out.1.trans (HB.mono P3.out.1.size), P3.out.2.2 _ HB⟩; obtain ⟨⟨i4, i0, i1, i2, i3⟩, _⟩ := P4.out.2.1; obtain ⟨⟨j4, j0, j1, j2, j3⟩, _⟩ := P4.out.2.2; obtain ⟨⟨p4, p0, p1, p2, p3⟩, ⟨q4, q0, q1, q2, q3⟩, ⟨r4, r0, r1, r2, r3⟩, _⟩ := HT.out _ (HBB.out _ P4.out.1); obtain ⟨⟨x4, x0, x1, x2, x3⟩, ⟨y4, y0, y1, y2, y3⟩, ⟨z4, z0, z1, z2, z3⟩, ⟨v4, v0, v1, v2, v3⟩⟩ := HAll.out _ P4.out.1; clear HB P3)
                   | (go_at_call 13; have := P2; refine (HS.out _ _ _ RA (HRA.out _ P2.out.1).1 (HRA.out _ P2.out.1).2.1).mono ?_; rintro e wr1 ⟨rfl, HB⟩; have P3 : Hid (Below w9.heap.size w9 wr1 ∧ Below (wq.alloc (.cells #[.slice F1 LD F2, .slice F3 LD F4] 25)).heap.size (wq.alloc (.cells #[.slice F1 LD F2, .slice F3 LD F4] 25)) wr1 ∧ ∀ w', Below wr1.heap.size wr1 w' → (Two w' wp.heap.size (.slice E1 LD E2) (.slice E3 LD E4) ∧ RdV w' (.agg #[.slice E1 LD E2, .slice E3 LD E4]) (nmsOf RD) (valsOf RD)) ∧ Two w' wq.heap.size (.slice F1 LD F2) (.slice F3 LD F4) ∧ RdV w' (.agg #[.slice F1 LD F2, .slice F3 LD F4]) (nmsOf RD) (valsOf RD)) := ⟨P2.out.1.trans (HB.mono P2.out.1.size), HB, fun w' hb => P2.out.2 _ (HB.trans (hb.mono HB.size))⟩; obtain ⟨⟨⟨i4, i0, i1, i2, i3⟩, _⟩, ⟨j4, j0, j1, j2, j3⟩, _⟩ := P3.out.2.2 _ (Below.refl _ _); obtain ⟨⟨p4, p0, p1, p2, p3⟩, ⟨q4, q0, q1, q2, q3⟩, ⟨r4, r0, r1, r2, r3⟩, _⟩ := HT.out _ (HBB.out _ P3.out.1); obtain ⟨⟨x4, x0, x1, x2, x3⟩, ⟨y4, y0, y1, y2, y3⟩, ⟨z4, z0, z1, z2, z3⟩, ⟨v4, v0, v1, v2, v3⟩⟩ := HAll.out _ P3.out.1; clear HB P2)
                   | (go_at_call 20; have := P1; refine (HD20.out _ (HBB.out _ P1.out.1)).mono ?_; rintro e wq ⟨F1, F2, F3, F4, rfl, HR, HB⟩; have P2 : Hid (Below w9.heap.size w9 (wq.alloc (.cells #[.slice F1 LD F2, .slice F3 LD F4] 25)) ∧ (∀ w', Below (wq.alloc (.cells #[.slice F1 LD F2, .slice F3 LD F4] 25)).heap.size (wq.alloc (.cells #[.slice F1 LD F2, .slice F3 LD F4] 25)) w' → (Two w' wp.heap.size (.slice E1 LD E2) (.slice E3 LD E4) ∧ RdV w' (.agg #[.slice E1 LD E2, .slice E3 LD E4]) (nmsOf RD) (valsOf RD)) ∧ Two w' wq.heap.size (.slice F1 LD F2) (.slice F3 LD F4) ∧ RdV w' (.agg #[.slice F1 LD F2, .slice F3 LD F4]) (nmsOf RD) (valsOf RD))) := ⟨below_alloc (P1.out.1.trans (HB.mono P1.out.1.size)) (Nat.le_refl _) _, fun w' hb => ⟨⟨((P1.out.2.1.below HB).alloc _).below hb, ((P1.out.2.2.below HB).below ((Below.refl _ _).alloc (Nat.le_refl _) _)).below hb⟩, (Two.new wq _ _ 25).below hb, (HR.below ((Below.refl _ _).alloc (Nat.le_refl _) _)).below hb⟩⟩; obtain ⟨⟨⟨i4, i0, i1, i2, i3⟩, _⟩, ⟨j4, j0, j1, j2, j3⟩, _⟩ := P2.out.2 _ (Below.refl _ _); obtain ⟨⟨p4, p0, p1, p2, p3⟩, ⟨q4, q0, q1, q2, q3⟩, ⟨r4, r0, r1, r2, r3⟩, _⟩ := HT.out _ (HBB.out _ (P1.out.1.trans (HB.mono P1.out.1.size))); obtain ⟨⟨x4, x0, x1, x2, x3⟩, ⟨y4, y0, y1, y2, y3⟩, ⟨z4, z0, z1, z2, z3⟩, ⟨v4, v0, v1, v2, v3⟩⟩ := HAll.out _ (P1.out.1.trans (HB.mono P1.out.1.size)); clear HB HR P1)
                   | (go_at_call 19; have := HB99; refine (HD19.out _ HB9.out).mono ?_; rintro e wp ⟨E1, E2, E3, E4, rfl, HR, HB⟩; have P1 : Hid (Below w9.heap.size w9 (wp.alloc (.cells #[.slice E1 LD E2, .slice E3 LD E4] 25)) ∧ Two (wp.alloc (.cells #[.slice E1 LD E2, .slice E3 LD E4] 25)) wp.heap.size (.slice E1 LD E2) (.slice E3 LD E4) ∧ RdV (wp.alloc (.cells #[.slice E1 LD E2, .slice E3 LD E4] 25)) (.agg #[.slice E1 LD E2, .slice E3 LD E4]) (nmsOf RD) (valsOf RD)) := ⟨below_alloc HB (Nat.le_refl _) _, Two.new wp _ _ 25, HR.below ((Below.refl _ _).alloc (Nat.le_refl _) _)⟩; obtain ⟨⟨p4, p0, p1, p2, p3⟩, ⟨q4, q0, q1, q2, q3⟩, ⟨r4, r0, r1, r2, r3⟩, _⟩ := HT.out _ (HBB.out _ HB); clear HB HR HB99))
                 go_ret
                 exact ⟨rfl, (HT.out _ ZF.out).2.2.2.1⟩)
        · clear hv hu ht hV hU hX hl1 hl2 hl3
          generalize hn1 : ns.length = n1 at *
          generalize hn2 : vs.length = n2 at *
          generalize hn3 : ms.length = n3 at *
          generalize hn4 : us.length = n4 at *
          generalize hn5 : ks.length = n5 at *
          generalize hn6 : ts.length = n6 at *
          go_enter Try.func4, Try.ntmps4
          go_wp2_with (first
            | (go_at_call 9; have := Z3; refine (HWk.out _).mono ?_; rintro e wf ⟨rfl, HB⟩; have ZF : Hid (Below W0.heap.size W0 wf) := Z3.out.trans (HB.mono Z3.out.size); clear HB Z3)
            | (go_at_call 8; have := Z2; refine (HL3.out _ Z2.out).mono ?_; rintro e w3 ⟨rfl, HB⟩; have Z3 : Hid (Below W0.heap.size W0 w3) := Z2.out.trans (HB.mono Z2.out.size); obtain ⟨⟨p4, p0, p1, p2, p3⟩, ⟨q4, q0, q1, q2, q3⟩, ⟨r4, r0, r1, r2, r3⟩, _⟩ := HT.out _ Z3.out; clear HB Z2)
            | (go_at_call 8; have := Z1; refine (HL2.out _ Z1.out).mono ?_; rintro e w2 ⟨rfl, HB⟩; have Z2 : Hid (Below W0.heap.size W0 w2) := Z1.out.trans (HB.mono Z1.out.size); obtain ⟨⟨p4, p0, p1, p2, p3⟩, ⟨q4, q0, q1, q2, q3⟩, ⟨r4, r0, r1, r2, r3⟩, _⟩ := HT.out _ Z2.out; clear HB Z1)
            | (go_at_call 8; rw [← hW0]; refine (HL1.out _ HBr.out).mono ?_; rintro e w1 ⟨rfl, HB⟩; have Z1 : Hid (Below W0.heap.size W0 w1) := HB; obtain ⟨⟨p4, p0, p1, p2, p3⟩, ⟨q4, q0, q1, q2, q3⟩, ⟨r4, r0, r1, r2, r3⟩, _⟩ := HT.out _ HB; clear HB))
          go_ret
          exact ⟨rfl, (HT.out _ ZF.out).2.2.2.1⟩
end Go.Proofs.Ytekhfepfaegpaaa

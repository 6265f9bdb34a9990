/-
  give: a variable has a number: the contract.
-/
import Derived.Test.YtekhfepfaegpaaaInsS
import Derived.Test.YtekhfepfaegpaaaInsI
import Derived.Deep.RegionWith
namespace Go.Proofs.Ytekhfepfaegpaaa
open Go.RowKit Pack
set_option linter.unusedVariables false

/-- Variables of the call's own, in a block of their own. -/
def Vr (w : World) (p : Nat) (l : VL) : Prop := ∃ sn sv, Two w p sn sv ∧ Ow w (p + 1) 9 sn (strsV (nmsOf l)) ∧ Ow w (p + 1) 2 sv (intsV (valsOf l))
theorem Vr.below {w w' : World} {p : Nat} {l : VL} (h : Vr w p l) (hb : Below w.heap.size w w') : Vr w' p l := by
  obtain ⟨sn, sv, h1, h2, h3⟩ := h
  exact ⟨sn, sv, h1.below hb, h2.below hb, h3.below hb⟩
theorem ow_apart {w : World} {b1 b2 : Nat} {v u : Value} {l m : List Value} (h1 : Ow w b1 9 v l) (h2 : Ow w b2 2 u m) : u.ownBlock = none ∨ u.ownBlock ≠ v.ownBlock := by
  rcases h2.2 with ⟨rfl, _⟩ | ⟨g, cap, cur, rfl, _, hg, _⟩
  · exact .inl rfl
  · refine .inr fun e => ?_
    rcases h1.2 with ⟨rfl, _⟩ | ⟨g', cap', cur', rfl, _, hg', _⟩
    · cases e
    · injection e with e
      have e : g = g' := e
      subst e
      rw [hg] at hg'
      injection hg' with h
      injection h with _ h _
      cases h
theorem ow_kept {w w' : World} {b2 : Nat} {u : Value} {m : List Value} {r : Option Nat} (h2 : Ow w b2 2 u m) (hg : w.grownBy w' r) (hr : u.ownBlock = none ∨ u.ownBlock ≠ r) : Ow w' b2 2 u m := by
  refine h2.kept fun k hk => hg.block k (World.ownsRow.lt h2 k hk).2 ?_
  rcases hr with h | h
  · rw [h] at hk; cases hk
  · rw [← hk]; exact h
theorem ow_kept9 {w w' : World} {b2 : Nat} {u : Value} {m : List Value} {r : Option Nat} (h2 : Ow w b2 9 u m) (hg : w.grownBy w' r) (hr : u.ownBlock = none ∨ u.ownBlock ≠ r) : Ow w' b2 9 u m := by
  refine h2.kept fun k hk => hg.block k (World.ownsRow.lt h2 k hk).2 ?_
  rcases hr with h | h
  · rw [h] at hk; cases hk
  · rw [← hk]; exact h
theorem apart_sym {v u : Value} (h : u.ownBlock = none ∨ u.ownBlock ≠ v.ownBlock) : v.ownBlock = none ∨ v.ownBlock ≠ u.ownBlock := by
  rcases h with h | h
  · by_cases e : v.ownBlock = none
    · exact .inl e
    · exact .inr fun e2 => e (e2.trans h)
  · exact .inr fun e => h e.symm
theorem two_kept {w w' : World} {p : Nat} {x y : Value} {r : Option Nat} (h : Two w p x y) (hg : w.grownBy w' r) (hr : r ≠ some p) : Two w' p x y := by
  have hb := hg.block p h.lt (fun e => hr e.symm)
  exact ⟨Nat.lt_of_lt_of_le h.lt hg.size, (World.cell?_of_block (a := ⟨p, 0, none⟩) hb).trans h.c0, (World.cell?_of_block (a := ⟨p, 1, none⟩) hb).trans h.c1, (World.frozen?_of_block (a := ⟨p, 0, none⟩) hb).trans h.f0, (World.frozen?_of_block (a := ⟨p, 1, none⟩) hb).trans h.f1⟩
theorem ow_block {w : World} {p : Nat} {t : TypeId} {v : Value} {l : List Value} (h : Ow w (p + 1) t v l) : v.ownBlock ≠ some p := fun e => by have := (World.ownsRow.lt h p e).1; omega
theorem ow_set {w : World} {p : Nat} {t : TypeId} {v : Value} {l : List Value} (h : Ow w (p + 1) t v l) (o : Nat) (u : Value) : Ow (w.setCell ⟨p, o, none⟩ u) (p + 1) t v l := ownsRow_setCell_below h (by show p < p + 1; omega) u
theorem two_set0 {w : World} {p : Nat} {x y : Value} (h : Two w p x y) (u : Value) : Two (w.setCell ⟨p, 0, none⟩ u) p u y := by
  refine ⟨by simpa [World.setCell] using h.lt, ?_, ?_, by rw [World.frozen?_setCell]; exact h.f0, by rw [World.frozen?_setCell]; exact h.f1⟩
  · exact World.cell?_setCell_same' w _ u (by rw [h.c0]; rfl)
  · exact (World.cell?_setCell_other w (a := ⟨p, 0, none⟩) (b := ⟨p, 1, none⟩) u (by simp)).trans h.c1
theorem two_set1 {w : World} {p : Nat} {x y : Value} (h : Two w p x y) (u : Value) : Two (w.setCell ⟨p, 1, none⟩ u) p x u := by
  refine ⟨by simpa [World.setCell] using h.lt, ?_, ?_, by rw [World.frozen?_setCell]; exact h.f0, by rw [World.frozen?_setCell]; exact h.f1⟩
  · exact (World.cell?_setCell_other w (a := ⟨p, 1, none⟩) (b := ⟨p, 0, none⟩) u (by simp)).trans h.c0
  · exact World.cell?_setCell_same' w _ u (by rw [h.c1]; rfl)

/-- What is neither the block p nor a row of texts or numbers stays. -/
def Keeps (p : Nat) (w w' : World) : Prop := ∀ k cur t fz, k ≠ p → w.heap[k]? = some (.cells cur t fz) → t ≠ 9 → t ≠ 2 → w'.heap[k]? = some (.cells cur t fz)
theorem Keeps.refl (p : Nat) (w : World) : Keeps p w w := fun _ _ _ _ _ h _ _ => h
theorem Keeps.trans {p : Nat} {a b c : World} (h1 : Keeps p a b) (h2 : Keeps p b c) : Keeps p a c := fun k cur t fz a1 a2 a3 a4 => h2 k cur t fz a1 (h1 k cur t fz a1 a2 a3 a4) a3 a4
theorem Keeps.of_below (p : Nat) {w w' : World} (h : Below w.heap.size w w') : Keeps p w w' := fun k cur t fz a1 a2 a3 a4 => (h.block k (Array.getElem?_eq_some_iff.1 a2).1).trans a2
theorem Keeps.of_grown (p : Nat) {w w' : World} {base : Nat} {e : TypeId} {v : Value} {l : List Value} (ho : Ow w base e v l) (he : e = 9 ∨ e = 2) (h : w.grownBy w' v.ownBlock) : Keeps p w w' := fun k cur t fz a1 a2 a3 a4 => by
  refine (h.block k (Array.getElem?_eq_some_iff.1 a2).1 fun e2 => ?_).trans a2
  rcases ho.2 with ⟨rfl, _⟩ | ⟨g, cap, c2, rfl, _, hg, _⟩
  · cases e2
  · injection e2 with e2
    have e2 : k = g := e2
    subst e2
    rw [a2] at hg
    injection hg with h1
    injection h1 with _ h2 _
    rcases he with rfl | rfl
    · exact a3 h2
    · exact a4 h2
theorem Keeps.set {p : Nat} {w w' : World} (h : Keeps p w w') (o : Nat) (u : Value) : Keeps p w (w'.setCell ⟨p, o, none⟩ u) := fun k cur t fz a1 a2 a3 a4 => (heap_setCell_other w' ⟨p, o, none⟩ k u a1).trans (h k cur t fz a1 a2 a3 a4)
set_option maxRecDepth 100000 in
set_option maxHeartbeats 2000000 in
theorem give_any (p : Nat) (l : VL) (nm0 : ByteArray) (x : Int) (w : World) (h : Vr w p l) (hs : Srt (nmsOf l)) (hl : l.length ≤ 100000) (hsz : nm0.size ≤ 281474976710656) :
    Calls Try.prog 35 #[.pointer (some ⟨p, 0, none⟩), .string nm0, .int .i64 x] w fun e w' => e = .returned (.tuple #[]) ∧ Vr w' p (putM l nm0 x) ∧ Below p w w' ∧ Keeps p w w' := by
  obtain ⟨sn, sv, ht, h9, h2⟩ := h
  have HT : Hid (Two w p sn sv) := ht
  have H9 : Hid (Ow w (p + 1) 9 sn (strsV (nmsOf l))) := h9
  have H2 : Hid (Ow w (p + 1) 2 sv (intsV (valsOf l))) := h2
  obtain ⟨a, c, hsn⟩ := (Rd.of_own h9).form
  obtain ⟨b, d, hsv⟩ := (Rd.of_own h2).form
  obtain ⟨_, hnc, hcm, _, _⟩ := (show Rd w (.slice a _ c) _ from hsn ▸ Rd.of_own h9).at
  obtain ⟨_, hnd, hdm, _, _⟩ := (show Rd w (.slice b _ d) _ from hsv ▸ Rd.of_own h2).at
  have HS : Hid (Calls Try.prog 37 #[sn, .string nm0] w fun e w2 => e = .returned (.tuple #[.int .i64 (pos (nmsOf l) nm0 : Nat), .bool (fnd (nmsOf l) nm0)]) ∧ Below w.heap.size w w2) := search_any _ _ nm0 w (Rd.of_own h9) hs (by rw [nmsOf_len]; omega)
  have hp1 : p + 1 ≤ w.heap.size := ht.lt
  have hpl := ht.lt
  obtain ⟨e0, e1, e2, e3, e4⟩ := ht
  clear h9 h2 hs
  rw [strsV_len, nmsOf_len] at *
  rw [intsV_len, valsOf_len] at *
  subst hsn hsv
  cases hf : fnd (nmsOf l) nm0 with
  | true =>
    have hK := fnd_lt hf
    rw [putM_found x hf]
    have HV : Hid (∀ w', Two w' p (.slice a l.length c) (.slice b l.length d) → Ow w' (p + 1) 9 (.slice a l.length c) (strsV (nmsOf l)) → Ow w' (p + 1) 2 (.slice b l.length d) ((intsV (valsOf l)).set (pos (nmsOf l) nm0) (.int .i64 x)) → Vr w' p (l.set (pos (nmsOf l) nm0) (nm0, x))) := fun w' a1 a2 a3 => by
      refine ⟨_, _, a1, ?_, ?_⟩
      · rw [nms_set x hf]; exact a2
      · rw [vals_set]
        have : intsV ((valsOf l).set (pos (nmsOf l) nm0) x) = (intsV (valsOf l)).set (pos (nmsOf l) nm0) (.int .i64 x) := by simp [intsV, List.map_set]
        rw [this]
        exact a3
    rw [hf] at HS
    have hb : ∃ g, b = some ⟨g, 0, none⟩ ∧ p + 1 ≤ g ∧ g < w.heap.size := by
      rcases H2.out.2 with ⟨e, _⟩ | ⟨g, cap, cur, e, hg1, hg2, _⟩
      · simp only [Value.slice.injEq] at e; omega
      · simp only [Value.slice.injEq] at e
        exact ⟨g, e.1, hg1, (Array.getElem?_eq_some_iff.1 hg2).1⟩
    obtain ⟨g, rfl, hg1, hg2⟩ := hb
    clear hf
    generalize pos (nmsOf l) nm0 = K at *
    generalize hL9 : strsV (nmsOf l) = L9 at *
    generalize hL2 : intsV (valsOf l) = L2 at *
    have hL2l : L2.length = l.length := by rw [← hL2, intsV_len, valsOf_len]
    have HC : Hid (∀ w', Below w.heap.size w w' → ∃ u, w'.cell? ⟨g, K, none⟩ = some u ∧ w'.frozen? ⟨g, K, none⟩ = false ∧ g < w'.heap.size) := fun w' hb => by
      obtain ⟨k1, k2, k3, k4, k5, _, k8, k9, k10⟩ := ow_cells (H2.out.below hb)
      obtain ⟨u, hu⟩ := Option.isSome_iff_exists.1 (k9 K (by omega))
      exact ⟨u, hu, k10 K, k5⟩
    have HE : Hid (∀ w', Below w.heap.size w w' → Vr (w'.setCell ⟨g, K, none⟩ (.int .i64 x)) p (l.set K (nm0, x)) ∧ Below p w (w'.setCell ⟨g, K, none⟩ (.int .i64 x)) ∧ Keeps p w (w'.setCell ⟨g, K, none⟩ (.int .i64 x))) := fun w' hb => by
      have o2 := H2.out.below hb
      have o9 := H9.out.below hb
      have hw2 : w'.ownsRow (p + 1) 2 1 (.slice (some ⟨g, 0, none⟩) l.length d) l.length L2 := by
        have := o2
        unfold Ow at this
        rwa [hL2l] at this
      obtain ⟨s1, s2⟩ := World.ownsRow.stored hw2 K (.int .i64 x)
      refine ⟨HV.out _ (two_kept (HT.out.below hb) s2 (by intro e; injection e; omega)) (ow_kept9 o9 s2 (apart_sym (u := .slice (some ⟨g, 0, none⟩) l.length d) (ow_apart o9 o2))) ?_, (hb.mono (by omega)).grown s2 (by have := hb.size; omega) (fun k hk => by injection hk; omega), (Keeps.of_below p hb).trans (Keeps.of_grown p o2 (.inr rfl) s2)⟩
      unfold Ow
      rw [List.length_set, hL2l]
      exact s1
    clear HV H9 H2 HT hL9 hL2 hL2l
    generalize l.length = N at *
    go_enter Try.func35, Try.ntmps35
    go_wp2_with (go_at_call 37; refine HS.out.mono ?_; rintro e w1 ⟨rfl, HB⟩; have HB1 : Hid (Below w.heap.size w w1) := HB; obtain ⟨u0, y0, y1, y2⟩ := HC.out _ HB; have z1 := (HB.cell (p := ⟨p, 1, none⟩) hpl).trans e2; clear HB)
    refine bodyPost_ret (results_none rfl _ _ _) rfl ?_
    exact ⟨rfl, HE.out _ HB1.out⟩
  | false =>
    rw [putM_new x hf]
    have HV : Hid (∀ w' sn' sv', Two w' p sn' sv' → Ow w' (p + 1) 9 sn' ((strsV (nmsOf l)).insertIdx (pos (nmsOf l) nm0) (.string nm0)) → Ow w' (p + 1) 2 sv' ((intsV (valsOf l)).insertIdx (pos (nmsOf l) nm0) (.int .i64 x)) → Vr w' p (l.insertIdx (pos (nmsOf l) nm0) (nm0, x))) := fun w' sn' sv' a1 a2 a3 => by
      refine ⟨_, _, a1, ?_, ?_⟩
      · have e : strsV (nmsOf (l.insertIdx (pos (nmsOf l) nm0) (nm0, x))) = (strsV (nmsOf l)).insertIdx (pos (nmsOf l) nm0) (.string nm0) := by unfold strsV nmsOf; rw [map_insertIdx, map_insertIdx]
        rw [e]; exact a2
      · have e : intsV (valsOf (l.insertIdx (pos (nmsOf l) nm0) (nm0, x))) = (intsV (valsOf l)).insertIdx (pos (nmsOf l) nm0) (.int .i64 x) := by unfold intsV valsOf; rw [map_insertIdx, map_insertIdx]
        rw [e]; exact a3
    have hKl : pos (nmsOf l) nm0 ≤ l.length := by have := pos_le (nmsOf l) nm0; rwa [nmsOf_len] at this
    have h1s : ∀ u ∈ strsV (nmsOf l), u.oneCell' = true := strsV_one
    have h1i : ∀ u ∈ intsV (valsOf l), u.oneCell' = true := intsV_one
    have hl9 : (strsV (nmsOf l)).length = l.length := by rw [strsV_len, nmsOf_len]
    have hl2 : (intsV (valsOf l)).length = l.length := by rw [intsV_len, valsOf_len]
    rw [hf] at HS
    clear hf
    generalize pos (nmsOf l) nm0 = K at *
    generalize strsV (nmsOf l) = L9 at *
    generalize intsV (valsOf l) = L2 at *
    have HC : Hid (∀ w, Calls Try.prog 33 #[.string nm0] w fun e w' => e = .returned (.string nm0) ∧ Below w.heap.size w w') := clone_any nm0 hsz
    have HI : Hid (∀ w', Below w.heap.size w w' → Calls Try.prog 53 #[.slice a l.length c, .int .i64 K, .slice (some ⟨w'.heap.size, 0, none⟩) 1 1] (w'.alloc (.cells #[.string nm0] 9)) fun e w3 => ∃ v', e = .returned v' ∧ Two w3 p (.slice a l.length c) (.slice b l.length d) ∧ (∃ a' n' c', v' = .slice a' n' c') ∧ Two (w3.setCell ⟨p, 0, none⟩ v') p v' (.slice b l.length d) ∧ Ow (w3.setCell ⟨p, 0, none⟩ v') (p + 1) 9 v' (L9.insertIdx K (.string nm0)) ∧ Ow (w3.setCell ⟨p, 0, none⟩ v') (p + 1) 2 (.slice b l.length d) L2 ∧ Below p w (w3.setCell ⟨p, 0, none⟩ v') ∧ Keeps p w (w3.setCell ⟨p, 0, none⟩ v')) := fun w' hb => by
      have o9 := (H9.out.below hb).alloc (.cells #[.string nm0] 9)
      have o2 := (H2.out.below hb).alloc (.cells #[.string nm0] 9)
      have hsb := hb.size
      refine (ins9_any (p + 1) w'.heap.size K _ L9 (.string nm0) _ h1s rfl o9 (by omega) (by omega) (fun e => ?_) (heap_alloc_new w' _) (by rw [size_alloc]; omega)).mono ?_
      · have := (World.ownsRow.lt (H9.out.below hb) _ e).2
        omega
      · rintro e w3 ⟨v', rfl, g1, g2⟩
        have t3 := two_kept ((HT.out.below hb).alloc (.cells #[.string nm0] 9)) g2 (ow_block o9)
        refine ⟨v', rfl, t3, ?_, two_set0 t3 v', ow_set g1 0 v', ow_set (ow_kept o2 g2 (ow_apart o9 o2)) 0 v', ?_, (((Keeps.of_below p hb).trans (Keeps.of_below p ((Below.refl _ _).alloc (Nat.le_refl _) _))).trans (Keeps.of_grown p o9 (.inl rfl) g2)).set 0 v'⟩
        · obtain ⟨a', c', e⟩ := (Rd.of_own g1).form
          exact ⟨_, _, _, e⟩
        · exact Below.setCell (B := p) (below_row (B := p) (Below.alloc (B := p) (hb.mono (by omega)) (by omega) _) (by rw [size_alloc]; omega) o9 (by omega) g2) (p := ⟨p, 0, none⟩) (Nat.le_refl _) _
    have HI2 : Hid (∀ w4 v', Two w4 p v' (.slice b l.length d) → Ow w4 (p + 1) 9 v' (L9.insertIdx K (.string nm0)) → Ow w4 (p + 1) 2 (.slice b l.length d) L2 → Below p w w4 → Keeps p w w4 → Calls Try.prog 54 #[.slice b l.length d, .int .i64 K, .slice (some ⟨w4.heap.size, 0, none⟩) 1 1] (w4.alloc (.cells #[.int .i64 x] 2)) fun e w5 => ∃ v2, e = .returned v2 ∧ Two w5 p v' (.slice b l.length d) ∧ (∃ a' n' c', v2 = .slice a' n' c') ∧ Vr (w5.setCell ⟨p, 1, none⟩ v2) p (l.insertIdx K (nm0, x)) ∧ Below p w (w5.setCell ⟨p, 1, none⟩ v2) ∧ Keeps p w (w5.setCell ⟨p, 1, none⟩ v2)) := fun w4 v' t4 q9 q2 hb hkp => by
      have o9 := q9.alloc (.cells #[.int .i64 x] 2)
      have o2 := q2.alloc (.cells #[.int .i64 x] 2)
      have hsb := hb.size
      refine (ins2_any (p + 1) w4.heap.size K _ L2 (.int .i64 x) _ h1i rfl o2 (by omega) (by omega) (fun e => ?_) (heap_alloc_new w4 _) (by rw [size_alloc]; omega)).mono ?_
      · have := (World.ownsRow.lt q2 _ e).2
        omega
      · rintro e w5 ⟨v2, rfl, g1, g2⟩
        have t5 := two_kept (t4.alloc (.cells #[.int .i64 x] 2)) g2 (ow_block o2)
        refine ⟨v2, rfl, t5, ?_, HV.out _ _ _ (two_set1 t5 v2) (ow_set (ow_kept9 o9 g2 (apart_sym (ow_apart o9 o2))) 1 v2) (ow_set g1 1 v2), ?_, ((hkp.trans (Keeps.of_below p ((Below.refl _ _).alloc (Nat.le_refl _) _))).trans (Keeps.of_grown p o2 (.inr rfl) g2)).set 1 v2⟩
        · obtain ⟨a', c', e⟩ := (Rd.of_own g1).form
          exact ⟨_, _, _, e⟩
        · exact Below.setCell (below_row (hb.alloc (by omega) _) (by rw [size_alloc]; omega) o2 (by omega) g2) (p := ⟨p, 1, none⟩) (Nat.le_refl _) _
    have HT2 : Hid (∀ w', Below w.heap.size w w' → Two w' p (.slice a l.length c) (.slice b l.length d)) := fun w' hb => HT.out.below hb
    clear HV H9 H2 HT h1s h1i hl9 hl2
    generalize l.length = N at *
    go_enter Try.func35, Try.ntmps35
    go_wp2_with (go_at_call 37; refine HS.out.mono ?_; rintro e w1 ⟨rfl, HB⟩; have HB1 : Hid (Below w.heap.size w w1) := HB; obtain ⟨y4, y0, y1, y2, y3⟩ := HT2.out _ HB; clear HB)
    have HB0 : Hid (Below w.heap.size w w1.drew) := Below.drew HB1.out
    clear e1 e2 e3 e4
    go_region_with (first
      | (go_at_call 53; have := HB2; refine (HI.out _ HB2.out).mono ?_; rintro e w3 ⟨v', rfl, ⟨y4, y0, y1, y2, y3⟩, ⟨a', n', c', rfl⟩, t4, r1, r2, r3⟩; have HZ : Hid (Two (w3.setCell ⟨p, 0, none⟩ (.slice a' n' c')) p (.slice a' n' c') (.slice b N d) ∧ Ow (w3.setCell ⟨p, 0, none⟩ (.slice a' n' c')) (p + 1) 9 (.slice a' n' c') (L9.insertIdx K (.string nm0)) ∧ Ow (w3.setCell ⟨p, 0, none⟩ (.slice a' n' c')) (p + 1) 2 (.slice b N d) L2 ∧ Below p w (w3.setCell ⟨p, 0, none⟩ (.slice a' n' c')) ∧ Keeps p w (w3.setCell ⟨p, 0, none⟩ (.slice a' n' c'))) := ⟨t4, r1, r2, r3⟩; clear t4 r1 r2 r3)
      | (go_at_call 33; refine (HC.out _).mono ?_; rintro e w2 ⟨rfl, HB⟩; have HB2 : Hid (Below w.heap.size w w2) := HB0.out.trans (HB.mono HB0.out.size); obtain ⟨y4, y0, y1, y2, y3⟩ := HT2.out _ HB2.out; clear HB))
    all_goals
      (generalize w3.setCell ⟨p, 0, none⟩ (.slice a' n' c') = w4 at *
       obtain ⟨x4, x0, x1, x2, x3⟩ := HZ.out.1
       clear y0 y1 y2 y3 y4
       go_wp2_with (go_at_call 54; refine (HI2.out _ _ HZ.out.1 HZ.out.2.1 HZ.out.2.2.1 HZ.out.2.2.2.1 HZ.out.2.2.2.2).mono ?_; rintro e w5 ⟨v2, rfl, ⟨y4, y0, y1, y2, y3⟩, ⟨a2, n2, c2, rfl⟩, r1, r2⟩; have HY : Hid (Vr (w5.setCell ⟨p, 1, none⟩ (.slice a2 n2 c2)) p (l.insertIdx K (nm0, x)) ∧ Below p w (w5.setCell ⟨p, 1, none⟩ (.slice a2 n2 c2)) ∧ Keeps p w (w5.setCell ⟨p, 1, none⟩ (.slice a2 n2 c2))) := ⟨r1, r2⟩; clear r1 r2)
       go_end0
       exact ⟨rfl, HY.out⟩)
end Go.Proofs.Ytekhfepfaegpaaa

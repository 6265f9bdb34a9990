/-
  Copy: the contract.
-/
import Derived.Test.YtekhfepfaegpaaaSet
namespace Go.Proofs.Ytekhfepfaegpaaa
open Go.RowKit Pack
set_option linter.unusedVariables false

theorem make22 (N : Nat) (hN : N ≤ 1000000) : ∃ CS : Array Value, CS.size = N ∧ ∀ W : World, (Instr.makeSlice 22 (.int .i64 N) (.int .i64 N)).run Try.prog W = .ok (.slice (some ⟨W.heap.size, 0, none⟩) N N) (W.alloc (.cells CS 9)) := by
  obtain ⟨i, hi, hz, hs, hb⟩ := info_parts Try.info9
  refine ⟨madeCells (Value.string ⟨#[]⟩).cells N, size_madeCells _ _, fun W => ?_⟩
  have h := run_make W 22 9 i _ Try.underlying22 hi hz .i64 .i64 N N (by omega) (Int.le_refl _) (by rw [hb]; omega) (by omega)
  rw [hs] at h
  simpa using h
theorem row_full {L : List Value} {ns : List ByteArray} (h1 : L.length = ns.length) (h : ∀ t, t < ns.length → L[t]? = some (.string (ns.getD t emp))) : L = strsV ns := by
  apply List.ext_getElem?
  intro t
  by_cases ht : t < ns.length
  · rw [h t ht, strsV_at ht]
  · rw [List.getElem?_eq_none (by omega), List.getElem?_eq_none (by rw [strsV_len]; omega)]
set_option maxRecDepth 100000 in
set_option maxHeartbeats 1000000 in
theorem Copy_any (ns : List ByteArray) (vs : List Int) (v : Value) (w : World) (hv : RdV w v ns vs) (hs : ∀ m ∈ ns, m.size ≤ 281474976710656) (hl : ns.length ≤ 1000000) (hl2 : vs.length ≤ 1000000) : Calls Try.prog 14 #[v] w fun e w' => ∃ r, e = .returned r ∧ RdV w' r ns vs ∧ Below w.heap.size w w' := by
  obtain ⟨sn, sv, rfl, h1, h2⟩ := hv
  have h2' := h2
  obtain ⟨a, c, rfl⟩ := h1.form
  obtain ⟨b, d, rfl⟩ := h2.form
  obtain ⟨_, hnc, hcm, _, hcell⟩ := h1.at
  rw [strsV_len] at *
  rw [intsV_len] at *
  have HC : Hid (∀ i, i < ns.length → ∃ g off, a = some ⟨g, off, none⟩ ∧ g < w.heap.size ∧ w.cell? ⟨g, off + i, none⟩ = some (.string (ns.getD i emp)) ∧ (ns.getD i emp).size ≤ 281474976710656) := fun i hi => by
    obtain ⟨g, off, q1, q2, q3⟩ := hcell i _ (strsV_at hi)
    exact ⟨g, off, q1, q2, q3, hs _ (getD_mem hi)⟩
  have HV : Hid (∀ w', Below w.heap.size w w' → Calls Try.prog 34 #[.slice b vs.length d] w' fun e w2 => ∃ v', e = .returned v' ∧ Ow w2 w'.heap.size 2 v' (intsV vs) ∧ Below w'.heap.size w' w2) := fun w' hb => cloneI_any vs _ w' (h2'.below hb) hl2
  obtain ⟨CS, hCS, hmk⟩ := make22 ns.length hl
  obtain ⟨W, hW⟩ : ∃ W, W = ((w.alloc (.cells #[.slice a ns.length c, .slice b vs.length d] 25)).alloc (.cells #[.slice none 0 0, .slice none 0 0] 25)).alloc (.cells CS 9) := ⟨_, rfl⟩
  have HW : Hid (Below w.heap.size w W ∧ Two W w.heap.size (.slice a ns.length c) (.slice b vs.length d) ∧ Two W (w.heap.size + 1) (.slice none 0 0) (.slice none 0 0) ∧ Ow W (w.heap.size + 1 + 1) 9 (.slice (some ⟨w.heap.size + 1 + 1, 0, none⟩) ns.length ns.length) CS.toList) := by
    refine ⟨by rw [hW]; exact below_alloc (below_alloc (below_alloc (Below.refl _ _) (Nat.le_refl _) _) (Nat.le_refl _) _) (Nat.le_refl _) _, by rw [hW]; exact ((Two.new w _ _ 25).alloc _).alloc _, ?_, ?_⟩
    · have h := (Two.new (w.alloc (.cells #[.slice a ns.length c, .slice b vs.length d] 25)) (.slice none 0 0) (.slice none 0 0) 25).alloc (.cells CS 9)
      rw [size_alloc] at h
      rw [hW]; exact h
    · have h := Ow.new ((w.alloc (.cells #[.slice a ns.length c, .slice b vs.length d] 25)).alloc (.cells #[.slice none 0 0, .slice none 0 0] 25)) 9 CS (w.heap.size + 1 + 1) (by simp only [size_alloc]; omega) (by omega)
      simp only [size_alloc] at h
      rw [hCS] at h
      rw [hW]; exact h
  have HF : Hid (∀ L, L.length = ns.length → (∀ t, t < ns.length → L[t]? = some (.string (ns.getD t emp))) → L = strsV ns) := fun L q1 q2 => row_full q1 q2
  have HCl : Hid (CS.toList.length = ns.length) := by show CS.toList.length = _; rw [Array.length_toList, hCS]
  clear h1 h2 h2' hcell hs hCS
  generalize hN : ns.length = N at *
  generalize vs.length = M at *
  go_enter Try.func14, Try.ntmps14
  go_wp2_with (simp only [hmk])
  rw [← hW]
  go_loopw [13] (fun s13 wr => ∃ i : Nat, i ≤ N ∧ s13 = .int .i64 i ∧ Hid (Below w.heap.size w wr ∧ Two wr w.heap.size (.slice a N c) (.slice b M d) ∧ Two wr (w.heap.size + 1) (.slice none 0 0) (.slice none 0 0) ∧ ∃ L, L.length = N ∧ Ow wr (w.heap.size + 1 + 1) 9 (.slice (some ⟨w.heap.size + 1 + 1, 0, none⟩) N N) L ∧ ∀ t, t < i → L[t]? = some (.string (ns.getD t emp)))) (fun s13 _ => N - (intOf s13).toNat)
  case atStart => exact ⟨0, Nat.zero_le _, rfl, HW.out.1, HW.out.2.1, HW.out.2.2.1, _, HCl.out, HW.out.2.2.2, fun t ht => by omega⟩
  case round =>
    obtain ⟨i, hi, rfl, HR⟩ := hrel
    by_cases hlt : i < N
    · obtain ⟨g, off, rfl, hg, hc, hsz⟩ := HC.out i hlt
      have f1 := (HR.out.1.cell (p := ⟨g, off + i, none⟩) hg).trans hc
      have HK : Hid (∀ w, Calls Try.prog 33 #[.string (ns.getD i emp)] w fun e w' => e = .returned (.string (ns.getD i emp)) ∧ Below w.heap.size w w') := clone_any _ hsz
      have HS : Hid (∀ w2, Below wr.heap.size wr w2 → (∃ u, w2.cell? ⟨w.heap.size + 1 + 1, i, none⟩ = some u) ∧ w2.frozen? ⟨w.heap.size + 1 + 1, i, none⟩ = false ∧ w.heap.size + 1 + 1 < w2.heap.size ∧ (Below w.heap.size w (w2.setCell ⟨w.heap.size + 1 + 1, i, none⟩ (.string (ns.getD i emp))) ∧ Two (w2.setCell ⟨w.heap.size + 1 + 1, i, none⟩ (.string (ns.getD i emp))) w.heap.size (.slice (some ⟨g, off, none⟩) N c) (.slice b M d) ∧ Two (w2.setCell ⟨w.heap.size + 1 + 1, i, none⟩ (.string (ns.getD i emp))) (w.heap.size + 1) (.slice none 0 0) (.slice none 0 0) ∧ ∃ L, L.length = N ∧ Ow (w2.setCell ⟨w.heap.size + 1 + 1, i, none⟩ (.string (ns.getD i emp))) (w.heap.size + 1 + 1) 9 (.slice (some ⟨w.heap.size + 1 + 1, 0, none⟩) N N) L ∧ ∀ t, t < i + 1 → L[t]? = some (.string (ns.getD t emp)))) := fun w2 hb => by
        obtain ⟨q1, q2, q3, L, q4, q5, q6⟩ := HR.out
        have o := q5.below hb
        obtain ⟨k1, k2, k3, k4, k5, _, k8, k9, k10⟩ := ow_cells o
        have ow2 : w2.ownsRow (w.heap.size + 1 + 1) 9 1 (.slice (some ⟨w.heap.size + 1 + 1, 0, none⟩) N N) N L := by
          have := o
          unfold Ow at this
          rwa [q4] at this
        obtain ⟨s1, s2⟩ := World.ownsRow.stored ow2 i (.string (ns.getD i emp))
        refine ⟨Option.isSome_iff_exists.1 (k9 i hlt), k10 i, k5, (q1.trans (hb.mono q1.size)).setCell (p := ⟨w.heap.size + 1 + 1, i, none⟩) (by show w.heap.size ≤ w.heap.size + 1 + 1; omega) _, two_kept (q2.below hb) s2 (by intro e; injection e; omega), two_kept (q3.below hb) s2 (by intro e; injection e; omega), L.set i (.string (ns.getD i emp)), by rw [List.length_set]; exact q4, ?_, fun t ht => ?_⟩
        · unfold Ow; rw [List.length_set, q4]; exact s1
        · rw [List.getElem?_set]
          by_cases e : i = t
          · subst e; rw [if_pos rfl, if_pos (by omega)]
          · rw [if_neg e]; exact q6 t (by omega)
      clear HC hc HR HW
      generalize ns.getD i emp = y at *
      go_wp2_with (go_at_call 33; refine (HK.out _).mono ?_; rintro e w2 ⟨rfl, HB⟩; obtain ⟨⟨u, y0⟩, y1, y2, _⟩ := HS.out _ HB; have HB2 : Hid (Below wr.heap.size wr w2) := HB; clear HB)
      go_roundw
      case rel => exact ⟨i + 1, by omega, by go_num, (HS.out _ HB2.out).2.2.2⟩
      case measure => simp [intOf]; omega
    · have e : i = N := by omega
      have e' : N = i := e.symm
      clear e
      subst e'
      obtain ⟨q1, q2, q3, L, q4, q5, q6⟩ := HR.out
      have hLs := HF.out L q4 q6
      subst hLs
      have HT : Hid (∀ w2, Below wr.heap.size wr w2 → Two w2 (w.heap.size + 1) (.slice none 0 0) (.slice none 0 0) ∧ Below w.heap.size w w2 ∧ Ow w2 (w.heap.size + 1 + 1) 9 (.slice (some ⟨w.heap.size + 1 + 1, 0, none⟩) N N) (strsV ns)) := fun w2 hb => ⟨q3.below hb, q1.trans (hb.mono q1.size), q5.below hb⟩
      have HQ1 : Hid (Below w.heap.size w wr) := q1
      obtain ⟨p4, p0, p1, p2, p3⟩ := q2
      have hsz1 : w.heap.size + 1 + 1 ≤ wr.heap.size := q3.lt
      clear q1 q3 q5 q6 HR HC HF HW
      go_wp2_with (go_at_call 34; refine (HV.out _ HQ1.out).mono ?_; rintro e w2 ⟨v', rfl, o2, HB⟩; obtain ⟨a5, c5, rfl⟩ := (Rd.of_own o2).form; obtain ⟨⟨t4, t0, t1, t2, t3⟩, _, _⟩ := HT.out _ HB; have HO2 : Hid (Ow w2 wr.heap.size 2 (.slice a5 _ c5) (intsV vs) ∧ Below wr.heap.size wr w2) := ⟨o2, HB⟩; clear HB o2)
      have HE : Hid (RdV ((w2.setCell ⟨w.heap.size + 1, 0, none⟩ (.slice (some ⟨w.heap.size + 1 + 1, 0, none⟩) N N)).setCell ⟨w.heap.size + 1, 1, none⟩ (.slice a5 (intsV vs).length c5)) (.agg #[.slice (some ⟨w.heap.size + 1 + 1, 0, none⟩) N N, .slice a5 (intsV vs).length c5]) ns vs ∧ Below w.heap.size w ((w2.setCell ⟨w.heap.size + 1, 0, none⟩ (.slice (some ⟨w.heap.size + 1 + 1, 0, none⟩) N N)).setCell ⟨w.heap.size + 1, 1, none⟩ (.slice a5 (intsV vs).length c5))) := by
        obtain ⟨_, z2, z3⟩ := HT.out _ HO2.out.2
        refine ⟨⟨_, _, rfl, Rd.of_own (ownsRow_setCell_below (a := ⟨w.heap.size + 1, 1, none⟩) (ownsRow_setCell_below (a := ⟨w.heap.size + 1, 0, none⟩) z3 (Nat.lt_succ_self _) _) (Nat.lt_succ_self _) _), Rd.of_own (ownsRow_setCell_below (a := ⟨w.heap.size + 1, 1, none⟩) (ownsRow_setCell_below (a := ⟨w.heap.size + 1, 0, none⟩) HO2.out.1 (by show w.heap.size + 1 < _; omega) _) (by show w.heap.size + 1 < _; omega) _)⟩, (z2.setCell (p := ⟨w.heap.size + 1, 0, none⟩) (Nat.le_succ _) _).setCell (p := ⟨w.heap.size + 1, 1, none⟩) (Nat.le_succ _) _⟩
      refine bodyPost_ret (v := .agg #[.slice (some ⟨w.heap.size + 1 + 1, 0, none⟩) N N, .slice a5 (intsV vs).length c5]) (by simp [results, Try.results14, go_sem, t0, t1]) rfl ?_
      exact ⟨_, rfl, HE.out⟩
end Go.Proofs.Ytekhfepfaegpaaa

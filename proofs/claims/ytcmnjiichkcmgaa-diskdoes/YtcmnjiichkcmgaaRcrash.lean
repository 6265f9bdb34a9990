/-
  The document's Crash: a contract.
-/
import Derived.Test.YtcmnjiichkcmgaaRacts2
namespace Go.Proofs.Ytcmnjiichkcmgaa
open Go.RowKit Go.Maps Go.Sort
set_option linter.unusedVariables false
variable {fp : Nat → Prop}

/-- How many loose bytes a crash keeps. -/
def keptOf (zs : List Int) (i ll : Nat) : Nat := min (zs.getD i 0).toNat ll
def leftL (zs : List Int) (f : Fl) (i : Nat) : Row := f.firm ++ f.loose.take (keptOf zs i f.loose.length)
def crashL (zs : List Int) : List Fl → Nat → List Fl
  | [], _ => []
  | f :: r, i => (if leftL zs f i = [] then [] else [⟨f.name, leftL zs f i, []⟩]) ++ crashL zs r (i + 1)
theorem crashL_len (zs : List Int) : ∀ (fs : List Fl) (i : Nat), (crashL zs fs i).length ≤ fs.length
  | [], _ => by simp [crashL]
  | f :: r, i => by have := crashL_len zs r (i + 1); unfold crashL; split <;> simp <;> omega

theorem alloc_then {w w1 : World} {a b c : Value} (h : Below (w.alloc (.cells #[a, b, c] 58)).drew.heap.size (w.alloc (.cells #[a, b, c] 58)).drew w1) :
    Below w.heap.size w w1 ∧ w1.cell? ⟨w.heap.size, 0, none⟩ = some a ∧ w1.cell? ⟨w.heap.size, 1, none⟩ = some b ∧ w1.cell? ⟨w.heap.size, 2, none⟩ = some c ∧ w1.frozen? ⟨w.heap.size, 0, none⟩ = false ∧ w1.frozen? ⟨w.heap.size, 1, none⟩ = false ∧ w1.frozen? ⟨w.heap.size, 2, none⟩ = false := by
  have hlt : w.heap.size < (w.alloc (.cells #[a, b, c] 58)).drew.heap.size := by
    show w.heap.size < (w.heap.push _).size
    rw [Array.size_push]; omega
  have hB : Below w.heap.size w w1 := ((Below.refl _ _).alloc (Nat.le_refl _) _).drew.trans (h.mono (by omega))
  have hh : w1.heap[w.heap.size]? = some (.cells #[a, b, c] 58 (0, 0)) := (h.block _ hlt).trans (heap_alloc_new w _)
  refine ⟨hB, ?_, ?_, ?_, ?_, ?_, ?_⟩
  · rw [cell_of_row w1 w.heap.size 0 _ 58 (0, 0) hh]; rfl
  · rw [cell_of_row w1 w.heap.size 1 _ 58 (0, 0) hh]; rfl
  · rw [cell_of_row w1 w.heap.size 2 _ 58 (0, 0) hh]; rfl
  · simp [World.frozen?, hh]
  · simp [World.frozen?, hh]
  · simp [World.frozen?, hh]

/-- The file that is left, laid into a block. -/
structure Laid (fp : Nat → Prop) (wr wS : World) (fb : Nat) (v : Value) (t : ByteArray) (ja : Option Addr) (JL jc : Nat) (R : Row) : Prop where
  c0 : wS.cell? ⟨fb, 0, none⟩ = some (.string t)
  c1 : wS.cell? ⟨fb, 1, none⟩ = some (.slice ja JL jc)
  c2 : wS.cell? ⟨fb, 2, none⟩ = some (.slice none 0 0)
  bel : Below wr.heap.size wr wS
  safe : Safe fp wS v (.slice ja JL jc) R
theorem laid_new {wr w1 : World} {v : Value} {t : ByteArray} {ja : Option Addr} {JL jc : Nat} {R : Row} (hs : ∀ wS : World, (∀ g, wr.drew.heap.size ≤ g → g < w1.heap.size → wS.heap[g]? = w1.heap[g]?) → Safe fp wS v (.slice ja JL jc) R) (hB : Below wr.drew.heap.size wr.drew w1) :
    Laid fp wr (w1.alloc (.cells #[.string t, .slice ja JL jc, .slice none 0 0] 58)) w1.heap.size v t ja JL jc R := by
  have hB1 : Below wr.heap.size wr w1 := (Below.refl _ _).drew.trans hB
  refine ⟨?_, ?_, ?_, hB1.alloc hB1.size _, hs _ (fun g _ hg => ?_)⟩
  · rw [cell_of_row _ w1.heap.size 0 _ 58 (0, 0) (heap_alloc_new w1 _)]; rfl
  · rw [cell_of_row _ w1.heap.size 1 _ 58 (0, 0) (heap_alloc_new w1 _)]; rfl
  · rw [cell_of_row _ w1.heap.size 2 _ 58 (0, 0) (heap_alloc_new w1 _)]; rfl
  · exact ((Below.refl w1.heap.size w1).alloc (Nat.le_refl _) _).block g hg
theorem laid_old {wr w1 : World} {v : Value} {t : ByteArray} {ja : Option Addr} {JL jc : Nat} {R : Row} {a b c : Value} (hs : ∀ wS : World, (∀ g, (wr.alloc (.cells #[a, b, c] 58)).drew.heap.size ≤ g → g < w1.heap.size → wS.heap[g]? = w1.heap[g]?) → Safe fp wS v (.slice ja JL jc) R) (hB : Below (wr.alloc (.cells #[a, b, c] 58)).drew.heap.size (wr.alloc (.cells #[a, b, c] 58)).drew w1) :
    Laid fp wr (((w1.setCell ⟨wr.heap.size, 0, none⟩ (.string t)).setCell ⟨wr.heap.size, 1, none⟩ (.slice ja JL jc)).setCell ⟨wr.heap.size, 2, none⟩ (.slice none 0 0)) wr.heap.size v t ja JL jc R := by
  have hlt : wr.heap.size < (wr.alloc (.cells #[a, b, c] 58)).drew.heap.size := by
    show wr.heap.size < (wr.heap.push _).size
    rw [Array.size_push]; omega
  have hB1 : Below wr.heap.size wr w1 := ((Below.refl _ _).alloc (Nat.le_refl _) _).drew.trans (hB.mono (by omega))
  have hh : w1.heap[wr.heap.size]? = some (.cells #[a, b, c] 58 (0, 0)) := (hB.block _ hlt).trans (heap_alloc_new wr _)
  obtain ⟨_, n0, n1, n2, _, _, _⟩ := alloc_then hB
  have hBl : Below wr.heap.size wr (((w1.setCell ⟨wr.heap.size, 0, none⟩ (.string t)).setCell ⟨wr.heap.size, 1, none⟩ (.slice ja JL jc)).setCell ⟨wr.heap.size, 2, none⟩ (.slice none 0 0)) :=
    ((hB1.setCell (p := ⟨wr.heap.size, 0, none⟩) (Nat.le_refl _) _).setCell (p := ⟨wr.heap.size, 1, none⟩) (Nat.le_refl _) _).setCell (p := ⟨wr.heap.size, 2, none⟩) (Nat.le_refl _) _
  have hoth : ∀ g, g ≠ wr.heap.size → (((w1.setCell ⟨wr.heap.size, 0, none⟩ (.string t)).setCell ⟨wr.heap.size, 1, none⟩ (.slice ja JL jc)).setCell ⟨wr.heap.size, 2, none⟩ (.slice none 0 0)).heap[g]? = w1.heap[g]? := by
    intro g hg
    rw [Below.heap_setCell _ _ _ _ hg, Below.heap_setCell _ _ _ _ hg, Below.heap_setCell _ _ _ _ hg]
  refine ⟨?_, ?_, ?_, hBl, hs _ (fun g hg _ => hoth g (by omega))⟩
  · simp [go_sem, n0]
  · simp [go_sem, n1]
  · simp [go_sem, n2]

set_option maxRecDepth 100000 in
set_option maxHeartbeats 8000000 in
theorem rcrash_walk (b off n c : Nat) (ka : Option Addr) (zn kc : Nat) (zs : List Int) (fs : List Fl) (w : World) (HF : Hid (FilesV fp w (.slice (some ⟨b, off, none⟩) n c) fs)) (hn : n ≤ 100000000) (hp : 0 < n) (HZ : Hid (IntsV w (.slice ka zn kc) zs)) (hzn : zn ≤ 9223372036854775807)
    (HFp : Hid (∀ g, fp g → g < w.heap.size)) (HBd : Hid (∀ i, i < fs.length → (fs.getD i noFl).firm.length + (fs.getD i noFl).loose.length ≤ 100000000000)) :
    Calls Try.prog 26 #[.slice (some ⟨b, off, none⟩) n c, .slice ka zn kc] w fun e w' => ∃ v', e = .returned v' ∧ FilesV fp w' v' (crashL zs fs 0) ∧ Below w.heap.size w w' := by
  have HLn : Hid (fs.length = n) := HF.out.len
  go_enter Try.func26, Try.ntmps26
  go_wp2
  go_loopw [5, 6] (fun v i wr => ∃ (k : Nat), k ≤ n ∧ i = .int .i64 k ∧ Hid (∃ vals gs, Outs fp w wr v vals gs ∧ gs ++ crashL zs (fs.drop k) k = crashL zs fs 0)) (fun _ i _ => n - (intOf i).toNat)
  case atStart => exact ⟨0, Nat.zero_le _, rfl, [], [], Outs.start w HFp.out, rfl⟩
  case round =>
    obtain ⟨k, hk, rfl, HK⟩ := hrel
    obtain ⟨vals, gs, hO, hgs⟩ := HK.out
    have HO : Hid (Outs fp w wr u5 vals gs) := hO
    have HG : Hid (gs ++ crashL zs (fs.drop k) k = crashL zs fs 0) := hgs
    have HLe : Hid (gs.length ≤ 1000000000) := by
      show gs.length ≤ _
      have h1 := congrArg List.length hgs
      have h2 := crashL_len zs fs 0
      rw [List.length_append] at h1
      rw [HLn.out] at h2
      omega
    clear HK hO hgs
    by_cases hlt : k < n
    · obtain ⟨b', off', e, hc⟩ := HF.out.cells hp
      cases e
      obtain ⟨y0, ga, gc, ka', kc', y1, y2, r1, r2⟩ := hc k hlt
      have hbl : b < w.heap.size := World.block_lt_of_cell? w _ y0
      have hbd := HBd.out k (by rw [HLn.out]; exact hlt)
      obtain ⟨m, hm⟩ : ∃ m, keptOf zs k (fs.getD k noFl).loose.length = m := ⟨_, rfl⟩
      have hml : m ≤ (fs.getD k noFl).loose.length := by rw [← hm]; unfold keptOf; omega
      have hlc : (fs.getD k noFl).loose.length ≤ kc' := by
        obtain ⟨_, _, hv, _, h6, _⟩ := r2.1
        simp only [Value.slice.injEq] at hv
        obtain ⟨-, -, rfl⟩ := hv
        exact h6
      have HNx := HG.out
      rw [drop_cons (by rw [HLn.out]; exact hlt), crashL] at HNx
      have hLe : leftL zs (fs.getD k noFl) k = (fs.getD k noFl).firm ++ (fs.getD k noFl).loose.take m := by unfold leftL; rw [hm]
      rw [hLe] at HNx
      have hlen : ((fs.getD k noFl).firm ++ (fs.getD k noFl).loose.take m).length = (fs.getD k noFl).firm.length + m := by rw [List.length_append, List.length_take]; omega
      obtain ⟨JL, hJL⟩ : ∃ JL, (fs.getD k noFl).firm.length + m = JL := ⟨_, rfl⟩
      rw [hJL] at hlen
      have HJ : Hid (∀ w1, Below wr.heap.size wr w1 → Calls Try.prog 29 #[.slice ga (fs.getD k noFl).firm.length gc, .slice ka' m kc'] w1 fun e w' => ∃ ja jc, e = .returned (.slice ja JL jc) ∧ (∀ wS, (∀ g, w1.heap.size ≤ g → g < w'.heap.size → wS.heap[g]? = w'.heap[g]?) → Safe fp wS u5 (.slice ja JL jc) ((fs.getD k noFl).firm ++ (fs.getD k noFl).loose.take m)) ∧ Below w1.heap.size w1 w') := fun w1 hB => by
        have hB1 : Below w.heap.size w w1 := HO.out.bel.trans (hB.mono HO.out.bel.size)
        refine (join_any _ _ _ _ w1 (r1.1.below hB1) ((r2.1.front hml).below hB1) (by rw [List.length_take]; omega)).mono fun e w' ⟨v', he, ho, h2⟩ => ?_
        have hs : ∀ wS, (∀ g, w1.heap.size ≤ g → g < w'.heap.size → wS.heap[g]? = w'.heap[g]?) → Safe fp wS u5 v' ((fs.getD k noFl).firm ++ (fs.getD k noFl).loose.take m) := fun wS hS => by
          refine Safe.new (w := w1) ?_ (fun g e => Nat.lt_of_lt_of_le (HO.out.ge g e).2 hB.size) (fun g e => Nat.lt_of_lt_of_le (HFp.out g e) hB1.size)
          refine ⟨ho.1, ?_⟩
          rcases ho.2 with hn | ⟨g, cap, cur, hv, hg, hh, rest⟩
          · exact .inl hn
          · exact .inr ⟨g, cap, cur, hv, hg, (hS g hg (Array.getElem?_eq_some_iff.1 hh).1).trans hh, rest⟩
        have hrd := (hs w' (fun _ _ _ => rfl)).1
        obtain ⟨ja, jc, hv, _⟩ := id hrd
        rw [hlen] at hv
        subst hv
        exact ⟨ja, jc, he, hs, h2⟩
      have HX : Hid (∀ w1, Below wr.heap.size wr w1 → w1.cell? ⟨b, off + k * 3, none⟩ = some (.string (fs.getD k noFl).name) ∧ w1.cell? ⟨b, off + k * 3 + 1, none⟩ = some (.slice ga (fs.getD k noFl).firm.length gc) ∧ w1.cell? ⟨b, off + k * 3 + 2, none⟩ = some (.slice ka' (fs.getD k noFl).loose.length kc')) := fun w1 hB => by
        have hB1 : Below w.heap.size w w1 := HO.out.bel.trans (hB.mono HO.out.bel.size)
        exact ⟨(hB1.cell (p := ⟨b, off + k * 3, none⟩) hbl).trans y0, (hB1.cell (p := ⟨b, off + k * 3 + 1, none⟩) hbl).trans y1, (hB1.cell (p := ⟨b, off + k * 3 + 2, none⟩) hbl).trans y2⟩
      obtain ⟨q0, q1, q2⟩ := HX.out _ (Below.refl _ _)
      have i1 : (k : Int) < (n : Int) := by omega
      have ne0 := World.new_ne wr ⟨b, off + k * 3, none⟩ q0
      have ne1 := World.new_ne wr ⟨b, off + k * 3 + 1, none⟩ q1
      have ne2 := World.new_ne wr ⟨b, off + k * 3 + 2, none⟩ q2
      have hbn : ¬ b = wr.heap.size := by have := HO.out.bel.size; omega
      have hbn2 : ¬ wr.heap.size = b := by have := HO.out.bel.size; omega
      clear y0 y1 y2 r1 r2 hc hLe
      have HT : Hid (Fl.name (fs.getD k noFl) = (fs.getD k noFl).name) := rfl
      generalize hR : (fs.getD k noFl).firm ++ (fs.getD k noFl).loose.take m = R at *
      generalize (fs.getD k noFl).firm.length = fl at *
      generalize hll : (fs.getD k noFl).loose.length = ll at *
      generalize (fs.getD k noFl).name = t at *
      have HRl : Hid (R.length = JL) := hlen
      clear hR hlen hJL
      have hmc : m ≤ kc' := by omega
      have hmi : (m : Int) ≤ (kc' : Int) := by omega
      have HM : Hid (keptOf zs k ll = m) := hm
      clear hll hm HT
      by_cases hz : k < zn
      · have hz2 : (k : Int) < (zn : Int) := by omega
        obtain ⟨_, _, hv, _, hzw, hzc⟩ := id HZ.out
        simp only [Value.slice.injEq] at hv
        obtain ⟨rfl, hzl, rfl⟩ := hv
        rcases hzc with h0 | ⟨kb, koff, rfl, hkc⟩
        · subst h0; simp at hzl; omega
        have hkv := hkc k (by omega)
        have hkb : kb < w.heap.size := World.block_lt_of_cell? w _ hkv
        have kv1 := (HO.out.bel.cell (p := ⟨kb, koff + k, none⟩) hkb).trans hkv
        have hkw : (Lit.int .i64 (zs.getD k 0)).wf = true := hzw _ (by
          have e : zs.getD k 0 = zs[k]'(by omega) := by simp [show k < zs.length by omega]
          rw [e]; exact List.getElem_mem _)
        have hkr := bounds_i64 hkw
        have HM2 := HM.out
        unfold keptOf at HM2
        clear hkc hkv hzw hzl
        generalize zs.getD k 0 = kv at *
        by_cases hpos : 0 < kv
        · by_cases hbig : (ll : Int) < kv
          · have hm0 : m = ll := by omega
            subst hm0
            clear HM2 HM
            have HNz : Hid (gs ++ ((if R = [] then [] else [⟨t, R, []⟩]) ++ crashL zs (fs.drop (k + 1)) (k + 1)) = crashL zs fs 0) := HNx
            clear HNx
            go_wp2
            go_region_held3 (fun w' => w'.cell? ⟨b, off + k * 3, none⟩ = some (.string t) ∧ w'.cell? ⟨b, off + k * 3 + 1, none⟩ = some (.slice ga fl gc) ∧ w'.cell? ⟨b, off + k * 3 + 2, none⟩ = some (.slice ka' m kc')) (go_keep) (first
              | (go_at_call 29; refine (HJ.out _ (Below.refl _ _).drew).mono ?_; rintro e w1 ⟨ja, jc, rfl, hs, hB⟩; obtain ⟨f0, f1, f2⟩ := HX.out _ ((Below.refl _ _).drew.trans hB); have HA : Hid (Laid fp wr (w1.alloc (.cells #[.string t, .slice ja JL jc, .slice none 0 0] 58)) w1.heap.size u5 t ja JL jc R) := laid_new hs hB; clear hs hB)
              | (go_at_call 29; refine (HJ.out _ ((Below.refl _ _).alloc (Nat.le_refl _) _).drew).mono ?_; rintro e w1 ⟨ja, jc, rfl, hs, hB⟩; obtain ⟨f0, f1, f2⟩ := HX.out _ (alloc_then hB).1; obtain ⟨n0, n1, n2, z0, z1, z2⟩ := (alloc_then hB).2; have HA : Hid (Laid fp wr (((w1.setCell ⟨wr.heap.size, 0, none⟩ (.string t)).setCell ⟨wr.heap.size, 1, none⟩ (.slice ja JL jc)).setCell ⟨wr.heap.size, 2, none⟩ (.slice none 0 0)) wr.heap.size u5 t ja JL jc R) := laid_old hs hB; clear hs hB))
            all_goals
              have x0 := HA.out.c0
              have x1 := HA.out.c1
              have x2 := HA.out.c2
              have HO2 : Hid (Outs fp w _ u5 vals gs) := HO.out.moved HA.out.bel
              clear f0 f1 f2 q0 q1 q2 ne0 ne1 ne2 hbn hbn2
              first
                | (clear n0 n1 n2 z0 z1 z2; generalize ((w1.setCell ⟨wr.heap.size, 0, none⟩ (.string t)).setCell ⟨wr.heap.size, 1, none⟩ (.slice ja JL jc)).setCell ⟨wr.heap.size, 2, none⟩ (.slice none 0 0) = wS at *; generalize wr.heap.size = fb at *)
                | (generalize w1.alloc (.cells #[.string t, .slice ja JL jc, .slice none 0 0] 58) = wS at *; generalize w1.heap.size = fb at *)
              by_cases hRe : R = []
              · have hJ1 : ¬ (0 : Int) < (JL : Int) := by have h1 := HRl.out; rw [hRe] at h1; simp at h1; omega
                have HNy : Hid (gs ++ crashL zs (fs.drop (k + 1)) (k + 1) = crashL zs fs 0) := by have h1 := HNz.out; rw [if_pos hRe, List.nil_append] at h1; exact h1
                clear hRe
                go_wp2
                first
                  | (refine ⟨⟨k + 1, by omega, by go_num, vals, gs, HO2.out, HNy.out⟩, ?_⟩; simp [intOf]; omega)
                  | (go_roundw; (case rel => exact ⟨k + 1, by omega, by go_num, vals, gs, HO2.out, HNy.out⟩); (case measure => simp [intOf]; omega))
              · have hJ1 : (0 : Int) < (JL : Int) := by have h1 := HRl.out; have h2 := List.length_pos_iff.2 hRe; omega
                have HNy : Hid (gs ++ [⟨t, R, []⟩] ++ crashL zs (fs.drop (k + 1)) (k + 1) = crashL zs fs 0) := by have h1 := HNz.out; rw [if_neg hRe, ← List.append_assoc] at h1; exact h1
                clear hRe
                go_wp2_with (at_builtin; refine wpList_add rfl (.tmp 67) (.tmp 69) rfl HO2.out (Below.refl _ _) rfl rfl ⟨t, R, []⟩ rfl HA.out.safe ⟨ReadsV.nil _, .inl rfl⟩ HLe.out ?_; intro v2 w2 hO2; have HOx : Hid (Outs fp w w2 v2 (vals ++ [⟨t, .slice ja JL jc, .slice none 0 0⟩]) (gs ++ [⟨t, R, []⟩])) := hO2; clear hO2)
                first
                  | (refine ⟨⟨k + 1, by omega, by go_num, _, _, HOx.out, HNy.out⟩, ?_⟩; simp [intOf]; omega)
                  | (go_roundw; (case rel => exact ⟨k + 1, by omega, by go_num, _, _, HOx.out, HNy.out⟩); (case measure => simp [intOf]; omega))
          · obtain rfl : kv = (m : Int) := by omega
            clear HM2 HM
            have HNz : Hid (gs ++ ((if R = [] then [] else [⟨t, R, []⟩]) ++ crashL zs (fs.drop (k + 1)) (k + 1)) = crashL zs fs 0) := HNx
            clear HNx
            go_wp2
            go_region_held3 (fun w' => w'.cell? ⟨b, off + k * 3, none⟩ = some (.string t) ∧ w'.cell? ⟨b, off + k * 3 + 1, none⟩ = some (.slice ga fl gc) ∧ w'.cell? ⟨b, off + k * 3 + 2, none⟩ = some (.slice ka' ll kc')) (go_keep) (first
              | (go_at_call 29; refine (HJ.out _ (Below.refl _ _).drew).mono ?_; rintro e w1 ⟨ja, jc, rfl, hs, hB⟩; obtain ⟨f0, f1, f2⟩ := HX.out _ ((Below.refl _ _).drew.trans hB); have HA : Hid (Laid fp wr (w1.alloc (.cells #[.string t, .slice ja JL jc, .slice none 0 0] 58)) w1.heap.size u5 t ja JL jc R) := laid_new hs hB; clear hs hB)
              | (go_at_call 29; refine (HJ.out _ ((Below.refl _ _).alloc (Nat.le_refl _) _).drew).mono ?_; rintro e w1 ⟨ja, jc, rfl, hs, hB⟩; obtain ⟨f0, f1, f2⟩ := HX.out _ (alloc_then hB).1; obtain ⟨n0, n1, n2, z0, z1, z2⟩ := (alloc_then hB).2; have HA : Hid (Laid fp wr (((w1.setCell ⟨wr.heap.size, 0, none⟩ (.string t)).setCell ⟨wr.heap.size, 1, none⟩ (.slice ja JL jc)).setCell ⟨wr.heap.size, 2, none⟩ (.slice none 0 0)) wr.heap.size u5 t ja JL jc R) := laid_old hs hB; clear hs hB))
            all_goals
              have x0 := HA.out.c0
              have x1 := HA.out.c1
              have x2 := HA.out.c2
              have HO2 : Hid (Outs fp w _ u5 vals gs) := HO.out.moved HA.out.bel
              clear f0 f1 f2 q0 q1 q2 ne0 ne1 ne2 hbn hbn2
              first
                | (clear n0 n1 n2 z0 z1 z2; generalize ((w1.setCell ⟨wr.heap.size, 0, none⟩ (.string t)).setCell ⟨wr.heap.size, 1, none⟩ (.slice ja JL jc)).setCell ⟨wr.heap.size, 2, none⟩ (.slice none 0 0) = wS at *; generalize wr.heap.size = fb at *)
                | (generalize w1.alloc (.cells #[.string t, .slice ja JL jc, .slice none 0 0] 58) = wS at *; generalize w1.heap.size = fb at *)
              by_cases hRe : R = []
              · have hJ1 : ¬ (0 : Int) < (JL : Int) := by have h1 := HRl.out; rw [hRe] at h1; simp at h1; omega
                have HNy : Hid (gs ++ crashL zs (fs.drop (k + 1)) (k + 1) = crashL zs fs 0) := by have h1 := HNz.out; rw [if_pos hRe, List.nil_append] at h1; exact h1
                clear hRe
                go_wp2
                first
                  | (refine ⟨⟨k + 1, by omega, by go_num, vals, gs, HO2.out, HNy.out⟩, ?_⟩; simp [intOf]; omega)
                  | (go_roundw; (case rel => exact ⟨k + 1, by omega, by go_num, vals, gs, HO2.out, HNy.out⟩); (case measure => simp [intOf]; omega))
              · have hJ1 : (0 : Int) < (JL : Int) := by have h1 := HRl.out; have h2 := List.length_pos_iff.2 hRe; omega
                have HNy : Hid (gs ++ [⟨t, R, []⟩] ++ crashL zs (fs.drop (k + 1)) (k + 1) = crashL zs fs 0) := by have h1 := HNz.out; rw [if_neg hRe, ← List.append_assoc] at h1; exact h1
                clear hRe
                go_wp2_with (at_builtin; refine wpList_add rfl (.tmp 67) (.tmp 69) rfl HO2.out (Below.refl _ _) rfl rfl ⟨t, R, []⟩ rfl HA.out.safe ⟨ReadsV.nil _, .inl rfl⟩ HLe.out ?_; intro v2 w2 hO2; have HOx : Hid (Outs fp w w2 v2 (vals ++ [⟨t, .slice ja JL jc, .slice none 0 0⟩]) (gs ++ [⟨t, R, []⟩])) := hO2; clear hO2)
                first
                  | (refine ⟨⟨k + 1, by omega, by go_num, _, _, HOx.out, HNy.out⟩, ?_⟩; simp [intOf]; omega)
                  | (go_roundw; (case rel => exact ⟨k + 1, by omega, by go_num, _, _, HOx.out, HNy.out⟩); (case measure => simp [intOf]; omega))
        · have hm0 : m = 0 := by omega
          subst hm0
          clear HM2 HM
          have HNz : Hid (gs ++ ((if R = [] then [] else [⟨t, R, []⟩]) ++ crashL zs (fs.drop (k + 1)) (k + 1)) = crashL zs fs 0) := HNx
          clear HNx
          go_wp2
          go_region_held3 (fun w' => w'.cell? ⟨b, off + k * 3, none⟩ = some (.string t) ∧ w'.cell? ⟨b, off + k * 3 + 1, none⟩ = some (.slice ga fl gc) ∧ w'.cell? ⟨b, off + k * 3 + 2, none⟩ = some (.slice ka' ll kc')) (go_keep) (first
            | (go_at_call 29; refine (HJ.out _ (Below.refl _ _).drew).mono ?_; rintro e w1 ⟨ja, jc, rfl, hs, hB⟩; obtain ⟨f0, f1, f2⟩ := HX.out _ ((Below.refl _ _).drew.trans hB); have HA : Hid (Laid fp wr (w1.alloc (.cells #[.string t, .slice ja JL jc, .slice none 0 0] 58)) w1.heap.size u5 t ja JL jc R) := laid_new hs hB; clear hs hB)
            | (go_at_call 29; refine (HJ.out _ ((Below.refl _ _).alloc (Nat.le_refl _) _).drew).mono ?_; rintro e w1 ⟨ja, jc, rfl, hs, hB⟩; obtain ⟨f0, f1, f2⟩ := HX.out _ (alloc_then hB).1; obtain ⟨n0, n1, n2, z0, z1, z2⟩ := (alloc_then hB).2; have HA : Hid (Laid fp wr (((w1.setCell ⟨wr.heap.size, 0, none⟩ (.string t)).setCell ⟨wr.heap.size, 1, none⟩ (.slice ja JL jc)).setCell ⟨wr.heap.size, 2, none⟩ (.slice none 0 0)) wr.heap.size u5 t ja JL jc R) := laid_old hs hB; clear hs hB))
          all_goals
            have x0 := HA.out.c0
            have x1 := HA.out.c1
            have x2 := HA.out.c2
            have HO2 : Hid (Outs fp w _ u5 vals gs) := HO.out.moved HA.out.bel
            clear f0 f1 f2 q0 q1 q2 ne0 ne1 ne2 hbn hbn2
            first
              | (clear n0 n1 n2 z0 z1 z2; generalize ((w1.setCell ⟨wr.heap.size, 0, none⟩ (.string t)).setCell ⟨wr.heap.size, 1, none⟩ (.slice ja JL jc)).setCell ⟨wr.heap.size, 2, none⟩ (.slice none 0 0) = wS at *; generalize wr.heap.size = fb at *)
              | (generalize w1.alloc (.cells #[.string t, .slice ja JL jc, .slice none 0 0] 58) = wS at *; generalize w1.heap.size = fb at *)
            by_cases hRe : R = []
            · have hJ1 : ¬ (0 : Int) < (JL : Int) := by have h1 := HRl.out; rw [hRe] at h1; simp at h1; omega
              have HNy : Hid (gs ++ crashL zs (fs.drop (k + 1)) (k + 1) = crashL zs fs 0) := by have h1 := HNz.out; rw [if_pos hRe, List.nil_append] at h1; exact h1
              clear hRe
              go_wp2
              first
                | (refine ⟨⟨k + 1, by omega, by go_num, vals, gs, HO2.out, HNy.out⟩, ?_⟩; simp [intOf]; omega)
                | (go_roundw; (case rel => exact ⟨k + 1, by omega, by go_num, vals, gs, HO2.out, HNy.out⟩); (case measure => simp [intOf]; omega))
            · have hJ1 : (0 : Int) < (JL : Int) := by have h1 := HRl.out; have h2 := List.length_pos_iff.2 hRe; omega
              have HNy : Hid (gs ++ [⟨t, R, []⟩] ++ crashL zs (fs.drop (k + 1)) (k + 1) = crashL zs fs 0) := by have h1 := HNz.out; rw [if_neg hRe, ← List.append_assoc] at h1; exact h1
              clear hRe
              go_wp2_with (at_builtin; refine wpList_add rfl (.tmp 67) (.tmp 69) rfl HO2.out (Below.refl _ _) rfl rfl ⟨t, R, []⟩ rfl HA.out.safe ⟨ReadsV.nil _, .inl rfl⟩ HLe.out ?_; intro v2 w2 hO2; have HOx : Hid (Outs fp w w2 v2 (vals ++ [⟨t, .slice ja JL jc, .slice none 0 0⟩]) (gs ++ [⟨t, R, []⟩])) := hO2; clear hO2)
              first
                | (refine ⟨⟨k + 1, by omega, by go_num, _, _, HOx.out, HNy.out⟩, ?_⟩; simp [intOf]; omega)
                | (go_roundw; (case rel => exact ⟨k + 1, by omega, by go_num, _, _, HOx.out, HNy.out⟩); (case measure => simp [intOf]; omega))
      · have hz2 : ¬ (k : Int) < (zn : Int) := by omega
        have hm0 : m = 0 := by
          have := HM.out
          unfold keptOf at this
          obtain ⟨_, _, hv, _⟩ := HZ.out
          simp only [Value.slice.injEq] at hv
          have h0 : zs.getD k 0 = 0 := by simp [List.getD, List.getElem?_eq_none (show zs.length ≤ k by omega)]
          rw [h0] at this
          simp at this
          exact this.symm
        subst hm0
        have HNz : Hid (gs ++ ((if R = [] then [] else [⟨t, R, []⟩]) ++ crashL zs (fs.drop (k + 1)) (k + 1)) = crashL zs fs 0) := HNx
        clear HNx
        go_wp2
        go_region_held3 (fun w' => w'.cell? ⟨b, off + k * 3, none⟩ = some (.string t) ∧ w'.cell? ⟨b, off + k * 3 + 1, none⟩ = some (.slice ga fl gc) ∧ w'.cell? ⟨b, off + k * 3 + 2, none⟩ = some (.slice ka' ll kc')) (go_keep) (first
          | (go_at_call 29; refine (HJ.out _ (Below.refl _ _).drew).mono ?_; rintro e w1 ⟨ja, jc, rfl, hs, hB⟩; obtain ⟨f0, f1, f2⟩ := HX.out _ ((Below.refl _ _).drew.trans hB); have HA : Hid (Laid fp wr (w1.alloc (.cells #[.string t, .slice ja JL jc, .slice none 0 0] 58)) w1.heap.size u5 t ja JL jc R) := laid_new hs hB; clear hs hB)
          | (go_at_call 29; refine (HJ.out _ ((Below.refl _ _).alloc (Nat.le_refl _) _).drew).mono ?_; rintro e w1 ⟨ja, jc, rfl, hs, hB⟩; obtain ⟨f0, f1, f2⟩ := HX.out _ (alloc_then hB).1; obtain ⟨n0, n1, n2, z0, z1, z2⟩ := (alloc_then hB).2; have HA : Hid (Laid fp wr (((w1.setCell ⟨wr.heap.size, 0, none⟩ (.string t)).setCell ⟨wr.heap.size, 1, none⟩ (.slice ja JL jc)).setCell ⟨wr.heap.size, 2, none⟩ (.slice none 0 0)) wr.heap.size u5 t ja JL jc R) := laid_old hs hB; clear hs hB))
        all_goals
          have x0 := HA.out.c0
          have x1 := HA.out.c1
          have x2 := HA.out.c2
          have HO2 : Hid (Outs fp w _ u5 vals gs) := HO.out.moved HA.out.bel
          clear f0 f1 f2 q0 q1 q2 ne0 ne1 ne2 hbn hbn2
          first
            | (clear n0 n1 n2 z0 z1 z2; generalize ((w1.setCell ⟨wr.heap.size, 0, none⟩ (.string t)).setCell ⟨wr.heap.size, 1, none⟩ (.slice ja JL jc)).setCell ⟨wr.heap.size, 2, none⟩ (.slice none 0 0) = wS at *; generalize wr.heap.size = fb at *)
            | (generalize w1.alloc (.cells #[.string t, .slice ja JL jc, .slice none 0 0] 58) = wS at *; generalize w1.heap.size = fb at *)
          by_cases hRe : R = []
          · have hJ1 : ¬ (0 : Int) < (JL : Int) := by have h1 := HRl.out; rw [hRe] at h1; simp at h1; omega
            have HNy : Hid (gs ++ crashL zs (fs.drop (k + 1)) (k + 1) = crashL zs fs 0) := by have h1 := HNz.out; rw [if_pos hRe, List.nil_append] at h1; exact h1
            clear hRe
            go_wp2
            first
              | (refine ⟨⟨k + 1, by omega, by go_num, vals, gs, HO2.out, HNy.out⟩, ?_⟩; simp [intOf]; omega)
              | (go_roundw; (case rel => exact ⟨k + 1, by omega, by go_num, vals, gs, HO2.out, HNy.out⟩); (case measure => simp [intOf]; omega))
          · have hJ1 : (0 : Int) < (JL : Int) := by have h1 := HRl.out; have h2 := List.length_pos_iff.2 hRe; omega
            have HNy : Hid (gs ++ [⟨t, R, []⟩] ++ crashL zs (fs.drop (k + 1)) (k + 1) = crashL zs fs 0) := by have h1 := HNz.out; rw [if_neg hRe, ← List.append_assoc] at h1; exact h1
            clear hRe
            go_wp2_with (at_builtin; refine wpList_add rfl (.tmp 67) (.tmp 69) rfl HO2.out (Below.refl _ _) rfl rfl ⟨t, R, []⟩ rfl HA.out.safe ⟨ReadsV.nil _, .inl rfl⟩ HLe.out ?_; intro v2 w2 hO2; have HOx : Hid (Outs fp w w2 v2 (vals ++ [⟨t, .slice ja JL jc, .slice none 0 0⟩]) (gs ++ [⟨t, R, []⟩])) := hO2; clear hO2)
            first
              | (refine ⟨⟨k + 1, by omega, by go_num, _, _, HOx.out, HNy.out⟩, ?_⟩; simp [intOf]; omega)
              | (go_roundw; (case rel => exact ⟨k + 1, by omega, by go_num, _, _, HOx.out, HNy.out⟩); (case measure => simp [intOf]; omega))
    · have hlt' : ¬ (k : Int) < (n : Int) := by omega
      have he : gs = crashL zs fs 0 := by
        have := HG.out
        rw [List.drop_of_length_le (by rw [HLn.out]; omega)] at this
        simpa [crashL] using this
      have HE : Hid (gs = crashL zs fs 0) := he
      clear he
      go_wp2
      go_ret
      exact ⟨_, rfl, by rw [← HE.out]; exact HO.out.files, HO.out.bel⟩
set_option maxRecDepth 100000 in
theorem rcrash_empty (a : Option Addr) (c : Nat) (u : Value) (w : World) : Calls Try.prog 26 #[.slice a 0 c, u] w fun e w' => e = .returned (.slice none 0 0) ∧ w' = w := by
  go_enter Try.func26, Try.ntmps26
  go_wp2
  refine wp_loop_rounds 1 ?_
  rw [rounds_succ]
  go_wp2
  go_ret
  exact ⟨rfl, rfl⟩
theorem rcrash_any (v u : Value) (zs : List Int) (fs : List Fl) (w : World) (h : FilesV fp w v fs) (hn : fs.length ≤ 100000000) (hz : IntsV w u zs) (hfp : ∀ g, fp g → g < w.heap.size) (hb : ∀ i, i < fs.length → (fs.getD i noFl).firm.length + (fs.getD i noFl).loose.length ≤ 100000000000) :
    Calls Try.prog 26 #[v, u] w fun e w' => ∃ v', e = .returned v' ∧ FilesV fp w' v' (crashL zs fs 0) ∧ Below w.heap.size w w' := by
  obtain ⟨a, c, rfl, h3, _⟩ := id h
  by_cases hp : 0 < fs.length
  · obtain ⟨b, off, rfl, _⟩ := h.cells hp
    obtain ⟨ka, kc, rfl, hm, _⟩ := id hz
    exact rcrash_walk b off fs.length c ka zs.length kc zs fs w h hn hp hz (by unfold maxLen at hm; omega) hfp hb
  · have e : fs = [] := List.length_eq_zero_iff.1 (by omega)
    subst e
    exact (rcrash_empty a c u w).mono fun e w' ⟨he, hw⟩ => ⟨_, he, FilesV.nil _, by rw [hw]; exact Below.refl _ _⟩

end Go.Proofs.Ytcmnjiichkcmgaa

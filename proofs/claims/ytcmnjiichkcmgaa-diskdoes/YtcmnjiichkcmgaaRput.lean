/-
  The document's put: a contract.
-/
import Derived.Test.YtcmnjiichkcmgaaFind
namespace Go.Proofs.Ytcmnjiichkcmgaa
open Go.RowKit Go.Maps Go.Sort
set_option linter.unusedVariables false
variable {fp : Nat → Prop}

def ge (x f : Fl) : Bool := !(Op.bytesLess x.name.toList f.name.toList)
def putGo (f : Fl) : List Fl → Bool → List Fl
  | [], d => if d then [] else [f]
  | x :: xs, d => (if !d && ge x f then [f] else []) ++ ((if x.name = f.name then [] else [x]) ++ putGo f xs (d || ge x f))
def putL (fs : List Fl) (f : Fl) : List Fl := putGo f fs false
theorem putGo_len_true (f : Fl) : ∀ (fs : List Fl), (putGo f fs true).length ≤ fs.length
  | [] => by simp [putGo]
  | x :: xs => by
    have h := putGo_len_true f xs
    unfold putGo
    simp only [Bool.not_true, Bool.false_and, Bool.false_eq_true, if_false, List.nil_append, Bool.true_or]
    split <;> simp <;> omega
theorem putGo_len (f : Fl) : ∀ (fs : List Fl) (d : Bool), (putGo f fs d).length ≤ fs.length + 1
  | [], d => by cases d <;> simp [putGo]
  | x :: xs, d => by
    have h := putGo_len f xs (d || ge x f)
    have h2 := putGo_len_true f xs
    unfold putGo
    cases d with
    | true =>
      simp only [Bool.not_true, Bool.false_and, Bool.false_eq_true, if_false, List.nil_append, Bool.true_or]
      split <;> simp <;> omega
    | false =>
      cases hg : ge x f with
      | true =>
        simp only [Bool.not_false, Bool.true_and, if_true, Bool.false_or]
        split <;> simp <;> omega
      | false =>
        rw [hg] at h
        simp only [Bool.not_false, Bool.true_and, Bool.false_eq_true, if_false, List.nil_append, Bool.false_or]
        simp only [Bool.or_false] at h
        split <;> simp <;> omega

theorem drop_cons {fs : List Fl} {k : Nat} (h : k < fs.length) : fs.drop k = fs.getD k noFl :: fs.drop (k + 1) := by
  rw [List.drop_eq_getElem_cons h]
  simp [h]
theorem put_next {fs gs : List Fl} {f : Fl} {d : Bool} {k : Nat} (h : gs ++ putGo f (fs.drop k) d = putL fs f) (hk : k < fs.length) :
    gs ++ ((if !d && ge (fs.getD k noFl) f then [f] else []) ++ ((if (fs.getD k noFl).name = f.name then [] else [fs.getD k noFl]) ++ putGo f (fs.drop (k + 1)) (d || ge (fs.getD k noFl) f))) = putL fs f := by
  rw [← h, drop_cons hk, putGo]
theorem put_few {fs gs r : List Fl} {f : Fl} (h : gs ++ r = putL fs f) : gs.length ≤ fs.length + 1 := by
  have := congrArg List.length h
  have h2 := putGo_len f fs false
  unfold putL at this
  rw [List.length_append] at this
  omega

/-- 'out = append(out, f)', the file just laid into a block of its own. -/
theorem wpList_add {ops : Array Oper} {rest : List Oper} {o : Oper} {a : Act} {Q : Exit → Act → World → Prop} {wX : World} (hgd : o.guard = none) (s x : Operand)
    (ho : o.op = .call { callee := .builtin .append, args := #[s, x], argTypes := #[27, 27] }) {w wr : World} {v : Value} {vals : List FV} {gs : List Fl} (hO : Outs fp w wr v vals gs) (hB : Below wr.heap.size wr wX) (hs : a.eval s = v)
    {nm : ByteArray} {fa la : Option Addr} {fn fc ln lc : Nat} (hx : a.eval x = .slice (some ⟨wX.heap.size, 0, none⟩) 1 1) (f : Fl) (hnm : nm = f.name) (h1 : Safe fp wr v (.slice fa fn fc) f.firm) (h2 : Safe fp wr v (.slice la ln lc) f.loose) (hlen : gs.length ≤ 1000000000)
    (h : ∀ v' w', Outs fp w w' v' (vals ++ [⟨nm, .slice fa fn fc, .slice la ln lc⟩]) (gs ++ [f]) → wpList Try.prog ops Q rest (a.put o.dst v') w') : wpList Try.prog ops Q (o :: rest) a (wX.alloc (.cells #[.string nm, .slice fa fn fc, .slice la ln lc] 58)) := by
  obtain ⟨i, hi, hz, hsz, hby⟩ := info_parts info58
  have hB2 : Below wr.heap.size wr (wX.alloc (.cells #[.string nm, .slice fa fn fc, .slice la ln lc] 58)) := hB.alloc hB.size _
  have hO2 := hO.moved hB2
  have hl := hO.len
  refine wpList_append_own_at _ hgd s x 27 ho w.heap.size 58 i _ 3 64 Try.underlying27 hi hz hsz hby rfl (by decide) v vals.length (flat vals) hs hO2.own ⟨wX.heap.size, 0, none⟩ 1 1 [.string nm, .slice fa fn fc, .slice la ln lc] hx rfl (cell_three_new _ _ _ _ _) (by simp [Value.oneCell']) (by unfold maxLen; omega) (by omega) hO2.bel.size ?_
  intro v' w' hown hg _ hloc
  exact h v' w' (hO2.add hnm (h1.below hB2) (h2.below hB2) hown hg hloc)

set_option maxRecDepth 100000 in
set_option maxHeartbeats 1000000 in
theorem rput_walk (b off n c : Nat) (fs : List Fl) (s : ByteArray) (fa la : Option Addr) (fn fc ln lc : Nat) (f : Fl) (w : World) (HF : Hid (FilesV fp w (.slice (some ⟨b, off, none⟩) n c) fs)) (hn : n ≤ 100000000) (hp : 0 < n) (HS : Hid (s = f.name ∧ ReadsF fp w (.slice fa fn fc) f.firm ∧ ReadsF fp w (.slice la ln lc) f.loose)) (HFp : Hid (∀ g, fp g → g < w.heap.size)) :
    Calls Try.prog 36 #[.slice (some ⟨b, off, none⟩) n c, .agg #[.string s, .slice fa fn fc, .slice la ln lc]] w fun e w' => ∃ v', e = .returned v' ∧ FilesV fp w' v' (putL fs f) ∧ Below w.heap.size w w' := by
  obtain ⟨w0, hw0⟩ : ∃ w0, w0 = w.alloc (.cells #[.string s, .slice fa fn fc, .slice la ln lc] 58) := ⟨_, rfl⟩
  have HW0 : Hid (Below w.heap.size w w0 ∧ w.heap.size < w0.heap.size ∧ w0.cell? ⟨w.heap.size, 0, none⟩ = some (.string s) ∧ w0.cell? ⟨w.heap.size, 1, none⟩ = some (.slice fa fn fc) ∧ w0.cell? ⟨w.heap.size, 2, none⟩ = some (.slice la ln lc)) := by
    subst hw0
    refine ⟨(Below.refl _ _).alloc (Nat.le_refl _) _, ?_, ?_, ?_, ?_⟩
    · show w.heap.size < (w.heap.push _).size
      rw [Array.size_push]; omega
    · rw [cell_of_row _ w.heap.size 0 _ 58 (0, 0) (heap_alloc_new w _)]; rfl
    · rw [cell_of_row _ w.heap.size 1 _ 58 (0, 0) (heap_alloc_new w _)]; rfl
    · rw [cell_of_row _ w.heap.size 2 _ 58 (0, 0) (heap_alloc_new w _)]; rfl
  have HLn : Hid (fs.length = n) := HF.out.len
  have HX : Hid (∀ w1, Below w0.heap.size w0 w1 → w1.cell? ⟨w.heap.size, 0, none⟩ = some (.string s) ∧ w1.cell? ⟨w.heap.size, 1, none⟩ = some (.slice fa fn fc) ∧ w1.cell? ⟨w.heap.size, 2, none⟩ = some (.slice la ln lc)) := fun w1 hB => ⟨(hB.cell (p := ⟨w.heap.size, 0, none⟩) HW0.out.2.1).trans HW0.out.2.2.1, (hB.cell (p := ⟨w.heap.size, 1, none⟩) HW0.out.2.1).trans HW0.out.2.2.2.1, (hB.cell (p := ⟨w.heap.size, 2, none⟩) HW0.out.2.1).trans HW0.out.2.2.2.2⟩
  have HSf : Hid (∀ wr v vals gs, Outs fp w0 wr v vals gs → Safe fp wr v (.slice fa fn fc) f.firm ∧ Safe fp wr v (.slice la ln lc) f.loose) := fun wr v vals gs h =>
    ⟨Safe.old (HS.out.2.1.below HW0.out.1) h.bel (fun g e => (h.ge g e).1), Safe.old (HS.out.2.2.below HW0.out.1) h.bel (fun g e => (h.ge g e).1)⟩
  go_enter Try.func36, Try.ntmps36
  go_wp2
  rw [← hw0]
  clear hw0
  go_loopw [5, 6, 7] (fun v d i wr => ∃ (k : Nat) (done : Bool), k ≤ n ∧ i = .int .i64 k ∧ d = .bool done ∧ Hid (∃ vals gs, Outs fp w0 wr v vals gs ∧ gs ++ putGo f (fs.drop k) done = putL fs f)) (fun _ _ i _ => n - (intOf i).toNat)
  case atStart => exact ⟨0, false, Nat.zero_le _, rfl, rfl, [], [], Outs.start w0 (fun g hg => Nat.lt_trans (HFp.out g hg) HW0.out.2.1), rfl⟩
  case round =>
    obtain ⟨k, done, hk, rfl, rfl, HK⟩ := hrel
    obtain ⟨vals, gs, hO, hgs⟩ := HK.out
    have HO : Hid (Outs fp w0 wr u5 vals gs) := hO
    have HG : Hid (gs ++ putGo f (fs.drop k) done = putL fs f) := hgs
    have HLe : Hid (gs.length ≤ 1000000000) := by show gs.length ≤ _; have := put_few hgs; rw [HLn.out] at this; omega
    obtain ⟨x0, x1, x2⟩ := HX.out _ hO.bel
    clear HK hO hgs
    by_cases hlt : k < n
    · obtain ⟨b', off', e, hc⟩ := (HF.out.below HW0.out.1).cells hp
      cases e
      obtain ⟨y0, ga, gc, ka, kc, y1, y2, r1, r2⟩ := hc k hlt
      have hbl : b < w0.heap.size := World.block_lt_of_cell? w0 _ y0
      obtain ⟨t, ht⟩ : ∃ t, (fs.getD k noFl).name = t := ⟨_, rfl⟩
      obtain ⟨gn, hgn⟩ : ∃ gn, (fs.getD k noFl).firm.length = gn := ⟨_, rfl⟩
      obtain ⟨kn, hkn⟩ : ∃ kn, (fs.getD k noFl).loose.length = kn := ⟨_, rfl⟩
      rw [ht] at y0
      rw [hgn] at y1 r1
      rw [hkn] at y2 r2
      have HTn : Hid (t = (fs.getD k noFl).name) := ht.symm
      have HXk : Hid (∀ w1, Below w0.heap.size w0 w1 → w1.cell? ⟨b, off + k * 3, none⟩ = some (.string t) ∧ w1.cell? ⟨b, off + k * 3 + 1, none⟩ = some (.slice ga gn gc) ∧ w1.cell? ⟨b, off + k * 3 + 2, none⟩ = some (.slice ka kn kc)) := fun w1 hB => ⟨(hB.cell (p := ⟨b, off + k * 3, none⟩) hbl).trans y0, (hB.cell (p := ⟨b, off + k * 3 + 1, none⟩) hbl).trans y1, (hB.cell (p := ⟨b, off + k * 3 + 2, none⟩) hbl).trans y2⟩
      have HSx : Hid (∀ wr v vals gs, Outs fp w0 wr v vals gs → Safe fp wr v (.slice ga gn gc) (fs.getD k noFl).firm ∧ Safe fp wr v (.slice ka kn kc) (fs.getD k noFl).loose) := fun wr v vals gs h =>
        ⟨Safe.old r1 h.bel (fun g e => (h.ge g e).1), Safe.old r2 h.bel (fun g e => (h.ge g e).1)⟩
      clear y0 y1 y2 r1 r2 hc hgn hkn
      obtain ⟨y0, y1, y2⟩ := HXk.out _ HO.out.bel
      have HNx := put_next HG.out (by rw [HLn.out]; exact hlt)
      rw [ht, ← HS.out.1] at HNx
      have hge : ge (fs.getD k noFl) f = !(Op.bytesLess t.toList s.toList) := by unfold ge; rw [ht, ← HS.out.1]
      rw [hge] at HNx
      have hb := name_beq t s
      have i1 : (k : Int) < (n : Int) := by omega
      have HLf : Hid ((gs ++ [f]).length ≤ 1000000000) := by show (gs ++ [f]).length ≤ _; have := put_few HG.out; rw [HLn.out] at this; simp; omega
      clear ht hge
      generalize hbl2 : Op.bytesLess t.toList s.toList = less at *
      by_cases hst : t = s
      · rw [decide_eq_true hst] at hb
        simp only [if_pos hst, List.nil_append] at HNx
        cases hdone : done with
        | true =>
          subst hdone
          have HE : Hid (∃ vals gs, Outs fp w0 wr u5 vals gs ∧ gs ++ putGo f (fs.drop (k + 1)) true = putL fs f) := ⟨vals, gs, HO.out, by simpa using HNx⟩
          clear HNx hst
          go_wp2
          go_quiet (fail)
          go_wp2
          go_quiet (fail)
          go_wp2
          first
            | (refine ⟨⟨k + 1, true, by omega, by go_num, rfl, by obtain ⟨vals, gs, h1, h2⟩ := HE.out; exact ⟨vals, gs, (by first | exact h1 | exact h1.moved (below_drewN (Below.refl _ _) _)), h2⟩⟩, ?_⟩; simp [intOf]; omega)
            | (go_roundw; (case rel => exact ⟨k + 1, true, by omega, by go_num, rfl, by obtain ⟨vals, gs, h1, h2⟩ := HE.out; exact ⟨vals, gs, (by first | exact h1 | exact h1.moved (below_drewN (Below.refl _ _) _)), h2⟩⟩); (case measure => simp [intOf]; omega))
        | false =>
          subst hdone
          have hless : less = false := by rw [← hbl2, hst, bytesLess_eq]; simp
          subst hless
          have HNy : Hid (gs ++ [f] ++ putGo f (fs.drop (k + 1)) true = putL fs f) := by show _ = _; rw [List.append_assoc]; simpa using HNx
          clear HNx hst
          go_wp2
          go_quiet (fail)
          go_wp2_with (at_builtin; refine wpList_add rfl (.tmp 26) (.tmp 28) rfl HO.out (by first | exact Below.refl _ _ | exact below_drewN (Below.refl _ _) _) rfl rfl f HS.out.1 (HSf.out _ _ _ _ HO.out).1 (HSf.out _ _ _ _ HO.out).2 HLe.out ?_; intro v1 w1 hO1; obtain ⟨z0, z1, z2⟩ := HX.out _ hO1.bel; obtain ⟨q0, q1, q2⟩ := HXk.out _ hO1.bel; have HOf : Hid (Outs fp w0 w1 v1 (vals ++ [⟨s, .slice fa fn fc, .slice la ln lc⟩]) (gs ++ [f])) := hO1; clear hO1)
          go_quiet (fail)
          go_wp2
          have HE : Hid (∃ vals gs, Outs fp w0 w1 v1 vals gs ∧ gs ++ putGo f (fs.drop (k + 1)) true = putL fs f) := ⟨_, _, HOf.out, HNy.out⟩
          first
            | (refine ⟨⟨k + 1, true, by omega, by go_num, rfl, by obtain ⟨vals, gs, h1, h2⟩ := HE.out; exact ⟨vals, gs, (by first | exact h1 | exact h1.moved (below_drewN (Below.refl _ _) _)), h2⟩⟩, ?_⟩; simp [intOf]; omega)
            | (go_roundw; (case rel => exact ⟨k + 1, true, by omega, by go_num, rfl, by obtain ⟨vals, gs, h1, h2⟩ := HE.out; exact ⟨vals, gs, (by first | exact h1 | exact h1.moved (below_drewN (Below.refl _ _) _)), h2⟩⟩); (case measure => simp [intOf]; omega))
      · rw [decide_eq_false hst] at hb
        simp only [if_neg hst] at HNx
        cases hdone : done with
        | true =>
          subst hdone
          have HNy : Hid (gs ++ [fs.getD k noFl] ++ putGo f (fs.drop (k + 1)) true = putL fs f) := by show _ = _; rw [List.append_assoc]; simpa using HNx
          clear HNx hst
          go_wp2
          go_quiet (fail)
          go_wp2
          go_quiet (fail)
          go_wp2_with (at_builtin; refine wpList_add rfl (.tmp 38) (.tmp 43) rfl HO.out (by first | exact Below.refl _ _ | exact below_drewN (Below.refl _ _) _) rfl rfl (fs.getD k noFl) HTn.out (HSx.out _ _ _ _ HO.out).1 (HSx.out _ _ _ _ HO.out).2 HLe.out ?_; intro v2 w2 hO2; have HOx : Hid (Outs fp w0 w2 v2 (vals ++ [⟨t, .slice ga gn gc, .slice ka kn kc⟩]) (gs ++ [fs.getD k noFl])) := hO2; clear hO2)
          have HE : Hid (∃ vals gs, Outs fp w0 w2 v2 vals gs ∧ gs ++ putGo f (fs.drop (k + 1)) true = putL fs f) := ⟨_, _, HOx.out, HNy.out⟩
          first
            | (refine ⟨⟨k + 1, true, by omega, by go_num, rfl, by obtain ⟨vals, gs, h1, h2⟩ := HE.out; exact ⟨vals, gs, (by first | exact h1 | exact h1.moved (below_drewN (Below.refl _ _) _)), h2⟩⟩, ?_⟩; simp [intOf]; omega)
            | (go_roundw; (case rel => exact ⟨k + 1, true, by omega, by go_num, rfl, by obtain ⟨vals, gs, h1, h2⟩ := HE.out; exact ⟨vals, gs, (by first | exact h1 | exact h1.moved (below_drewN (Below.refl _ _) _)), h2⟩⟩); (case measure => simp [intOf]; omega))
        | false =>
          subst hdone
          cases hless : less with
          | true =>
            subst hless
            have HNy : Hid (gs ++ [fs.getD k noFl] ++ putGo f (fs.drop (k + 1)) false = putL fs f) := by show _ = _; rw [List.append_assoc]; simpa using HNx
            clear HNx hst
            go_wp2
            go_quiet (fail)
            go_wp2
            go_quiet (fail)
            go_wp2_with (at_builtin; refine wpList_add rfl (.tmp 38) (.tmp 43) rfl HO.out (by first | exact Below.refl _ _ | exact below_drewN (Below.refl _ _) _) rfl rfl (fs.getD k noFl) HTn.out (HSx.out _ _ _ _ HO.out).1 (HSx.out _ _ _ _ HO.out).2 HLe.out ?_; intro v2 w2 hO2; have HOx : Hid (Outs fp w0 w2 v2 (vals ++ [⟨t, .slice ga gn gc, .slice ka kn kc⟩]) (gs ++ [fs.getD k noFl])) := hO2; clear hO2)
            have HE : Hid (∃ vals gs, Outs fp w0 w2 v2 vals gs ∧ gs ++ putGo f (fs.drop (k + 1)) false = putL fs f) := ⟨_, _, HOx.out, HNy.out⟩
            first
              | (refine ⟨⟨k + 1, false, by omega, by go_num, rfl, by obtain ⟨vals, gs, h1, h2⟩ := HE.out; exact ⟨vals, gs, (by first | exact h1 | exact h1.moved (below_drewN (Below.refl _ _) _)), h2⟩⟩, ?_⟩; simp [intOf]; omega)
              | (go_roundw; (case rel => exact ⟨k + 1, false, by omega, by go_num, rfl, by obtain ⟨vals, gs, h1, h2⟩ := HE.out; exact ⟨vals, gs, (by first | exact h1 | exact h1.moved (below_drewN (Below.refl _ _) _)), h2⟩⟩); (case measure => simp [intOf]; omega))
          | false =>
            subst hless
            have HNy : Hid (gs ++ [f] ++ [fs.getD k noFl] ++ putGo f (fs.drop (k + 1)) true = putL fs f) := by show _ = _; rw [List.append_assoc, List.append_assoc]; simpa using HNx
            clear HNx hst
            go_wp2
            go_quiet (fail)
            go_wp2_with (at_builtin; refine wpList_add rfl (.tmp 26) (.tmp 28) rfl HO.out (by first | exact Below.refl _ _ | exact below_drewN (Below.refl _ _) _) rfl rfl f HS.out.1 (HSf.out _ _ _ _ HO.out).1 (HSf.out _ _ _ _ HO.out).2 HLe.out ?_; intro v1 w1 hO1; obtain ⟨z0, z1, z2⟩ := HX.out _ hO1.bel; obtain ⟨q0, q1, q2⟩ := HXk.out _ hO1.bel; have HOf : Hid (Outs fp w0 w1 v1 (vals ++ [⟨s, .slice fa fn fc, .slice la ln lc⟩]) (gs ++ [f])) := hO1; clear hO1)
            go_quiet (fail)
            go_wp2_with (at_builtin; refine wpList_add rfl (.tmp 38) (.tmp 43) rfl HOf.out (by first | exact Below.refl _ _ | exact below_drewN (Below.refl _ _) _) rfl rfl (fs.getD k noFl) HTn.out (HSx.out _ _ _ _ HOf.out).1 (HSx.out _ _ _ _ HOf.out).2 HLf.out ?_; intro v2 w2 hO2; have HOx : Hid (Outs fp w0 w2 v2 ((vals ++ [⟨s, .slice fa fn fc, .slice la ln lc⟩]) ++ [⟨t, .slice ga gn gc, .slice ka kn kc⟩]) ((gs ++ [f]) ++ [fs.getD k noFl])) := hO2; clear hO2)
            have HE : Hid (∃ vals gs, Outs fp w0 w2 v2 vals gs ∧ gs ++ putGo f (fs.drop (k + 1)) true = putL fs f) := ⟨_, _, HOx.out, HNy.out⟩
            first
              | (refine ⟨⟨k + 1, true, by omega, by go_num, rfl, by obtain ⟨vals, gs, h1, h2⟩ := HE.out; exact ⟨vals, gs, (by first | exact h1 | exact h1.moved (below_drewN (Below.refl _ _) _)), h2⟩⟩, ?_⟩; simp [intOf]; omega)
              | (go_roundw; (case rel => exact ⟨k + 1, true, by omega, by go_num, rfl, by obtain ⟨vals, gs, h1, h2⟩ := HE.out; exact ⟨vals, gs, (by first | exact h1 | exact h1.moved (below_drewN (Below.refl _ _) _)), h2⟩⟩); (case measure => simp [intOf]; omega))
    · have hlt' : ¬ (k : Int) < (n : Int) := by omega
      have HE : Hid (gs ++ (if done then [] else [f]) = putL fs f) := by
        have := HG.out
        rw [List.drop_of_length_le (by rw [HLn.out]; omega)] at this
        exact this
      cases done with
      | true =>
        have he2 : gs = putL fs f := by have := HE.out; simpa using this
        have HE2 : Hid (gs = putL fs f) := he2
        clear he2
        go_wp2
        go_ret
        exact ⟨_, rfl, by rw [← HE2.out]; exact HO.out.files, HW0.out.1.trans (HO.out.bel.mono (by have := HW0.out.2.1; omega))⟩
      | false =>
        have he2 : gs ++ [f] = putL fs f := by have := HE.out; simpa using this
        have HE2 : Hid (gs ++ [f] = putL fs f) := he2
        clear he2
        go_wp2_with (at_builtin; refine wpList_add rfl (.tmp 47) (.tmp 49) rfl HO.out (Below.refl _ _) rfl rfl f HS.out.1 (HSf.out _ _ _ _ HO.out).1 (HSf.out _ _ _ _ HO.out).2 HLe.out ?_; intro v2 w2 hO2; have HO2 : Hid (Outs fp w0 w2 v2 (vals ++ [⟨s, .slice fa fn fc, .slice la ln lc⟩]) (gs ++ [f])) := hO2; clear hO2)
        go_ret
        exact ⟨_, rfl, by rw [← HE2.out]; exact HO2.out.files, HW0.out.1.trans (HO2.out.bel.mono (by have := HW0.out.2.1; omega))⟩

set_option maxRecDepth 100000 in
set_option maxHeartbeats 400000 in
theorem rput_empty (a : Option Addr) (c : Nat) (s : ByteArray) (fa la : Option Addr) (fn fc ln lc : Nat) (f : Fl) (w : World) (HS : Hid (s = f.name ∧ ReadsF fp w (.slice fa fn fc) f.firm ∧ ReadsF fp w (.slice la ln lc) f.loose)) (HFp : Hid (∀ g, fp g → g < w.heap.size)) :
    Calls Try.prog 36 #[.slice a 0 c, .agg #[.string s, .slice fa fn fc, .slice la ln lc]] w fun e w' => ∃ v', e = .returned v' ∧ FilesV fp w' v' [f] ∧ Below w.heap.size w w' := by
  obtain ⟨w0, hw0⟩ : ∃ w0, w0 = w.alloc (.cells #[.string s, .slice fa fn fc, .slice la ln lc] 58) := ⟨_, rfl⟩
  have HB : Hid (Below w.heap.size w w0) := by subst hw0; exact (Below.refl _ _).alloc (Nat.le_refl _) _
  have x0 : w0.cell? ⟨w.heap.size, 0, none⟩ = some (.string s) := by subst hw0; rw [cell_of_row _ w.heap.size 0 _ 58 (0, 0) (heap_alloc_new w _)]; rfl
  have x1 : w0.cell? ⟨w.heap.size, 1, none⟩ = some (.slice fa fn fc) := by subst hw0; rw [cell_of_row _ w.heap.size 1 _ 58 (0, 0) (heap_alloc_new w _)]; rfl
  have x2 : w0.cell? ⟨w.heap.size, 2, none⟩ = some (.slice la ln lc) := by subst hw0; rw [cell_of_row _ w.heap.size 2 _ 58 (0, 0) (heap_alloc_new w _)]; rfl
  have HO : Hid (Outs fp w0 w0 (.slice none 0 0) [] []) := Outs.start w0 (fun g hg => Nat.lt_of_lt_of_le (HFp.out g hg) HB.out.size)
  have HSf : Hid (Safe fp w0 (.slice none 0 0) (.slice fa fn fc) f.firm ∧ Safe fp w0 (.slice none 0 0) (.slice la ln lc) f.loose) := ⟨Safe.old HS.out.2.1 HB.out (fun g e => by cases e), Safe.old HS.out.2.2 HB.out (fun g e => by cases e)⟩
  have HLe : Hid (([] : List Fl).length ≤ 1000000000) := by show 0 ≤ _; omega
  go_enter Try.func36, Try.ntmps36
  go_wp2
  rw [← hw0]
  clear hw0
  refine wp_loop_rounds 1 ?_
  rw [rounds_succ]
  go_wp2_with (at_builtin; refine wpList_add rfl (.tmp 47) (.tmp 49) rfl HO.out (Below.refl _ _) rfl rfl f HS.out.1 HSf.out.1 HSf.out.2 HLe.out ?_; intro v2 w2 hO2; have HO2 : Hid (Outs fp w0 w2 v2 ([] ++ [⟨s, .slice fa fn fc, .slice la ln lc⟩]) ([] ++ [f])) := hO2; clear hO2)
  go_ret
  exact ⟨_, rfl, HO2.out.files, HB.out.trans (HO2.out.bel.mono HB.out.size)⟩

theorem rput_any (v : Value) (fs : List Fl) (s : ByteArray) (vf vl : Value) (f : Fl) (w : World) (h : FilesV fp w v fs) (hn : fs.length ≤ 100000000) (hs : s = f.name) (h1 : ReadsF fp w vf f.firm) (h2 : ReadsF fp w vl f.loose) (hfp : ∀ g, fp g → g < w.heap.size) :
    Calls Try.prog 36 #[v, .agg #[.string s, vf, vl]] w fun e w' => ∃ v', e = .returned v' ∧ FilesV fp w' v' (putL fs f) ∧ Below w.heap.size w w' := by
  obtain ⟨a, c, rfl, h3, _⟩ := id h
  obtain ⟨fa, fc, rfl, _⟩ := id h1.1
  obtain ⟨la, lc, rfl, _⟩ := id h2.1
  by_cases hp : 0 < fs.length
  · obtain ⟨b, off, rfl, _⟩ := h.cells hp
    exact rput_walk b off fs.length c fs s fa la _ fc _ lc f w h hn hp ⟨hs, h1, h2⟩ hfp
  · have e : fs = [] := List.length_eq_zero_iff.1 (by omega)
    subst e
    exact rput_empty a c s fa la _ fc _ lc f w ⟨hs, h1, h2⟩ hfp

end Go.Proofs.Ytcmnjiichkcmgaa

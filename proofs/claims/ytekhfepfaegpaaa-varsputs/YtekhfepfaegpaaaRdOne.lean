/-
  readOne: the variable that bytes begin with: the contract.
-/
import Derived.Test.YtekhfepfaegpaaaPut
namespace Go.Proofs.Ytekhfepfaegpaaa
open Go.RowKit Pack
set_option linter.unusedVariables false

/-- A name and a number that bytes begin with, and what is behind. -/
def oneM (l : List (BitVec 8)) : Except Int (List (BitVec 8) × Int × List (BitVec 8)) :=
  match rd 0 l with
  | .inl k => if val (l.take k) ≤ l.length - k then
      (match rd 0 (l.drop (k + val (l.take k))) with
      | .inl j => .ok ((l.drop k).take (val (l.take k)), unzz (val ((l.drop (k + val (l.take k))).take j)), (l.drop (k + val (l.take k))).drop j)
      | .inr r => .error (code (.inr r)))
    else .error 5
  | .inr r => .error (code (.inr r))
/-- A slice that lies ahead of a block. -/
def St (p : Nat) (v : Value) : Prop := ∀ a n c, v = .slice (some a) n c → a.block < p
theorem ReadsV.stays {w w' : World} {p : Nat} {v : Value} {l : List (BitVec 8)} (h : ReadsV w v l) (hs : St p v) (hb : Below p w w') : ReadsV w' v l := by
  obtain ⟨a, cap, h1, h2, h3, h4, h5, h6⟩ := h
  refine ⟨a, cap, h1, h2, h3, h4, h5, ?_⟩
  rcases h6 with h | ⟨b, off, ha, hc⟩
  · exact .inl h
  · refine .inr ⟨b, off, ha, fun i hi => (hb.cell (p := ⟨b, off + i, none⟩) ?_).trans (hc i hi)⟩
    exact hs ⟨b, off, none⟩ l.length cap (by rw [h1, ha])
theorem Near.st {p : Nat} {v u : Value} (h : Near v u) (hs : St p v) : St p u := h (fun b => b < p) hs
set_option maxRecDepth 100000 in
set_option maxHeartbeats 1000000 in
theorem readOne_err (p : Nat) (v : Value) (b : List (BitVec 8)) (c : Int) (w : World) (hr : ReadsV w v b) (h : oneM b = .error c) : Calls Try.prog 40 #[.pointer (some ⟨p, 0, none⟩), v] w fun e w' => e = .returned (.tuple #[.slice none 0 0, .int .i64 c]) ∧ Below w.heap.size w w' ∧ c ≠ 0 := by
  have HR : Hid (ReadsV w v b) := hr
  unfold oneM at h
  rcases hk : rd 0 b with k | r
  · rw [hk] at h
    simp only at h
    by_cases hm : val (b.take k) ≤ b.length - k
    · rw [if_pos hm] at h
      rcases hj : rd 0 (b.drop (k + val (b.take k))) with j | r
      · rw [hj] at h; cases h
      · rw [hj] at h
        simp only [Except.error.injEq] at h
        have HB : Hid (Calls Try.prog 57 #[v] w fun e w' => ∃ sv rv, e = .returned (.tuple #[sv, rv, .int .i64 0]) ∧ ReadsV w' sv ((b.drop k).take (val (b.take k))) ∧ ReadsV w' rv (b.drop (k + val (b.take k))) ∧ Below w.heap.size w w' ∧ Near v rv) := readBytes_ok v b k _ w hr hk rfl hm
        have HI : Hid (∀ w' rv, ReadsV w' rv (b.drop (k + val (b.take k))) → Calls Try.prog 58 #[rv] w' fun e w2 => e = .returned (.tuple #[.int .i64 0, .slice none 0 0, .int .i64 c]) ∧ Below w'.heap.size w' w2) := fun w' rv q => readInt_err rv _ c w' q (fun k2 e => by rw [hj] at e; cases e) (by rw [hj]; exact h)
        have hne : c ≠ 0 := by
          have := code_ne (r := .inr r) (fun k e => by cases e)
          omega
        have hne2 : (c != 0) = true := by simp; exact hne
        clear hr hk hm hj h
        go_enter Try.func40, Try.ntmps40
        go_wp2_with (first
          | (go_at_call 58; refine (HI.out _ _ HQ.out.1).mono ?_; rintro e w2 ⟨rfl, q1⟩; have HB2 : Hid (Below w.heap.size w w2) := HQ.out.2.trans (q1.mono HQ.out.2.size); clear q1)
          | (go_at_call 57; refine HB.out.mono ?_; rintro e w1 ⟨sv, rv, rfl, q1, q2, q3, _⟩; have HQ : Hid (ReadsV w1 rv (b.drop (k + val (b.take k))) ∧ Below w.heap.size w w1) := ⟨q2, q3⟩; clear q1 q2 q3))
        go_ret2
        exact ⟨rfl, HB2.out, hne⟩
    · rw [if_neg hm] at h
      simp only [Except.error.injEq] at h
      subst h
      have HB : Hid (Calls Try.prog 57 #[v] w fun e w' => e = .returned (.tuple #[.slice none 0 0, .slice none 0 0, .int .i64 5]) ∧ Below w.heap.size w w') := readBytes_short v b k _ w hr hk rfl (by omega)
      clear hr hk hm
      go_enter Try.func40, Try.ntmps40
      go_wp2_with (go_at_call 57; refine HB.out.mono ?_; rintro e w1 ⟨rfl, q1⟩)
      go_ret2
      exact ⟨rfl, q1, by decide⟩
  · rw [hk] at h
    simp only [Except.error.injEq] at h
    have HB : Hid (Calls Try.prog 57 #[v] w fun e w' => e = .returned (.tuple #[.slice none 0 0, .slice none 0 0, .int .i64 c]) ∧ Below w.heap.size w w') := readBytes_err v b c w hr (fun k2 e => by rw [hk] at e; cases e) (by rw [hk]; exact h)
    have hne : c ≠ 0 := by
      have := code_ne (r := .inr r) (fun k e => by cases e)
      omega
    have hne2 : (c != 0) = true := by simp; exact hne
    clear hr hk h
    go_enter Try.func40, Try.ntmps40
    go_wp2_with (go_at_call 57; refine HB.out.mono ?_; rintro e w1 ⟨rfl, q1⟩)
    go_ret2
    exact ⟨rfl, q1, hne⟩
/-- 'append(v, x...)' as a step of a region that draws its order. -/
theorem step_append_ow {P : Program} {w : World} {ops : Array Oper} {o : Oper} {a : Act} {K : Act → World → Prop} {Q : Exit → Act → World → Prop} {E : Prop} (hgd : o.guard = none) (s x : Operand) (t el : TypeId)
    (ho : o.op = .call { callee := .builtin .append, args := #[s, x], argTypes := #[t, t] })
    (base : Nat) (ht : P.underlying t = some (.slice el)) (z : Value) (k : Nat) (hinfo : (P.info? el).map (fun i => (i.zero, i.size, i.bytes)) = some (some z, 1, k)) (hk : k ≤ 16) (hzc : z.cells.size = 1)
    (v : Value) (l : List Value) (hs : a.eval s = v) (hown : Ow w base el v l)
    (vb : Nat) (u : Value) (hx : a.eval x = .slice (some ⟨vb, 0, none⟩) 1 1) (hr : w.cell? ⟨vb, 0, none⟩ = some u) (h1 : u.oneCell' = true) (hlen : l.length ≤ 1000000) (hbase : base ≤ w.heap.size)
    (h : ∀ v' w', Ow w' base el v' (l ++ [u]) → w.grownBy w' v.ownBlock → K (a.put o.dst v') w') :
    if Region.wanted o (yielded ops a.tmps) = true then Oper.wp P o a w K Q else E := by
  rw [if_pos (show Region.wanted o (yielded ops a.tmps) = true by simp [Region.wanted, hgd])]
  obtain ⟨i, hi, hz, hsize, hby⟩ := info_parts hinfo
  refine wp_append_own w s x t ho base el i z 1 k ht hi hz hsize hby hzc (by decide) v l.length l hs hown ⟨vb, 0, none⟩ 1 1 [u] hx (by simp) ?_ (fun q hq => by simp at hq; rw [hq]; exact h1)
    (by unfold maxLen; omega) (Nat.le_trans (Nat.mul_le_mul_left _ hk) (by omega)) hbase ?_
  · intro j q hj
    rw [add_plain, Nat.zero_add]
    match j, hj with
    | 0, hj => simp at hj; rw [← hj]; exact hr
  · intro v' w' h1 h2 _
    refine h v' w' ?_ h2
    show w'.ownsRow base el 1 v' (l ++ [u]).length (l ++ [u])
    rw [List.length_append]; exact h1
theorem Ow.drew {w : World} {base : Nat} {t : TypeId} {v : Value} {l : List Value} (h : Ow w base t v l) : Ow w.drew base t v l := h
theorem Two.drew {w : World} {p : Nat} {x y : Value} (h : Two w p x y) : Two w.drew p x y := ⟨h.lt, h.c0, h.c1, h.f0, h.f1⟩
set_option maxRecDepth 100000 in
set_option maxHeartbeats 2000000 in
theorem readOne_ok (p : Nat) (l : VL) (v : Value) (b s r : List (BitVec 8)) (n : Int) (w : World) (hV : Vr w p l) (hr : ReadsV w v b) (hSt : St p v) (h : oneM b = .ok (s, n, r)) (hl : l.length ≤ 1000) : Calls Try.prog 40 #[.pointer (some ⟨p, 0, none⟩), v] w fun e w' => ∃ rv, e = .returned (.tuple #[rv, .int .i64 0]) ∧ ReadsV w' rv r ∧ St p rv ∧ Vr w' p (l ++ [(str s, n)]) ∧ Below p w w' := by
  unfold oneM at h
  rcases hk : rd 0 b with k | q
  · rw [hk] at h
    simp only at h
    by_cases hm : val (b.take k) ≤ b.length - k
    · rw [if_pos hm] at h
      rcases hj : rd 0 (b.drop (k + val (b.take k))) with j | q
      · rw [hj] at h
        simp only [Except.ok.injEq, Prod.mk.injEq] at h
        obtain ⟨h1, h2, h3⟩ := h
        have HB : Hid (Calls Try.prog 57 #[v] w fun e w' => ∃ sv rv, e = .returned (.tuple #[sv, rv, .int .i64 0]) ∧ ReadsV w' sv s ∧ ReadsV w' rv (b.drop (k + val (b.take k))) ∧ Below w.heap.size w w' ∧ Near v rv) := by
          have := readBytes_ok v b k _ w hr hk rfl hm
          rwa [h1] at this
        have HI : Hid (∀ w' rv, ReadsV w' rv (b.drop (k + val (b.take k))) → Calls Try.prog 58 #[rv] w' fun e w2 => ∃ rv2, e = .returned (.tuple #[.int .i64 n, rv2, .int .i64 0]) ∧ ReadsV w2 rv2 r ∧ Below w'.heap.size w' w2 ∧ Near rv rv2) := fun w' rv q => by
          have := readInt_ok rv _ j _ w' q hj rfl
          rw [h2, h3] at this
          refine this.mono ?_
          rintro e w2 ⟨a, c, rfl, q1, q2, q3⟩
          exact ⟨_, rfl, q1, q2, q3⟩
        obtain ⟨a, c, b0, d, ht, o9, o2⟩ := hV.at
        have HV : Hid (∀ w2, Below w.heap.size w w2 → Two w2 p (.slice a l.length c) (.slice b0 l.length d) ∧ Ow w2 (p + 1) 9 (.slice a l.length c) (strsV (nmsOf l)) ∧ Ow w2 (p + 1) 2 (.slice b0 l.length d) (intsV (valsOf l))) := fun w2 hb => ⟨ht.below hb, o9.below hb, o2.below hb⟩
        have hpw : p + 1 ≤ w.heap.size := ht.lt
        have HE : Hid (∀ w' sn' sv', Two w' p sn' sv' → Ow w' (p + 1) 9 sn' (strsV (nmsOf l) ++ [.string (str s)]) → Ow w' (p + 1) 2 sv' (intsV (valsOf l) ++ [.int .i64 n]) → Vr w' p (l ++ [(str s, n)])) := fun w' sn' sv' q1 q2 q3 => ⟨sn', sv', q1, by simpa [strsV, nmsOf] using q2, by simpa [intsV, valsOf] using q3⟩
        have HSt : Hid (St p v) := hSt
        have hl9 : (strsV (nmsOf l)).length = l.length := by rw [strsV_len, nmsOf_len]
        have hl2 : (intsV (valsOf l)).length = l.length := by rw [intsV_len, valsOf_len]
        have HL9 : Hid ((strsV (nmsOf l)).length ≤ 1000000) := by show _ ≤ _; omega
        have HL2 : Hid ((intsV (valsOf l)).length + [Value.int .i64 n].length ≤ 1000000000000) := by show _ ≤ _; rw [hl2]; simp; omega
        clear hr hk hm hj h1 h2 h3 hV ht o9 o2 hSt hl9 hl2
        generalize strsV (nmsOf l) = L9 at *
        generalize intsV (valsOf l) = L2 at *
        generalize b.drop (k + val (b.take k)) = bb at *
        generalize hsS : str s = sS at *
        have HsS : Hid (str s = sS) := hsS
        clear hsS
        have HX : Hid (∀ w2 v' w3, Two w2 p (.slice a l.length c) (.slice b0 l.length d) → Ow w2 (p + 1) 9 (.slice a l.length c) L9 → Ow w2 (p + 1) 2 (.slice b0 l.length d) L2 → p + 1 ≤ w2.heap.size → Ow w3 (p + 1) 9 v' (L9 ++ [.string sS]) → (w2.alloc (.cells #[.string sS] 9)).drew.grownBy w3 (Value.slice a l.length c).ownBlock → Two w3 p (.slice a l.length c) (.slice b0 l.length d) ∧ (∃ a' n' c', v' = .slice a' n' c') ∧ Two (w3.setCell ⟨p, 0, none⟩ v') p v' (.slice b0 l.length d) ∧ Ow (w3.setCell ⟨p, 0, none⟩ v') (p + 1) 9 v' (L9 ++ [.string sS]) ∧ Ow (w3.setCell ⟨p, 0, none⟩ v') (p + 1) 2 (.slice b0 l.length d) L2 ∧ Below p w2 (w3.setCell ⟨p, 0, none⟩ v')) := fun w2 v' w3 q1 q2 q3 q4 q5 q6 => by
          have t3 := two_kept ((q1.alloc (.cells #[.string sS] 9)).drew) q6 (ow_block (q2.alloc (.cells #[.string sS] 9)))
          refine ⟨t3, ?_, two_set0 t3 v', ow_set q5 0 v', ow_set (ow_kept (q3.alloc (.cells #[.string sS] 9)).drew q6 (ow_apart (q2.alloc (.cells #[.string sS] 9)).drew (q3.alloc (.cells #[.string sS] 9)).drew)) 0 v', ?_⟩
          · obtain ⟨a', c', e⟩ := (Rd.of_own q5).form
            exact ⟨_, _, _, e⟩
          · exact Below.setCell (B := p) (below_row (B := p) (Below.drew (Below.alloc (B := p) (Below.refl _ _) (by omega) _)) (by show p ≤ (w2.alloc _).heap.size; rw [size_alloc]; omega) (q2.alloc (.cells #[.string sS] 9)).drew (by omega) q6) (p := ⟨p, 0, none⟩) (Nat.le_refl _) _
        have HY : Hid (∀ w4 v' v2 w5, Two w4 p v' (.slice b0 l.length d) → Ow w4 (p + 1) 9 v' (L9 ++ [.string sS]) → Ow w4 (p + 1) 2 (.slice b0 l.length d) L2 → p + 1 ≤ w4.heap.size → Ow w5 (p + 1) 2 v2 (L2 ++ [.int .i64 n]) → (w4.alloc (.cells #[.int .i64 n] 2)).grownBy w5 (Value.slice b0 l.length d).ownBlock → Two w5 p v' (.slice b0 l.length d) ∧ (∃ a' n' c', v2 = .slice a' n' c') ∧ Vr (w5.setCell ⟨p, 1, none⟩ v2) p (l ++ [(sS, n)]) ∧ Below p w4 (w5.setCell ⟨p, 1, none⟩ v2)) := fun w4 v' v2 w5 q1 q2 q3 q4 q5 q6 => by
          have t5 := two_kept (q1.alloc (.cells #[.int .i64 n] 2)) q6 (ow_block (q3.alloc (.cells #[.int .i64 n] 2)))
          refine ⟨t5, ?_, HE.out _ _ _ (two_set1 t5 v2) (ow_set (ow_kept9 (q2.alloc _) q6 (apart_sym (ow_apart (q2.alloc (.cells #[.int .i64 n] 2)) (q3.alloc (.cells #[.int .i64 n] 2))))) 1 v2) (ow_set q5 1 v2), ?_⟩
          · obtain ⟨a', c', e⟩ := (Rd.of_own q5).form
            exact ⟨_, _, _, e⟩
          · exact Below.setCell (B := p) (below_row (B := p) (Below.alloc (B := p) (Below.refl _ _) (by omega) _) (by rw [size_alloc]; omega) (q3.alloc (.cells #[.int .i64 n] 2)) (by omega) q6) (p := ⟨p, 1, none⟩) (Nat.le_refl _) _
        generalize hN : l.length = N at *
        go_enter Try.func40, Try.ntmps40
        go_wp2_with (first
          | (go_at_call 58; have := HQ; refine (HI.out _ _ HQ.out.2.1).mono ?_; rintro e w2 ⟨rv2, rfl, q1, q2, q3⟩; have HQ2 : Hid (ReadsV w2 sv s ∧ ReadsV w2 rv2 r ∧ Below w.heap.size w w2 ∧ St p rv2) := ⟨HQ.out.1.below q2, q1, HQ.out.2.2.1.trans (q2.mono HQ.out.2.2.1.size), (HQ.out.2.2.2.trans q3).st HSt.out⟩; clear q1 q2 q3 HQ)
          | (go_at_call 57; refine HB.out.mono ?_; rintro e w1 ⟨sv, rv, rfl, q1, q2, q3, q4⟩; have HQ : Hid (ReadsV w1 sv s ∧ ReadsV w1 rv bb ∧ Below w.heap.size w w1 ∧ Near v rv) := ⟨q1, q2, q3, q4⟩; clear q1 q2 q3 q4))
        have hsv := HQ2.out.1
        obtain ⟨sa, sc, rfl, _⟩ := hsv
        have hcs : (convert 42 9 (.slice sa s.length sc)).run Try.prog w2.drew = .ok (.string sS) w2.drew := by
          rw [← HsS.out]
          exact convert_str (w := w2.drew) (HQ2.out.1.below (Below.drew (Below.refl _ _)))
        obtain ⟨hT2, hO9, hO2⟩ := HV.out _ HQ2.out.2.2.1
        have hpw2 : p + 1 ≤ w2.heap.size := hT2.lt
        have HT2 : Hid (Two w2 p (.slice a N c) (.slice b0 N d)) := hT2
        have HO9 : Hid (Ow w2 (p + 1) 9 (.slice a N c) L9) := hO9
        have HO2 : Hid (Ow w2 (p + 1) 2 (.slice b0 N d) L2) := hO2
        have hcell : ((w2.alloc (.cells #[.string sS] 9)).drew).cell? ⟨w2.heap.size, 0, none⟩ = some (.string sS) := by
          show (w2.alloc (.cells #[.string sS] 9)).cell? _ = _
          rw [cell_of_row _ w2.heap.size 0 _ 9 (0, 0) (heap_alloc_new w2 _)]; rfl
        have HCell : Hid (((w2.alloc (.cells #[.string sS] 9)).drew).cell? ⟨w2.heap.size, 0, none⟩ = some (.string sS)) := hcell
        have HSz : Hid (p + 1 ≤ ((w2.alloc (.cells #[.string sS] 9)).drew).heap.size) := by show p + 1 ≤ (w2.alloc _).heap.size; rw [size_alloc]; omega
        obtain ⟨y4, y0, y1, y2, y3⟩ := hT2
        clear hO9 hO2 hcell
        go_region_law (refine step_append_ow rfl (.tmp 32) (.tmp 35) 22 9 rfl (p + 1) Try.underlying22 (.string ⟨#[]⟩) 16 Try.info9 (by decide) rfl _ L9 rfl (HO9.out.alloc (.cells #[.string sS] 9)).drew w2.heap.size (.string sS) rfl HCell.out rfl HL9.out HSz.out ?_; intro v' w3 q1 q2; obtain ⟨⟨x4, x0, x1, x2, x3⟩, ⟨a', n', c', rfl⟩, q3, q4, q5, q6⟩ := HX.out _ _ _ HT2.out HO9.out HO2.out hpw2 q1 q2; have HZ : Hid (Two (w3.setCell ⟨p, 0, none⟩ (.slice a' n' c')) p (.slice a' n' c') (.slice b0 N d) ∧ Ow (w3.setCell ⟨p, 0, none⟩ (.slice a' n' c')) (p + 1) 9 (.slice a' n' c') (L9 ++ [.string sS]) ∧ Ow (w3.setCell ⟨p, 0, none⟩ (.slice a' n' c')) (p + 1) 2 (.slice b0 N d) L2 ∧ Below p w2 (w3.setCell ⟨p, 0, none⟩ (.slice a' n' c'))) := ⟨q3, q4, q5, q6⟩; clear q1 q2 q3 q4 q5 q6)
        all_goals
          (generalize w3.setCell ⟨p, 0, none⟩ (.slice a' n' c') = w4 at *
           obtain ⟨z4, z0, z1, z2, z3⟩ := HZ.out.1
           have hpw4 : p + 1 ≤ w4.heap.size := z4
           have HR4 : Hid (Rd (w4.alloc (.cells #[.int .i64 n] 2)) (.slice (some ⟨w4.heap.size, 0, none⟩) 1 1) [.int .i64 n]) := Rd.of_own (Ow.new w4 2 #[.int .i64 n] 0 (Nat.zero_le _) (by simp))
           have H14 : Hid (∀ u ∈ [Value.int .i64 n], u.oneCell' = true) := fun u hu => by simp at hu; rw [hu]; rfl
           clear y0 y1 y2 y3 y4 x0 x1 x2 x3 x4
           go_wp2_with (at_builtin; refine wpList_append_ow rfl (.tmp 43) (.tmp 45) 23 2 rfl (p + 1) Try.underlying23 (.int .i64 0) 8 Try.info2 (by decide) rfl _ L2 rfl (HZ.out.2.2.1.alloc _) _ [.int .i64 n] rfl HR4.out H14.out HL2.out (base_le hpw4 _) ?_; intro v2 w5 q1 q2; obtain ⟨⟨y4, y0, y1, y2, y3⟩, ⟨a2, n2, c2, rfl⟩, q3, q4⟩ := HY.out _ _ _ _ HZ.out.1 HZ.out.2.1 HZ.out.2.2.1 hpw4 q1 q2; have HF : Hid (Vr (w5.setCell ⟨p, 1, none⟩ (.slice a2 n2 c2)) p (l ++ [(sS, n)]) ∧ Below p w2 (w5.setCell ⟨p, 1, none⟩ (.slice a2 n2 c2))) := ⟨q3, HZ.out.2.2.2.trans q4⟩; clear q1 q2 q3 q4)
           go_ret2
           exact ⟨_, rfl, HQ2.out.2.1.stays HQ2.out.2.2.2 HF.out.2, HQ2.out.2.2.2, HF.out.1, (HQ2.out.2.2.1.mono (by omega)).trans HF.out.2⟩)
      · rw [hj] at h; cases h
    · rw [if_neg hm] at h; cases h
  · rw [hk] at h; cases h
end Go.Proofs.Ytekhfepfaegpaaa

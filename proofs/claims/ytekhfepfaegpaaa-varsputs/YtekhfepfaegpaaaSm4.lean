/-
  Contracts: Clone of numbers and bytes, Same, Get; append to a row of the call's own.
-/
import Derived.Test.YtekhfepfaegpaaaSm3
import Derived.Lib.SliceRun
namespace Go.Proofs.Ytekhfepfaegpaaa
open Go.RowKit Pack
set_option linter.unusedVariables false

/-- 'append(v, x...)', v a row of the call's own, of cells of one type. -/
theorem wpList_append_ow {P : Program} {w : World} {ops : Array Oper} {rest : List Oper} {o : Oper} {a : Act} {Q : Exit → Act → World → Prop} (hgd : o.guard = none) (s x : Operand) (t el : TypeId)
    (ho : o.op = .call { callee := .builtin .append, args := #[s, x], argTypes := #[t, t] })
    (base : Nat) (ht : P.underlying t = some (.slice el)) (z : Value) (k : Nat) (hinfo : (P.info? el).map (fun i => (i.zero, i.size, i.bytes)) = some (some z, 1, k)) (hk : k ≤ 16) (hzc : z.cells.size = 1)
    (v : Value) (l : List Value) (hs : a.eval s = v) (hown : Ow w base el v l)
    (v2 : Value) (l2 : List Value) (hx : a.eval x = v2) (hr : Rd w v2 l2) (h1 : ∀ u ∈ l2, u.oneCell' = true) (hlen : l.length + l2.length ≤ 1000000000000) (hbase : base ≤ w.heap.size)
    (h : ∀ v' w', Ow w' base el v' (l ++ l2) → w.grownBy w' v.ownBlock → wpList P ops Q rest (a.put o.dst v') w') : wpList P ops Q (o :: rest) a w := by
  obtain ⟨i, hi, hz, hsize, hby⟩ := info_parts hinfo
  obtain ⟨ad, cap, rfl, hnil, _, _, hrd⟩ := hr
  cases ad with
  | none =>
    have hl2 : l2 = [] := by
      rcases hrd with h | ⟨_, _, h, _⟩
      · exact h
      · cases h
    subst hl2
    have hc : cap = 0 := hnil rfl
    subst hc
    have hh := h v w (by simpa using hown) ⟨rfl, rfl, rfl, Nat.le_refl _, fun _ _ _ => rfl⟩
    exact wpList_append_own_none hgd s x t ho base el i 1 ht hi v l.length l hs hown hx hh
  | some ad =>
    refine wpList_append_own w hgd s x t ho base el i z 1 k ht hi hz hsize hby hzc (by decide) v l.length l hs hown ad l2.length cap l2 hx (by omega) ?_ h1
      (by unfold maxLen; omega) (Nat.le_trans (Nat.mul_le_mul_left _ hk) (by omega)) hbase ?_
    · intro j u hj
      rcases hrd with h0 | ⟨b, off, hb, _, hc⟩
      · subst h0; simp at hj
      · cases hb
        rw [add_plain]
        exact hc j u hj
    · intro v' w' h1 h2 _
      refine h v' w' ?_ h2
      show w'.ownsRow base el 1 v' (l ++ l2).length (l ++ l2)
      rw [List.length_append]; exact h1
theorem Try.info2 : (Try.prog.info? 2).map (fun i => (i.zero, i.size, i.bytes)) = some (some (.int .i64 0), 1, 8) := by kernel_rfl
theorem Try.info9 : (Try.prog.info? 9).map (fun i => (i.zero, i.size, i.bytes)) = some (some (.string ⟨#[]⟩), 1, 16) := by kernel_rfl
theorem Ow.empty (w : World) (t : TypeId) : Ow (w.alloc (.cells #[] t)) w.heap.size t (.slice (some ⟨w.heap.size, 0, none⟩) 0 0) [] := Ow.new w t #[] w.heap.size (Nat.le_refl _) (by decide)
theorem below_row {B : Nat} {w0 w w' : World} {v : Value} {base : Nat} {t : TypeId} {l : List Value} (h : Below B w0 w) (hb : B ≤ w.heap.size) (ho : Ow w base t v l) (hB : B ≤ base) (hg : w.grownBy w' v.ownBlock) : Below B w0 w' :=
  h.grown hg hb fun k hk => Nat.le_trans hB (World.ownsRow.lt ho k hk).1

theorem q23 (w : World) (a : Option Addr) (n c n' c' : Nat) : (binOp .eql 23 (.slice a n c) (.slice none n' c')).run Try.prog w = .ok (.bool a.isNone) w := Lib.run_eql_slice_nil w _ _ a n c n' c' Try.underlying23
theorem q42 (w : World) (a : Option Addr) (n c n' c' : Nat) : (binOp .eql 42 (.slice a n c) (.slice none n' c')).run Try.prog w = .ok (.bool a.isNone) w := Lib.run_eql_slice_nil w _ _ a n c n' c' Try.underlying42
set_option maxRecDepth 100000 in
theorem cloneI_any (l : List Int) (v : Value) (w : World) (hv : Rd w v (intsV l)) (hl : l.length ≤ 1000000) : Calls Try.prog 34 #[v] w fun e w' => ∃ v', e = .returned v' ∧ Ow w' w.heap.size 2 v' (intsV l) ∧ Below w.heap.size w w' := by
  obtain ⟨a, c, rfl⟩ := hv.form
  obtain ⟨_, _, _, hnil, hcell⟩ := hv.at
  have HV : Hid (Rd w (.slice a (intsV l).length c) (intsV l)) := hv
  have HL : Hid (([] : List Value).length + (intsV l).length ≤ 1000000000000) := by show 0 + (intsV l).length ≤ _; rw [intsV_len]; omega
  cases a with
  | none =>
    have h0 : intsV l = [] := by
      rcases hv with ⟨a', cap, h1, _, _, _, h | ⟨_, _, h, _⟩⟩
      · exact h
      · simp only [Value.slice.injEq] at h1
        rw [h] at h1
        cases h1.1
    rw [h0]
    clear HV HL hcell hv h0 hnil
    have q := q23
    go_enter Try.func34, Try.ntmps34
    go_wp2
    go_ret
    exact ⟨_, rfl, Ow.nil _ _ _, Below.refl _ _⟩
  | some ad =>
    clear hcell hv hnil
    generalize hN : (intsV l).length = N at *
    have q := q23
    go_enter Try.func34, Try.ntmps34
    go_wp2_with (at_builtin; refine wpList_append_ow rfl (.tmp 5) (.tmp 6) 23 2 rfl w.heap.size Try.underlying23 (.int .i64 0) 8 Try.info2 (by decide) rfl _ [] rfl (Ow.empty w 2) _ (intsV l) rfl (HV.out.alloc _) intsV_one (by rw [hN]; exact HL.out) (base_le (Nat.le_refl _) _) ?_; intro v1 w1 hown1 hg1; have O1 : Hid (Ow w1 w.heap.size 2 v1 (intsV l) ∧ Below w.heap.size w w1) := ⟨hown1, below_row ((Below.refl _ _).alloc (Nat.le_refl _) _) (base_le (Nat.le_refl _) _) (Ow.empty w 2) (Nat.le_refl _) hg1⟩; clear hown1 hg1)
    go_ret
    exact ⟨_, rfl, O1.out.1, O1.out.2⟩
set_option maxRecDepth 100000 in
theorem cloneB_any (l : List (BitVec 8)) (v : Value) (w : World) (hv : ReadsV w v l) (hl : l.length ≤ 100000000000000) : Calls Try.prog 41 #[v] w fun e w' => ∃ v', e = .returned v' ∧ Owns w' w.heap.size v' l ∧ Below w.heap.size w w' := by
  have HV : Hid (ReadsV w v l) := hv
  obtain ⟨a, c, rfl, hnil, h2, h3, hr⟩ := hv
  have HL : Hid (([] : List (BitVec 8)).length + l.length ≤ 140737488355328) := by show 0 + l.length ≤ _; omega
  cases a with
  | none =>
    have h0 : l = [] := by
      rcases hr.2 with h | ⟨_, _, h, _⟩
      · exact h
      · cases h
    subst h0
    clear HV HL hr hnil
    have q := q42
    go_enter Try.func41, Try.ntmps41
    go_wp2
    go_ret
    exact ⟨_, rfl, Owns.nil _ _, Below.refl _ _⟩
  | some ad =>
    clear hr hnil
    generalize hN : l.length = N at *
    have HE : Hid (Owns (w.alloc (.cells #[] 5)) w.heap.size (.slice (some ⟨w.heap.size, 0, none⟩) 0 0) []) := World.ownsRow_lit (base := w.heap.size) (e := 5) (size := 1) w #[] 0 (Nat.le_refl _) (by decide) rfl
    have q := q42
    go_enter Try.func41, Try.ntmps41
    go_wp2_with (at_builtin; refine wpList_append_bytes rfl (.tmp 5) (.tmp 6) 42 rfl w.heap.size Try.underlying42 Try.info5 _ [] rfl HE.out _ l rfl (HV.out.below ((Below.refl _ _).alloc (Nat.le_refl _) _)) (by rw [hN]; exact HL.out) (base_le (Nat.le_refl _) _) ?_; intro v1 w1 hown1 hg1; have O1 : Hid (Owns w1 w.heap.size v1 l ∧ Below w.heap.size w w1) := ⟨hown1, ((Below.refl _ _).alloc (Nat.le_refl _) _).trans hg1⟩; clear hown1 hg1)
    go_ret
    exact ⟨_, rfl, O1.out.1, O1.out.2⟩

set_option maxRecDepth 100000 in
set_option maxHeartbeats 1000000 in
theorem Same_any (ns ms : List ByteArray) (vs us : List Int) (v u : Value) (w : World) (hv : RdV w v ns vs) (hu : RdV w u ms us) : Calls Try.prog 12 #[v, u] w fun e w' => e = .returned (.bool (decide (ns = ms) && decide (vs = us))) ∧ Below w.heap.size w w' := by
  obtain ⟨s1, s2, rfl, h1, h2⟩ := hv
  obtain ⟨s3, s4, rfl, h3, h4⟩ := hu
  have H1 : Hid (∀ w', Below w.heap.size w w' → Calls Try.prog 30 #[s1, s3] w' fun e w2 => e = .returned (.bool (decide (ns = ms))) ∧ Below w'.heap.size w' w2) := fun w' hb => equalS_any ns ms s1 s3 w' (h1.below hb) (h3.below hb)
  have H2 : Hid (∀ w', Below w.heap.size w w' → Calls Try.prog 31 #[s2, s4] w' fun e w2 => e = .returned (.bool (decide (vs = us))) ∧ Below w'.heap.size w' w2) := fun w' hb => equalI_any vs us s2 s4 w' (h2.below hb) (h4.below hb)
  have HB0 : Hid (Below w.heap.size w ((w.alloc (.cells #[s1, s2] 25)).alloc (.cells #[s3, s4] 25))) := ((Below.refl _ _).alloc (Nat.le_refl _) _).alloc (base_le (Nat.le_refl _) _) _
  obtain ⟨a1, n1, c1, rfl⟩ : ∃ a n c, s1 = .slice a n c := by obtain ⟨a, c, h⟩ := h1.form; exact ⟨_, _, _, h⟩
  obtain ⟨a2, n2, c2, rfl⟩ : ∃ a n c, s2 = .slice a n c := by obtain ⟨a, c, h⟩ := h2.form; exact ⟨_, _, _, h⟩
  obtain ⟨a3, n3, c3, rfl⟩ : ∃ a n c, s3 = .slice a n c := by obtain ⟨a, c, h⟩ := h3.form; exact ⟨_, _, _, h⟩
  obtain ⟨a4, n4, c4, rfl⟩ : ∃ a n c, s4 = .slice a n c := by obtain ⟨a, c, h⟩ := h4.form; exact ⟨_, _, _, h⟩
  have HT : Hid (∀ w', Below ((w.alloc (.cells #[.slice a1 n1 c1, .slice a2 n2 c2] 25)).alloc (.cells #[.slice a3 n3 c3, .slice a4 n4 c4] 25)).heap.size ((w.alloc (.cells #[.slice a1 n1 c1, .slice a2 n2 c2] 25)).alloc (.cells #[.slice a3 n3 c3, .slice a4 n4 c4] 25)) w' → Two w' w.heap.size (.slice a1 n1 c1) (.slice a2 n2 c2) ∧ Two w' (w.heap.size + 1) (.slice a3 n3 c3) (.slice a4 n4 c4)) := fun w' hb => by
    refine ⟨((Two.new w _ _ 25).alloc _).below hb, ?_⟩
    have := (Two.new (w.alloc (.cells #[.slice a1 n1 c1, .slice a2 n2 c2] 25)) (.slice a3 n3 c3) (.slice a4 n4 c4) 25).below hb
    rwa [size_alloc] at this
  clear h1 h2 h3 h4
  cases hq : decide (ns = ms) with
  | false =>
    rw [hq] at H1
    clear hq
    go_enter Try.func12, Try.ntmps12
    go_wp2_with (go_at_call 30; refine (H1.out _ HB0.out).mono ?_; rintro e w1 ⟨rfl, HB⟩)
    go_ret
    exact ⟨rfl, HB0.out.trans (HB.mono HB0.out.size)⟩
  | true =>
    rw [hq] at H1
    clear hq
    generalize decide (vs = us) = r at *
    go_enter Try.func12, Try.ntmps12
    go_wp2_with (first
      | (go_at_call 31; have := HB1; refine (H2.out _ HB1.out).mono ?_; rintro e w2 ⟨rfl, HB⟩; have HB2 : Hid (Below w.heap.size w w2) := HB1.out.trans (HB.mono HB1.out.size); clear HB)
      | (go_at_call 30; refine (H1.out _ HB0.out).mono ?_; rintro e w1 ⟨rfl, HB⟩; have HB1 : Hid (Below w.heap.size w w1) := HB0.out.trans (HB.mono HB0.out.size); obtain ⟨⟨l1, p0, p1, p2, p3⟩, ⟨l2, q0, q1, q2, q3⟩⟩ := HT.out _ HB; clear HB))
    go_ret
    exact ⟨by simp, HB2.out⟩

/-- What a variable has. -/
def getV (l : VL) (x : ByteArray) : Int := if fnd (nmsOf l) x = true then (valsOf l).getD (pos (nmsOf l) x) 0 else 0
theorem fnd_lt {l : VL} {x : ByteArray} (h : fnd (nmsOf l) x = true) : pos (nmsOf l) x < l.length := by
  unfold fnd at h
  have := (of_decide_eq_true h).1
  rwa [nmsOf_len] at this
set_option maxRecDepth 100000 in
set_option maxHeartbeats 1000000 in
theorem Get_any (l : VL) (x : ByteArray) (v : Value) (w : World) (hv : RdV w v (nmsOf l) (valsOf l)) (hs : Srt (nmsOf l)) (hl : l.length ≤ 1000000) : Calls Try.prog 21 #[v, .string x] w fun e w' => e = .returned (.tuple #[.int .i64 (getV l x), .bool (fnd (nmsOf l) x)]) ∧ Below w.heap.size w w' := by
  obtain ⟨sn, sv, rfl, h1, h2⟩ := hv
  have h1' := h1
  have h2' := h2
  obtain ⟨a, c, rfl⟩ := h1.form
  obtain ⟨b, d, rfl⟩ := h2.form
  obtain ⟨_, hnc, hcm, _, _⟩ := h1.at
  obtain ⟨_, hnd, hdm, _, hcell⟩ := h2.at
  rw [strsV_len, nmsOf_len] at *
  rw [intsV_len, valsOf_len] at *
  have HS : Hid (∀ w', Below w.heap.size w w' → Calls Try.prog 37 #[.slice a l.length c, .string x] w' fun e w2 => e = .returned (.tuple #[.int .i64 (pos (nmsOf l) x : Nat), .bool (fnd (nmsOf l) x)]) ∧ Below w'.heap.size w' w2) := fun w' hb => search_any _ _ x w' (h1'.below hb) hs (by rw [nmsOf_len]; exact hl)
  have HP : Hid (∀ w', Calls Try.prog 38 #[.agg #[.slice a l.length c, .slice b l.length d]] w' fun e w2 => e = .returned (.int .i64 l.length) ∧ Below w'.heap.size w' w2) := fun w' => pairs_any a b _ c _ d (by omega) (by omega) rfl w'
  have HB0 : Hid (Below w.heap.size w (w.alloc (.cells #[.slice a l.length c, .slice b l.length d] 25)).drew) := Below.drew ((Below.refl _ _).alloc (Nat.le_refl _) _)
  have HT : Hid (∀ w', Below (w.alloc (.cells #[.slice a l.length c, .slice b l.length d] 25)).heap.size (w.alloc (.cells #[.slice a l.length c, .slice b l.length d] 25)) w' → Two w' w.heap.size (.slice a l.length c) (.slice b l.length d) ∧ Below w.heap.size w w') := fun w' hb => ⟨(Two.new w _ _ 25).below hb, ((Below.refl _ _).alloc (Nat.le_refl _) _).trans (hb.mono (base_le (Nat.le_refl _) _))⟩
  have HG : Hid (fnd (nmsOf l) x = false → getV l x = 0) := fun h => by unfold getV; rw [if_neg (by rw [h]; simp)]
  have HG2 : Hid (fnd (nmsOf l) x = true → pos (nmsOf l) x < l.length ∧ ∃ g off, b = some ⟨g, off, none⟩ ∧ g < w.heap.size ∧ w.cell? ⟨g, off + pos (nmsOf l) x, none⟩ = some (.int .i64 (getV l x))) := fun h => by
    have hp := fnd_lt h
    refine ⟨hp, ?_⟩
    obtain ⟨g, off, h3, h4, h5⟩ := hcell _ _ (intsV_at (vs := valsOf l) (i := pos (nmsOf l) x) (by rw [valsOf_len]; exact hp))
    refine ⟨g, off, h3, h4, ?_⟩
    unfold getV
    rw [if_pos h]
    exact h5
  clear h1 h2 h1' h2' hs hcell
  generalize hN : l.length = N at *
  generalize getV l x = gv at *
  generalize pos (nmsOf l) x = K at *
  generalize fnd (nmsOf l) x = F at *
  go_enter Try.func21, Try.ntmps21
  go_wp2_with fail
  obtain ⟨⟨l1, p0, p1, p2, p3⟩, _⟩ := HT.out _ (Below.refl _ _)
  have HS0 : Hid (Below (w.alloc (.cells #[.slice a N c, .slice b N d] 25)).heap.size (w.alloc (.cells #[.slice a N c, .slice b N d] 25)) (w.alloc (.cells #[.slice a N c, .slice b N d] 25)).drew) := Below.drew (Below.refl _ _)
  go_region_held3 (fun w' => w'.cell? ⟨w.heap.size, 0, none⟩ = some (.slice a N c) ∧ w'.cell? ⟨w.heap.size, 1, none⟩ = some (.slice b N d)) (go_keep) (first
    | (go_at_call 37; have := HB1; refine (HS.out _ HB1.out.2).mono ?_; rintro e w2 ⟨rfl, HB⟩; have HB2 : Hid (Below (w.alloc (.cells #[.slice a N c, .slice b N d] 25)).heap.size (w.alloc (.cells #[.slice a N c, .slice b N d] 25)) w2 ∧ Below w.heap.size w w2) := ⟨HB1.out.1.trans (HB.mono HB1.out.1.size), HB1.out.2.trans (HB.mono HB1.out.2.size)⟩; obtain ⟨⟨l1, p0, p1, p2, p3⟩, _⟩ := HT.out _ HB2.out.1; clear HB)
    | (go_at_call 38; refine (HP.out _).mono ?_; rintro e w1 ⟨rfl, HB⟩; have HB1 : Hid (Below (w.alloc (.cells #[.slice a N c, .slice b N d] 25)).heap.size (w.alloc (.cells #[.slice a N c, .slice b N d] 25)) w1 ∧ Below w.heap.size w w1) := ⟨HS0.out.trans (HB.mono HS0.out.size), HB0.out.trans (HB.mono HB0.out.size)⟩; obtain ⟨⟨l1, p0, p1, p2, p3⟩, _⟩ := HT.out _ HB1.out.1; clear HB))
  cases F with
  | false =>
    have HE : Hid (gv = 0) := HG.out rfl
    go_wp2
    go_ret2
    exact ⟨by rw [HE.out]; rfl, HB2.out.2⟩
  | true =>
    obtain ⟨hK, g, off, rfl, hg, hc⟩ := HG2.out rfl
    have cm := (HB2.out.2.cell (p := ⟨g, off + K, none⟩) hg).trans hc
    clear HG HG2 hc
    go_wp2
    go_ret2
    exact ⟨rfl, HB2.out.2⟩
end Go.Proofs.Ytekhfepfaegpaaa

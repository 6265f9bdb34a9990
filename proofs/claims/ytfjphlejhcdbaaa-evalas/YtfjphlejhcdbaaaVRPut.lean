/-
  The document's put: the contract.
-/
import Derived.Test.YtfjphlejhcdbaaaVB
namespace Go.Proofs.Ytfjphlejhcdbaaa.V
open Go.RowKit Pack
set_option linter.unusedVariables false


/-- What put makes of the rest. -/
def putF (n : ByteArray) (x : Int) : Bool → VL → VL → VL
  | d, out, [] => if d = true then out else out ++ [(n, x)]
  | true, out, (m, y) :: r => if m = n then putF n x true out r else putF n x true (out ++ [(m, y)]) r
  | false, out, (m, y) :: r => if bl m n = true then putF n x false (out ++ [(m, y)]) r else if m = n then putF n x true (out ++ [(n, x)]) r else putF n x true (out ++ [(n, x)] ++ [(m, y)]) r
theorem putF_true {n : ByteArray} {x : Int} : ∀ {r out : VL}, (∀ m ∈ nmsOf r, m ≠ n) → putF n x true out r = out ++ r
  | [], out, _ => by simp [putF]
  | (m, y) :: r, out, h => by
    unfold putF
    rw [if_neg (h m (by simp [nmsOf])), putF_true (fun k hk => h k (by simp [nmsOf] at hk ⊢; exact .inr hk))]
    simp
theorem putF_false {n : ByteArray} {x : Int} : ∀ {r out : VL}, Srt (nmsOf r) → putF n x false out r = out ++ putM r n x
  | [], out, _ => by simp [putF, putM]
  | (m, y) :: r, out, h => by
    obtain ⟨h1, h2⟩ := srt_cons h
    unfold putF putM
    by_cases hb : bl m n = true
    · rw [if_pos hb, if_pos hb, putF_false h2]; simp
    · rw [if_neg hb, if_neg hb]
      have hb' : bl m n = false := by simpa using hb
      have hr : ∀ k ∈ nmsOf r, k ≠ n := fun k hk e => by
        have := h1 k hk
        rw [e, hb'] at this
        cases this
      by_cases he : m = n
      · rw [if_pos he, if_pos he, putF_true hr]; simp
      · rw [if_neg he, if_neg he, putF_true hr]; simp
theorem drop_at {l : VL} {i : Nat} (hi : i < l.length) : l.drop i = ((nmsOf l).getD i emp, (valsOf l).getD i 0) :: l.drop (i + 1) := by
  have e1 : (nmsOf l).getD i emp = l[i].1 := by simp [nmsOf, List.getD_eq_getElem?_getD, hi]
  have e2 : (valsOf l).getD i 0 = l[i].2 := by simp [valsOf, List.getD_eq_getElem?_getD, hi]
  rw [List.drop_eq_getElem_cons hi, e1, e2]
theorem below_drew {B : Nat} {w w' : World} (h : Below B w.drew w') : Below B w w' := (Below.drew (Below.refl B w)).trans h
/-- Where the loop stands. -/
def AtP (p : Nat) (n : ByteArray) (x : Int) (d : Bool) (r R : VL) (i : Nat) (W1 wr : World) : Prop := ∃ out : VL, Vr wr p out ∧ Below p W1 wr ∧ putF n x d out r = R ∧ out.length ≤ 2 * i
theorem pushed_name {p N c d : Nat} {a b0 : Option Addr} {out : VL} {s : ByteArray} {w2 w3 : World} {v' : Value} (q1 : Two w2 p (.slice a N c) (.slice b0 N d)) (q2 : Ow w2 (p + 1) 9 (.slice a N c) (strsV (nmsOf out))) (q3 : Ow w2 (p + 1) 2 (.slice b0 N d) (intsV (valsOf out))) (q5 : Ow w3 (p + 1) 9 v' (strsV (nmsOf out) ++ [.string s])) (q6 : (w2.alloc (.cells #[.string s] 9)).drew.grownBy w3 (Value.slice a N c).ownBlock) :
    Two w3 p (.slice a N c) (.slice b0 N d) ∧ (∃ a' n' c', v' = .slice a' n' c') ∧ Two (w3.setCell ⟨p, 0, none⟩ v') p v' (.slice b0 N d) ∧ Ow (w3.setCell ⟨p, 0, none⟩ v') (p + 1) 9 v' (strsV (nmsOf out) ++ [.string s]) ∧ Ow (w3.setCell ⟨p, 0, none⟩ v') (p + 1) 2 (.slice b0 N d) (intsV (valsOf out)) ∧ Below p w2 (w3.setCell ⟨p, 0, none⟩ v') := by
  obtain ⟨h1, h2, h3, h4, h5, h6⟩ := push_name (w2 := w2.drew) q1.drew q2.drew q3.drew q5 q6
  exact ⟨h1, h2, h3, h4, h5, below_drew h6⟩
theorem pushed_val {p N d : Nat} {b0 : Option Addr} {l : VL} {s : ByteArray} {n : Int} {w4 w5 : World} {v' v2 : Value} (q1 : Two w4 p v' (.slice b0 N d)) (q2 : Ow w4 (p + 1) 9 v' (strsV (nmsOf l) ++ [.string s])) (q3 : Ow w4 (p + 1) 2 (.slice b0 N d) (intsV (valsOf l))) (q5 : Ow w5 (p + 1) 2 v2 (intsV (valsOf l) ++ [.int .i64 n])) (q6 : (w4.alloc (.cells #[.int .i64 n] 2)).drew.grownBy w5 (Value.slice b0 N d).ownBlock) :
    Two w5 p v' (.slice b0 N d) ∧ (∃ a' n' c', v2 = .slice a' n' c') ∧ Vr (w5.setCell ⟨p, 1, none⟩ v2) p (l ++ [(s, n)]) ∧ Below p w4 (w5.setCell ⟨p, 1, none⟩ v2) := by
  obtain ⟨h1, h2, h3, h4⟩ := push_val (w4 := w4.drew) q1.drew q2.drew q3.drew q5 q6
  exact ⟨h1, h2, h3, below_drew h4⟩
theorem new_cell (w : World) (u : Value) (t : TypeId) : (w.alloc (.cells #[u] t)).drew.cell? ⟨w.heap.size, 0, none⟩ = some u := by
  show (w.alloc (.cells #[u] t)).cell? _ = _
  rw [cell_of_row _ w.heap.size 0 _ t (0, 0) (heap_alloc_new w _)]; rfl
theorem size_drew (w : World) (o : Obj) {k : Nat} (h : k ≤ w.heap.size) : k ≤ (w.alloc o).drew.heap.size := by
  show k ≤ (w.alloc o).heap.size
  rw [size_alloc]; omega
set_option maxRecDepth 100000 in
set_option maxHeartbeats 2000000 in
theorem rput_any (l : VL) (n : ByteArray) (x : Int) (v : Value) (w : World) (hv : RdV w v (nmsOf l) (valsOf l)) (hs : Srt (nmsOf l)) (hl : l.length ≤ 100000) : Calls Try.prog 37 #[v, .string n, .int .i64 x] w fun e w' => ∃ r, e = .returned r ∧ OwV w' w.heap.size r (putM l n x) ∧ Below w.heap.size w w' := by
  obtain ⟨sn, sv, rfl, h1, h2⟩ := hv
  obtain ⟨a, c, rfl⟩ := h1.form
  obtain ⟨b, d, rfl⟩ := h2.form
  obtain ⟨_, hnc, hcm, _, hcell⟩ := h1.at
  obtain ⟨_, hnd, hdm, _, hcell2⟩ := h2.at
  simp only [strsV_len, intsV_len, nmsOf_len, valsOf_len] at *
  have HC : Hid (∀ i, i < l.length → ∃ b off, a = some ⟨b, off, none⟩ ∧ b < w.heap.size ∧ w.cell? ⟨b, off + i, none⟩ = some (.string ((nmsOf l).getD i emp))) := fun i hi => hcell i _ (strsV_at (by rw [nmsOf_len]; exact hi))
  have HC2 : Hid (∀ i, i < l.length → ∃ g off, b = some ⟨g, off, none⟩ ∧ g < w.heap.size ∧ w.cell? ⟨g, off + i, none⟩ = some (.int .i64 ((valsOf l).getD i 0))) := fun i hi => hcell2 i _ (intsV_at (by rw [valsOf_len]; exact hi))
  obtain ⟨W1, hW1⟩ : ∃ W, W = (w.alloc (.cells #[.slice a l.length c, .slice b l.length d] 28)).alloc (.cells #[.slice none 0 0, .slice none 0 0] 28) := ⟨_, rfl⟩
  have HP1 : Hid (W1.heap.size = w.heap.size + 1 + 1) := by show _ = _; rw [hW1, size_alloc, size_alloc]
  have HB1 : Hid (Below w.heap.size w W1) := by show Below _ _ _; rw [hW1]; exact below_alloc (below_alloc (Below.refl _ _) (Nat.le_refl _) _) (Nat.le_refl _) _
  have HT1 : Hid (Two W1 w.heap.size (.slice a l.length c) (.slice b l.length d) ∧ Two W1 (w.heap.size + 1) (.slice none 0 0) (.slice none 0 0)) := by
    show _ ∧ _
    rw [hW1]
    refine ⟨(Two.new w _ _ 28).alloc _, ?_⟩
    have h := Two.new (w.alloc (.cells #[.slice a l.length c, .slice b l.length d] 28)) (.slice none 0 0) (.slice none 0 0) 28
    rwa [size_alloc] at h
  have HD : Hid (∀ i, i < l.length → l.drop i = ((nmsOf l).getD i emp, (valsOf l).getD i 0) :: l.drop (i + 1)) := fun i hi => drop_at hi
  have HZ : Hid (l.drop l.length = []) := List.drop_length
  have HA0 : Hid (AtP (w.heap.size + 1 + 1) n x false (l.drop 0) (putM l n x) 0 W1 (W1.alloc (.cells #[.slice none 0 0, .slice none 0 0] 28))) := by
    show AtP _ _ _ _ _ _ _ _ _
    rw [← HP1.out]
    exact ⟨[], ⟨_, _, Two.new W1 _ _ 28, Ow.nil _ _ _, Ow.nil _ _ _⟩, (Below.refl _ _).alloc (Nat.le_refl _) _, by rw [List.drop_zero, putF_false hs, List.nil_append], by simp⟩
  have HE9 : Hid (∀ out : VL, out.length ≤ 200000 → (strsV (nmsOf out)).length ≤ 1000000 ∧ (intsV (valsOf out)).length ≤ 1000000 ∧ (∀ s : ByteArray, (strsV (nmsOf out)).length + [Value.string s].length ≤ 1000000000000) ∧ ∀ z : Int, (intsV (valsOf out)).length + [Value.int .i64 z].length ≤ 1000000000000) := fun out ho => by
    rw [strsV_len, intsV_len, nmsOf_len, valsOf_len]
    exact ⟨by omega, by omega, fun s => by simp; omega, fun z => by simp; omega⟩
  have HRn : Hid (∀ (w4 : World) (g : Nat) (s : ByteArray), g = w4.heap.size → Rd (w4.alloc (.cells #[.string s] 9)) (.slice (some ⟨g, 0, none⟩) 1 1) [.string s]) := fun w4 g s hg => by subst hg; exact Rd.of_own (Ow.new w4 9 #[.string s] 0 (Nat.zero_le _) (by simp))
  have HRv : Hid (∀ (w4 : World) (g : Nat) (z : Int), g = w4.heap.size → Rd (w4.alloc (.cells #[.int .i64 z] 2)) (.slice (some ⟨g, 0, none⟩) 1 1) [.int .i64 z]) := fun w4 g z hg => by subst hg; exact Rd.of_own (Ow.new w4 2 #[.int .i64 z] 0 (Nat.zero_le _) (by simp))
  have H19 : Hid (∀ s : ByteArray, ∀ u ∈ [Value.string s], u.oneCell' = true) := fun s u hu => by simp at hu; rw [hu]; rfl
  have H12 : Hid (∀ z : Int, ∀ u ∈ [Value.int .i64 z], u.oneCell' = true) := fun z u hu => by simp at hu; rw [hu]; rfl
  have HFin : Hid (∀ w4 out, Vr w4 (w.heap.size + 1 + 1) out → Below (w.heap.size + 1 + 1) W1 w4 → out = putM l n x → ∃ L a5 c5 b5 d5, Two w4 (w.heap.size + 1 + 1) (.slice a5 L c5) (.slice b5 L d5) ∧ Two w4 (w.heap.size + 1) (.slice none 0 0) (.slice none 0 0) ∧ OwV ((w4.setCell ⟨w.heap.size + 1, 0, none⟩ (.slice a5 L c5)).setCell ⟨w.heap.size + 1, 1, none⟩ (.slice b5 L d5)) w.heap.size (.agg #[.slice a5 L c5, .slice b5 L d5]) (putM l n x) ∧ Below w.heap.size w ((w4.setCell ⟨w.heap.size + 1, 0, none⟩ (.slice a5 L c5)).setCell ⟨w.heap.size + 1, 1, none⟩ (.slice b5 L d5))) := fun w4 out h1 h2 h3 => by
    obtain ⟨a5, c5, b5, d5, ht, o9, o2⟩ := h1.at
    have hB : Below w.heap.size w w4 := HB1.out.trans (h2.mono (by omega))
    refine ⟨_, a5, c5, b5, d5, ht, HT1.out.2.below (by rw [HP1.out]; exact h2), ?_, (hB.setCell (p := ⟨w.heap.size + 1, 0, none⟩) (by show w.heap.size ≤ w.heap.size + 1; omega) _).setCell (p := ⟨w.heap.size + 1, 1, none⟩) (by show w.heap.size ≤ w.heap.size + 1; omega) _⟩
    rw [← h3]
    have hO : OwV w4 (w.heap.size + 1 + 1 + 1) (.agg #[.slice a5 out.length c5, .slice b5 out.length d5]) out := ⟨_, _, rfl, o9, o2⟩
    exact ((hO.set (w.heap.size + 1) 0 _ (by omega)).set (w.heap.size + 1) 1 _ (by omega)).le (by omega)
  clear h1 h2 hcell hcell2 hs
  generalize putM l n x = R at *
  generalize hN : l.length = N at *
  go_enter Try.func37, Try.ntmps37
  go_wp2_with fail
  rw [← hW1]
  go_loopw [8, 9] (fun s8 s9 wr => ∃ (i : Nat) (dn : Bool), i ≤ N ∧ s9 = .int .i64 i ∧ s8 = .bool dn ∧ Hid (AtP (w.heap.size + 1 + 1) n x dn (l.drop i) R i W1 wr)) (fun _ s9 _ => N - (intOf s9).toNat)
  case atStart => exact ⟨0, false, Nat.zero_le _, rfl, rfl, HA0⟩
  case round =>
    obtain ⟨i, dn, hi, rfl, rfl, HA⟩ := hrel
    obtain ⟨out, hV, hBl, hM, hol⟩ := HA.out
    have hBw : Below w.heap.size w wr := HB1.out.trans (hBl.mono (by omega))
    have HBw : Hid (Below w.heap.size w wr) := hBw
    have HBl : Hid (Below (w.heap.size + 1 + 1) W1 wr) := hBl
    have HBx : Hid (∀ w', Below (w.heap.size + 1 + 1) wr w' → Two w' w.heap.size (.slice a N c) (.slice b N d)) := fun w' hb => HT1.out.1.below (by rw [HP1.out]; exact hBl.trans hb)
    obtain ⟨a5, c5, b5, d5, ht, o9, o2⟩ := hV.at
    have HT5 : Hid (Two wr (w.heap.size + 1 + 1) (.slice a5 out.length c5) (.slice b5 out.length d5)) := ht
    have HO9 : Hid (Ow wr (w.heap.size + 1 + 1 + 1) 9 (.slice a5 out.length c5) (strsV (nmsOf out))) := o9
    have HO2 : Hid (Ow wr (w.heap.size + 1 + 1 + 1) 2 (.slice b5 out.length d5) (intsV (valsOf out))) := o2
    have hpw : w.heap.size + 1 + 1 + 1 ≤ wr.heap.size := ht.lt
    obtain ⟨t4, t0, t1, t2, t3⟩ := HBx.out _ (Below.refl _ _)
    by_cases hlt : i < N
    · obtain ⟨g, off, rfl, hg, hc⟩ := HC.out i hlt
      obtain ⟨g2, off2, rfl, hg2, hc2⟩ := HC2.out i hlt
      have HCm : Hid (∀ w', Below (w.heap.size + 1 + 1) wr w' → w'.cell? ⟨g, off + i, none⟩ = some (.string ((nmsOf l).getD i emp)) ∧ w'.cell? ⟨g2, off2 + i, none⟩ = some (.int .i64 ((valsOf l).getD i 0))) := fun w' hb => by
        have hb2 : Below w.heap.size w w' := hBw.trans (hb.mono (by omega))
        exact ⟨(hb2.cell (p := ⟨g, off + i, none⟩) hg).trans hc, (hb2.cell (p := ⟨g2, off2 + i, none⟩) hg2).trans hc2⟩
      obtain ⟨cm, cm2⟩ := HCm.out _ (Below.refl _ _)
      rw [HD.out i hlt] at hM
      have HNx : Hid (∀ w5 dn' out', Vr w5 (w.heap.size + 1 + 1) out' → Below (w.heap.size + 1 + 1) wr w5 → putF n x dn' out' (l.drop (i + 1)) = R → out'.length ≤ 2 * (i + 1) → AtP (w.heap.size + 1 + 1) n x dn' (l.drop (i + 1)) R (i + 1) W1 w5) := fun w5 dn' out' q1 q2 q3 q4 => ⟨out', q1, HBl.out.trans q2, q3, q4⟩
      have HV : Hid (Vr wr (w.heap.size + 1 + 1) out) := hV
      have hol2 : out.length ≤ 200000 := by omega
      have HEo := HE9.out
      have HEo : Hid (_ ∧ _) := HEo out hol2
      clear hV hBl hBw o9 o2 hc hc2 HA HD HZ HC HC2 HA0 HFin HB1
      generalize (nmsOf l).getD i emp = y at *
      generalize (valsOf l).getD i 0 = z at *
      cases dn with
      | true =>
        by_cases hyn : y = n
        · subst hyn
          have HM2 : Hid (putF y x true out (l.drop (i + 1)) = R) := by show _ = _; rw [← hM]; conv => rhs; unfold putF; rw [if_pos rfl]
          clear hM
          clear HRn HRv H19 H12 HE9
          have HLn : Hid (out.length ≤ 2 * (i + 1)) := by show _ ≤ _; omega
          go_wp2
          go_roundw
          case rel => exact ⟨i + 1, true, by omega, by go_num, rfl, HNx.out _ true out HV.out (Below.refl _ _) HM2.out HLn.out⟩
          case measure => simp [intOf]; omega
        · have hne : (y.toList == n.toList) = false := by rw [beq_eq_false_iff_ne]; exact fun h => hyn (ba_ext h)
          have HM2 : Hid (putF n x true (out ++ [(y, z)]) (l.drop (i + 1)) = R) := by show _ = _; rw [← hM]; conv => rhs; unfold putF; rw [if_neg hyn]
          clear hM
          have HLn : Hid ((out ++ [(y, z)]).length ≤ 2 * (i + 1)) := by show _ ≤ _; simp; omega
          generalize hNn : out.length = Nn at *
          clear HRn HRv H19 H12 HE9 hol hol2
          go_wp2
          have HCell : Hid ((wr.alloc (.cells #[.string y] 9)).drew.cell? ⟨wr.heap.size, 0, none⟩ = some (.string y)) := new_cell _ _ _
          have hpw0 : w.heap.size + 1 + 1 + 1 ≤ wr.heap.size := HT5.out.lt
          have HSz : Hid (w.heap.size + 1 + 1 + 1 ≤ (wr.alloc (.cells #[.string y] 9)).drew.heap.size) := size_drew _ _ hpw0
          obtain ⟨y4, y0, y1, y2, y3⟩ := HT5.out
          go_region_law (refine step_append_ow rfl (.tmp 50) (.tmp 56) 25 9 rfl (w.heap.size + 1 + 1 + 1) Try.underlying25 (.string ⟨#[]⟩) 16 Try.info9 (by decide) rfl _ (strsV (nmsOf out)) rfl (HO9.out.alloc (.cells #[.string y] 9)).drew wr.heap.size (.string y) rfl HCell.out rfl HEo.out.1 HSz.out ?_; intro v' w3 q1 q2; obtain ⟨⟨x4, x0, x1, x2, x3⟩, ⟨a', n', c', rfl⟩, q3, q4, q5, q6⟩ := pushed_name HT5.out HO9.out HO2.out q1 q2; have HZ : Hid (Two (w3.setCell ⟨w.heap.size + 1 + 1, 0, none⟩ (.slice a' n' c')) (w.heap.size + 1 + 1) (.slice a' n' c') (.slice b5 Nn d5) ∧ Ow (w3.setCell ⟨w.heap.size + 1 + 1, 0, none⟩ (.slice a' n' c')) (w.heap.size + 1 + 1 + 1) 9 (.slice a' n' c') (strsV (nmsOf out) ++ [.string y]) ∧ Ow (w3.setCell ⟨w.heap.size + 1 + 1, 0, none⟩ (.slice a' n' c')) (w.heap.size + 1 + 1 + 1) 2 (.slice b5 Nn d5) (intsV (valsOf out)) ∧ Below (w.heap.size + 1 + 1) wr (w3.setCell ⟨w.heap.size + 1 + 1, 0, none⟩ (.slice a' n' c'))) := ⟨q3, q4, q5, q6⟩; clear q1 q2 q3 q4 q5 q6)
          all_goals
            (generalize w3.setCell ⟨w.heap.size + 1 + 1, 0, none⟩ (.slice a' n' c') = w4 at *
             have HB4 : Hid (Below (w.heap.size + 1 + 1) wr w4) := (Below.refl _ _).trans HZ.out.2.2.2
             obtain ⟨z4, z0, z1, z2, z3⟩ := HZ.out.1
             obtain ⟨cm, cm2⟩ := HCm.out _ HB4.out
             obtain ⟨t4, t0, t1, t2, t3⟩ := HBx.out _ HB4.out
             have hpw4 : w.heap.size + 1 + 1 + 1 ≤ w4.heap.size := z4
             have HCell2 : Hid ((w4.alloc (.cells #[.int .i64 z] 2)).drew.cell? ⟨w4.heap.size, 0, none⟩ = some (.int .i64 z)) := new_cell _ _ _
             have HSz2 : Hid (w.heap.size + 1 + 1 + 1 ≤ (w4.alloc (.cells #[.int .i64 z] 2)).drew.heap.size) := size_drew _ _ hpw4
             clear y0 y1 y2 y3 y4 x0 x1 x2 x3 x4
             go_wp2
             go_region_law (refine step_append_ow rfl (.tmp 60) (.tmp 66) 26 2 rfl (w.heap.size + 1 + 1 + 1) Try.underlying26 (.int .i64 0) 8 Try.info2 (by decide) rfl _ (intsV (valsOf out)) rfl (HZ.out.2.2.1.alloc (.cells #[.int .i64 z] 2)).drew w4.heap.size (.int .i64 z) rfl HCell2.out rfl HEo.out.2.1 HSz2.out ?_; intro v2 w5 q1 q2; obtain ⟨⟨y4, y0, y1, y2, y3⟩, ⟨a2, n2, c2, rfl⟩, q3, q4⟩ := pushed_val HZ.out.1 HZ.out.2.1 HZ.out.2.2.1 q1 q2; have HF : Hid (Vr (w5.setCell ⟨w.heap.size + 1 + 1, 1, none⟩ (.slice a2 n2 c2)) (w.heap.size + 1 + 1) (out ++ [(y, z)]) ∧ Below (w.heap.size + 1 + 1) wr (w5.setCell ⟨w.heap.size + 1 + 1, 1, none⟩ (.slice a2 n2 c2))) := ⟨q3, HB4.out.trans q4⟩; clear q1 q2 q3 q4)
             all_goals
               (go_wp2
                go_roundw
                case rel => exact ⟨i + 1, true, by omega, by go_num, rfl, HNx.out _ true (out ++ [(y, z)]) HF.out.1 HF.out.2 HM2.out HLn.out⟩
                case measure => simp [intOf]; omega))
      | false =>
        cases hb : bl y n with
        | true =>
          have hb2 : Op.bytesLess y.toList n.toList = true := hb
          have hne : (y.toList == n.toList) = false := by rw [beq_eq_false_iff_ne]; exact fun h => bl_ne hb (ba_ext h)
          have HM2 : Hid (putF n x false (out ++ [(y, z)]) (l.drop (i + 1)) = R) := by show _ = _; rw [← hM]; conv => rhs; unfold putF; rw [if_pos hb]
          clear hM hb
          have HLn : Hid ((out ++ [(y, z)]).length ≤ 2 * (i + 1)) := by show _ ≤ _; simp; omega
          generalize hNn : out.length = Nn at *
          clear HRn HRv H19 H12 HE9 hol hol2
          go_wp2
          have HCell : Hid ((wr.alloc (.cells #[.string y] 9)).drew.cell? ⟨wr.heap.size, 0, none⟩ = some (.string y)) := new_cell _ _ _
          have hpw0 : w.heap.size + 1 + 1 + 1 ≤ wr.heap.size := HT5.out.lt
          have HSz : Hid (w.heap.size + 1 + 1 + 1 ≤ (wr.alloc (.cells #[.string y] 9)).drew.heap.size) := size_drew _ _ hpw0
          obtain ⟨y4, y0, y1, y2, y3⟩ := HT5.out
          go_region_law (refine step_append_ow rfl (.tmp 50) (.tmp 56) 25 9 rfl (w.heap.size + 1 + 1 + 1) Try.underlying25 (.string ⟨#[]⟩) 16 Try.info9 (by decide) rfl _ (strsV (nmsOf out)) rfl (HO9.out.alloc (.cells #[.string y] 9)).drew wr.heap.size (.string y) rfl HCell.out rfl HEo.out.1 HSz.out ?_; intro v' w3 q1 q2; obtain ⟨⟨x4, x0, x1, x2, x3⟩, ⟨a', n', c', rfl⟩, q3, q4, q5, q6⟩ := pushed_name HT5.out HO9.out HO2.out q1 q2; have HZ : Hid (Two (w3.setCell ⟨w.heap.size + 1 + 1, 0, none⟩ (.slice a' n' c')) (w.heap.size + 1 + 1) (.slice a' n' c') (.slice b5 Nn d5) ∧ Ow (w3.setCell ⟨w.heap.size + 1 + 1, 0, none⟩ (.slice a' n' c')) (w.heap.size + 1 + 1 + 1) 9 (.slice a' n' c') (strsV (nmsOf out) ++ [.string y]) ∧ Ow (w3.setCell ⟨w.heap.size + 1 + 1, 0, none⟩ (.slice a' n' c')) (w.heap.size + 1 + 1 + 1) 2 (.slice b5 Nn d5) (intsV (valsOf out)) ∧ Below (w.heap.size + 1 + 1) wr (w3.setCell ⟨w.heap.size + 1 + 1, 0, none⟩ (.slice a' n' c'))) := ⟨q3, q4, q5, q6⟩; clear q1 q2 q3 q4 q5 q6)
          all_goals
            (generalize w3.setCell ⟨w.heap.size + 1 + 1, 0, none⟩ (.slice a' n' c') = w4 at *
             have HB4 : Hid (Below (w.heap.size + 1 + 1) wr w4) := (Below.refl _ _).trans HZ.out.2.2.2
             obtain ⟨z4, z0, z1, z2, z3⟩ := HZ.out.1
             obtain ⟨cm, cm2⟩ := HCm.out _ HB4.out
             obtain ⟨t4, t0, t1, t2, t3⟩ := HBx.out _ HB4.out
             have hpw4 : w.heap.size + 1 + 1 + 1 ≤ w4.heap.size := z4
             have HCell2 : Hid ((w4.alloc (.cells #[.int .i64 z] 2)).drew.cell? ⟨w4.heap.size, 0, none⟩ = some (.int .i64 z)) := new_cell _ _ _
             have HSz2 : Hid (w.heap.size + 1 + 1 + 1 ≤ (w4.alloc (.cells #[.int .i64 z] 2)).drew.heap.size) := size_drew _ _ hpw4
             clear y0 y1 y2 y3 y4 x0 x1 x2 x3 x4
             go_wp2
             go_region_law (refine step_append_ow rfl (.tmp 60) (.tmp 66) 26 2 rfl (w.heap.size + 1 + 1 + 1) Try.underlying26 (.int .i64 0) 8 Try.info2 (by decide) rfl _ (intsV (valsOf out)) rfl (HZ.out.2.2.1.alloc (.cells #[.int .i64 z] 2)).drew w4.heap.size (.int .i64 z) rfl HCell2.out rfl HEo.out.2.1 HSz2.out ?_; intro v2 w5 q1 q2; obtain ⟨⟨y4, y0, y1, y2, y3⟩, ⟨a2, n2, c2, rfl⟩, q3, q4⟩ := pushed_val HZ.out.1 HZ.out.2.1 HZ.out.2.2.1 q1 q2; have HF : Hid (Vr (w5.setCell ⟨w.heap.size + 1 + 1, 1, none⟩ (.slice a2 n2 c2)) (w.heap.size + 1 + 1) (out ++ [(y, z)]) ∧ Below (w.heap.size + 1 + 1) wr (w5.setCell ⟨w.heap.size + 1 + 1, 1, none⟩ (.slice a2 n2 c2))) := ⟨q3, HB4.out.trans q4⟩; clear q1 q2 q3 q4)
             all_goals
               (go_wp2
                go_roundw
                case rel => exact ⟨i + 1, false, by omega, by go_num, rfl, HNx.out _ false (out ++ [(y, z)]) HF.out.1 HF.out.2 HM2.out HLn.out⟩
                case measure => simp [intOf]; omega))
        | false =>
          have hb2 : Op.bytesLess y.toList n.toList = false := hb
          by_cases hyn : y = n
          · subst hyn
            have HM2 : Hid (putF y x true (out ++ [(y, x)]) (l.drop (i + 1)) = R) := by show _ = _; rw [← hM]; conv => rhs; unfold putF; rw [if_neg (by rw [hb]; simp), if_pos rfl]
            clear hM hb
            have hb2 : Op.bytesLess y.toList y.toList = false := bl_irr y
            obtain ⟨n, hny⟩ : ∃ n, y = n := ⟨y, rfl⟩
            subst hny
            have HLn : Hid ((out ++ [(y, x)]).length ≤ 2 * (i + 1)) := by show _ ≤ _; simp; omega
            obtain ⟨y4, y0, y1, y2, y3⟩ := HT5.out
            generalize hNn : out.length = Nn at *
            clear hol hol2 HE9
            go_wp2_with (first
              | (at_builtin; have := Y3; (refine wpList_append_ow rfl (.tmp 37) (.tmp 39) 26 2 rfl (w.heap.size + 1 + 1 + 1) Try.underlying26 (.int .i64 0) 8 Try.info2 (by decide) rfl _ (intsV (valsOf out)) rfl (Y3.out.2.2.1.alloc _) _ [.int .i64 x] rfl (HRv.out _ _ x (size_set _ _ _).symm) (H12.out x) (HEo.out.2.2.2 x) (base_le (show w.heap.size + 1 + 1 + 1 ≤ _ from Y3.out.1.lt) _) ?_); intro v2 w5 q1 q2; obtain ⟨⟨y4, y0, y1, y2, y3⟩, ⟨a2, n2, c2, rfl⟩, q3, q4⟩ := push_val Y3.out.1 Y3.out.2.1 Y3.out.2.2.1 q1 q2; have Y5 : Hid (Vr (w5.setCell ⟨w.heap.size + 1 + 1, 1, none⟩ (.slice a2 n2 c2)) (w.heap.size + 1 + 1) (out ++ [(y, x)]) ∧ Below (w.heap.size + 1 + 1) wr (w5.setCell ⟨w.heap.size + 1 + 1, 1, none⟩ (.slice a2 n2 c2))) := ⟨q3, Y3.out.2.2.2.trans q4⟩; obtain ⟨t4, t0, t1, t2, t3⟩ := HBx.out _ Y5.out.2; obtain ⟨cm, cm2⟩ := HCm.out _ Y5.out.2; clear q1 q2 q3 q4 Y3)
              | (at_builtin; refine wpList_append_ow rfl (.tmp 31) (.tmp 33) 25 9 rfl (w.heap.size + 1 + 1 + 1) Try.underlying25 (.string ⟨#[]⟩) 16 Try.info9 (by decide) rfl _ (strsV (nmsOf out)) rfl (HO9.out.alloc _) _ [.string y] rfl (HRn.out _ _ y rfl) (H19.out y) (HEo.out.2.2.1 y) (base_le hpw _) ?_; intro v1 w3 q1 q2; obtain ⟨⟨y4, y0, y1, y2, y3⟩, ⟨a6, n6, c6, rfl⟩, q3, q4, q5, q6⟩ := push_name HT5.out HO9.out HO2.out q1 q2; have Y3 : Hid (Two (w3.setCell ⟨w.heap.size + 1 + 1, 0, none⟩ (.slice a6 n6 c6)) (w.heap.size + 1 + 1) (.slice a6 n6 c6) (.slice b5 Nn d5) ∧ Ow (w3.setCell ⟨w.heap.size + 1 + 1, 0, none⟩ (.slice a6 n6 c6)) (w.heap.size + 1 + 1 + 1) 9 (.slice a6 n6 c6) (strsV (nmsOf out) ++ [.string y]) ∧ Ow (w3.setCell ⟨w.heap.size + 1 + 1, 0, none⟩ (.slice a6 n6 c6)) (w.heap.size + 1 + 1 + 1) 2 (.slice b5 Nn d5) (intsV (valsOf out)) ∧ Below (w.heap.size + 1 + 1) wr (w3.setCell ⟨w.heap.size + 1 + 1, 0, none⟩ (.slice a6 n6 c6))) := ⟨q3, q4, q5, q6⟩; obtain ⟨z4, z0, z1, z2, z3⟩ := q3; obtain ⟨t4, t0, t1, t2, t3⟩ := HBx.out _ q6; clear q1 q2 q4 q5 q6))
            go_roundw
            case rel => exact ⟨i + 1, true, by omega, by go_num, rfl, HNx.out _ true (out ++ [(y, x)]) Y5.out.1 Y5.out.2 HM2.out HLn.out⟩
            case measure => simp [intOf]; omega
          · have hne : (y.toList == n.toList) = false := by rw [beq_eq_false_iff_ne]; exact fun h => hyn (ba_ext h)
            have HM2 : Hid (putF n x true (out ++ [(n, x)] ++ [(y, z)]) (l.drop (i + 1)) = R) := by show _ = _; rw [← hM]; conv => rhs; unfold putF; rw [if_neg (by rw [hb]; simp), if_neg hyn]
            clear hM hb
            have HEo2 : Hid (_ ∧ _) := HE9.out (out ++ [(n, x)]) (by simp; omega)
            have HLn : Hid ((out ++ [(n, x)] ++ [(y, z)]).length ≤ 2 * (i + 1)) := by show _ ≤ _; simp; omega
            obtain ⟨y4, y0, y1, y2, y3⟩ := HT5.out
            generalize hNn : out.length = Nn at *
            clear hol hol2 HE9
            go_wp2_with (first
              | (at_builtin; have := Y3; (refine wpList_append_ow rfl (.tmp 37) (.tmp 39) 26 2 rfl (w.heap.size + 1 + 1 + 1) Try.underlying26 (.int .i64 0) 8 Try.info2 (by decide) rfl _ (intsV (valsOf out)) rfl (Y3.out.2.2.1.alloc _) _ [.int .i64 x] rfl (HRv.out _ _ x (size_set _ _ _).symm) (H12.out x) (HEo.out.2.2.2 x) (base_le (show w.heap.size + 1 + 1 + 1 ≤ _ from Y3.out.1.lt) _) ?_); intro v2 w5 q1 q2; obtain ⟨⟨y4, y0, y1, y2, y3⟩, ⟨a2, n2, c2, rfl⟩, q3, q4⟩ := push_val Y3.out.1 Y3.out.2.1 Y3.out.2.2.1 q1 q2; have Y5 : Hid (Vr (w5.setCell ⟨w.heap.size + 1 + 1, 1, none⟩ (.slice a2 n2 c2)) (w.heap.size + 1 + 1) (out ++ [(n, x)]) ∧ Below (w.heap.size + 1 + 1) wr (w5.setCell ⟨w.heap.size + 1 + 1, 1, none⟩ (.slice a2 n2 c2))) := ⟨q3, Y3.out.2.2.2.trans q4⟩; obtain ⟨t4, t0, t1, t2, t3⟩ := HBx.out _ Y5.out.2; obtain ⟨cm, cm2⟩ := HCm.out _ Y5.out.2; clear q1 q2 q3 q4 Y3)
              | (at_builtin; refine wpList_append_ow rfl (.tmp 31) (.tmp 33) 25 9 rfl (w.heap.size + 1 + 1 + 1) Try.underlying25 (.string ⟨#[]⟩) 16 Try.info9 (by decide) rfl _ (strsV (nmsOf out)) rfl (HO9.out.alloc _) _ [.string n] rfl (HRn.out _ _ n rfl) (H19.out n) (HEo.out.2.2.1 n) (base_le hpw _) ?_; intro v1 w3 q1 q2; obtain ⟨⟨y4, y0, y1, y2, y3⟩, ⟨a6, n6, c6, rfl⟩, q3, q4, q5, q6⟩ := push_name HT5.out HO9.out HO2.out q1 q2; have Y3 : Hid (Two (w3.setCell ⟨w.heap.size + 1 + 1, 0, none⟩ (.slice a6 n6 c6)) (w.heap.size + 1 + 1) (.slice a6 n6 c6) (.slice b5 Nn d5) ∧ Ow (w3.setCell ⟨w.heap.size + 1 + 1, 0, none⟩ (.slice a6 n6 c6)) (w.heap.size + 1 + 1 + 1) 9 (.slice a6 n6 c6) (strsV (nmsOf out) ++ [.string n]) ∧ Ow (w3.setCell ⟨w.heap.size + 1 + 1, 0, none⟩ (.slice a6 n6 c6)) (w.heap.size + 1 + 1 + 1) 2 (.slice b5 Nn d5) (intsV (valsOf out)) ∧ Below (w.heap.size + 1 + 1) wr (w3.setCell ⟨w.heap.size + 1 + 1, 0, none⟩ (.slice a6 n6 c6))) := ⟨q3, q4, q5, q6⟩; obtain ⟨z4, z0, z1, z2, z3⟩ := q3; obtain ⟨t4, t0, t1, t2, t3⟩ := HBx.out _ q6; clear q1 q2 q4 q5 q6))
            obtain ⟨a7, c7, b7, d7, ht7, u9, u2⟩ := Y5.out.1.at
            have HT7 : Hid _ := ht7
            have HO97 : Hid _ := u9
            have HO27 : Hid _ := u2
            have HB5 : Hid _ := Y5.out.2
            generalize w5.setCell ⟨w.heap.size + 1 + 1, 1, none⟩ (.slice a2 n2 c2) = w6 at *
            generalize (out ++ [(n, x)]).length = L7 at *
            clear ht7 u9 u2 Y5 y0 y1 y2 y3 y4 z0 z1 z2 z3 z4
            have HCell : Hid ((w6.alloc (.cells #[.string y] 9)).drew.cell? ⟨w6.heap.size, 0, none⟩ = some (.string y)) := new_cell _ _ _
            have hpw0 : w.heap.size + 1 + 1 + 1 ≤ w6.heap.size := HT7.out.lt
            have HSz : Hid (w.heap.size + 1 + 1 + 1 ≤ (w6.alloc (.cells #[.string y] 9)).drew.heap.size) := size_drew _ _ hpw0
            obtain ⟨y4, y0, y1, y2, y3⟩ := HT7.out
            go_region_law (refine step_append_ow rfl (.tmp 50) (.tmp 56) 25 9 rfl (w.heap.size + 1 + 1 + 1) Try.underlying25 (.string ⟨#[]⟩) 16 Try.info9 (by decide) rfl _ (strsV (nmsOf (out ++ [(n, x)]))) rfl (HO97.out.alloc (.cells #[.string y] 9)).drew w6.heap.size (.string y) rfl HCell.out rfl HEo2.out.1 HSz.out ?_; intro v' w3 q1 q2; obtain ⟨⟨x4, x0, x1, x2, x3⟩, ⟨a', n', c', rfl⟩, q3, q4, q5, q6⟩ := pushed_name HT7.out HO97.out HO27.out q1 q2; have HZ : Hid (Two (w3.setCell ⟨w.heap.size + 1 + 1, 0, none⟩ (.slice a' n' c')) (w.heap.size + 1 + 1) (.slice a' n' c') (.slice b7 L7 d7) ∧ Ow (w3.setCell ⟨w.heap.size + 1 + 1, 0, none⟩ (.slice a' n' c')) (w.heap.size + 1 + 1 + 1) 9 (.slice a' n' c') (strsV (nmsOf (out ++ [(n, x)])) ++ [.string y]) ∧ Ow (w3.setCell ⟨w.heap.size + 1 + 1, 0, none⟩ (.slice a' n' c')) (w.heap.size + 1 + 1 + 1) 2 (.slice b7 L7 d7) (intsV (valsOf (out ++ [(n, x)]))) ∧ Below (w.heap.size + 1 + 1) w6 (w3.setCell ⟨w.heap.size + 1 + 1, 0, none⟩ (.slice a' n' c'))) := ⟨q3, q4, q5, q6⟩; clear q1 q2 q3 q4 q5 q6)
            all_goals
              (generalize w3.setCell ⟨w.heap.size + 1 + 1, 0, none⟩ (.slice a' n' c') = w4 at *
               have HB4 : Hid (Below (w.heap.size + 1 + 1) wr w4) := HB5.out.trans HZ.out.2.2.2
               obtain ⟨z4, z0, z1, z2, z3⟩ := HZ.out.1
               obtain ⟨cm, cm2⟩ := HCm.out _ HB4.out
               obtain ⟨t4, t0, t1, t2, t3⟩ := HBx.out _ HB4.out
               have hpw4 : w.heap.size + 1 + 1 + 1 ≤ w4.heap.size := z4
               have HCell2 : Hid ((w4.alloc (.cells #[.int .i64 z] 2)).drew.cell? ⟨w4.heap.size, 0, none⟩ = some (.int .i64 z)) := new_cell _ _ _
               have HSz2 : Hid (w.heap.size + 1 + 1 + 1 ≤ (w4.alloc (.cells #[.int .i64 z] 2)).drew.heap.size) := size_drew _ _ hpw4
               clear y0 y1 y2 y3 y4 x0 x1 x2 x3 x4
               go_wp2
               go_region_law (refine step_append_ow rfl (.tmp 60) (.tmp 66) 26 2 rfl (w.heap.size + 1 + 1 + 1) Try.underlying26 (.int .i64 0) 8 Try.info2 (by decide) rfl _ (intsV (valsOf (out ++ [(n, x)]))) rfl (HZ.out.2.2.1.alloc (.cells #[.int .i64 z] 2)).drew w4.heap.size (.int .i64 z) rfl HCell2.out rfl HEo2.out.2.1 HSz2.out ?_; intro v2 w5 q1 q2; obtain ⟨⟨y4, y0, y1, y2, y3⟩, ⟨a2, n2, c2, rfl⟩, q3, q4⟩ := pushed_val HZ.out.1 HZ.out.2.1 HZ.out.2.2.1 q1 q2; have HF : Hid (Vr (w5.setCell ⟨w.heap.size + 1 + 1, 1, none⟩ (.slice a2 n2 c2)) (w.heap.size + 1 + 1) ((out ++ [(n, x)]) ++ [(y, z)]) ∧ Below (w.heap.size + 1 + 1) wr (w5.setCell ⟨w.heap.size + 1 + 1, 1, none⟩ (.slice a2 n2 c2))) := ⟨q3, HB4.out.trans q4⟩; clear q1 q2 q3 q4)
               all_goals
                 (go_wp2
                  go_roundw
                  case rel => exact ⟨i + 1, true, by omega, by go_num, rfl, HNx.out _ true (out ++ [(n, x)] ++ [(y, z)]) HF.out.1 HF.out.2 HM2.out HLn.out⟩
                  case measure => simp [intOf]; omega))
    · have e : i = N := by omega
      have e' : N = i := e.symm
      clear e
      subst e'
      rw [HZ.out] at hM
      have hol2 : out.length ≤ 200000 := by omega
      have HEo : Hid (_ ∧ _) := HE9.out out hol2
      cases dn with
      | true =>
        obtain ⟨L9, e5, f5, e6, f6, hta, htb, hO, hBf⟩ := HFin.out wr out hV hBl (by rw [← hM]; rfl)
        have HOf : Hid _ := And.intro hO hBf
        obtain ⟨y4, y0, y1, y2, y3⟩ := hta
        obtain ⟨z4, z0, z1, z2, z3⟩ := htb
        clear hV hBl hBw o9 o2 HA HD HZ HC HC2 HA0 HFin HB1 hO hBf hM HT5 HO9 HO2
        generalize hNn : out.length = Nn at *
        go_wp2
        refine bodyPost_ret (v := .agg #[.slice e5 L9 f5, .slice e6 L9 f6]) (by simp [results, Try.results37, go_sem, z0, z1]) rfl ?_
        exact ⟨_, rfl, HOf.out.1, HOf.out.2⟩
      | false =>
        have HFn2 : Hid (∀ w4, Vr w4 (w.heap.size + 1 + 1) (out ++ [(n, x)]) → Below (w.heap.size + 1 + 1) W1 w4 → _) := fun w4 q1 q2 => HFin.out w4 (out ++ [(n, x)]) q1 q2 (by rw [← hM]; rfl)
        obtain ⟨y4, y0, y1, y2, y3⟩ := HT5.out
        clear hV hBl hBw o9 o2 HA HD HZ HC HC2 HA0 HFin HB1 hM
        generalize hNn : out.length = Nn at *
        go_wp2_with (first
          | (at_builtin; have := Y3; (refine wpList_append_ow rfl (.tmp 78) (.tmp 80) 26 2 rfl (w.heap.size + 1 + 1 + 1) Try.underlying26 (.int .i64 0) 8 Try.info2 (by decide) rfl _ (intsV (valsOf out)) rfl (Y3.out.2.2.1.alloc _) _ [.int .i64 x] rfl (HRv.out _ _ x (size_set _ _ _).symm) (H12.out x) (HEo.out.2.2.2 x) (base_le (show w.heap.size + 1 + 1 + 1 ≤ _ from Y3.out.1.lt) _) ?_); intro v2 w5 q1 q2; obtain ⟨⟨y4, y0, y1, y2, y3⟩, ⟨a2, n2, c2, rfl⟩, q3, q4⟩ := push_val Y3.out.1 Y3.out.2.1 Y3.out.2.2.1 q1 q2; have Y5 : Hid (Vr (w5.setCell ⟨w.heap.size + 1 + 1, 1, none⟩ (.slice a2 n2 c2)) (w.heap.size + 1 + 1) (out ++ [(n, x)]) ∧ Below (w.heap.size + 1 + 1) wr (w5.setCell ⟨w.heap.size + 1 + 1, 1, none⟩ (.slice a2 n2 c2))) := ⟨q3, Y3.out.2.2.2.trans q4⟩; obtain ⟨t4, t0, t1, t2, t3⟩ := HBx.out _ Y5.out.2; obtain ⟨L9, e5, f5, e6, f6, hta, htb, hO, hBf⟩ := HFn2.out _ Y5.out.1 (HBl.out.trans Y5.out.2); have HOf : Hid _ := And.intro hO hBf; obtain ⟨s4, s0, s1, s2, s3⟩ := hta; obtain ⟨r4, r0, r1, r2, r3⟩ := htb; clear hO hBf; clear q1 q2 q3 q4 Y3)
          | (at_builtin; refine wpList_append_ow rfl (.tmp 72) (.tmp 74) 25 9 rfl (w.heap.size + 1 + 1 + 1) Try.underlying25 (.string ⟨#[]⟩) 16 Try.info9 (by decide) rfl _ (strsV (nmsOf out)) rfl (HO9.out.alloc _) _ [.string n] rfl (HRn.out _ _ n rfl) (H19.out n) (HEo.out.2.2.1 n) (base_le hpw _) ?_; intro v1 w3 q1 q2; obtain ⟨⟨y4, y0, y1, y2, y3⟩, ⟨a6, n6, c6, rfl⟩, q3, q4, q5, q6⟩ := push_name HT5.out HO9.out HO2.out q1 q2; have Y3 : Hid (Two (w3.setCell ⟨w.heap.size + 1 + 1, 0, none⟩ (.slice a6 n6 c6)) (w.heap.size + 1 + 1) (.slice a6 n6 c6) (.slice b5 Nn d5) ∧ Ow (w3.setCell ⟨w.heap.size + 1 + 1, 0, none⟩ (.slice a6 n6 c6)) (w.heap.size + 1 + 1 + 1) 9 (.slice a6 n6 c6) (strsV (nmsOf out) ++ [.string n]) ∧ Ow (w3.setCell ⟨w.heap.size + 1 + 1, 0, none⟩ (.slice a6 n6 c6)) (w.heap.size + 1 + 1 + 1) 2 (.slice b5 Nn d5) (intsV (valsOf out)) ∧ Below (w.heap.size + 1 + 1) wr (w3.setCell ⟨w.heap.size + 1 + 1, 0, none⟩ (.slice a6 n6 c6))) := ⟨q3, q4, q5, q6⟩; obtain ⟨z4, z0, z1, z2, z3⟩ := q3; obtain ⟨t4, t0, t1, t2, t3⟩ := HBx.out _ q6; clear q1 q2 q4 q5 q6))
        refine bodyPost_ret (v := .agg #[.slice e5 L9 f5, .slice e6 L9 f6]) (by simp [results, Try.results37, go_sem, r0, r1]) rfl ?_
        exact ⟨_, rfl, HOf.out.1, HOf.out.2⟩
end Go.Proofs.Ytfjphlejhcdbaaa.V

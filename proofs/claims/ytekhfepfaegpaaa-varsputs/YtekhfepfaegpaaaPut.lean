/-
  Put: variables as bytes: the contract.
-/
import Derived.Test.YtekhfepfaegpaaaDiff
import Derived.Lib.ConvBytes
namespace Go.Proofs.Ytekhfepfaegpaaa
open Go.RowKit Pack
set_option linter.unusedVariables false

/-- A text's bytes. -/
def bsOf (s : ByteArray) : List (BitVec 8) := s.toList.map fun b => BitVec.ofNat 8 b.toNat
theorem bsOf_len (s : ByteArray) : (bsOf s).length = s.size := by unfold bsOf; rw [List.length_map, toList_len]
theorem str_bsOf (s : ByteArray) : str (bsOf s) = s := by
  apply ba_ext
  rw [str_toList, bsOf, List.map_map]
  have : ((fun b : BitVec 8 => UInt8.ofNat b.toNat) ∘ fun b : UInt8 => BitVec.ofNat 8 b.toNat) = id := by
    funext b
    have := b.toNat_lt
    simp only [Function.comp, BitVec.toNat_ofNat, id]
    rw [Nat.mod_eq_of_lt (by omega)]
    simp
  rw [this, List.map_id]
theorem bsOf_str (l : List (BitVec 8)) : bsOf (str l) = l := by
  unfold bsOf
  rw [str_toList, List.map_map]
  have : ((fun b : UInt8 => BitVec.ofNat 8 b.toNat) ∘ fun b : BitVec 8 => UInt8.ofNat b.toNat) = id := by
    funext b
    have := b.isLt
    apply BitVec.eq_of_toNat_eq
    simp [Function.comp]
  rw [this, List.map_id]
theorem bsOf_nth {s : ByteArray} {j : Nat} (hj : j < s.size) : B (nth (bsOf s) j) = ((s.data.toList.getD j 0).toNat : Int) := by
  have h1 : j < s.data.toList.length := by rw [Array.length_toList]; exact hj
  unfold B nth bsOf
  rw [tl_eq, List.getD_eq_getElem?_getD, List.getD_eq_getElem?_getD, List.getElem?_map, List.getElem?_eq_getElem h1]
  simp
theorem below_bytes (w : World) (e : TypeId) (s : ByteArray) : Below w.heap.size w (Lib.bytesWorld w e s) := by
  refine ⟨?_, ?_, ?_, by rw [Lib.bytesWorld_size]; omega, fun k hk => Lib.bytesWorld_at_old w e s k hk⟩
  · simp [Lib.bytesWorld, World.freeze, World.alloc, World.drew, -World.alloc_eq, -World.drew_eq]
  · simp [Lib.bytesWorld, World.freeze, World.alloc, World.drew, -World.alloc_eq, -World.drew_eq]
  · simp [Lib.bytesWorld, World.freeze, World.alloc, World.drew, -World.alloc_eq, -World.drew_eq]
theorem conv_bytes (s : ByteArray) (hs : s.size ≤ 1000000) : ∃ (C : World → Nat) (F : World → World), (∀ w, (convert 9 42 (.string s)).run Try.prog w = .ok (.slice (some ⟨w.heap.size, 0, none⟩) s.size (C w)) (F w)) ∧ ∀ w, ReadsV (F w) (.slice (some ⟨w.heap.size, 0, none⟩) s.size (C w)) (bsOf s) ∧ Below w.heap.size w (F w) := by
  refine ⟨fun w => grownCap w s.size 0 5, fun w => Lib.bytesWorld w 5 s, fun w => Lib.run_convert_string_bytes w 9 42 5 s Try.underlying9 Try.underlying42 Try.underlying5, fun w => ⟨?_, below_bytes w 5 s⟩⟩
  refine ⟨_, _, by rw [bsOf_len], (fun h => by cases h), by rw [bsOf_len]; exact grownCap_ge w _ _ _, grownCap_le_maxLen w _ _ _ (by unfold maxLen; omega), by rw [bsOf_len]; unfold maxLen; omega, ?_⟩
  refine .inr ⟨w.heap.size, 0, rfl, fun i hi => ?_⟩
  rw [bsOf_len] at hi
  rw [Nat.zero_add, Lib.bytesWorld_cell w 5 s i hi, bsOf_nth hi]
/-- One variable as bytes. -/
def entB (p : ByteArray × Int) : List (BitVec 8) := (urow p.1.size ++ bsOf p.1) ++ urow (zz p.2)
def packE (l : VL) : List (BitVec 8) := l.flatMap entB
/-- Variables as bytes. -/
def packV (l : VL) : List (BitVec 8) := urow l.length ++ packE l
theorem packE_step {l : VL} {k : Nat} (hk : k < l.length) : packE (l.take (k + 1)) = packE (l.take k) ++ entB l[k] := by
  unfold packE
  rw [List.take_succ_eq_append_getElem hk, List.flatMap_append]; simp
theorem entB_len {p : ByteArray × Int} (h1 : p.1.size ≤ 1000000) (h2 : -9223372036854775808 ≤ p.2) (h3 : p.2 ≤ 9223372036854775807) : (entB p).length ≤ 1000020 := by
  unfold entB
  rw [List.length_append, List.length_append, bsOf_len]
  have := urow_len (n := p.1.size) (by omega)
  have := urow_len (zz_lt h2 h3)
  omega
theorem packE_len : ∀ {l : VL}, (∀ p ∈ l, p.1.size ≤ 1000000 ∧ -9223372036854775808 ≤ p.2 ∧ p.2 ≤ 9223372036854775807) → (packE l).length ≤ 1000020 * l.length
  | [], _ => by simp [packE]
  | p :: l, h => by
    have h1 := h p (by simp)
    have h2 := entB_len h1.1 h1.2.1 h1.2.2
    have h3 := packE_len (l := l) fun q hq => h q (by simp [hq])
    have e : packE (p :: l) = entB p ++ packE l := by simp [packE]
    rw [e, List.length_append, List.length_cons]
    omega
theorem mem_take {l : VL} {k : Nat} {p : ByteArray × Int} (h : p ∈ l.take k) : p ∈ l := List.mem_of_mem_take h
theorem nms_at {l : VL} {k : Nat} (h : k < l.length) : (nmsOf l).getD k emp = l[k].1 := by simp [nmsOf, List.getD_eq_getElem?_getD, h]
theorem vals_at {l : VL} {k : Nat} (h : k < l.length) : (valsOf l).getD k 0 = l[k].2 := by simp [valsOf, List.getD_eq_getElem?_getD, h]
set_option maxRecDepth 100000 in
set_option maxHeartbeats 2000000 in
theorem Put_any (l : VL) (v : Value) (w : World) (hv : RdV w v (nmsOf l) (valsOf l)) (hl : l.length ≤ 1000) (hs : ∀ p ∈ l, p.1.size ≤ 1000000 ∧ -9223372036854775808 ≤ p.2 ∧ p.2 ≤ 9223372036854775807) : Calls Try.prog 26 #[.slice none 0 0, v] w fun e w' => ∃ v', e = .returned v' ∧ Owns w' w.heap.size v' (packV l) ∧ Below w.heap.size w w' := by
  obtain ⟨sn, sv, rfl, h1, h2⟩ := hv
  obtain ⟨a, c, rfl⟩ := h1.form
  obtain ⟨b, d, rfl⟩ := h2.form
  obtain ⟨_, hnc, hcm, _, hc1⟩ := h1.at
  obtain ⟨_, hnd, hdm, _, hc2⟩ := h2.at
  simp only [strsV_len, intsV_len, nmsOf_len, valsOf_len] at *
  have HN : Hid (∀ k, k < l.length → ∃ g off g2 off2 x y, a = some ⟨g, off, none⟩ ∧ g < w.heap.size ∧ w.cell? ⟨g, off + k, none⟩ = some (.string x) ∧ b = some ⟨g2, off2, none⟩ ∧ g2 < w.heap.size ∧ w.cell? ⟨g2, off2 + k, none⟩ = some (.int .i64 y) ∧ x.size ≤ 1000000 ∧ -9223372036854775808 ≤ y ∧ y ≤ 9223372036854775807 ∧ packE (l.take (k + 1)) = packE (l.take k) ++ ((urow x.size ++ bsOf x) ++ urow (zz y)) ∧ (packE (l.take k)).length ≤ 1100000000) := fun k hk => by
    obtain ⟨g, off, q1, q2, q3⟩ := hc1 k _ (strsV_at (ns := nmsOf l) (by rw [nmsOf_len]; exact hk))
    obtain ⟨g2, off2, q4, q5, q6⟩ := hc2 k _ (intsV_at (vs := valsOf l) (by rw [valsOf_len]; exact hk))
    rw [nms_at hk] at q3
    rw [vals_at hk] at q6
    have hb := hs l[k] (List.getElem_mem hk)
    refine ⟨g, off, g2, off2, _, _, q1, q2, q3, q4, q5, q6, hb.1, hb.2.1, hb.2.2, packE_step hk, ?_⟩
    have := packE_len (l := l.take k) fun p hp => hs p (mem_take hp)
    rw [List.length_take] at this
    omega
  have HE : Hid (packV l = urow l.length ++ packE (l.take l.length)) := by show _ = _; rw [List.take_length]; rfl
  have HPr : Hid (∀ w', Calls Try.prog 38 #[.agg #[.slice a l.length c, .slice b l.length d]] w' fun e w2 => e = .returned (.int .i64 l.length) ∧ Below w'.heap.size w' w2) := fun w' => pairs_any a b _ c _ d (by omega) (by omega) rfl w'
  obtain ⟨W0, hW0⟩ : ∃ W, W = w.alloc (.cells #[.slice a l.length c, .slice b l.length d] 25) := ⟨_, rfl⟩
  have HW0 : Hid (W0.heap.size = w.heap.size + 1 ∧ Below w.heap.size w W0 ∧ Two W0 w.heap.size (.slice a l.length c) (.slice b l.length d)) := by
    refine ⟨by rw [hW0, size_alloc], by rw [hW0]; exact (Below.refl _ _).alloc (Nat.le_refl _) _, by rw [hW0]; exact Two.new w _ _ 25⟩
  have HT : Hid (∀ w', Below W0.heap.size W0 w' → Two w' w.heap.size (.slice a l.length c) (.slice b l.length d) ∧ Below w.heap.size w w') := fun w' hb => ⟨HW0.out.2.2.below hb, HW0.out.2.1.trans (hb.mono HW0.out.2.1.size)⟩
  have HU : Hid (∀ w', Below W0.heap.size W0 w' → Calls Try.prog 45 #[.slice none 0 0, .int .u64 l.length] w' fun e w2 => ∃ v', e = .returned v' ∧ Owns w2 W0.heap.size v' (urow l.length ++ packE (l.take 0)) ∧ Below W0.heap.size w' w2) := fun w' hb => by
    have h := uint_any W0.heap.size (.slice none 0 0) [] l.length w' (Owns.nil _ _) hb.size (by decide) (by omega)
    simpa [packE] using h
  have HUl : Hid ((urow l.length).length ≤ 10) := urow_len (by omega)
  clear h1 h2 hc1 hc2 hs
  generalize hN : l.length = N at *
  go_enter Try.func26, Try.ntmps26
  go_wp2_with (first
    | (go_at_call 45; have := HB1; refine (HU.out _ HB1.out).mono ?_; rintro e w2 ⟨v', rfl, ho, HB⟩; have HO2 : Hid (Owns w2 W0.heap.size v' (urow N ++ packE (l.take 0)) ∧ Below W0.heap.size W0 w2) := ⟨ho, HB1.out.trans HB⟩; obtain ⟨⟨p4, p0, p1, p2, p3⟩, _⟩ := HT.out _ HO2.out.2; clear ho HB)
    | (go_at_call 38; rw [← hW0]; refine (HPr.out _).mono ?_; rintro e w1 ⟨rfl, HB⟩; have HB1 : Hid (Below W0.heap.size W0 w1) := HB; obtain ⟨⟨p4, p0, p1, p2, p3⟩, _⟩ := HT.out _ HB; clear HB))
  go_loopw [0, 19] (fun s0 s19 wr => ∃ i : Nat, i ≤ N ∧ s19 = .int .i64 i ∧ Hid (Owns wr W0.heap.size s0 (urow N ++ packE (l.take i)) ∧ Below W0.heap.size W0 wr)) (fun _ s19 _ => N - (intOf s19).toNat)
  case atStart => exact ⟨0, Nat.zero_le _, rfl, HO2⟩
  case round =>
    obtain ⟨i, hi, rfl, HR⟩ := hrel
    by_cases hlt : i < N
    · obtain ⟨g, off, g2, off2, x, y, rfl, hg, hc, rfl, hg2, hc2, hx, hy1, hy2, hpk, hpl⟩ := HN.out i hlt
      obtain ⟨C, F, hcv, hF⟩ := conv_bytes x hx
      have HF : Hid (∀ w, ReadsV (F w) (.slice (some ⟨w.heap.size, 0, none⟩) x.size (C w)) (bsOf x) ∧ Below w.heap.size w (F w)) := hF
      have HBy : Hid (∀ w3 v3, Owns w3 W0.heap.size v3 (urow N ++ packE (l.take i)) → Below W0.heap.size W0 w3 → Calls Try.prog 46 #[v3, .slice (some ⟨w3.heap.size, 0, none⟩) x.size (C w3)] (F w3) fun e w4 => ∃ v4, e = .returned v4 ∧ Owns w4 W0.heap.size v4 ((urow N ++ packE (l.take i)) ++ (urow x.size ++ bsOf x)) ∧ Below W0.heap.size W0 w4) := fun w3 v3 ho hb => by
        have hf := HF.out w3
        have h := bytes_any W0.heap.size v3 _ _ (bsOf x) (F w3) (ho.below hf.2) hf.1 (Nat.le_trans hb.size hf.2.size) (by rw [List.length_append]; have := HUl.out; omega) (by rw [bsOf_len]; omega)
        rw [bsOf_len] at h
        refine h.mono ?_
        rintro e w4 ⟨v4, rfl, h1, h2⟩
        exact ⟨v4, rfl, h1, (hb.trans (hf.2.mono hb.size)).trans h2⟩
      have HIn : Hid (∀ w4 v4, Owns w4 W0.heap.size v4 ((urow N ++ packE (l.take i)) ++ (urow x.size ++ bsOf x)) → Below W0.heap.size W0 w4 → Calls Try.prog 47 #[v4, .int .i64 y] w4 fun e w5 => ∃ v5, e = .returned v5 ∧ Owns w5 W0.heap.size v5 (urow N ++ packE (l.take (i + 1))) ∧ Below W0.heap.size W0 w5) := fun w4 v4 ho hb => by
        have h := int_any W0.heap.size v4 _ y w4 ho hb.size (by simp only [List.length_append, bsOf_len]; have := HUl.out; have := urow_len (n := x.size) (by omega); omega) hy1 hy2
        refine h.mono ?_
        rintro e w5 ⟨v5, rfl, h1, h2⟩
        refine ⟨v5, rfl, ?_, hb.trans h2⟩
        rw [hpk]
        simpa [List.append_assoc] using h1
      have HCl : Hid (∀ w4, Below W0.heap.size W0 w4 → w4.cell? ⟨g2, off2 + i, none⟩ = some (.int .i64 y) ∧ Two w4 w.heap.size (.slice (some ⟨g, off, none⟩) N c) (.slice (some ⟨g2, off2, none⟩) N d)) := fun w4 hb => ⟨((HT.out _ hb).2.cell (p := ⟨g2, off2 + i, none⟩) hg2).trans hc2, (HT.out _ hb).1⟩
      have f1 := ((HT.out _ HR.out.2).2.cell (p := ⟨g, off + i, none⟩) hg).trans hc
      clear hc hc2 HN HF hF hpk hpl
      go_wp2_with (first
        | (go_at_call 47; have := HB4; refine (HIn.out _ _ HB4.out.1 HB4.out.2).mono ?_; rintro e w5 ⟨v5, rfl, q1, q2⟩; have HB5 : Hid (Owns w5 W0.heap.size v5 (urow N ++ packE (l.take (i + 1))) ∧ Below W0.heap.size W0 w5) := ⟨q1, q2⟩; clear q1 q2 HB4)
        | (go_at_call 46; refine (HBy.out _ _ HR.out.1 HR.out.2).mono ?_; rintro e w4 ⟨v4, rfl, q1, q2⟩; have HB4 : Hid (Owns w4 W0.heap.size v4 ((urow N ++ packE (l.take i)) ++ (urow x.size ++ bsOf x)) ∧ Below W0.heap.size W0 w4) := ⟨q1, q2⟩; obtain ⟨y0, ⟨p4, p0, p1, p2, p3⟩⟩ := HCl.out _ q2; clear q1 q2))
      go_roundw
      case rel => exact ⟨i + 1, by omega, by go_num, HB5⟩
      case measure => simp [intOf]; omega
    · have e : i = N := by omega
      have e' : N = i := e.symm
      clear e
      subst e'
      have HR2 : Hid (Owns wr w.heap.size u0 (packV l) ∧ Below w.heap.size w wr) := ⟨by rw [HE.out]; exact ⟨HR.out.1.1, by
        rcases HR.out.1.2 with h | ⟨g, cap, cur, h1, h2, h3⟩
        · exact .inl h
        · exact .inr ⟨g, cap, cur, h1, by have := HW0.out.1; omega, h3⟩⟩, (HT.out _ HR.out.2).2⟩
      clear HR HN HE
      go_wp2
      go_ret
      exact ⟨_, rfl, HR2.out⟩
end Go.Proofs.Ytekhfepfaegpaaa

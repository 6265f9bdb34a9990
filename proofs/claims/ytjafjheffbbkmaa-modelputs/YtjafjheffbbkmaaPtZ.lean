/-
  The document's ExprBytes: contracts.
-/
import Derived.Test.YtjafjheffbbkmaaPuA
import Derived.Test.YtjafjheffbbkmaaRdD
import Derived.Test.YtjafjheffbbkmaaPuD
import Derived.Test.YtjafjheffbbkmaaCkZ
namespace Go.Proofs.Ytjafjheffbbkmaa
section
open Go.RowKit
open V.Pack (byte urow zz unzz rd rd0_ok rd0_urow urow_len unzz_zz zz_unzz zz_lt byte_nat val_urow)
set_option linter.unusedVariables false

theorem own_one (w : World) (x : Int) (b : BitVec 8) (q base : Nat) (h : x = V.B b) (hb : base ≤ w.heap.size) (hq : q = w.heap.size) : V.Owns (w.alloc (.cells #[.int .u8 x] 5)) base (.slice (some ⟨q, 0, none⟩) 1 1) [b] := by
  subst hq
  exact ⟨rfl, .inr ⟨w.heap.size, 1, #[.int .u8 x], rfl, hb, heap_alloc_new w _, Nat.le_refl _, by decide, rfl, by rw [h]; rfl⟩⟩
theorem Owns.low {w : World} {base base' : Nat} {v : Value} {l : BB} (h : V.Owns w base v l) (hb : base' ≤ base) : V.Owns w base' v l := by
  obtain ⟨h1, h2⟩ := h
  refine ⟨h1, ?_⟩
  rcases h2 with h2 | ⟨g, cap, cur, q1, q2, q3⟩
  · exact .inl h2
  · exact .inr ⟨g, cap, cur, q1, Nat.le_trans hb q2, q3⟩
def XBs (d : Nat) : Prop := ∀ (P : Nat → Prop) (t : Tr) (v : Value) (w : World), checkM d t = 0 → Tre w P v t → (treeB d t).length ≤ 1000000000000 → Calls Try.prog 20 #[v] w fun e w' => ∃ b', e = .returned b' ∧ V.Owns w' w.heap.size b' (treeB d t) ∧ Below w.heap.size w w'
set_option maxRecDepth 100000 in
set_option maxHeartbeats 800000 in
theorem xb_num (d : Nat) (ih : XBs d) (P : Nat → Prop) (n : Int) (nm : Bs) (ks : List Tr) (a : Option Addr) (c : Nat) (w : World) (hn1 : -9223372036854775808 ≤ n) (hn2 : n ≤ 9223372036854775807) (h0 : ks = []) (hT : Tre w P (.agg #[.int .i64 1, .int .i64 n, .string (ba nm), .slice a ks.length c]) ⟨1, n, nm, ks⟩)
    (hck : ∀ x ∈ ks, checkM d x = 0) (hl : (urow (zz n)).length + (ks.flatMap (treeB d)).length + 1 ≤ 1000000000000) :
    Calls Try.prog 20 #[.agg #[.int .i64 1, .int .i64 n, .string (ba nm), .slice a ks.length c]] w fun e w' => ∃ b', e = .returned b' ∧ V.Owns w' w.heap.size b' (byte 1 :: (urow (zz n) ++ ks.flatMap (treeB d))) ∧ Below w.heap.size w w' := by
  have HT : Hid (Tre w P (.agg #[.int .i64 1, .int .i64 n, .string (ba nm), .slice a ks.length c]) ⟨1, n, nm, ks⟩) := hT
  obtain ⟨_, _, e0, hcap, _, _, hnm, hlen, _⟩ := hT.opened
  simp only [Value.agg.injEq, Array.mk.injEq, List.cons.injEq, and_true, Value.slice.injEq, true_and] at e0
  have hcap2 : ks.length ≤ c := by rw [e0.2]; exact hcap
  simp only at hlen hnm
  have HB : Hid (V.B (byte 1) = (1 : Int)) := (B_byte (m := 1) (by omega)).symm
  subst h0
  have HL : Hid ([byte 1].length + (urow (zz n)).length ≤ 140737488355328) := by show _ ≤ _; simp only [List.length_cons, List.length_nil]; simp only [List.flatMap_nil, List.length_nil] at hl; omega
  have HI : Hid (∀ w1, Calls Try.prog 41 #[.int .i64 n] w1 fun e w' => ∃ v', e = .returned v' ∧ V.Owns w' w1.heap.size v' (urow (zz n)) ∧ Below w1.heap.size w1 w') := fun w1 => V.rint_any n w1 hn1 hn2
  clear hT hck ih e0 hcap hl hnm HT
  generalize ba nm = s at *
  go_enter Try.func20, Try.ntmps20
  go_wp2_with (first
    | (go_at_call 41; refine (HI.out _).mono ?_; rintro e w2 ⟨v2, rfl, h1, h2⟩; have O2 : Hid (V.ReadsV w2 v2 (urow (zz n)) ∧ V.Owns w2 w.heap.size (.slice (some ⟨w.heap.size + 1, 0, none⟩) 1 1) [byte 1] ∧ Below w.heap.size w w2) := ⟨V.ReadsV.of_own h1, ((own_one (w.alloc _) _ (byte 1) (w.heap.size + 1) w.heap.size HB.out.symm (le_alloc _ _) (size_alloc _ _).symm)).below h2, below_new (below_new h2)⟩; clear h1 h2)
    | (at_builtin; refine V.wpList_append_bytes rfl (.tmp 12) (.tmp 15) 32 rfl w.heap.size Try.underlying32 V.Try.info5 _ [byte 1] rfl O2.out.2.1 _ (urow (zz n)) rfl O2.out.1 HL.out O2.out.2.2.size ?_; intro v3 w3 h1 h2; have O3 : Hid (V.Owns w3 w.heap.size v3 ([byte 1] ++ urow (zz n)) ∧ Below w.heap.size w w3) := ⟨h1, O2.out.2.2.trans h2⟩; clear h1 h2))
  go_ret
  exact ⟨_, rfl, by simpa using O3.out.1, O3.out.2⟩
set_option maxRecDepth 100000 in
set_option maxHeartbeats 800000 in
theorem xb_var (d : Nat) (ih : XBs d) (P : Nat → Prop) (n : Int) (nm : Bs) (ks : List Tr) (a : Option Addr) (c : Nat) (w : World) (hn32 : nm.length ≤ 32) (h0 : ks = []) (hT : Tre w P (.agg #[.int .i64 2, .int .i64 n, .string (ba nm), .slice a ks.length c]) ⟨2, n, nm, ks⟩)
    (hck : ∀ x ∈ ks, checkM d x = 0) (hl : (textB nm).length + (ks.flatMap (treeB d)).length + 1 ≤ 1000000000000) :
    Calls Try.prog 20 #[.agg #[.int .i64 2, .int .i64 n, .string (ba nm), .slice a ks.length c]] w fun e w' => ∃ b', e = .returned b' ∧ V.Owns w' w.heap.size b' (byte 2 :: (textB nm ++ ks.flatMap (treeB d))) ∧ Below w.heap.size w w' := by
  have HT : Hid (Tre w P (.agg #[.int .i64 2, .int .i64 n, .string (ba nm), .slice a ks.length c]) ⟨2, n, nm, ks⟩) := hT
  obtain ⟨_, _, e0, hcap, _, _, hnm, hlen, _⟩ := hT.opened
  simp only [Value.agg.injEq, Array.mk.injEq, List.cons.injEq, and_true, Value.slice.injEq, true_and] at e0
  have hcap2 : ks.length ≤ c := by rw [e0.2]; exact hcap
  simp only at hlen hnm
  have HB : Hid (V.B (byte 2) = (2 : Int)) := (B_byte (m := 2) (by omega)).symm
  subst h0
  have HL : Hid ([byte 2].length + (textB nm).length ≤ 140737488355328) := by show _ ≤ _; simp only [List.length_cons, List.length_nil]; simp only [List.flatMap_nil, List.length_nil] at hl; omega
  obtain ⟨C, F, hcv, hF⟩ := conv_name nm (by omega)
  have HF : Hid (∀ w1 q, q = w1.heap.size → Calls Try.prog 42 #[.slice (some ⟨q, 0, none⟩) nm.length (C w1)] (F w1) fun e w' => ∃ v', e = .returned v' ∧ V.ReadsV w' v' (textB nm) ∧ Below w1.heap.size w1 w') := fun w1 q hq => by
    subst hq
    have hf := hF w1
    refine (V.rbytes_any _ (nb nm) (F w1) hf.1 (by rw [nb_len]; omega)).mono ?_
    rintro e w' ⟨v', rfl, h1, h2⟩
    exact ⟨v', rfl, by rw [nb_len] at h1; exact V.ReadsV.of_own h1, hf.2.trans (h2.mono hf.2.size)⟩
  clear hF
  clear hT hck ih e0 hcap hl hnm HT
  generalize ba nm = s at *
  generalize nm.length = nl at *
  go_enter Try.func20, Try.ntmps20
  go_wp2_with (first
    | (go_at_call 42; refine (HF.out _ _ (by simp only [size_alloc])).mono ?_; rintro e w2 ⟨v2, rfl, h1, h2⟩; have O2 : Hid (V.ReadsV w2 v2 (textB nm) ∧ V.Owns w2 w.heap.size (.slice (some ⟨w.heap.size + 1, 0, none⟩) 1 1) [byte 2] ∧ Below w.heap.size w w2) := ⟨h1, ((own_one (w.alloc _) _ (byte 2) (w.heap.size + 1) w.heap.size HB.out.symm (le_alloc _ _) (size_alloc _ _).symm)).below h2, below_new (below_new h2)⟩; clear h1 h2)
    | (at_builtin; refine V.wpList_append_bytes rfl (.tmp 20) (.tmp 24) 32 rfl w.heap.size Try.underlying32 V.Try.info5 _ [byte 2] rfl O2.out.2.1 _ (textB nm) rfl O2.out.1 HL.out O2.out.2.2.size ?_; intro v3 w3 h1 h2; have O3 : Hid (V.Owns w3 w.heap.size v3 ([byte 2] ++ textB nm) ∧ Below w.heap.size w w3) := ⟨h1, O2.out.2.2.trans h2⟩; clear h1 h2))
  go_ret
  exact ⟨_, rfl, by simpa using O3.out.1, O3.out.2⟩
set_option maxRecDepth 100000 in
set_option maxHeartbeats 800000 in
theorem xb_other (d : Nat) (ih : XBs d) (P : Nat → Prop) (m : Nat) (n : Int) (nm : Bs) (ks : List Tr) (a : Option Addr) (c : Nat) (w : World) (hm3 : 3 ≤ m) (hm14 : m ≤ 14) (hT : Tre w P (.agg #[.int .i64 m, .int .i64 n, .string (ba nm), .slice a ks.length c]) ⟨m, n, nm, ks⟩)
    (hck : ∀ x ∈ ks, checkM d x = 0) (hl : ([] : BB).length + (ks.flatMap (treeB d)).length + 1 ≤ 1000000000000) :
    Calls Try.prog 20 #[.agg #[.int .i64 m, .int .i64 n, .string (ba nm), .slice a ks.length c]] w fun e w' => ∃ b', e = .returned b' ∧ V.Owns w' w.heap.size b' (byte m :: (([] : BB) ++ ks.flatMap (treeB d))) ∧ Below w.heap.size w w' := by
  have HT : Hid (Tre w P (.agg #[.int .i64 m, .int .i64 n, .string (ba nm), .slice a ks.length c]) ⟨m, n, nm, ks⟩) := hT
  obtain ⟨_, _, e0, hcap, _, _, hnm, hlen, _⟩ := hT.opened
  simp only [Value.agg.injEq, Array.mk.injEq, List.cons.injEq, and_true, Value.slice.injEq, true_and] at e0
  have hcap2 : ks.length ≤ c := by rw [e0.2]; exact hcap
  simp only at hlen hnm
  have HB : Hid (V.B (byte m) = (m : Int)) := (B_byte (m := m) (by omega)).symm
  have HK : Hid (∀ i (h : i < ks.length) wr, Below w.heap.size w wr → ∃ b o ka kc, KidAt wr P a i ks[i] b o ka kc) := fun i h wr hk => by
    obtain ⟨a', cap, e, _, _, _, _, _, hkk⟩ := (HT.out.below hk).opened
    simp only [Value.agg.injEq, Array.mk.injEq, List.cons.injEq, and_true, Value.slice.injEq, true_and] at e
    obtain ⟨b, o, ka, kc, q⟩ := hkk i h
    rw [← e.1, getD_T h] at q
    exact ⟨b, o, ka, kc, q⟩
  have HP : Hid (∀ i (h : i < ks.length) wr u, Tre wr P u ks[i] → Calls Try.prog 20 #[u] wr fun e w' => ∃ b', e = .returned b' ∧ V.ReadsV w' b' (treeB d ks[i]) ∧ Below wr.heap.size wr w') := fun i h wr u hu => by
    have q := ih P ks[i] u wr (hck _ (List.getElem_mem h)) hu (by have := flat_both (treeB d) ks i h; omega)
    refine q.mono ?_
    rintro e w' ⟨b', rfl, h1, h2⟩
    exact ⟨b', rfl, V.ReadsV.of_own h1, h2⟩
  have HLn : Hid (∀ i (h : i < ks.length), (byte m :: (ks.take i).flatMap (treeB d)).length + (treeB d ks[i]).length ≤ 140737488355328) := fun i h => by
    have := flat_both (treeB d) ks i h
    simp only [List.length_cons]; simp only [List.length_nil] at hl; omega
  have hm1 : ((m : Int) == 1) = false := by rw [beq_eq_false_iff_ne]; omega
  have hm2 : ((m : Int) == 2) = false := by rw [beq_eq_false_iff_ne]; omega
  clear hT hck ih e0 hcap hl hnm HT
  generalize ba nm = s at *
  go_enter Try.func20, Try.ntmps20
  go_wp2
  go_loopw [3, 4] (fun v i wr => ∃ (j : Nat), j ≤ ks.length ∧ i = .int .i64 j ∧ Hid (V.Owns wr (w.heap.size + 1) v (byte m :: (ks.take j).flatMap (treeB d)) ∧ Below w.heap.size w wr ∧ Cell4 wr w.heap.size (.int .i64 m) (.int .i64 n) (.string s) (.slice a ks.length c))) (fun _ i _ => ks.length - (intOf i).toNat)
  case atStart => exact ⟨0, Nat.zero_le _, rfl, own_one (w.alloc _) _ (byte m) (w.heap.size + 1) _ HB.out.symm (Nat.le_of_eq (size_alloc _ _).symm) (size_alloc _ _).symm, ((Below.refl _ _).alloc (Nat.le_refl _) _).alloc (le_alloc _ _) _, (Cell4.new w _ _ _ _ 31).alloc _⟩
  case round =>
    obtain ⟨j, hj, rfl, HR⟩ := hrel
    obtain ⟨x0, x1, x2, x3, x4⟩ := HR.out.2.2
    have hlx := HR.out.2.2.lt
    by_cases hlt : j < ks.length
    · obtain ⟨kb, ko, ka, kc, hKA⟩ := HK.out j hlt wr HR.out.2.1
      obtain ⟨rfl, k0, k1, k2, k3, ht⟩ := hKA
      have hbl : kb < wr.heap.size := World.block_lt_of_cell? wr _ k0
      have HC : Hid (Calls Try.prog 20 #[.agg #[.int .i64 ks[j].kind, .int .i64 ks[j].n, .string (ba ks[j].name), .slice ka ks[j].kids.length kc]] wr fun e w' => ∃ b', e = .returned b' ∧ V.ReadsV w' b' (treeB d ks[j]) ∧ Below wr.heap.size wr w') := HP.out j hlt wr _ ht
      have HL2 : Hid ((byte m :: (ks.take j).flatMap (treeB d)).length + (treeB d ks[j]).length ≤ 140737488355328) := HLn.out j hlt
      clear ht
      generalize hTB : treeB d ks[j] = TB at *
      have HTB : Hid (treeB d ks[j] = TB) := hTB
      clear hTB
      generalize ks[j].kind = yk at *
      generalize ks[j].n = yn at *
      generalize ba ks[j].name = ys at *
      generalize ks[j].kids.length = yl at *
      go_wp2_with (first
        | (go_at_call 20; refine HC.out.mono ?_; rintro e w2 ⟨v2, rfl, h1, h2⟩; have O2 : Hid (V.ReadsV w2 v2 TB ∧ V.Owns w2 (w.heap.size + 1) u3 (byte m :: (ks.take j).flatMap (treeB d)) ∧ Below w.heap.size w w2 ∧ w.heap.size + 1 ≤ w2.heap.size ∧ Cell4 w2 w.heap.size (.int .i64 m) (.int .i64 n) (.string s) (.slice (some ⟨kb, ko, none⟩) ks.length c)) := ⟨h1, HR.out.1.below h2, HR.out.2.1.trans (h2.mono HR.out.2.1.size), Nat.le_trans hlx h2.size, HR.out.2.2.below h2⟩; clear h1 h2)
        | (at_builtin; refine V.wpList_append_bytes rfl (.tmp 33) (.tmp 39) 32 rfl (w.heap.size + 1) Try.underlying32 V.Try.info5 _ (byte m :: (ks.take j).flatMap (treeB d)) rfl O2.out.2.1 _ TB rfl O2.out.1 HL2.out O2.out.2.2.2.1 ?_; intro v3 w3 h1 h2; have O3 : Hid (V.Owns w3 (w.heap.size + 1) v3 ((byte m :: (ks.take j).flatMap (treeB d)) ++ TB) ∧ Below w.heap.size w w3 ∧ Cell4 w3 w.heap.size (.int .i64 m) (.int .i64 n) (.string s) (.slice (some ⟨kb, ko, none⟩) ks.length c)) := ⟨h1, O2.out.2.2.1.trans (h2.mono (Nat.le_succ _)), O2.out.2.2.2.2.under (Nat.lt_succ_self _) h2⟩; clear h1 h2))
      go_roundw
      case rel => exact ⟨j + 1, by omega, by go_num, by rw [flat_step hlt, HTB.out]; exact O3.out.1, O3.out.2⟩
      case measure => simp [intOf]; omega
    · have he : j = ks.length := by omega
      subst he
      have HR2 : Hid (V.Owns wr (w.heap.size + 1) u3 (byte m :: ks.flatMap (treeB d)) ∧ Below w.heap.size w wr) := by have := HR.out; rw [List.take_length] at this; exact ⟨this.1, this.2.1⟩
      clear HR
      go_wp2
      go_ret
      exact ⟨_, rfl, Owns.low HR2.out.1 (Nat.le_succ _), HR2.out.2⟩
theorem xbs_any : ∀ d, XBs d
  | 0 => fun P t v w h => by cases h
  | d + 1 => fun P t v w h hT hl => by
    have hs := shape h
    have hnm := name_short h
    have lo := hs.lo; have hi := hs.hi
    have hck := (check_fits h).2
    obtain ⟨a, c, rfl, _, hk, hn, _⟩ := hT.opened
    obtain ⟨k, n, nm, ks⟩ := t
    simp only at *
    obtain ⟨m, rfl⟩ : ∃ m : Nat, k = (m : Int) := ⟨k.toNat, by omega⟩
    have e : treeB (d + 1) ⟨(m : Int), n, nm, ks⟩ = byte m :: ((if (m : Int) = 1 then urow (zz n) else if (m : Int) = 2 then textB nm else []) ++ ks.flatMap (treeB d)) := by
      show byte ((m : Int)).toNat :: _ = _
      rw [Int.toNat_natCast]
    rw [e] at hl ⊢
    simp only [List.length_cons, List.length_append] at hl
    have h0 : m ≤ 2 → ks = [] := fun hm => by
      rcases hs.kids with ⟨_, q⟩ | ⟨q, _⟩ | ⟨q, _⟩
      · exact q
      · simp only at q; omega
      · simp only at q; omega
    by_cases h1 : m = 1
    · subst h1
      rw [if_pos (by decide)] at hl ⊢
      exact xb_num d (xbs_any d) P n nm ks a c w hn.1 hn.2 (h0 (by omega)) hT hck (by omega)
    · by_cases h2 : m = 2
      · subst h2
        rw [if_neg (by decide), if_pos (by decide)] at hl ⊢
        exact xb_var d (xbs_any d) P n nm ks a c w hnm (h0 (by omega)) hT hck (by omega)
      · rw [if_neg (by omega), if_neg (by omega)] at hl ⊢
        exact xb_other d (xbs_any d) P m n nm ks a c w (by omega) (by omega) hT hck (by simp at hl ⊢; omega)
theorem XBytes_any (P : Nat → Prop) (t : Tr) (v : Value) (w : World) (h : checkM 16 t = 0) (hT : Tre w P v t) : Calls Try.prog 20 #[v] w fun e w' => ∃ b', e = .returned b' ∧ V.Owns w' w.heap.size b' (treeB 16 t) ∧ Below w.heap.size w w' :=
  xbs_any 16 P t v w h hT (by have := treeB_16 h (hT.nums 16); omega)
end
section
open Go.RowKit
open V.Pack (byte urow zz unzz rd rd0_ok rd0_urow urow_len unzz_zz zz_unzz zz_lt byte_nat val_urow)
set_option linter.unusedVariables false

set_option maxRecDepth 100000 in
set_option maxHeartbeats 400000 in
theorem rmaybe_any (P : Nat → Prop) (ks : List Tr) (v : Value) (w : World) (h1 : ks.length ≤ 1) (hck : ∀ t ∈ ks, checkM 16 t = 0) (hT : ExsV w P v ks) :
    Calls Try.prog 47 #[v] w fun e w' => ∃ b', e = .returned b' ∧ V.Owns w' w.heap.size b' (maybeB ks) ∧ Below w.heap.size w w' := by
  have HT : Hid (ExsV w P v ks) := hT
  obtain ⟨a, c, rfl, hcap, hlen, hkk⟩ := hT.form
  match ks, h1 with
  | [], _ =>
    have HE : Hid (maybeB [] = [byte 0]) := rfl
    clear hT hkk hck HT
    go_enter Try.func47, Try.ntmps47
    go_wp2
    go_ret
    exact ⟨_, rfl, by rw [HE.out]; exact own_one w 0 (byte 0) _ _ rfl (Nat.le_refl _) rfl, (Below.refl _ _).alloc (Nat.le_refl _) _⟩
  | [t], _ =>
    have hc := hck t (List.mem_singleton.mpr rfl)
    have hl16 := treeB_16 hc (hT.nums 16 t (List.mem_singleton.mpr rfl))
    have HE : Hid (maybeB [t] = [byte 1] ++ treeB 16 t) := by show _ = _; simp [maybeB]
    obtain ⟨kb, ko, ka, kc, hKA⟩ := hkk 0 (by simp)
    have e0 : [t].getD 0 zeroT = t := rfl
    rw [e0] at hKA
    obtain ⟨rfl, k0, k1, k2, k3, ht⟩ := hKA
    have hbl : kb < w.heap.size := World.block_lt_of_cell? w _ k0
    simp only [Nat.zero_mul, Nat.add_zero] at k0 k1 k2 k3
    have HX : Hid (∀ o, Calls Try.prog 20 #[.agg #[.int .i64 t.kind, .int .i64 t.n, .string (ba t.name), .slice ka t.kids.length kc]] (w.alloc o) fun e w' => ∃ b', e = .returned b' ∧ V.Owns w' (w.alloc o).heap.size b' (treeB 16 t) ∧ Below (w.alloc o).heap.size (w.alloc o) w') := fun o => XBytes_any P t _ _ hc (ht.alloc o)
    have HL : Hid ([byte 1].length + (treeB 16 t).length ≤ 140737488355328) := by show _ ≤ _; simp only [List.length_cons, List.length_nil]; omega
    rw [HE.out]
    clear hT hkk hck HT ht hc hl16 HE
    generalize treeB 16 t = TB at *
    generalize t.kind = yk at *
    generalize t.n = yn at *
    generalize ba t.name = ys at *
    generalize t.kids.length = yl at *
    have hl1 : [t].length = 1 := rfl
    rw [hl1] at *
    go_enter Try.func47, Try.ntmps47
    go_wp2_with (first
      | (go_at_call 20; refine (HX.out _).mono ?_; rintro e w2 ⟨v2, rfl, h1, h2⟩; have O2 : Hid (V.ReadsV w2 v2 TB ∧ V.Owns w2 w.heap.size (.slice (some ⟨w.heap.size, 0, none⟩) 1 1) [byte 1] ∧ Below w.heap.size w w2) := ⟨V.ReadsV.of_own h1, (own_one w 1 (byte 1) _ w.heap.size rfl (Nat.le_refl _) rfl).below h2, below_new h2⟩; clear h1 h2)
      | (at_builtin; refine V.wpList_append_bytes rfl (.tmp 7) (.tmp 11) 32 rfl w.heap.size Try.underlying32 V.Try.info5 _ [byte 1] rfl O2.out.2.1 _ TB rfl O2.out.1 HL.out O2.out.2.2.size ?_; intro v3 w3 h1 h2; have O3 : Hid (V.Owns w3 w.heap.size v3 ([byte 1] ++ TB) ∧ Below w.heap.size w w3) := ⟨h1, O2.out.2.2.trans h2⟩; clear h1 h2))
    go_ret
    exact ⟨_, rfl, O3.out.1, O3.out.2⟩
theorem list_app_len {α : Type} (a b : List α) : (a ++ b).length = a.length + b.length := List.length_append
set_option maxRecDepth 100000 in
set_option maxHeartbeats 400000 in
theorem RPut_err (P : Nat → Prop) (d : Df) (a : Option Addr) (c : Nat) (w : World) (hd : DfV w P d a c) (hc : checkD d ≠ 0)
    (HCk : ∀ w1, DfV w1 P d a c → Calls Try.prog 12 #[.agg #[.string (ba d.id), .slice a d.places.length c]] w1 fun e w' => e = .returned (.int .i64 (checkD d : Nat)) ∧ Below w1.heap.size w1 w') :
    Calls Try.prog 22 #[dfA d a c] w fun e w' => e = .returned (.tuple #[.slice none 0 0, .int .i64 (checkD d : Nat)]) ∧ Below w.heap.size w w' := by
  have HC : Hid (∀ o, Calls Try.prog 12 #[.agg #[.string (ba d.id), .slice a d.places.length c]] (w.alloc o) fun e w' => e = .returned (.int .i64 (checkD d : Nat)) ∧ Below (w.alloc o).heap.size (w.alloc o) w') := fun o => HCk _ (hd.kept (kept_below ((Below.refl _ _).alloc (Nat.le_refl _) o)))
  have hz : ¬ ((checkD d : Nat) : Int) = 0 := by omega
  show Calls Try.prog 22 #[.agg #[.string (ba d.id), .slice a d.places.length c]] w _
  clear hd HCk hc
  generalize checkD d = er at *
  generalize ba d.id = s at *
  generalize d.places.length = pn at *
  go_enter Try.func22, Try.ntmps22
  go_wp2_with (go_at_call 12; refine (HC.out _).mono ?_; rintro e w1 ⟨rfl, h1⟩; have HB : Hid (Below w.heap.size w w1) := below_new h1; clear h1)
  go_ret2
  exact ⟨rfl, HB.out⟩
end
section
open Go.RowKit
open V.Pack (byte urow zz unzz rd rd0_ok rd0_urow urow_len unzz_zz zz_unzz zz_lt byte_nat val_urow)
set_option linter.unusedVariables false

set_option maxRecDepth 100000 in
set_option maxHeartbeats 3000000 in
theorem RPut_ok (P : Nat → Prop) (d : Df) (a : Option Addr) (c : Nat) (w : World) (hd0 : DfV w P d a c) (hc : checkD d = 0)
    (HCk : ∀ w1, DfV w1 P d a c → Calls Try.prog 12 #[.agg #[.string (ba d.id), .slice a d.places.length c]] w1 fun e w' => e = .returned (.int .i64 (checkD d : Nat)) ∧ Below w1.heap.size w1 w') :
    Calls Try.prog 22 #[dfA d a c] w fun e w' => ∃ b', e = .returned (.tuple #[b', .int .i64 0]) ∧ V.Owns w' w.heap.size b' (defB d) ∧ Below w.heap.size w w' := by
  have HC : Hid (∀ o, Calls Try.prog 12 #[.agg #[.string (ba d.id), .slice a d.places.length c]] (w.alloc o) fun e w' => e = .returned (.int .i64 0) ∧ Below (w.alloc o).heap.size (w.alloc o) w') := fun o => by
    have := HCk _ (hd0.kept (kept_below ((Below.refl _ _).alloc (Nat.le_refl _) o)))
    rw [hc] at this; exact this
  have hd : DfV w (fun g => g < w.heap.size) d a c := hd0.kept kept_lt
  have hN := hd.nums
  obtain ⟨f1, f2, f3, f4⟩ := def_facts hc
  have hlen := defB_len (def_facts hc) hN
  obtain ⟨hca, hla⟩ := hd.places.cap
  obtain ⟨C, F, hcv, hF⟩ := conv_name d.id (by omega)
  have H42i : Hid (∀ w1 q, q = w1.heap.size → Calls Try.prog 42 #[.slice (some ⟨q, 0, none⟩) d.id.length (C w1)] (F w1) fun e w' => ∃ v', e = .returned v' ∧ V.Owns w' w1.heap.size v' (textB d.id) ∧ Below w1.heap.size w1 w') := fun w1 q hq => by
    subst hq
    have hf := hF w1
    refine (V.rbytes_any _ (nb d.id) (F w1) hf.1 (by rw [nb_len]; omega)).mono ?_
    rintro e w' ⟨v', rfl, h1, h2⟩
    exact ⟨v', rfl, by rw [nb_len] at h1; exact Owns.low h1 hf.2.size, hf.2.trans (h2.mono hf.2.size)⟩
  have H46i : Hid (∀ w1, Calls Try.prog 46 #[.int .u64 d.places.length] w1 fun e w' => ∃ v', e = .returned v' ∧ V.ReadsV w' v' (urow d.places.length) ∧ Below w1.heap.size w1 w') := fun w1 => by
    refine (V.ruint_any d.places.length w1 (by omega)).mono ?_
    rintro e w' ⟨v', rfl, h1, h2⟩
    exact ⟨v', rfl, V.ReadsV.of_own h1, h2⟩
  have hlp : (textB d.id ++ urow d.places.length).length + (d.places.flatMap placeB).length ≤ 1000000000000 := by
    unfold defB at hlen; simp only [List.length_append] at hlen ⊢; omega
  have HLi : Hid ((textB d.id).length + (urow d.places.length).length ≤ 140737488355328) := by show _ ≤ _; rw [List.length_append] at hlp; omega
  have HPl : Hid (∀ j (h : j < d.places.length) wr, V.Kp w.heap.size w wr → ∃ pb po aa ca ao co, a = some ⟨pb, po, none⟩ ∧ PlAt wr (fun g => g < w.heap.size) pb (po + j * 5) d.places[j] aa ca ao co) := fun j h wr hkk => by
    obtain ⟨pb, po, aa, ca, ao, co, e1, e2, e3⟩ := (hd.places.kept (kept_base (hkk.below (Nat.le_refl _)) fun g hg => hg)).at j h
    rw [getD_memP h] at e3
    exact ⟨pb, po, aa, ca, ao, co, e1, e3⟩
  have HFa : Hid (∀ j (h : j < d.places.length), PFacts d.places[j] d.places.length) := fun j h => f4 _ (List.getElem_mem h)
  have HLp : Hid (∀ j (h : j < d.places.length), ((textB d.id ++ urow d.places.length) ++ (d.places.take j).flatMap placeB).length + (placeB d.places[j]).length ≤ 1000000000000) := fun j h => by
    have hp2 := flat_both placeB d.places j h
    rw [List.length_append]; omega
  have HEq : Hid (defB d = (textB d.id ++ urow d.places.length) ++ d.places.flatMap placeB) := by show _ = _; unfold defB; rw [List.append_assoc]
  have HN2 : Hid (d.places.length ≤ 4096) := f2
  rw [HEq.out]
  show Calls Try.prog 22 #[.agg #[.string (ba d.id), .slice a d.places.length c]] w _
  clear hd hd0 hc hN f1 f2 f3 f4 hlen hF hlp HEq HCk
  generalize textB d.id = TB at *
  generalize hUB : urow d.places.length = UB at *
  clear hUB
  generalize ba d.id = s at *
  generalize d.id.length = nl at *
  generalize d.places = pl at *
  go_enter Try.func22, Try.ntmps22
  go_wp2_with (first
    | (at_builtin; have := AI; refine V.wpList_append_kp rfl (.tmp 18) (.tmp 23) 32 rfl w.heap.size Try.underlying32 V.Try.info5 _ TB rfl AI.out.2.1 _ UB rfl AI.out.1 HLi.out AI.out.2.2.1.size ?_; intro v3 w3 h1 h2; have O3 : Hid (V.Owns w3 w.heap.size v3 (TB ++ UB) ∧ V.Kp w.heap.size w w3 ∧ C2N w3 w.heap.size (.string s) (.slice a pl.length c)) := ⟨h1, AI.out.2.2.1.trans h2, AI.out.2.2.2.kp h2⟩; clear h1 h2 AI)
    | (go_at_call 46; have := O2; refine (H46i.out _).mono ?_; rintro e x2 ⟨y2, rfl, h1, h2⟩; have AI : Hid (V.ReadsV x2 y2 UB ∧ V.Owns x2 w.heap.size v2 TB ∧ V.Kp w.heap.size w x2 ∧ C2N x2 w.heap.size (.string s) (.slice a pl.length c)) := ⟨h1, O2.out.1.below h2, O2.out.2.1.trans (V.Kp.of_below h2), O2.out.2.2.kp (V.Kp.of_below (B := 0) h2)⟩; clear h1 h2 O2)
    | (go_at_call 42; have := O1; refine (H42i.out _ _ rfl).mono ?_; rintro e w2 ⟨v2, rfl, h1, h2⟩; have O2 : Hid (V.Owns w2 w.heap.size v2 TB ∧ V.Kp w.heap.size w w2 ∧ C2N w2 w.heap.size (.string s) (.slice a pl.length c)) := ⟨Owns.low h1 O1.out.1.size, O1.out.1.trans (V.Kp.of_below h2), O1.out.2.kp (V.Kp.of_below (B := 0) h2)⟩; obtain ⟨q0, q1, q2⟩ := O2.out.2.2.c; clear h1 h2 O1)
    | (go_at_call 12; refine (HC.out _).mono ?_; rintro e w1 ⟨rfl, HB⟩; have O1 : Hid (V.Kp w.heap.size w w1 ∧ C2N w1 w.heap.size (.string s) (.slice a pl.length c)) := ⟨((V.Kp.refl _ _).alloc _).trans (V.Kp.of_below HB), (C2N.new w _ _ 24 (by decide)).kp (V.Kp.of_below (B := 0) HB)⟩; obtain ⟨q0, q1, q2⟩ := O1.out.2.c; clear HB))
  clear q0 q1 q2 HC H42i H46i HLi
  go_loopw [5, 6] (fun v i wr => ∃ (j : Nat), j ≤ pl.length ∧ i = .int .i64 j ∧ Hid (V.Owns wr w.heap.size v ((TB ++ UB) ++ (pl.take j).flatMap placeB) ∧ V.Kp w.heap.size w wr ∧ C2N wr w.heap.size (.string s) (.slice a pl.length c))) (fun _ i _ => pl.length - (intOf i).toNat)
  case atStart => exact ⟨0, Nat.zero_le _, rfl, by simpa using O3.out.1, O3.out.2⟩
  case round =>
    obtain ⟨j, hj, rfl, HR0⟩ := hrel
    obtain ⟨r0, r1, r2⟩ := HR0.out.2.2.c
    by_cases hlt : j < pl.length
    · obtain ⟨w0, hw0⟩ : ∃ w0, w0 = wr := ⟨_, rfl⟩
      subst hw0
      obtain ⟨qb, qo, aa, ca, ao, co, rfl, hPA⟩ := HPl.out j hlt w0 HR0.out.2.1
      have hB0 : w.heap.size ≤ w0.heap.size := HR0.out.2.1.size
      have HKw : Hid (V.Kp w.heap.size w w0) := HR0.out.2.1
      have HV : Hid (PlV w0 (fun g => g < w.heap.size) pl[j] aa ca ao co) := hPA.val
      obtain ⟨p0, p1, p2, p3, p4, _⟩ := hPA
      have hbl : qb < w0.heap.size := World.block_lt_of_cell? w0 _ p0
      have hfa := HFa.out j hlt
      have hlpj := HLp.out j hlt
      obtain ⟨C, F, hcv, hF⟩ := conv_name pl[j].name (by have := hfa.name; omega)
      have hk9 := hfa.lo
      have hn9 := hfa.hi
      have hn0 := hfa.n0
      have hn99 := hfa.n9
      have HBk : Hid (pl[j].kind = V.B (byte pl[j].kind.toNat)) := by have := B_byte (m := pl[j].kind.toNat) (by omega); rw [← this]; show _ = _; omega
      have hkl1 : 0 ≤ pl[j].kind := by omega
      have hkl2 : pl[j].kind ≤ 255 := by omega
      have hnl1 : 0 ≤ pl[j].n := by omega
      have hnl2 : pl[j].n ≤ 9 := by omega
      have hln : placeB pl[j] = byte pl[j].kind.toNat :: (textB pl[j].name ++ (urow pl[j].n.toNat ++ (maybeB pl[j].arg ++ (urow pl[j].out.length ++ pl[j].out.flatMap flowB)))) := rfl
      have hlq : ((TB ++ UB) ++ (pl.take j).flatMap placeB).length + (1 + (textB pl[j].name).length + (urow pl[j].n.toNat).length + (maybeB pl[j].arg).length + (urow pl[j].out.length).length + (pl[j].out.flatMap flowB).length) ≤ 1000000000000 := by
        rw [hln] at hlpj; simp only [List.length_cons, List.length_append] at hlpj ⊢; omega
      have H42 : Hid (∀ w1 q, q = w1.heap.size → Calls Try.prog 42 #[.slice (some ⟨q, 0, none⟩) pl[j].name.length (C w1)] (F w1) fun e w' => ∃ v', e = .returned v' ∧ V.ReadsV w' v' (textB pl[j].name) ∧ Below w1.heap.size w1 w') := fun w1 q hq => by
        subst hq
        have hf := hF w1
        refine (V.rbytes_any _ (nb pl[j].name) (F w1) hf.1 (by rw [nb_len]; have := hfa.name; omega)).mono ?_
        rintro e w' ⟨v', rfl, h1, h2⟩
        exact ⟨v', rfl, by rw [nb_len] at h1; exact V.ReadsV.of_own h1, hf.2.trans (h2.mono hf.2.size)⟩
      have H46a : Hid (∀ w1, Calls Try.prog 46 #[.int .u64 pl[j].n] w1 fun e w' => ∃ v', e = .returned v' ∧ V.ReadsV w' v' (urow pl[j].n.toNat) ∧ Below w1.heap.size w1 w') := fun w1 => by
        refine (V.ruint_eq pl[j].n pl[j].n.toNat w1 (by omega) (by omega)).mono ?_
        rintro e w' ⟨v', rfl, h1, h2⟩
        exact ⟨v', rfl, V.ReadsV.of_own h1, h2⟩
      have H46b : Hid (∀ w1, Calls Try.prog 46 #[.int .u64 pl[j].out.length] w1 fun e w' => ∃ v', e = .returned v' ∧ V.ReadsV w' v' (urow pl[j].out.length) ∧ Below w1.heap.size w1 w') := fun w1 => by
        refine (V.ruint_any pl[j].out.length w1 (by have := hfa.out16; omega)).mono ?_
        rintro e w' ⟨v', rfl, h1, h2⟩
        exact ⟨v', rfl, V.ReadsV.of_own h1, h2⟩
      have H47 : Hid (∀ w1, V.Kp w.heap.size w0 w1 → Calls Try.prog 47 #[.slice aa pl[j].arg.length ca] w1 fun e w' => ∃ v', e = .returned v' ∧ V.ReadsV w' v' (maybeB pl[j].arg) ∧ Below w1.heap.size w1 w') := fun w1 hkk => by
        refine (rmaybe_any _ pl[j].arg _ w1 hfa.arg1 hfa.arg (HV.out.arg.kept (kept_base (hkk.below hB0) fun g hg => hg))).mono ?_
        rintro e w' ⟨v', rfl, h1, h2⟩
        exact ⟨v', rfl, V.ReadsV.of_own h1, h2⟩
      have HFl : Hid (∀ i (h : i < pl[j].out.length), ∃ fb fo ka kc, ao = some ⟨fb, fo, none⟩ ∧ ∀ wr, V.Kp w.heap.size w0 wr → FlAt wr (fun g => g < w.heap.size) fb (fo + i * 2) pl[j].out[i] ka kc) := fun i h => by
        obtain ⟨fb, fo, ka, kc, e1, e2, e3⟩ := HV.out.out.at i h
        rw [getD_memF h] at e3
        exact ⟨fb, fo, ka, kc, e1, fun wr hkk => e3.kept e2 (kept_base (hkk.below hB0) fun g hg => hg)⟩
      have HFf : Hid (∀ i (h : i < pl[j].out.length), 1 ≤ pl[j].out[i].to ∧ pl[j].out[i].to < 4097 ∧ pl[j].out[i].ifs.length ≤ 1 ∧ ∀ t ∈ pl[j].out[i].ifs, checkM 16 t = 0) := fun i h => by
        obtain ⟨last, hq⟩ := hfa.flow _ (List.getElem_mem h)
        obtain ⟨g1, g2, g3, g4⟩ := flow_facts hq
        have := HN2.out
        exact ⟨g1, by omega, g3, g4⟩
      have HLf : Hid (∀ i (h : i < pl[j].out.length), ((((((TB ++ UB) ++ (pl.take j).flatMap placeB) ++ [byte pl[j].kind.toNat]) ++ textB pl[j].name) ++ urow pl[j].n.toNat) ++ maybeB pl[j].arg ++ urow pl[j].out.length ++ (pl[j].out.take i).flatMap flowB).length + (flowB pl[j].out[i]).length ≤ 1000000000000) := fun i h => by
        have hp2 := flat_both flowB pl[j].out i h
        simp only [List.length_cons, List.length_nil, List.length_append] at hlq ⊢; omega
      have HL1 : Hid (((TB ++ UB) ++ (pl.take j).flatMap placeB).length + [byte pl[j].kind.toNat].length ≤ 140737488355328) := by show _ ≤ _; simp only [List.length_cons, List.length_nil]; omega
      have HL2 : Hid ((((TB ++ UB) ++ (pl.take j).flatMap placeB) ++ [byte pl[j].kind.toNat]).length + (textB pl[j].name).length ≤ 140737488355328) := by show _ ≤ _; rw [list_app_len ((TB ++ UB) ++ (pl.take j).flatMap placeB)]; simp only [List.length_cons, List.length_nil]; omega
      have HL3 : Hid (((((TB ++ UB) ++ (pl.take j).flatMap placeB) ++ [byte pl[j].kind.toNat]) ++ textB pl[j].name).length + (urow pl[j].n.toNat).length ≤ 140737488355328) := by show _ ≤ _; simp only [List.length_cons, List.length_nil, List.length_append] at hlq ⊢; omega
      have HL4 : Hid ((((((TB ++ UB) ++ (pl.take j).flatMap placeB) ++ [byte pl[j].kind.toNat]) ++ textB pl[j].name) ++ urow pl[j].n.toNat).length + (maybeB pl[j].arg).length ≤ 140737488355328) := by show _ ≤ _; simp only [List.length_cons, List.length_nil, List.length_append] at hlq ⊢; omega
      have HL5 : Hid (((((((TB ++ UB) ++ (pl.take j).flatMap placeB) ++ [byte pl[j].kind.toNat]) ++ textB pl[j].name) ++ urow pl[j].n.toNat) ++ maybeB pl[j].arg).length + (urow pl[j].out.length).length ≤ 140737488355328) := by show _ ≤ _; simp only [List.length_cons, List.length_nil, List.length_append] at hlq ⊢; omega
      have HPE : Hid (((((((TB ++ UB) ++ (pl.take j).flatMap placeB) ++ [byte pl[j].kind.toNat]) ++ textB pl[j].name) ++ urow pl[j].n.toNat) ++ maybeB pl[j].arg ++ urow pl[j].out.length) ++ pl[j].out.flatMap flowB = (TB ++ UB) ++ (pl.take (j + 1)).flatMap placeB) := by
        show _ = _
        rw [flat_step hlt, hln]
        simp only [List.append_assoc, List.cons_append, List.nil_append]
      have ho16 := hfa.out16
      obtain ⟨hAc, hAl⟩ := HV.out.arg.cap
      obtain ⟨hOc, hOl⟩ := HV.out.out.cap
      have hCh : IntKind.u8.wrap pl[j].kind = pl[j].kind := by rw [IntKind.wrap_u8]; omega
      clear HV hfa hlpj hln hlq hF HPl HFa HLp HN2
      generalize hL : (TB ++ UB) ++ (pl.take j).flatMap placeB = L at *
      clear hL
      generalize hLN : (TB ++ UB) ++ (pl.take (j + 1)).flatMap placeB = LN at *
      have HLN : Hid ((TB ++ UB) ++ (pl.take (j + 1)).flatMap placeB = LN) := hLN
      clear hLN
      generalize byte pl[j].kind.toNat = BK at *
      generalize pl[j].kind = yk at *
      generalize textB pl[j].name = T2 at *
      generalize ba pl[j].name = ys at *
      generalize pl[j].name.length = ynl at *
      generalize urow pl[j].n.toNat = T3 at *
      generalize pl[j].n = yn at *
      generalize maybeB pl[j].arg = T4 at *
      generalize pl[j].arg.length = yal at *
      generalize hT5 : urow pl[j].out.length = T5 at *
      clear hT5
      generalize pl[j].out = you at *
      go_wp2_with (first
        | (at_builtin; have := A4; refine V.wpList_append_kp rfl (.tmp 60) (.tmp 65) 32 rfl w.heap.size Try.underlying32 V.Try.info5 _ ((((L ++ [BK]) ++ T2) ++ T3) ++ T4) rfl A4.out.2.1 _ T5 rfl A4.out.1 HL5.out (Nat.le_trans hB0 A4.out.2.2.1.size) ?_; intro v5 w5 h1 h2; have O5 : Hid (V.Owns w5 w.heap.size v5 (((((L ++ [BK]) ++ T2) ++ T3) ++ T4) ++ T5) ∧ V.Kp w.heap.size w0 w5 ∧ C5N w5 w0.heap.size (.int .i64 yk) (.string ys) (.int .i64 yn) (.slice aa yal ca) (.slice ao you.length co) ∧ C2N w5 w.heap.size (.string s) (.slice (some ⟨qb, qo, none⟩) pl.length c)) := ⟨h1, A4.out.2.2.1.trans h2, A4.out.2.2.2.1.kp h2, A4.out.2.2.2.2.kp h2⟩; obtain ⟨q0, q1, q2, q3, q4, q5⟩ := O5.out.2.2.1.c; obtain ⟨r0, r1, r2⟩ := O5.out.2.2.2.c; clear h1 h2 A4)
        | (go_at_call 46; have := O4; refine (H46b.out _).mono ?_; rintro e x4 ⟨y4, rfl, h1, h2⟩; have A4 : Hid (V.ReadsV x4 y4 T5 ∧ V.Owns x4 w.heap.size v4 ((((L ++ [BK]) ++ T2) ++ T3) ++ T4) ∧ V.Kp w.heap.size w0 x4 ∧ C5N x4 w0.heap.size (.int .i64 yk) (.string ys) (.int .i64 yn) (.slice aa yal ca) (.slice ao you.length co) ∧ C2N x4 w.heap.size (.string s) (.slice (some ⟨qb, qo, none⟩) pl.length c)) := ⟨h1, O4.out.1.below h2, O4.out.2.1.trans (V.Kp.of_below h2), O4.out.2.2.1.kp (V.Kp.of_below (B := 0) h2), O4.out.2.2.2.kp (V.Kp.of_below (B := 0) h2)⟩; obtain ⟨q0, q1, q2, q3, q4, q5⟩ := A4.out.2.2.2.1.c; obtain ⟨r0, r1, r2⟩ := A4.out.2.2.2.2.c; clear h1 h2 O4)
        | (at_builtin; have := A3; refine V.wpList_append_kp rfl (.tmp 55) (.tmp 58) 32 rfl w.heap.size Try.underlying32 V.Try.info5 _ (((L ++ [BK]) ++ T2) ++ T3) rfl A3.out.2.1 _ T4 rfl A3.out.1 HL4.out (Nat.le_trans hB0 A3.out.2.2.1.size) ?_; intro v4 w4 h1 h2; have O4 : Hid (V.Owns w4 w.heap.size v4 ((((L ++ [BK]) ++ T2) ++ T3) ++ T4) ∧ V.Kp w.heap.size w0 w4 ∧ C5N w4 w0.heap.size (.int .i64 yk) (.string ys) (.int .i64 yn) (.slice aa yal ca) (.slice ao you.length co) ∧ C2N w4 w.heap.size (.string s) (.slice (some ⟨qb, qo, none⟩) pl.length c)) := ⟨h1, A3.out.2.2.1.trans h2, A3.out.2.2.2.1.kp h2, A3.out.2.2.2.2.kp h2⟩; obtain ⟨q0, q1, q2, q3, q4, q5⟩ := O4.out.2.2.1.c; obtain ⟨r0, r1, r2⟩ := O4.out.2.2.2.c; clear h1 h2 A3)
        | (go_at_call 47; have := O3; refine (H47.out _ O3.out.2.1).mono ?_; rintro e x3 ⟨y3, rfl, h1, h2⟩; have A3 : Hid (V.ReadsV x3 y3 T4 ∧ V.Owns x3 w.heap.size v3 (((L ++ [BK]) ++ T2) ++ T3) ∧ V.Kp w.heap.size w0 x3 ∧ C5N x3 w0.heap.size (.int .i64 yk) (.string ys) (.int .i64 yn) (.slice aa yal ca) (.slice ao you.length co) ∧ C2N x3 w.heap.size (.string s) (.slice (some ⟨qb, qo, none⟩) pl.length c)) := ⟨h1, O3.out.1.below h2, O3.out.2.1.trans (V.Kp.of_below h2), O3.out.2.2.1.kp (V.Kp.of_below (B := 0) h2), O3.out.2.2.2.kp (V.Kp.of_below (B := 0) h2)⟩; obtain ⟨q0, q1, q2, q3, q4, q5⟩ := A3.out.2.2.2.1.c; obtain ⟨r0, r1, r2⟩ := A3.out.2.2.2.2.c; clear h1 h2 O3)
        | (at_builtin; have := A2; refine V.wpList_append_kp rfl (.tmp 49) (.tmp 53) 32 rfl w.heap.size Try.underlying32 V.Try.info5 _ ((L ++ [BK]) ++ T2) rfl A2.out.2.1 _ T3 rfl A2.out.1 HL3.out (Nat.le_trans hB0 A2.out.2.2.1.size) ?_; intro v3 w3 h1 h2; have O3 : Hid (V.Owns w3 w.heap.size v3 (((L ++ [BK]) ++ T2) ++ T3) ∧ V.Kp w.heap.size w0 w3 ∧ C5N w3 w0.heap.size (.int .i64 yk) (.string ys) (.int .i64 yn) (.slice aa yal ca) (.slice ao you.length co) ∧ C2N w3 w.heap.size (.string s) (.slice (some ⟨qb, qo, none⟩) pl.length c)) := ⟨h1, A2.out.2.2.1.trans h2, A2.out.2.2.2.1.kp h2, A2.out.2.2.2.2.kp h2⟩; obtain ⟨q0, q1, q2, q3, q4, q5⟩ := O3.out.2.2.1.c; obtain ⟨r0, r1, r2⟩ := O3.out.2.2.2.c; clear h1 h2 A2)
        | (go_at_call 46; have := O2; refine (H46a.out _).mono ?_; rintro e x2 ⟨y2, rfl, h1, h2⟩; have A2 : Hid (V.ReadsV x2 y2 T3 ∧ V.Owns x2 w.heap.size v2 ((L ++ [BK]) ++ T2) ∧ V.Kp w.heap.size w0 x2 ∧ C5N x2 w0.heap.size (.int .i64 yk) (.string ys) (.int .i64 yn) (.slice aa yal ca) (.slice ao you.length co) ∧ C2N x2 w.heap.size (.string s) (.slice (some ⟨qb, qo, none⟩) pl.length c)) := ⟨h1, O2.out.1.below h2, O2.out.2.1.trans (V.Kp.of_below h2), O2.out.2.2.1.kp (V.Kp.of_below (B := 0) h2), O2.out.2.2.2.kp (V.Kp.of_below (B := 0) h2)⟩; obtain ⟨q0, q1, q2, q3, q4, q5⟩ := A2.out.2.2.2.1.c; obtain ⟨r0, r1, r2⟩ := A2.out.2.2.2.2.c; clear h1 h2 O2)
        | (at_builtin; have := A1; refine V.wpList_append_kp rfl (.tmp 43) (.tmp 47) 32 rfl w.heap.size Try.underlying32 V.Try.info5 _ (L ++ [BK]) rfl A1.out.2.1 _ T2 rfl A1.out.1 HL2.out (Nat.le_trans hB0 A1.out.2.2.1.size) ?_; intro v2 w2 h1 h2; have O2 : Hid (V.Owns w2 w.heap.size v2 ((L ++ [BK]) ++ T2) ∧ V.Kp w.heap.size w0 w2 ∧ C5N w2 w0.heap.size (.int .i64 yk) (.string ys) (.int .i64 yn) (.slice aa yal ca) (.slice ao you.length co) ∧ C2N w2 w.heap.size (.string s) (.slice (some ⟨qb, qo, none⟩) pl.length c)) := ⟨h1, A1.out.2.2.1.trans h2, A1.out.2.2.2.1.kp h2, A1.out.2.2.2.2.kp h2⟩; obtain ⟨q0, q1, q2, q3, q4, q5⟩ := O2.out.2.2.1.c; obtain ⟨r0, r1, r2⟩ := O2.out.2.2.2.c; clear h1 h2 A1)
        | (go_at_call 42; have := O1; refine (H42.out _ _ rfl).mono ?_; rintro e x1 ⟨y1, rfl, h1, h2⟩; have A1 : Hid (V.ReadsV x1 y1 T2 ∧ V.Owns x1 w.heap.size v1 (L ++ [BK]) ∧ V.Kp w.heap.size w0 x1 ∧ C5N x1 w0.heap.size (.int .i64 yk) (.string ys) (.int .i64 yn) (.slice aa yal ca) (.slice ao you.length co) ∧ C2N x1 w.heap.size (.string s) (.slice (some ⟨qb, qo, none⟩) pl.length c)) := ⟨h1, O1.out.1.below h2, O1.out.2.1.trans (V.Kp.of_below h2), O1.out.2.2.1.kp (V.Kp.of_below (B := 0) h2), O1.out.2.2.2.kp (V.Kp.of_below (B := 0) h2)⟩; obtain ⟨q0, q1, q2, q3, q4, q5⟩ := A1.out.2.2.2.1.c; obtain ⟨r0, r1, r2⟩ := A1.out.2.2.2.2.c; clear h1 h2 O1)
        | (at_builtin; have := HR0; refine V.wpList_append_kp rfl (.tmp 37) (.tmp 41) 32 rfl w.heap.size Try.underlying32 V.Try.info5 _ L rfl ((HR0.out.1.alloc _).alloc _) _ [BK] rfl (reads_oneq _ _ _ _ _ HBk.out (size_alloc _ _).symm) HL1.out (V.base_le (V.base_le hB0 _) _) ?_; intro v1 w1 h1 h2; have O1 : Hid (V.Owns w1 w.heap.size v1 (L ++ [BK]) ∧ V.Kp w.heap.size w0 w1 ∧ C5N w1 w0.heap.size (.int .i64 yk) (.string ys) (.int .i64 yn) (.slice aa yal ca) (.slice ao you.length co) ∧ C2N w1 w.heap.size (.string s) (.slice (some ⟨qb, qo, none⟩) pl.length c)) := ⟨h1, h2.new.new, (C5N.new w0 _ _ _ _ _ 57 (by decide)).kp h2.new, HR0.out.2.2.kp h2.new.new⟩; obtain ⟨q0, q1, q2, q3, q4, q5⟩ := O1.out.2.2.1.c; obtain ⟨r0, r1, r2⟩ := O1.out.2.2.2.c; clear h1 h2 HR0))
      clear q0 q1 q2 q3 q4 q5 r0 r1 r2 H42 H46a H46b H47 HL1 HL2 HL3 HL4 HL5 HBk
      have HP5 : Hid (V.Owns w5 w.heap.size v5 (((((((L ++ [BK]) ++ T2) ++ T3) ++ T4) ++ T5)) ++ (you.take 0).flatMap flowB) ∧ V.Kp w.heap.size w0 w5 ∧ C5N w5 w0.heap.size (.int .i64 yk) (.string ys) (.int .i64 yn) (.slice aa yal ca) (.slice ao you.length co) ∧ C2N w5 w.heap.size (.string s) (.slice (some ⟨qb, qo, none⟩) pl.length c)) := by
        have := O5.out
        exact ⟨by simpa using this.1, this.2⟩
      clear O5
      generalize ((((L ++ [BK]) ++ T2) ++ T3) ++ T4) ++ T5 = PRE at *
      go_loopw [5, 8] (fun v i wr => ∃ (jj : Nat), jj ≤ you.length ∧ i = .int .i64 jj ∧ Hid (V.Owns wr w.heap.size v (PRE ++ (you.take jj).flatMap flowB) ∧ V.Kp w.heap.size w0 wr ∧ C5N wr w0.heap.size (.int .i64 yk) (.string ys) (.int .i64 yn) (.slice aa yal ca) (.slice ao you.length co) ∧ C2N wr w.heap.size (.string s) (.slice (some ⟨qb, qo, none⟩) pl.length c))) (fun _ i _ => you.length - (intOf i).toNat)
      case atStart => exact ⟨0, Nat.zero_le _, rfl, HP5⟩
      case round =>
        obtain ⟨jj, hjj, rfl, O6⟩ := hrel
        obtain ⟨q0, q1, q2, q3, q4, q5⟩ := O6.out.2.2.1.c
        obtain ⟨r0, r1, r2⟩ := O6.out.2.2.2.c
        by_cases hltf : jj < you.length
        · obtain ⟨fb, fo, ka, kc, rfl, hFA⟩ := HFl.out jj hltf
          obtain ⟨f0, f1, f2, f3⟩ := hFA _ O6.out.2.1
          obtain ⟨ht1, ht2, ht3, ht4⟩ := HFf.out jj hltf
          have hlf := HLf.out jj hltf
          have hfl : flowB you[jj] = urow you[jj].to.toNat ++ maybeB you[jj].ifs := rfl
          have hblf : fb < wr.heap.size := World.block_lt_of_cell? wr _ f0
          have hIc := f2.cap
          obtain ⟨hIc1, hIc2⟩ := hIc
          have H46f : Hid (∀ w1, Calls Try.prog 46 #[.int .u64 you[jj].to] w1 fun e w' => ∃ v', e = .returned v' ∧ V.ReadsV w' v' (urow you[jj].to.toNat) ∧ Below w1.heap.size w1 w') := fun w1 => by
            refine (V.ruint_eq you[jj].to you[jj].to.toNat w1 (by omega) (by omega)).mono ?_
            rintro e w' ⟨v', rfl, h1, h2⟩
            exact ⟨v', rfl, V.ReadsV.of_own h1, h2⟩
          have H47f : Hid (∀ w1, V.Kp w.heap.size w0 w1 → Calls Try.prog 47 #[.slice ka you[jj].ifs.length kc] w1 fun e w' => ∃ v', e = .returned v' ∧ V.ReadsV w' v' (maybeB you[jj].ifs) ∧ Below w1.heap.size w1 w') := fun w1 hkk => by
            refine (rmaybe_any _ you[jj].ifs _ w1 ht3 ht4 (hFA w1 hkk).ifs).mono ?_
            rintro e w' ⟨v', rfl, h1, h2⟩
            exact ⟨v', rfl, V.ReadsV.of_own h1, h2⟩
          have HF6 : Hid ((PRE ++ (you.take jj).flatMap flowB).length + (urow you[jj].to.toNat).length ≤ 140737488355328) := by show _ ≤ _; rw [hfl] at hlf; simp only [List.length_append] at hlf ⊢; omega
          have HF7 : Hid (((PRE ++ (you.take jj).flatMap flowB) ++ urow you[jj].to.toNat).length + (maybeB you[jj].ifs).length ≤ 140737488355328) := by show _ ≤ _; rw [hfl] at hlf; simp only [List.length_append] at hlf ⊢; omega
          have HFE : Hid (((PRE ++ (you.take jj).flatMap flowB) ++ urow you[jj].to.toNat) ++ maybeB you[jj].ifs = PRE ++ (you.take (jj + 1)).flatMap flowB) := by show _ = _; rw [flat_step hltf, hfl]; simp only [List.append_assoc]
          have HFC : Hid (∀ w1, V.Kp w.heap.size w0 w1 → w1.cell? ⟨fb, fo + jj * 2, none⟩ = some (.int .i64 you[jj].to) ∧ w1.cell? ⟨fb, fo + jj * 2 + 1, none⟩ = some (.slice ka you[jj].ifs.length kc)) := fun w1 hkk => ⟨(hFA w1 hkk).c0, (hFA w1 hkk).c1⟩
          clear f2 f3 hFA hlf hfl ht3 ht4 HFl HFf HLf HPE
          generalize hFN : PRE ++ (you.take (jj + 1)).flatMap flowB = FN at *
          have HFN : Hid (PRE ++ (you.take (jj + 1)).flatMap flowB = FN) := hFN
          clear hFN
          generalize urow you[jj].to.toNat = F6 at *
          generalize maybeB you[jj].ifs = F7 at *
          generalize you[jj].to = yt at *
          generalize you[jj].ifs.length = yil at *
          go_wp2_with (first
            | (at_builtin; have := A7; refine V.wpList_append_kp rfl (.tmp 84) (.tmp 91) 32 rfl w.heap.size Try.underlying32 V.Try.info5 _ ((PRE ++ (you.take jj).flatMap flowB) ++ F6) rfl A7.out.2.1 _ F7 rfl A7.out.1 HF7.out (Nat.le_trans hB0 A7.out.2.2.1.size) ?_; intro v8 w8 h1 h2; have O8 : Hid (V.Owns w8 w.heap.size v8 (((PRE ++ (you.take jj).flatMap flowB) ++ F6) ++ F7) ∧ V.Kp w.heap.size w0 w8 ∧ C5N w8 w0.heap.size (.int .i64 yk) (.string ys) (.int .i64 yn) (.slice aa yal ca) (.slice (some ⟨fb, fo, none⟩) you.length co) ∧ C2N w8 w.heap.size (.string s) (.slice (some ⟨qb, qo, none⟩) pl.length c)) := ⟨h1, A7.out.2.2.1.trans h2, A7.out.2.2.2.1.kp h2, A7.out.2.2.2.2.kp h2⟩; obtain ⟨q0, q1, q2, q3, q4, q5⟩ := O8.out.2.2.1.c; obtain ⟨r0, r1, r2⟩ := O8.out.2.2.2.c; clear h1 h2 A7)
            | (go_at_call 47; have := O7; refine (H47f.out _ O7.out.2.1).mono ?_; rintro e x7 ⟨y7, rfl, h1, h2⟩; have A7 : Hid (V.ReadsV x7 y7 F7 ∧ V.Owns x7 w.heap.size v7 ((PRE ++ (you.take jj).flatMap flowB) ++ F6) ∧ V.Kp w.heap.size w0 x7 ∧ C5N x7 w0.heap.size (.int .i64 yk) (.string ys) (.int .i64 yn) (.slice aa yal ca) (.slice (some ⟨fb, fo, none⟩) you.length co) ∧ C2N x7 w.heap.size (.string s) (.slice (some ⟨qb, qo, none⟩) pl.length c)) := ⟨h1, O7.out.1.below h2, O7.out.2.1.trans (V.Kp.of_below h2), O7.out.2.2.1.kp (V.Kp.of_below (B := 0) h2), O7.out.2.2.2.kp (V.Kp.of_below (B := 0) h2)⟩; obtain ⟨q0, q1, q2, q3, q4, q5⟩ := A7.out.2.2.2.1.c; obtain ⟨r0, r1, r2⟩ := A7.out.2.2.2.2.c; clear h1 h2 O7)
            | (at_builtin; have := A6; refine V.wpList_append_kp rfl (.tmp 74) (.tmp 82) 32 rfl w.heap.size Try.underlying32 V.Try.info5 _ (PRE ++ (you.take jj).flatMap flowB) rfl A6.out.2.1 _ F6 rfl A6.out.1 HF6.out (Nat.le_trans hB0 A6.out.2.2.1.size) ?_; intro v7 w7 h1 h2; have O7 : Hid (V.Owns w7 w.heap.size v7 ((PRE ++ (you.take jj).flatMap flowB) ++ F6) ∧ V.Kp w.heap.size w0 w7 ∧ C5N w7 w0.heap.size (.int .i64 yk) (.string ys) (.int .i64 yn) (.slice aa yal ca) (.slice (some ⟨fb, fo, none⟩) you.length co) ∧ C2N w7 w.heap.size (.string s) (.slice (some ⟨qb, qo, none⟩) pl.length c)) := ⟨h1, A6.out.2.2.1.trans h2, A6.out.2.2.2.1.kp h2, A6.out.2.2.2.2.kp h2⟩; obtain ⟨q0, q1, q2, q3, q4, q5⟩ := O7.out.2.2.1.c; obtain ⟨r0, r1, r2⟩ := O7.out.2.2.2.c; obtain ⟨g0, g1⟩ := HFC.out _ O7.out.2.1; have hbl7 := World.block_lt_of_cell? _ _ g0; clear h1 h2 A6)
            | (go_at_call 46; have := O6; refine (H46f.out _).mono ?_; rintro e x6 ⟨y6, rfl, h1, h2⟩; have A6 : Hid (V.ReadsV x6 y6 F6 ∧ V.Owns x6 w.heap.size u5 (PRE ++ (you.take jj).flatMap flowB) ∧ V.Kp w.heap.size w0 x6 ∧ C5N x6 w0.heap.size (.int .i64 yk) (.string ys) (.int .i64 yn) (.slice aa yal ca) (.slice (some ⟨fb, fo, none⟩) you.length co) ∧ C2N x6 w.heap.size (.string s) (.slice (some ⟨qb, qo, none⟩) pl.length c)) := ⟨h1, O6.out.1.below h2, O6.out.2.1.trans (V.Kp.of_below h2), O6.out.2.2.1.kp (V.Kp.of_below (B := 0) h2), O6.out.2.2.2.kp (V.Kp.of_below (B := 0) h2)⟩; obtain ⟨q0, q1, q2, q3, q4, q5⟩ := A6.out.2.2.2.1.c; obtain ⟨r0, r1, r2⟩ := A6.out.2.2.2.2.c; clear h1 h2 O6))
          go_roundw
          case rel => exact ⟨jj + 1, by omega, by go_num, by rw [HFN.out, ← HFE.out]; exact O8.out.1, O8.out.2⟩
          case measure => simp [intOf]; omega
        · have he : jj = you.length := by omega
          subst he
          have HR2 : Hid (V.Owns wr w.heap.size u5 LN ∧ V.Kp w.heap.size w wr ∧ C2N wr w.heap.size (.string s) (.slice (some ⟨qb, qo, none⟩) pl.length c)) := by have := O6.out; rw [List.take_length, HPE.out] at this; exact ⟨this.1, HKw.out.trans this.2.1, this.2.2.2⟩
          clear O6
          go_wp2
          go_roundw
          case rel => exact ⟨j + 1, by omega, by go_num, by rw [HLN.out]; exact HR2⟩
          case measure => simp [intOf]; omega
    · have he : j = pl.length := by omega
      subst he
      have HR2 : Hid (V.Owns wr w.heap.size u5 ((TB ++ UB) ++ pl.flatMap placeB) ∧ V.Kp w.heap.size w wr) := by have := HR0.out; rw [List.take_length] at this; exact ⟨this.1, this.2.1⟩
      clear HR0
      go_wp2
      go_ret2
      exact ⟨_, rfl, HR2.out.1, HR2.out.2.below (Nat.le_refl _)⟩
end
section
open Go.RowKit
set_option linter.unusedVariables false

set_option maxRecDepth 100000 in
set_option maxHeartbeats 1000000 in
theorem puts_walk (d : Df) (a : Option Addr) (c : Nat) (w : World) (hd : DfV w (fun _ => True) d a c) :
    Calls Try.prog 5 #[dfA d a c] w fun e w' => e = .returned (.bool true) ∧ Below w.heap.size w w' := by
  show Calls Try.prog 5 #[.agg #[.string (ba d.id), .slice a d.places.length c]] w _
  have H9 : Hid (Calls Try.prog 9 #[.agg #[.string (ba d.id), .slice a d.places.length c]] (w.alloc (.cells #[.string (ba d.id), .slice a d.places.length c] 24)) fun e w' => (∃ b, e = .returned (.bool b)) ∧ Ck1 w w' d a c) := by
    refine (light_any (fun _ => True) d a c _ (hd.kept (kept_below ((Below.refl _ _).alloc (Nat.le_refl _) _)))).mono ?_
    rintro e w' ⟨q1, q2⟩
    exact ⟨q1, below_new q2, hd.kept (kept_below (below_new q2)), (Cell2.new w _ _ 24).below q2⟩
  obtain ⟨L, hL1, hL2⟩ : ∃ L : BB, (checkD d = 0 → L = defB d) ∧ (checkD d ≠ 0 → L = []) := by
    by_cases h : checkD d = 0
    · exact ⟨defB d, fun _ => rfl, fun q => absurd h q⟩
    · exact ⟨[], fun q => absurd q h, fun _ => rfl⟩
  have H21 : Hid (∀ w1, Ck1 w w1 d a c → Calls Try.prog 21 #[.agg #[.string (ba d.id), .slice a d.places.length c]] w1 fun e w' => ∃ v, e = .returned (.tuple #[v, .int .i64 (checkD d : Nat)]) ∧ V.ReadsV w' v L ∧ Ck1 w w' d a c) := fun w1 q => by
    by_cases h : checkD d = 0
    · refine (MPut_ok _ d a c w1 q.df h).mono ?_
      rintro e w' ⟨b', rfl, q1, q2⟩
      exact ⟨b', by rw [h]; rfl, by rw [hL1 h]; exact V.ReadsV.of_own q1, q.below q2⟩
    · refine (MPut_err _ d a c w1 q.df h).mono ?_
      rintro e w' ⟨rfl, q2⟩
      exact ⟨_, rfl, by rw [hL2 h]; exact V.ReadsV.nil _, q.below q2⟩
  have H22 : Hid (∀ w1, Ck1 w w1 d a c → Calls Try.prog 22 #[.agg #[.string (ba d.id), .slice a d.places.length c]] w1 fun e w' => ∃ v, e = .returned (.tuple #[v, .int .i64 (checkD d : Nat)]) ∧ V.ReadsV w' v L ∧ Below w1.heap.size w1 w' ∧ Ck1 w w' d a c) := fun w1 q => by
    by_cases h : checkD d = 0
    · refine (RPut_ok _ d a c w1 q.df h fun w2 q2 => RDCheck_any _ d a c w2 q2).mono ?_
      rintro e w' ⟨b', rfl, q1, q2⟩
      exact ⟨b', by rw [h]; rfl, by rw [hL1 h]; exact V.ReadsV.of_own q1, q2, q.below q2⟩
    · refine (RPut_err _ d a c w1 q.df h fun w2 q2 => RDCheck_any _ d a c w2 q2).mono ?_
      rintro e w' ⟨rfl, q2⟩
      exact ⟨_, rfl, by rw [hL2 h]; exact V.ReadsV.nil _, q2, q.below q2⟩
  have H10 : Hid (∀ w1, Ck1 w w1 d a c → Calls Try.prog 10 #[] w1 fun e w' => e = .returned (.bool true) ∧ Ck1 w w' d a c) := fun w1 q => (works_any w1).mono fun e w' q1 => ⟨q1.1, q.below q1.2⟩
  have HC : Hid (∀ w1, Ck1 w w1 d a c → w1.cell? ⟨w.heap.size, 0, none⟩ = some (.string (ba d.id)) ∧ w1.cell? ⟨w.heap.size, 1, none⟩ = some (.slice a d.places.length c)) := fun _ q => ⟨q.cell.c0, q.cell.c1⟩
  clear hd hL1 hL2
  generalize checkD d = ck at *
  generalize ba d.id = s at *
  generalize d.places.length = pn at *
  go_enter Try.func5, Try.ntmps5
  go_wp2_with (first
    | (go_at_call 10; have := T4; refine (H10.out _ T4.out).mono ?_; rintro e wz ⟨rfl, qz⟩; have TZ : Hid (Ck1 w wz d a c) := qz; clear qz)
    | (go_at_call 17; have := T3; refine (V.same_yes _ _ L _ T3.out.1 T3.out.2.1).mono ?_; rintro e w4 ⟨rfl, h4⟩; have h5 := h4.symm; clear h4; subst h5; have T4 : Hid (Ck1 w w3 d a c) := T3.out.2.2; clear T3)
    | (go_at_call 22; have := T2; refine (H22.out _ T2.out.2).mono ?_; rintro e w3 ⟨v3, rfl, q1, q2, q3⟩; have T3 : Hid (V.ReadsV w3 v2 L ∧ V.ReadsV w3 v3 L ∧ Ck1 w w3 d a c) := ⟨T2.out.1.below q2, q1, q3⟩; clear q1 q2 q3 T2)
    | (go_at_call 21; have := T1; refine (H21.out _ T1.out).mono ?_; rintro e w2 ⟨v2, rfl, q1, q2⟩; have T2 : Hid (V.ReadsV w2 v2 L ∧ Ck1 w w2 d a c) := ⟨q1, q2⟩; obtain ⟨x0, x1⟩ := HC.out _ q2; clear q1 q2 T1)
    | (go_at_call 10; have := T1; refine (H10.out _ T1.out).mono ?_; rintro e wz ⟨rfl, qz⟩; have TZ : Hid (Ck1 w wz d a c) := qz; clear qz)
    | (go_at_call 9; refine H9.out.mono ?_; rintro e w1 ⟨⟨b, rfl⟩, q1⟩; have T1 : Hid (Ck1 w w1 d a c) := q1; obtain ⟨x0, x1⟩ := HC.out _ q1; clear q1; cases b))
  all_goals (
    go_ret
    exact ⟨rfl, TZ.out.bel⟩)
end
end Go.Proofs.Ytjafjheffbbkmaa

/-
  The document's ExprBytes: contracts.
-/
import Derived.Test.YtjafjheffbbkmaaPuA
import Derived.Test.YtjafjheffbbkmaaRdD
namespace Go.Proofs.Ytjafjheffbbkmaa
open Go.RowKit
open V.Pack (byte urow zz unzz rd rd0_ok rd0_urow urow_len unzz_zz zz_unzz zz_lt byte_nat val_urow)
set_option linter.unusedVariables false

theorem own_one (w : World) (x : Int) (b : BitVec 8) (q base : Nat) (h : x = V.B b) (hb : base ≤ w.heap.size) (hq : q = w.heap.size) : V.Owns (w.alloc (.cells #[.int .u8 x] 5)) base (.slice (some ⟨q, 0, none⟩) 1 1) [b] := by
  subst hq
  exact ⟨rfl, .inr ⟨w.heap.size, 1, #[.int .u8 x], rfl, hb, heap_alloc_new w _, Nat.le_refl _, by decide, rfl, by rw [h]; rfl⟩⟩
theorem Owns.low {w : World} {base base' : Nat} {v : Value} {l : BB} (h : V.Owns w base v l) (hb : base' ≤ base) : V.Owns w base' v l := by
  obtain ⟨h1, h2⟩ := h
  refine ⟨h1, ?_⟩
  rcases h2 with h2 | ⟨g, cap, cur, q1, q2, q3⟩
  · exact .inl h2
  · exact .inr ⟨g, cap, cur, q1, Nat.le_trans hb q2, q3⟩
def XBs (d : Nat) : Prop := ∀ (P : Nat → Prop) (t : Tr) (v : Value) (w : World), checkM d t = 0 → Tre w P v t → (treeB d t).length ≤ 1000000000000 → Calls Try.prog 20 #[v] w fun e w' => ∃ b', e = .returned b' ∧ V.Owns w' w.heap.size b' (treeB d t) ∧ Below w.heap.size w w'
set_option maxRecDepth 100000 in
set_option maxHeartbeats 800000 in
theorem xb_num (d : Nat) (ih : XBs d) (P : Nat → Prop) (n : Int) (nm : Bs) (ks : List Tr) (a : Option Addr) (c : Nat) (w : World) (hn1 : -9223372036854775808 ≤ n) (hn2 : n ≤ 9223372036854775807) (h0 : ks = []) (hT : Tre w P (.agg #[.int .i64 1, .int .i64 n, .string (ba nm), .slice a ks.length c]) ⟨1, n, nm, ks⟩)
    (hck : ∀ x ∈ ks, checkM d x = 0) (hl : (urow (zz n)).length + (ks.flatMap (treeB d)).length + 1 ≤ 1000000000000) :
    Calls Try.prog 20 #[.agg #[.int .i64 1, .int .i64 n, .string (ba nm), .slice a ks.length c]] w fun e w' => ∃ b', e = .returned b' ∧ V.Owns w' w.heap.size b' (byte 1 :: (urow (zz n) ++ ks.flatMap (treeB d))) ∧ Below w.heap.size w w' := by
  have HT : Hid (Tre w P (.agg #[.int .i64 1, .int .i64 n, .string (ba nm), .slice a ks.length c]) ⟨1, n, nm, ks⟩) := hT
  obtain ⟨_, _, e0, hcap, _, _, hnm, hlen, _⟩ := hT.opened
  simp only [Value.agg.injEq, Array.mk.injEq, List.cons.injEq, and_true, Value.slice.injEq, true_and] at e0
  have hcap2 : ks.length ≤ c := by rw [e0.2]; exact hcap
  simp only at hlen hnm
  have HB : Hid (V.B (byte 1) = (1 : Int)) := (B_byte (m := 1) (by omega)).symm
  subst h0
  have HL : Hid ([byte 1].length + (urow (zz n)).length ≤ 140737488355328) := by show _ ≤ _; simp only [List.length_cons, List.length_nil]; simp only [List.flatMap_nil, List.length_nil] at hl; omega
  have HI : Hid (∀ w1, Calls Try.prog 41 #[.int .i64 n] w1 fun e w' => ∃ v', e = .returned v' ∧ V.Owns w' w1.heap.size v' (urow (zz n)) ∧ Below w1.heap.size w1 w') := fun w1 => V.rint_any n w1 hn1 hn2
  clear hT hck ih e0 hcap hl hnm HT
  generalize ba nm = s at *
  go_enter Try.func20, Try.ntmps20
  go_wp2_with (first
    | (go_at_call 41; refine (HI.out _).mono ?_; rintro e w2 ⟨v2, rfl, h1, h2⟩; have O2 : Hid (V.ReadsV w2 v2 (urow (zz n)) ∧ V.Owns w2 w.heap.size (.slice (some ⟨w.heap.size + 1, 0, none⟩) 1 1) [byte 1] ∧ Below w.heap.size w w2) := ⟨V.ReadsV.of_own h1, ((own_one (w.alloc _) _ (byte 1) (w.heap.size + 1) w.heap.size HB.out.symm (le_alloc _ _) (size_alloc _ _).symm)).below h2, below_new (below_new h2)⟩; clear h1 h2)
    | (at_builtin; refine V.wpList_append_bytes rfl (.tmp 12) (.tmp 15) 32 rfl w.heap.size Try.underlying32 V.Try.info5 _ [byte 1] rfl O2.out.2.1 _ (urow (zz n)) rfl O2.out.1 HL.out O2.out.2.2.size ?_; intro v3 w3 h1 h2; have O3 : Hid (V.Owns w3 w.heap.size v3 ([byte 1] ++ urow (zz n)) ∧ Below w.heap.size w w3) := ⟨h1, O2.out.2.2.trans h2⟩; clear h1 h2))
  go_ret
  exact ⟨_, rfl, by simpa using O3.out.1, O3.out.2⟩
set_option maxRecDepth 100000 in
set_option maxHeartbeats 800000 in
theorem xb_var (d : Nat) (ih : XBs d) (P : Nat → Prop) (n : Int) (nm : Bs) (ks : List Tr) (a : Option Addr) (c : Nat) (w : World) (hn32 : nm.length ≤ 32) (h0 : ks = []) (hT : Tre w P (.agg #[.int .i64 2, .int .i64 n, .string (ba nm), .slice a ks.length c]) ⟨2, n, nm, ks⟩)
    (hck : ∀ x ∈ ks, checkM d x = 0) (hl : (textB nm).length + (ks.flatMap (treeB d)).length + 1 ≤ 1000000000000) :
    Calls Try.prog 20 #[.agg #[.int .i64 2, .int .i64 n, .string (ba nm), .slice a ks.length c]] w fun e w' => ∃ b', e = .returned b' ∧ V.Owns w' w.heap.size b' (byte 2 :: (textB nm ++ ks.flatMap (treeB d))) ∧ Below w.heap.size w w' := by
  have HT : Hid (Tre w P (.agg #[.int .i64 2, .int .i64 n, .string (ba nm), .slice a ks.length c]) ⟨2, n, nm, ks⟩) := hT
  obtain ⟨_, _, e0, hcap, _, _, hnm, hlen, _⟩ := hT.opened
  simp only [Value.agg.injEq, Array.mk.injEq, List.cons.injEq, and_true, Value.slice.injEq, true_and] at e0
  have hcap2 : ks.length ≤ c := by rw [e0.2]; exact hcap
  simp only at hlen hnm
  have HB : Hid (V.B (byte 2) = (2 : Int)) := (B_byte (m := 2) (by omega)).symm
  subst h0
  have HL : Hid ([byte 2].length + (textB nm).length ≤ 140737488355328) := by show _ ≤ _; simp only [List.length_cons, List.length_nil]; simp only [List.flatMap_nil, List.length_nil] at hl; omega
  obtain ⟨C, F, hcv, hF⟩ := conv_name nm (by omega)
  have HF : Hid (∀ w1 q, q = w1.heap.size → Calls Try.prog 42 #[.slice (some ⟨q, 0, none⟩) nm.length (C w1)] (F w1) fun e w' => ∃ v', e = .returned v' ∧ V.ReadsV w' v' (textB nm) ∧ Below w1.heap.size w1 w') := fun w1 q hq => by
    subst hq
    have hf := hF w1
    refine (V.rbytes_any _ (nb nm) (F w1) hf.1 (by rw [nb_len]; omega)).mono ?_
    rintro e w' ⟨v', rfl, h1, h2⟩
    exact ⟨v', rfl, by rw [nb_len] at h1; exact V.ReadsV.of_own h1, hf.2.trans (h2.mono hf.2.size)⟩
  clear hF
  clear hT hck ih e0 hcap hl hnm HT
  generalize ba nm = s at *
  generalize nm.length = nl at *
  go_enter Try.func20, Try.ntmps20
  go_wp2_with (first
    | (go_at_call 42; refine (HF.out _ _ (by simp only [size_alloc])).mono ?_; rintro e w2 ⟨v2, rfl, h1, h2⟩; have O2 : Hid (V.ReadsV w2 v2 (textB nm) ∧ V.Owns w2 w.heap.size (.slice (some ⟨w.heap.size + 1, 0, none⟩) 1 1) [byte 2] ∧ Below w.heap.size w w2) := ⟨h1, ((own_one (w.alloc _) _ (byte 2) (w.heap.size + 1) w.heap.size HB.out.symm (le_alloc _ _) (size_alloc _ _).symm)).below h2, below_new (below_new h2)⟩; clear h1 h2)
    | (at_builtin; refine V.wpList_append_bytes rfl (.tmp 20) (.tmp 24) 32 rfl w.heap.size Try.underlying32 V.Try.info5 _ [byte 2] rfl O2.out.2.1 _ (textB nm) rfl O2.out.1 HL.out O2.out.2.2.size ?_; intro v3 w3 h1 h2; have O3 : Hid (V.Owns w3 w.heap.size v3 ([byte 2] ++ textB nm) ∧ Below w.heap.size w w3) := ⟨h1, O2.out.2.2.trans h2⟩; clear h1 h2))
  go_ret
  exact ⟨_, rfl, by simpa using O3.out.1, O3.out.2⟩
set_option maxRecDepth 100000 in
set_option maxHeartbeats 800000 in
theorem xb_other (d : Nat) (ih : XBs d) (P : Nat → Prop) (m : Nat) (n : Int) (nm : Bs) (ks : List Tr) (a : Option Addr) (c : Nat) (w : World) (hm3 : 3 ≤ m) (hm14 : m ≤ 14) (hT : Tre w P (.agg #[.int .i64 m, .int .i64 n, .string (ba nm), .slice a ks.length c]) ⟨m, n, nm, ks⟩)
    (hck : ∀ x ∈ ks, checkM d x = 0) (hl : ([] : BB).length + (ks.flatMap (treeB d)).length + 1 ≤ 1000000000000) :
    Calls Try.prog 20 #[.agg #[.int .i64 m, .int .i64 n, .string (ba nm), .slice a ks.length c]] w fun e w' => ∃ b', e = .returned b' ∧ V.Owns w' w.heap.size b' (byte m :: (([] : BB) ++ ks.flatMap (treeB d))) ∧ Below w.heap.size w w' := by
  have HT : Hid (Tre w P (.agg #[.int .i64 m, .int .i64 n, .string (ba nm), .slice a ks.length c]) ⟨m, n, nm, ks⟩) := hT
  obtain ⟨_, _, e0, hcap, _, _, hnm, hlen, _⟩ := hT.opened
  simp only [Value.agg.injEq, Array.mk.injEq, List.cons.injEq, and_true, Value.slice.injEq, true_and] at e0
  have hcap2 : ks.length ≤ c := by rw [e0.2]; exact hcap
  simp only at hlen hnm
  have HB : Hid (V.B (byte m) = (m : Int)) := (B_byte (m := m) (by omega)).symm
  have HK : Hid (∀ i (h : i < ks.length) wr, Below w.heap.size w wr → ∃ b o ka kc, KidAt wr P a i ks[i] b o ka kc) := fun i h wr hk => by
    obtain ⟨a', cap, e, _, _, _, _, _, hkk⟩ := (HT.out.below hk).opened
    simp only [Value.agg.injEq, Array.mk.injEq, List.cons.injEq, and_true, Value.slice.injEq, true_and] at e
    obtain ⟨b, o, ka, kc, q⟩ := hkk i h
    rw [← e.1, getD_T h] at q
    exact ⟨b, o, ka, kc, q⟩
  have HP : Hid (∀ i (h : i < ks.length) wr u, Tre wr P u ks[i] → Calls Try.prog 20 #[u] wr fun e w' => ∃ b', e = .returned b' ∧ V.ReadsV w' b' (treeB d ks[i]) ∧ Below wr.heap.size wr w') := fun i h wr u hu => by
    have q := ih P ks[i] u wr (hck _ (List.getElem_mem h)) hu (by have := flat_both (treeB d) ks i h; omega)
    refine q.mono ?_
    rintro e w' ⟨b', rfl, h1, h2⟩
    exact ⟨b', rfl, V.ReadsV.of_own h1, h2⟩
  have HLn : Hid (∀ i (h : i < ks.length), (byte m :: (ks.take i).flatMap (treeB d)).length + (treeB d ks[i]).length ≤ 140737488355328) := fun i h => by
    have := flat_both (treeB d) ks i h
    simp only [List.length_cons]; simp only [List.length_nil] at hl; omega
  have hm1 : ((m : Int) == 1) = false := by rw [beq_eq_false_iff_ne]; omega
  have hm2 : ((m : Int) == 2) = false := by rw [beq_eq_false_iff_ne]; omega
  clear hT hck ih e0 hcap hl hnm HT
  generalize ba nm = s at *
  go_enter Try.func20, Try.ntmps20
  go_wp2
  go_loopw [3, 4] (fun v i wr => ∃ (j : Nat), j ≤ ks.length ∧ i = .int .i64 j ∧ Hid (V.Owns wr (w.heap.size + 1) v (byte m :: (ks.take j).flatMap (treeB d)) ∧ Below w.heap.size w wr ∧ Cell4 wr w.heap.size (.int .i64 m) (.int .i64 n) (.string s) (.slice a ks.length c))) (fun _ i _ => ks.length - (intOf i).toNat)
  case atStart => exact ⟨0, Nat.zero_le _, rfl, own_one (w.alloc _) _ (byte m) (w.heap.size + 1) _ HB.out.symm (Nat.le_of_eq (size_alloc _ _).symm) (size_alloc _ _).symm, ((Below.refl _ _).alloc (Nat.le_refl _) _).alloc (le_alloc _ _) _, (Cell4.new w _ _ _ _ 31).alloc _⟩
  case round =>
    obtain ⟨j, hj, rfl, HR⟩ := hrel
    obtain ⟨x0, x1, x2, x3, x4⟩ := HR.out.2.2
    have hlx := HR.out.2.2.lt
    by_cases hlt : j < ks.length
    · obtain ⟨kb, ko, ka, kc, hKA⟩ := HK.out j hlt wr HR.out.2.1
      obtain ⟨rfl, k0, k1, k2, k3, ht⟩ := hKA
      have hbl : kb < wr.heap.size := World.block_lt_of_cell? wr _ k0
      have HC : Hid (Calls Try.prog 20 #[.agg #[.int .i64 ks[j].kind, .int .i64 ks[j].n, .string (ba ks[j].name), .slice ka ks[j].kids.length kc]] wr fun e w' => ∃ b', e = .returned b' ∧ V.ReadsV w' b' (treeB d ks[j]) ∧ Below wr.heap.size wr w') := HP.out j hlt wr _ ht
      have HL2 : Hid ((byte m :: (ks.take j).flatMap (treeB d)).length + (treeB d ks[j]).length ≤ 140737488355328) := HLn.out j hlt
      clear ht
      generalize hTB : treeB d ks[j] = TB at *
      have HTB : Hid (treeB d ks[j] = TB) := hTB
      clear hTB
      generalize ks[j].kind = yk at *
      generalize ks[j].n = yn at *
      generalize ba ks[j].name = ys at *
      generalize ks[j].kids.length = yl at *
      go_wp2_with (first
        | (go_at_call 20; refine HC.out.mono ?_; rintro e w2 ⟨v2, rfl, h1, h2⟩; have O2 : Hid (V.ReadsV w2 v2 TB ∧ V.Owns w2 (w.heap.size + 1) u3 (byte m :: (ks.take j).flatMap (treeB d)) ∧ Below w.heap.size w w2 ∧ w.heap.size + 1 ≤ w2.heap.size ∧ Cell4 w2 w.heap.size (.int .i64 m) (.int .i64 n) (.string s) (.slice (some ⟨kb, ko, none⟩) ks.length c)) := ⟨h1, HR.out.1.below h2, HR.out.2.1.trans (h2.mono HR.out.2.1.size), Nat.le_trans hlx h2.size, HR.out.2.2.below h2⟩; clear h1 h2)
        | (at_builtin; refine V.wpList_append_bytes rfl (.tmp 33) (.tmp 39) 32 rfl (w.heap.size + 1) Try.underlying32 V.Try.info5 _ (byte m :: (ks.take j).flatMap (treeB d)) rfl O2.out.2.1 _ TB rfl O2.out.1 HL2.out O2.out.2.2.2.1 ?_; intro v3 w3 h1 h2; have O3 : Hid (V.Owns w3 (w.heap.size + 1) v3 ((byte m :: (ks.take j).flatMap (treeB d)) ++ TB) ∧ Below w.heap.size w w3 ∧ Cell4 w3 w.heap.size (.int .i64 m) (.int .i64 n) (.string s) (.slice (some ⟨kb, ko, none⟩) ks.length c)) := ⟨h1, O2.out.2.2.1.trans (h2.mono (Nat.le_succ _)), O2.out.2.2.2.2.under (Nat.lt_succ_self _) h2⟩; clear h1 h2))
      go_roundw
      case rel => exact ⟨j + 1, by omega, by go_num, by rw [flat_step hlt, HTB.out]; exact O3.out.1, O3.out.2⟩
      case measure => simp [intOf]; omega
    · have he : j = ks.length := by omega
      subst he
      have HR2 : Hid (V.Owns wr (w.heap.size + 1) u3 (byte m :: ks.flatMap (treeB d)) ∧ Below w.heap.size w wr) := by have := HR.out; rw [List.take_length] at this; exact ⟨this.1, this.2.1⟩
      clear HR
      go_wp2
      go_ret
      exact ⟨_, rfl, Owns.low HR2.out.1 (Nat.le_succ _), HR2.out.2⟩
theorem xbs_any : ∀ d, XBs d
  | 0 => fun P t v w h => by cases h
  | d + 1 => fun P t v w h hT hl => by
    have hs := shape h
    have hnm := name_short h
    have lo := hs.lo; have hi := hs.hi
    have hck := (check_fits h).2
    obtain ⟨a, c, rfl, _, hk, hn, _⟩ := hT.opened
    obtain ⟨k, n, nm, ks⟩ := t
    simp only at *
    obtain ⟨m, rfl⟩ : ∃ m : Nat, k = (m : Int) := ⟨k.toNat, by omega⟩
    have e : treeB (d + 1) ⟨(m : Int), n, nm, ks⟩ = byte m :: ((if (m : Int) = 1 then urow (zz n) else if (m : Int) = 2 then textB nm else []) ++ ks.flatMap (treeB d)) := by
      show byte ((m : Int)).toNat :: _ = _
      rw [Int.toNat_natCast]
    rw [e] at hl ⊢
    simp only [List.length_cons, List.length_append] at hl
    have h0 : m ≤ 2 → ks = [] := fun hm => by
      rcases hs.kids with ⟨_, q⟩ | ⟨q, _⟩ | ⟨q, _⟩
      · exact q
      · simp only at q; omega
      · simp only at q; omega
    by_cases h1 : m = 1
    · subst h1
      rw [if_pos (by decide)] at hl ⊢
      exact xb_num d (xbs_any d) P n nm ks a c w hn.1 hn.2 (h0 (by omega)) hT hck (by omega)
    · by_cases h2 : m = 2
      · subst h2
        rw [if_neg (by decide), if_pos (by decide)] at hl ⊢
        exact xb_var d (xbs_any d) P n nm ks a c w hnm (h0 (by omega)) hT hck (by omega)
      · rw [if_neg (by omega), if_neg (by omega)] at hl ⊢
        exact xb_other d (xbs_any d) P m n nm ks a c w (by omega) (by omega) hT hck (by simp at hl ⊢; omega)
theorem XBytes_any (P : Nat → Prop) (t : Tr) (v : Value) (w : World) (h : checkM 16 t = 0) (hT : Tre w P v t) : Calls Try.prog 20 #[v] w fun e w' => ∃ b', e = .returned b' ∧ V.Owns w' w.heap.size b' (treeB 16 t) ∧ Below w.heap.size w w' :=
  xbs_any 16 P t v w h hT (by have := treeB_16 h (hT.nums 16); omega)
end Go.Proofs.Ytjafjheffbbkmaa

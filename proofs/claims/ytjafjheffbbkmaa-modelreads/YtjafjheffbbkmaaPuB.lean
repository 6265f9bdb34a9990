/-
  The program's putTree, PutExpr, putTrees, putPlace: contracts.
-/
import Derived.Test.YtjafjheffbbkmaaPuA
namespace Go.Proofs.Ytjafjheffbbkmaa
open Go.RowKit
open V.Pack (byte urow zz unzz rd rd0_ok rd0_urow urow_len unzz_zz zz_unzz zz_lt byte_nat val_urow)
set_option linter.unusedVariables false

theorem puts_any : ∀ d, Puts d
  | 0 => fun base t v b l w h => by cases h
  | d + 1 => fun base t v b l w h hT hO hb hl => by
    have hs := shape h
    have hnm := name_short h
    have lo := hs.lo; have hi := hs.hi
    have hck := (check_fits h).2
    obtain ⟨a, c, rfl, _, hk, hn, _⟩ := hT.opened
    obtain ⟨k, n, nm, ks⟩ := t
    simp only at *
    obtain ⟨m, rfl⟩ : ∃ m : Nat, k = (m : Int) := ⟨k.toNat, by omega⟩
    have e : treeB (d + 1) ⟨(m : Int), n, nm, ks⟩ = byte m :: ((if (m : Int) = 1 then urow (zz n) else if (m : Int) = 2 then textB nm else []) ++ ks.flatMap (treeB d)) := by
      show byte ((m : Int)).toNat :: _ = _
      rw [Int.toNat_natCast]
    rw [e] at hl ⊢
    simp only [List.length_cons, List.length_append] at hl
    by_cases h1 : m = 1
    · subst h1
      rw [if_pos (by decide)] at hl ⊢
      exact put_num d (puts_any d) base n nm ks a c b l w hn.1 hn.2 hT hck hO hb (by omega)
    · by_cases h2 : m = 2
      · subst h2
        rw [if_neg (by decide), if_pos (by decide)] at hl ⊢
        exact put_var d (puts_any d) base n nm ks a c b l w hnm hT hck hO hb (by omega)
      · rw [if_neg (by omega), if_neg (by omega)] at hl ⊢
        exact put_other d (puts_any d) base m n nm ks a c b l w (by omega) (by omega) hT hck hO hb (by simp at hl ⊢; omega)
set_option maxRecDepth 100000 in
theorem PutExpr_any (base : Nat) (t : Tr) (k n : Int) (s : ByteArray) (a : Option Addr) (kl c : Nat) (b : Value) (l : BB) (w : World) (hc : checkM 16 t = 0) (hT : Tre w (fun g => g < base) (.agg #[.int .i64 k, .int .i64 n, .string s, .slice a kl c]) t) (hO : V.Owns w base b l) (hb : base ≤ w.heap.size) (hl : l.length + (treeB 16 t).length ≤ 1000000000000) :
    Calls Try.prog 19 #[b, .agg #[.int .i64 k, .int .i64 n, .string s, .slice a kl c]] w fun e w' => ∃ b', e = .returned b' ∧ V.Owns w' base b' (l ++ treeB 16 t) ∧ V.Kp base w w' := by
  have HC : Hid (∀ o, Calls Try.prog 39 #[.agg #[.int .i64 k, .int .i64 n, .string s, .slice a kl c]] (w.alloc o) fun e w' => e = .returned (.int .i64 0) ∧ Below (w.alloc o).heap.size (w.alloc o) w') := fun o => by
    have := Check_any _ t k n s a kl c (w.alloc o) (hT.alloc o)
    rw [hc] at this; exact this
  have HP : Hid (∀ w1, V.Kp base w w1 → V.Owns w1 base b l → Calls Try.prog 40 #[b, .agg #[.int .i64 k, .int .i64 n, .string s, .slice a kl c]] w1 fun e w' => ∃ b', e = .returned b' ∧ V.Owns w' base b' (l ++ treeB 16 t) ∧ V.Kp base w w') := fun w1 hk ho => by
    refine (puts_any 16 base t _ b l w1 hc (hT.kp hb hk) ho (Nat.le_trans hb hk.size) hl).mono ?_
    rintro e w' ⟨b', rfl, h1, h2⟩
    exact ⟨b', rfl, h1, hk.trans h2⟩
  have HO : Hid (V.Owns w base b l) := hO
  clear hc hT hO hl
  go_enter Try.func19, Try.ntmps19
  go_wp2_with (first
    | (go_at_call 40; have := HB1; refine (HP.out _ HB1.out.1 HB1.out.2).mono ?_; rintro e w2 ⟨b2, rfl, h1, h2⟩; have HB2 : Hid (V.Owns w2 base b2 (l ++ treeB 16 t) ∧ V.Kp base w w2) := ⟨h1, h2⟩; clear h1 h2)
    | (go_at_call 39; refine (HC.out _).mono ?_; rintro e w1 ⟨rfl, HB⟩; obtain ⟨q0, q1, q2, q3, q4⟩ := (Cell4.new w (.int .i64 k) (.int .i64 n) (.string s) (.slice a kl c) 31).below HB; have HB1 : Hid (V.Kp base w w1 ∧ V.Owns w1 base b l) := ⟨((V.Kp.refl _ _).alloc _).trans (V.Kp.of_below HB), (HO.out.alloc _).below HB⟩; clear HB))
  go_ret
  exact ⟨_, rfl, HB2.out⟩
set_option maxRecDepth 100000 in
set_option maxHeartbeats 1000000 in
theorem putTrees_any (base : Nat) (ks : List Tr) (v b : Value) (l : BB) (w : World) (h1 : ks.length ≤ 1) (hck : ∀ t ∈ ks, checkM 16 t = 0) (hT : ExsV w (fun g => g < base) v ks) (hO : V.Owns w base b l) (hb : base ≤ w.heap.size) (hl : l.length + (maybeB ks).length ≤ 1000000000000) :
    Calls Try.prog 78 #[b, v] w fun e w' => ∃ b', e = .returned b' ∧ V.Owns w' base b' (l ++ maybeB ks) ∧ V.Kp base w w' := by
  have HT : Hid (ExsV w (fun g => g < base) v ks) := hT
  obtain ⟨a, c, rfl, hcap, hlen, _⟩ := hT.form
  have HO : Hid (V.Owns w base b l) := hO
  have HB : Hid (V.B (byte ks.length) = (ks.length : Int)) := (B_byte (by omega)).symm
  have HL1 : Hid (l.length + [byte ks.length].length ≤ 140737488355328) := by show _ ≤ _; unfold maybeB at hl; simp at hl ⊢; omega
  have HK : Hid (∀ i (h : i < ks.length) wr, V.Kp base w wr → ∃ b o ka kc, KidAt wr (fun g => g < base) a i ks[i] b o ka kc) := fun i h wr hk => by
    obtain ⟨a', cap, e, _, _, hkk⟩ := (hT.kept (kept_base (hk.below hb) fun g hg => hg)).form
    simp only [Value.slice.injEq] at e
    obtain ⟨b, o, ka, kc, q⟩ := hkk i h
    rw [← e.1, getD_T h] at q
    exact ⟨b, o, ka, kc, q⟩
  have HP : Hid (∀ i (h : i < ks.length) wr v, V.Kp base w wr → V.Owns wr base v (l ++ byte ks.length :: (ks.take i).flatMap (treeB 16)) → ∀ u, Tre wr (fun g => g < base) u ks[i] → Calls Try.prog 40 #[v, u] wr fun e w' => ∃ b', e = .returned b' ∧ V.Owns w' base b' (l ++ byte ks.length :: (ks.take (i + 1)).flatMap (treeB 16)) ∧ V.Kp base w w') := fun i h wr v hk ho u hu => by
    have q := puts_any 16 base ks[i] u v _ wr (hck _ (List.getElem_mem h)) hu ho (Nat.le_trans hb hk.size) (by have := flat_both (treeB 16) ks i h; unfold maybeB at hl; simp only [List.length_append, List.length_cons] at hl ⊢; omega)
    refine q.mono ?_
    rintro e w' ⟨b', rfl, h1, h2⟩
    refine ⟨b', rfl, ?_, hk.trans h2⟩
    rw [flat_step h]
    simpa [List.append_assoc] using h1
  have HE : Hid (maybeB ks = byte ks.length :: ks.flatMap (treeB 16)) := rfl
  rw [HE.out]
  clear hT hO hck hl HE
  go_enter Try.func78, Try.ntmps78
  go_wp2_with (at_builtin; refine V.wpList_append_kp rfl (.tmp 7) (.tmp 11) 32 rfl base Try.underlying32 V.Try.info5 _ l rfl (HO.out.alloc _) _ [byte ks.length] rfl (reads_oneq _ _ _ _ _ HB.out.symm rfl) HL1.out (V.base_le hb _) ?_; intro v1 w1 hown1 hg1; have O1 : Hid (V.Owns w1 base v1 (l ++ [byte ks.length]) ∧ V.Kp base w w1) := ⟨hown1, hg1.new⟩; clear hown1 hg1)
  go_loopw [0, 15] (fun v i wr => ∃ (j : Nat), j ≤ ks.length ∧ i = .int .i64 j ∧ Hid (V.Owns wr base v (l ++ byte ks.length :: (ks.take j).flatMap (treeB 16)) ∧ V.Kp base w wr)) (fun _ i _ => ks.length - (intOf i).toNat)
  case atStart => exact ⟨0, Nat.zero_le _, rfl, by simpa using O1.out.1, O1.out.2⟩
  case round =>
    obtain ⟨j, hj, rfl, HR⟩ := hrel
    by_cases hlt : j < ks.length
    · obtain ⟨kb, ko, ka, kc, hKA⟩ := HK.out j hlt wr HR.out.2
      obtain ⟨rfl, k0, k1, k2, k3, ht⟩ := hKA
      have HKT : Hid (Tre wr (fun g => g < base) (.agg #[.int .i64 ks[j].kind, .int .i64 ks[j].n, .string (ba ks[j].name), .slice ka ks[j].kids.length kc]) ks[j]) := ht
      have hbl : kb < wr.heap.size := World.block_lt_of_cell? wr _ k0
      have HC : Hid (∀ o, Calls Try.prog 40 #[u0, .agg #[.int .i64 ks[j].kind, .int .i64 ks[j].n, .string (ba ks[j].name), .slice ka ks[j].kids.length kc]] (wr.alloc o) fun e w' => ∃ b', e = .returned b' ∧ V.Owns w' base b' (l ++ byte ks.length :: (ks.take (j + 1)).flatMap (treeB 16)) ∧ V.Kp base w w') := fun o => HP.out j hlt _ _ (HR.out.2.alloc o) (HR.out.1.alloc o) _ (HKT.out.alloc o)
      clear ht HKT
      generalize ks[j].kind = yk at *
      generalize ks[j].n = yn at *
      generalize ba ks[j].name = ys at *
      generalize ks[j].kids.length = yl at *
      go_wp2_with (go_at_call 40; refine (HC.out _).mono ?_; rintro e w3 ⟨b3, rfl, h1, h2⟩; have HB3 : Hid (V.Owns w3 base b3 (l ++ byte ks.length :: (ks.take (j + 1)).flatMap (treeB 16)) ∧ V.Kp base w w3) := ⟨h1, h2⟩; clear h1 h2)
      go_roundw
      case rel => exact ⟨j + 1, by omega, by go_num, HB3⟩
      case measure => simp [intOf]; omega
    · have he : j = ks.length := by omega
      subst he
      have HR2 : Hid (V.Owns wr base u0 (l ++ byte ks.length :: ks.flatMap (treeB 16)) ∧ V.Kp base w wr) := by have := HR.out; rw [List.take_length] at this; exact this
      clear HR
      go_wp2
      go_ret
      exact ⟨_, rfl, HR2.out⟩
end Go.Proofs.Ytjafjheffbbkmaa

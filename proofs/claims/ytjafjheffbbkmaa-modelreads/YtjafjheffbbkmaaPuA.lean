/-
  The program's putTree, PutExpr, putTrees: contracts.
-/
import Derived.Test.YtjafjheffbbkmaaChD
import Derived.Test.YtjafjheffbbkmaaVKp
namespace Go.Proofs.Ytjafjheffbbkmaa
open Go.RowKit
open V.Pack (byte urow zz unzz rd rd0_ok rd0_urow urow_len unzz_zz zz_unzz zz_lt byte_nat val_urow)
set_option linter.unusedVariables false

theorem nb_nth {t : Bs} {j : Nat} (hj : j < t.length) : V.B (V.nth (nb t) j) = ((ba t).data.toList.getD j 0).toNat := by
  unfold V.B V.nth nb ba
  rw [List.getD_eq_getElem?_getD, List.getD_eq_getElem?_getD, List.getElem?_map, List.getElem?_eq_getElem hj]
  simp
theorem conv_name (t : Bs) (hs : t.length ≤ 1000000) : ∃ (C : World → Nat) (F : World → World), (∀ w, (convert 9 32 (.string (ba t))).run Try.prog w = .ok (.slice (some ⟨w.heap.size, 0, none⟩) t.length (C w)) (F w)) ∧ ∀ w, V.ReadsV (F w) (.slice (some ⟨w.heap.size, 0, none⟩) t.length (C w)) (nb t) ∧ Below w.heap.size w (F w) := by
  have hsz : (ba t).size = t.length := by simp [ba, ByteArray.size]
  refine ⟨fun w => grownCap w (ba t).size 0 5, fun w => Lib.bytesWorld w 5 (ba t), fun w => by rw [← hsz]; exact Lib.run_convert_string_bytes w 9 32 5 (ba t) Try.underlying9 Try.underlying32 Try.underlying5, fun w => ⟨?_, V.below_bytes w 5 (ba t)⟩⟩
  refine ⟨_, _, by rw [nb_len], (fun h => by cases h), by rw [nb_len, ← hsz]; exact grownCap_ge w _ _ _, grownCap_le_maxLen w _ _ _ (by unfold maxLen; omega), by rw [nb_len]; unfold maxLen; omega, ?_⟩
  refine .inr ⟨w.heap.size, 0, rfl, fun i hi => ?_⟩
  rw [nb_len] at hi
  rw [Nat.zero_add, Lib.bytesWorld_cell w 5 (ba t) i (by rw [hsz]; exact hi), nb_nth hi]
/-- A block that is no row of bytes, with its cells. -/
structure C4N (w : World) (b : Nat) (v0 v1 v2 v3 : Value) : Prop where
  c : Cell4 w b v0 v1 v2 v3
  nb : V.NB w b
theorem C4N.new (w : World) (v0 v1 v2 v3 : Value) (t : TypeId) (ht : t ≠ 5) : C4N (w.alloc (.cells #[v0, v1, v2, v3] t)) w.heap.size v0 v1 v2 v3 :=
  ⟨Cell4.new w v0 v1 v2 v3 t, fun cur f => by rw [heap_alloc_new]; intro e; simp only [Option.some.injEq, Obj.cells.injEq] at e; exact ht e.2.1⟩
theorem Cell4.same {w w' : World} {b : Nat} {v0 v1 v2 v3 : Value} (h : Cell4 w b v0 v1 v2 v3) (e : w'.heap[b]? = w.heap[b]?) : Cell4 w' b v0 v1 v2 v3 :=
  ⟨(cell_kept e _).trans h.c0, (cell_kept e _).trans h.c1, (cell_kept e _).trans h.c2, (cell_kept e _).trans h.c3, fun i => by have := h.free i; simp only [World.frozen?] at this ⊢; rw [e]; exact this⟩
theorem C4N.kp {B : Nat} {w w' : World} {b : Nat} {v0 v1 v2 v3 : Value} (h : C4N w b v0 v1 v2 v3) (k : V.Kp B w w') : C4N w' b v0 v1 v2 v3 :=
  have e := k.block b h.c.lt (.inr h.nb)
  ⟨h.c.same e, h.nb.of e⟩
structure C5N (w : World) (b : Nat) (v0 v1 v2 v3 v4 : Value) : Prop where
  c : Cell5 w b v0 v1 v2 v3 v4
  nb : V.NB w b
theorem C5N.new (w : World) (v0 v1 v2 v3 v4 : Value) (t : TypeId) (ht : t ≠ 5) : C5N (w.alloc (.cells #[v0, v1, v2, v3, v4] t)) w.heap.size v0 v1 v2 v3 v4 :=
  ⟨Cell5.new w v0 v1 v2 v3 v4 t, fun cur f => by rw [heap_alloc_new]; intro e; simp only [Option.some.injEq, Obj.cells.injEq] at e; exact ht e.2.1⟩
theorem C5N.kp {B : Nat} {w w' : World} {b : Nat} {v0 v1 v2 v3 v4 : Value} (h : C5N w b v0 v1 v2 v3 v4) (k : V.Kp B w w') : C5N w' b v0 v1 v2 v3 v4 :=
  have e := k.block b h.c.lt (.inr h.nb)
  ⟨h.c.kept e, h.nb.of e⟩
structure C2N (w : World) (b : Nat) (v0 v1 : Value) : Prop where
  c : Cell2 w b v0 v1
  nb : V.NB w b
theorem C2N.new (w : World) (v0 v1 : Value) (t : TypeId) (ht : t ≠ 5) : C2N (w.alloc (.cells #[v0, v1] t)) w.heap.size v0 v1 :=
  ⟨Cell2.new w v0 v1 t, fun cur f => by rw [heap_alloc_new]; intro e; simp only [Option.some.injEq, Obj.cells.injEq] at e; exact ht e.2.1⟩
theorem C2N.kp {B : Nat} {w w' : World} {b : Nat} {v0 v1 : Value} (h : C2N w b v0 v1) (k : V.Kp B w w') : C2N w' b v0 v1 :=
  have e := k.block b h.c.lt (.inr h.nb)
  ⟨h.c.kept e, h.nb.of e⟩
theorem Tre.kp {B : Nat} {w w' : World} {v : Value} {t : Tr} (h : Tre w (fun g => g < B) v t) (hB : B ≤ w.heap.size) (k : V.Kp B w w') : Tre w' (fun g => g < B) v t := h.kept (kept_base (k.below hB) fun g hg => hg)
theorem B_byte {m : Nat} (h : m < 256) : (m : Int) = V.B (byte m) := by unfold V.B; rw [byte_nat h]
def Puts (d : Nat) : Prop := ∀ (base : Nat) (t : Tr) (v b : Value) (l : BB) (w : World), checkM d t = 0 → Tre w (fun g => g < base) v t → V.Owns w base b l → base ≤ w.heap.size → l.length + (treeB d t).length ≤ 1000000000000 →
  Calls Try.prog 40 #[b, v] w fun e w' => ∃ b', e = .returned b' ∧ V.Owns w' base b' (l ++ treeB d t) ∧ V.Kp base w w'
theorem flat_step {α : Type} {B : α → BB} {l : List α} {i : Nat} (h : i < l.length) : (l.take (i + 1)).flatMap B = (l.take i).flatMap B ++ B l[i] := by
  rw [List.take_succ_eq_append_getElem h, List.flatMap_append]; simp
theorem flat_part {α : Type} (B : α → BB) : ∀ (l : List α) (i : Nat), ((l.take i).flatMap B).length ≤ (l.flatMap B).length
  | [], i => by simp
  | x :: l, 0 => by simp
  | x :: l, i + 1 => by simp only [List.take_succ_cons, List.flatMap_cons, List.length_append]; have := flat_part B l i; omega
theorem flat_both {α : Type} (B : α → BB) : ∀ (l : List α) (i : Nat) (h : i < l.length), ((l.take i).flatMap B).length + (B l[i]).length ≤ (l.flatMap B).length
  | [], i, h => by simp at h
  | x :: l, 0, _ => by simp
  | x :: l, i + 1, h => by
    have := flat_both B l i (by simpa using h)
    simp only [List.take_succ_cons, List.flatMap_cons, List.length_append, List.getElem_cons_succ]; omega
theorem reads_oneq (w : World) (x : Int) (b : BitVec 8) (e : TypeId) (q : Nat) (h : x = V.B b) (hq : q = w.heap.size) : V.ReadsV (w.alloc (.cells #[.int .u8 x] e)) (.slice (some ⟨q, 0, none⟩) 1 1) [b] := by subst hq; exact V.reads_one' w x b e h
theorem getD_T {l : List Tr} {i : Nat} (h : i < l.length) : l.getD i zeroT = l[i] := by rw [List.getD_eq_getElem?_getD, List.getElem?_eq_getElem h]; rfl
set_option maxRecDepth 100000 in
set_option maxHeartbeats 1000000 in
theorem put_num (d : Nat) (ih : Puts d) (base : Nat) (n : Int) (nm : Bs) (ks : List Tr) (a : Option Addr) (c : Nat) (b : Value) (l : BB) (w : World) (hn1 : -9223372036854775808 ≤ n) (hn2 : n ≤ 9223372036854775807) (hT : Tre w (fun g => g < base) (.agg #[.int .i64 1, .int .i64 n, .string (ba nm), .slice a ks.length c]) ⟨1, n, nm, ks⟩)
    (hck : ∀ x ∈ ks, checkM d x = 0) (hO : V.Owns w base b l) (hb : base ≤ w.heap.size) (hl : l.length + (urow (zz n)).length + (ks.flatMap (treeB d)).length + 1 ≤ 1000000000000) :
    Calls Try.prog 40 #[b, .agg #[.int .i64 1, .int .i64 n, .string (ba nm), .slice a ks.length c]] w fun e w' => ∃ b', e = .returned b' ∧ V.Owns w' base b' (l ++ byte 1 :: ((urow (zz n)) ++ ks.flatMap (treeB d))) ∧ V.Kp base w w' := by
  have HT : Hid (Tre w (fun g => g < base) (.agg #[.int .i64 1, .int .i64 n, .string (ba nm), .slice a ks.length c]) ⟨1, n, nm, ks⟩) := hT
  obtain ⟨_, _, e0, hcap, _, _, hnm, hlen, _⟩ := hT.opened
  simp only [Value.agg.injEq, Array.mk.injEq, List.cons.injEq, and_true, Value.slice.injEq, true_and] at e0
  have hcap2 : ks.length ≤ c := by rw [e0.2]; exact hcap
  simp only at hlen hnm
  have HO : Hid (V.Owns w base b l) := hO
  have HB : Hid (V.B (byte 1) = (1 : Int)) := (B_byte (m := 1) (by omega)).symm
  have HL1 : Hid (l.length + [byte 1].length ≤ 140737488355328) := by show _ ≤ _; simp; omega
  have HI : Hid (∀ w1 v1, V.Owns w1 base v1 (l ++ [byte 1]) → base ≤ w1.heap.size → Calls Try.prog 76 #[v1, .int .i64 n] w1 fun e w' => ∃ v', e = .returned v' ∧ V.Owns w' base v' (l ++ byte 1 :: (urow (zz n) ++ (ks.take 0).flatMap (treeB d))) ∧ V.Kp base w1 w') := fun w1 v1 ho hbb => by
    refine (V.int_k base v1 _ n w1 ho hbb (by simp; omega) hn1 hn2).mono ?_
    rintro e w' ⟨v', rfl, h1, h2⟩
    exact ⟨v', rfl, by simpa using h1, h2⟩
  have HK : Hid (∀ i (h : i < ks.length) wr, V.Kp base w wr → ∃ b o ka kc, KidAt wr (fun g => g < base) a i ks[i] b o ka kc) := fun i h wr hk => by
    obtain ⟨a', cap, e, _, _, _, _, _, hkk⟩ := (HT.out.kp hb hk).opened
    simp only [Value.agg.injEq, Array.mk.injEq, List.cons.injEq, and_true, Value.slice.injEq, true_and] at e
    obtain ⟨b, o, ka, kc, q⟩ := hkk i h
    rw [← e.1, getD_T h] at q
    exact ⟨b, o, ka, kc, q⟩
  have HP : Hid (∀ i (h : i < ks.length) wr v, V.Kp base w wr → V.Owns wr base v (l ++ byte 1 :: ((urow (zz n)) ++ (ks.take i).flatMap (treeB d))) → ∀ u, Tre wr (fun g => g < base) u ks[i] → Calls Try.prog 40 #[v, u] wr fun e w' => ∃ b', e = .returned b' ∧ V.Owns w' base b' (l ++ byte 1 :: ((urow (zz n)) ++ (ks.take (i + 1)).flatMap (treeB d))) ∧ V.Kp base w w') := fun i h wr v hk ho u hu => by
    have q := ih base ks[i] u v _ wr (hck _ (List.getElem_mem h)) hu ho (Nat.le_trans hb hk.size) (by have := flat_both (treeB d) ks i h; simp only [List.length_append, List.length_cons]; omega)
    refine q.mono ?_
    rintro e w' ⟨b', rfl, h1, h2⟩
    refine ⟨b', rfl, ?_, hk.trans h2⟩
    rw [flat_step h]
    simpa [List.append_assoc] using h1
  have HE : Hid (∀ x, V.Owns x base = V.Owns x base) := fun _ => rfl
  clear hT hO hck ih e0 hcap hl hnm
  generalize ba nm = s at *
  go_enter Try.func40, Try.ntmps40
  go_wp2_with (first
    | (go_at_call 76; have := O1; refine (HI.out _ _ O1.out.1 (Nat.le_trans hb O1.out.2.1.size)).mono ?_; rintro e w2 ⟨v2, rfl, h1, h2⟩; have O2 : Hid (V.Owns w2 base v2 (l ++ byte 1 :: (urow (zz n) ++ (ks.take 0).flatMap (treeB d))) ∧ V.Kp base w w2) := ⟨h1, O1.out.2.1.trans h2⟩; obtain ⟨q0, q1, q2, q3, q4⟩ := (O1.out.2.2.kp h2).c; clear h1 h2 O1)
    | (at_builtin; refine V.wpList_append_kp rfl (.tmp 7) (.tmp 11) 32 rfl base Try.underlying32 V.Try.info5 _ l rfl ((HO.out.alloc _).alloc _) _ [byte 1] rfl (reads_oneq _ _ _ _ _ HB.out.symm (size_alloc _ _).symm) HL1.out (V.base_le (V.base_le hb _) _) ?_; intro v1 w1 hown1 hg1; have O1 : Hid (V.Owns w1 base v1 (l ++ [byte 1]) ∧ V.Kp base w w1 ∧ C4N w1 w.heap.size (.int .i64 1) (.int .i64 n) (.string s) (.slice a ks.length c)) := ⟨hown1, hg1.new.new, (C4N.new w _ _ _ _ 31 (by decide)).kp hg1.new⟩; obtain ⟨q0, q1, q2, q3, q4⟩ := O1.out.2.2.c; clear hown1 hg1))
  clear q0 q1 q2 q3 q4
  go_loopw [0, 31] (fun v i wr => ∃ (j : Nat), j ≤ ks.length ∧ i = .int .i64 j ∧ Hid (V.Owns wr base v (l ++ byte 1 :: (urow (zz n) ++ (ks.take j).flatMap (treeB d))) ∧ V.Kp base w wr)) (fun _ i _ => ks.length - (intOf i).toNat)
  case atStart => exact ⟨0, Nat.zero_le _, rfl, O2.out⟩
  case round =>
    obtain ⟨j, hj, rfl, HR⟩ := hrel
    by_cases hlt : j < ks.length
    · obtain ⟨kb, ko, ka, kc, hKA⟩ := HK.out j hlt wr HR.out.2
      obtain ⟨rfl, k0, k1, k2, k3, ht⟩ := hKA
      have HKT : Hid (Tre wr (fun g => g < base) (.agg #[.int .i64 ks[j].kind, .int .i64 ks[j].n, .string (ba ks[j].name), .slice ka ks[j].kids.length kc]) ks[j]) := ht
      have hbl : kb < wr.heap.size := World.block_lt_of_cell? wr _ k0
      have HC : Hid (∀ o, Calls Try.prog 40 #[u0, .agg #[.int .i64 ks[j].kind, .int .i64 ks[j].n, .string (ba ks[j].name), .slice ka ks[j].kids.length kc]] (wr.alloc o) fun e w' => ∃ b', e = .returned b' ∧ V.Owns w' base b' (l ++ byte 1 :: (urow (zz n) ++ (ks.take (j + 1)).flatMap (treeB d))) ∧ V.Kp base w w') := fun o => HP.out j hlt _ _ (HR.out.2.alloc o) (HR.out.1.alloc o) _ (HKT.out.alloc o)
      clear ht HKT
      generalize ks[j].kind = yk at *
      generalize ks[j].n = yn at *
      generalize ba ks[j].name = ys at *
      generalize ks[j].kids.length = yl at *
      go_wp2_with (go_at_call 40; refine (HC.out _).mono ?_; rintro e w3 ⟨b3, rfl, h1, h2⟩; have HB3 : Hid (V.Owns w3 base b3 (l ++ byte 1 :: (urow (zz n) ++ (ks.take (j + 1)).flatMap (treeB d))) ∧ V.Kp base w w3) := ⟨h1, h2⟩; clear h1 h2)
      go_roundw
      case rel => exact ⟨j + 1, by omega, by go_num, HB3⟩
      case measure => simp [intOf]; omega
    · have he : j = ks.length := by omega
      subst he
      have HR2 : Hid (V.Owns wr base u0 (l ++ byte 1 :: (urow (zz n) ++ ks.flatMap (treeB d))) ∧ V.Kp base w wr) := by have := HR.out; rw [List.take_length] at this; exact this
      clear HR
      go_wp2
      go_ret
      exact ⟨_, rfl, HR2.out⟩
set_option maxRecDepth 100000 in
set_option maxHeartbeats 1000000 in
theorem put_var (d : Nat) (ih : Puts d) (base : Nat) (n : Int) (nm : Bs) (ks : List Tr) (a : Option Addr) (c : Nat) (b : Value) (l : BB) (w : World) (hn32 : nm.length ≤ 32) (hT : Tre w (fun g => g < base) (.agg #[.int .i64 2, .int .i64 n, .string (ba nm), .slice a ks.length c]) ⟨2, n, nm, ks⟩)
    (hck : ∀ x ∈ ks, checkM d x = 0) (hO : V.Owns w base b l) (hb : base ≤ w.heap.size) (hl : l.length + (textB nm).length + (ks.flatMap (treeB d)).length + 1 ≤ 1000000000000) :
    Calls Try.prog 40 #[b, .agg #[.int .i64 2, .int .i64 n, .string (ba nm), .slice a ks.length c]] w fun e w' => ∃ b', e = .returned b' ∧ V.Owns w' base b' (l ++ byte 2 :: ((textB nm) ++ ks.flatMap (treeB d))) ∧ V.Kp base w w' := by
  have HT : Hid (Tre w (fun g => g < base) (.agg #[.int .i64 2, .int .i64 n, .string (ba nm), .slice a ks.length c]) ⟨2, n, nm, ks⟩) := hT
  obtain ⟨_, _, e0, hcap, _, _, hnm, hlen, _⟩ := hT.opened
  simp only [Value.agg.injEq, Array.mk.injEq, List.cons.injEq, and_true, Value.slice.injEq, true_and] at e0
  have hcap2 : ks.length ≤ c := by rw [e0.2]; exact hcap
  simp only at hlen hnm
  have HO : Hid (V.Owns w base b l) := hO
  have HB : Hid (V.B (byte 2) = (2 : Int)) := (B_byte (m := 2) (by omega)).symm
  have HL1 : Hid (l.length + [byte 2].length ≤ 140737488355328) := by show _ ≤ _; simp; omega
  obtain ⟨C, F, hcv, hF⟩ := conv_name nm (by omega)
  have HF : Hid (∀ w1 v1, V.Owns w1 base v1 (l ++ [byte 2]) → base ≤ w1.heap.size → Calls Try.prog 43 #[v1, .slice (some ⟨w1.heap.size, 0, none⟩) nm.length (C w1)] (F w1) fun e w' => ∃ v', e = .returned v' ∧ V.Owns w' base v' (l ++ byte 2 :: (textB nm ++ (ks.take 0).flatMap (treeB d))) ∧ V.Kp base w1 w') := fun w1 v1 ho hbb => by
    have hf := hF w1
    refine (V.bytes_k base v1 _ _ (nb nm) (F w1) (ho.below hf.2) hf.1 (Nat.le_trans hbb hf.2.size) (by simp; omega) (by rw [nb_len]; omega)).mono ?_
    rintro e w' ⟨v', rfl, h1, h2⟩
    exact ⟨v', rfl, by rw [nb_len] at h1; simpa [textB] using h1, (V.Kp.of_below hf.2).trans h2⟩
  clear hF
  have HK : Hid (∀ i (h : i < ks.length) wr, V.Kp base w wr → ∃ b o ka kc, KidAt wr (fun g => g < base) a i ks[i] b o ka kc) := fun i h wr hk => by
    obtain ⟨a', cap, e, _, _, _, _, _, hkk⟩ := (HT.out.kp hb hk).opened
    simp only [Value.agg.injEq, Array.mk.injEq, List.cons.injEq, and_true, Value.slice.injEq, true_and] at e
    obtain ⟨b, o, ka, kc, q⟩ := hkk i h
    rw [← e.1, getD_T h] at q
    exact ⟨b, o, ka, kc, q⟩
  have HP : Hid (∀ i (h : i < ks.length) wr v, V.Kp base w wr → V.Owns wr base v (l ++ byte 2 :: ((textB nm) ++ (ks.take i).flatMap (treeB d))) → ∀ u, Tre wr (fun g => g < base) u ks[i] → Calls Try.prog 40 #[v, u] wr fun e w' => ∃ b', e = .returned b' ∧ V.Owns w' base b' (l ++ byte 2 :: ((textB nm) ++ (ks.take (i + 1)).flatMap (treeB d))) ∧ V.Kp base w w') := fun i h wr v hk ho u hu => by
    have q := ih base ks[i] u v _ wr (hck _ (List.getElem_mem h)) hu ho (Nat.le_trans hb hk.size) (by have := flat_both (treeB d) ks i h; simp only [List.length_append, List.length_cons]; omega)
    refine q.mono ?_
    rintro e w' ⟨b', rfl, h1, h2⟩
    refine ⟨b', rfl, ?_, hk.trans h2⟩
    rw [flat_step h]
    simpa [List.append_assoc] using h1
  have HE : Hid (∀ x, V.Owns x base = V.Owns x base) := fun _ => rfl
  clear hT hO hck ih e0 hcap hl hnm
  generalize ba nm = s at *
  generalize nm.length = nl at *
  go_enter Try.func40, Try.ntmps40
  go_wp2_with (first
    | (go_at_call 43; have := O1; refine (HF.out _ _ O1.out.1 (Nat.le_trans hb O1.out.2.1.size)).mono ?_; rintro e w2 ⟨v2, rfl, h1, h2⟩; have O2 : Hid (V.Owns w2 base v2 (l ++ byte 2 :: (textB nm ++ (ks.take 0).flatMap (treeB d))) ∧ V.Kp base w w2) := ⟨h1, O1.out.2.1.trans h2⟩; obtain ⟨q0, q1, q2, q3, q4⟩ := (O1.out.2.2.kp h2).c; clear h1 h2 O1)
    | (at_builtin; refine V.wpList_append_kp rfl (.tmp 7) (.tmp 11) 32 rfl base Try.underlying32 V.Try.info5 _ l rfl ((HO.out.alloc _).alloc _) _ [byte 2] rfl (reads_oneq _ _ _ _ _ HB.out.symm (size_alloc _ _).symm) HL1.out (V.base_le (V.base_le hb _) _) ?_; intro v1 w1 hown1 hg1; have O1 : Hid (V.Owns w1 base v1 (l ++ [byte 2]) ∧ V.Kp base w w1 ∧ C4N w1 w.heap.size (.int .i64 2) (.int .i64 n) (.string s) (.slice a ks.length c)) := ⟨hown1, hg1.new.new, (C4N.new w _ _ _ _ 31 (by decide)).kp hg1.new⟩; obtain ⟨q0, q1, q2, q3, q4⟩ := O1.out.2.2.c; clear hown1 hg1))
  clear q0 q1 q2 q3 q4
  go_loopw [0, 31] (fun v i wr => ∃ (j : Nat), j ≤ ks.length ∧ i = .int .i64 j ∧ Hid (V.Owns wr base v (l ++ byte 2 :: (textB nm ++ (ks.take j).flatMap (treeB d))) ∧ V.Kp base w wr)) (fun _ i _ => ks.length - (intOf i).toNat)
  case atStart => exact ⟨0, Nat.zero_le _, rfl, O2.out⟩
  case round =>
    obtain ⟨j, hj, rfl, HR⟩ := hrel
    by_cases hlt : j < ks.length
    · obtain ⟨kb, ko, ka, kc, hKA⟩ := HK.out j hlt wr HR.out.2
      obtain ⟨rfl, k0, k1, k2, k3, ht⟩ := hKA
      have HKT : Hid (Tre wr (fun g => g < base) (.agg #[.int .i64 ks[j].kind, .int .i64 ks[j].n, .string (ba ks[j].name), .slice ka ks[j].kids.length kc]) ks[j]) := ht
      have hbl : kb < wr.heap.size := World.block_lt_of_cell? wr _ k0
      have HC : Hid (∀ o, Calls Try.prog 40 #[u0, .agg #[.int .i64 ks[j].kind, .int .i64 ks[j].n, .string (ba ks[j].name), .slice ka ks[j].kids.length kc]] (wr.alloc o) fun e w' => ∃ b', e = .returned b' ∧ V.Owns w' base b' (l ++ byte 2 :: (textB nm ++ (ks.take (j + 1)).flatMap (treeB d))) ∧ V.Kp base w w') := fun o => HP.out j hlt _ _ (HR.out.2.alloc o) (HR.out.1.alloc o) _ (HKT.out.alloc o)
      clear ht HKT
      generalize ks[j].kind = yk at *
      generalize ks[j].n = yn at *
      generalize ba ks[j].name = ys at *
      generalize ks[j].kids.length = yl at *
      go_wp2_with (go_at_call 40; refine (HC.out _).mono ?_; rintro e w3 ⟨b3, rfl, h1, h2⟩; have HB3 : Hid (V.Owns w3 base b3 (l ++ byte 2 :: (textB nm ++ (ks.take (j + 1)).flatMap (treeB d))) ∧ V.Kp base w w3) := ⟨h1, h2⟩; clear h1 h2)
      go_roundw
      case rel => exact ⟨j + 1, by omega, by go_num, HB3⟩
      case measure => simp [intOf]; omega
    · have he : j = ks.length := by omega
      subst he
      have HR2 : Hid (V.Owns wr base u0 (l ++ byte 2 :: (textB nm ++ ks.flatMap (treeB d))) ∧ V.Kp base w wr) := by have := HR.out; rw [List.take_length] at this; exact this
      clear HR
      go_wp2
      go_ret
      exact ⟨_, rfl, HR2.out⟩
set_option maxRecDepth 100000 in
set_option maxHeartbeats 1000000 in
theorem put_other (d : Nat) (ih : Puts d) (base m : Nat) (n : Int) (nm : Bs) (ks : List Tr) (a : Option Addr) (c : Nat) (b : Value) (l : BB) (w : World) (hm3 : 3 ≤ m) (hm14 : m ≤ 14) (hT : Tre w (fun g => g < base) (.agg #[.int .i64 m, .int .i64 n, .string (ba nm), .slice a ks.length c]) ⟨m, n, nm, ks⟩)
    (hck : ∀ x ∈ ks, checkM d x = 0) (hO : V.Owns w base b l) (hb : base ≤ w.heap.size) (hl : l.length + ([] : BB).length + (ks.flatMap (treeB d)).length + 1 ≤ 1000000000000) :
    Calls Try.prog 40 #[b, .agg #[.int .i64 m, .int .i64 n, .string (ba nm), .slice a ks.length c]] w fun e w' => ∃ b', e = .returned b' ∧ V.Owns w' base b' (l ++ byte m :: (([] : BB) ++ ks.flatMap (treeB d))) ∧ V.Kp base w w' := by
  have HT : Hid (Tre w (fun g => g < base) (.agg #[.int .i64 m, .int .i64 n, .string (ba nm), .slice a ks.length c]) ⟨m, n, nm, ks⟩) := hT
  obtain ⟨_, _, e0, hcap, _, _, hnm, hlen, _⟩ := hT.opened
  simp only [Value.agg.injEq, Array.mk.injEq, List.cons.injEq, and_true, Value.slice.injEq, true_and] at e0
  have hcap2 : ks.length ≤ c := by rw [e0.2]; exact hcap
  simp only at hlen hnm
  have HO : Hid (V.Owns w base b l) := hO
  have HB : Hid (V.B (byte m) = (m : Int)) := (B_byte (by omega)).symm
  have HL1 : Hid (l.length + [byte m].length ≤ 140737488355328) := by show _ ≤ _; simp; omega

  have HK : Hid (∀ i (h : i < ks.length) wr, V.Kp base w wr → ∃ b o ka kc, KidAt wr (fun g => g < base) a i ks[i] b o ka kc) := fun i h wr hk => by
    obtain ⟨a', cap, e, _, _, _, _, _, hkk⟩ := (HT.out.kp hb hk).opened
    simp only [Value.agg.injEq, Array.mk.injEq, List.cons.injEq, and_true, Value.slice.injEq, true_and] at e
    obtain ⟨b, o, ka, kc, q⟩ := hkk i h
    rw [← e.1, getD_T h] at q
    exact ⟨b, o, ka, kc, q⟩
  have HP : Hid (∀ i (h : i < ks.length) wr v, V.Kp base w wr → V.Owns wr base v (l ++ byte m :: (([] : BB) ++ (ks.take i).flatMap (treeB d))) → ∀ u, Tre wr (fun g => g < base) u ks[i] → Calls Try.prog 40 #[v, u] wr fun e w' => ∃ b', e = .returned b' ∧ V.Owns w' base b' (l ++ byte m :: (([] : BB) ++ (ks.take (i + 1)).flatMap (treeB d))) ∧ V.Kp base w w') := fun i h wr v hk ho u hu => by
    have q := ih base ks[i] u v _ wr (hck _ (List.getElem_mem h)) hu ho (Nat.le_trans hb hk.size) (by have := flat_both (treeB d) ks i h; simp only [List.length_append, List.length_cons]; omega)
    refine q.mono ?_
    rintro e w' ⟨b', rfl, h1, h2⟩
    refine ⟨b', rfl, ?_, hk.trans h2⟩
    rw [flat_step h]
    simpa [List.append_assoc] using h1
  have HE : Hid (∀ x, V.Owns x base = V.Owns x base) := fun _ => rfl
  clear hT hO hck ih e0 hcap hl hnm
  generalize ba nm = s at *
  go_enter Try.func40, Try.ntmps40
  go_wp2_with (first

    | (at_builtin; refine V.wpList_append_kp rfl (.tmp 7) (.tmp 11) 32 rfl base Try.underlying32 V.Try.info5 _ l rfl ((HO.out.alloc _).alloc _) _ [byte m] rfl (reads_oneq _ _ _ _ _ HB.out.symm (size_alloc _ _).symm) HL1.out (V.base_le (V.base_le hb _) _) ?_; intro v1 w1 hown1 hg1; have O1 : Hid (V.Owns w1 base v1 (l ++ [byte m]) ∧ V.Kp base w w1 ∧ C4N w1 w.heap.size (.int .i64 m) (.int .i64 n) (.string s) (.slice a ks.length c)) := ⟨hown1, hg1.new.new, (C4N.new w _ _ _ _ 31 (by decide)).kp hg1.new⟩; obtain ⟨q0, q1, q2, q3, q4⟩ := O1.out.2.2.c; clear hown1 hg1))
  clear q0 q1 q2 q3 q4
  go_loopw [0, 31] (fun v i wr => ∃ (j : Nat), j ≤ ks.length ∧ i = .int .i64 j ∧ Hid (V.Owns wr base v (l ++ byte m :: (([] : BB) ++ (ks.take j).flatMap (treeB d))) ∧ V.Kp base w wr)) (fun _ i _ => ks.length - (intOf i).toNat)
  case atStart => exact ⟨0, Nat.zero_le _, rfl, by simpa using O1.out.1, O1.out.2.1⟩
  case round =>
    obtain ⟨j, hj, rfl, HR⟩ := hrel
    by_cases hlt : j < ks.length
    · obtain ⟨kb, ko, ka, kc, hKA⟩ := HK.out j hlt wr HR.out.2
      obtain ⟨rfl, k0, k1, k2, k3, ht⟩ := hKA
      have HKT : Hid (Tre wr (fun g => g < base) (.agg #[.int .i64 ks[j].kind, .int .i64 ks[j].n, .string (ba ks[j].name), .slice ka ks[j].kids.length kc]) ks[j]) := ht
      have hbl : kb < wr.heap.size := World.block_lt_of_cell? wr _ k0
      have HC : Hid (∀ o, Calls Try.prog 40 #[u0, .agg #[.int .i64 ks[j].kind, .int .i64 ks[j].n, .string (ba ks[j].name), .slice ka ks[j].kids.length kc]] (wr.alloc o) fun e w' => ∃ b', e = .returned b' ∧ V.Owns w' base b' (l ++ byte m :: (([] : BB) ++ (ks.take (j + 1)).flatMap (treeB d))) ∧ V.Kp base w w') := fun o => HP.out j hlt _ _ (HR.out.2.alloc o) (HR.out.1.alloc o) _ (HKT.out.alloc o)
      clear ht HKT
      generalize ks[j].kind = yk at *
      generalize ks[j].n = yn at *
      generalize ba ks[j].name = ys at *
      generalize ks[j].kids.length = yl at *
      go_wp2_with (go_at_call 40; refine (HC.out _).mono ?_; rintro e w3 ⟨b3, rfl, h1, h2⟩; have HB3 : Hid (V.Owns w3 base b3 (l ++ byte m :: (([] : BB) ++ (ks.take (j + 1)).flatMap (treeB d))) ∧ V.Kp base w w3) := ⟨h1, h2⟩; clear h1 h2)
      go_roundw
      case rel => exact ⟨j + 1, by omega, by go_num, HB3⟩
      case measure => simp [intOf]; omega
    · have he : j = ks.length := by omega
      subst he
      have HR2 : Hid (V.Owns wr base u0 (l ++ byte m :: (([] : BB) ++ ks.flatMap (treeB d))) ∧ V.Kp base w wr) := by have := HR.out; rw [List.take_length] at this; exact this
      clear HR
      go_wp2
      go_ret
      exact ⟨_, rfl, HR2.out⟩
end Go.Proofs.Ytjafjheffbbkmaa
